/- Texts of one kind, put together. -/
import Derived.Test.YtliklijcdcfomaaGreatRzB
import Derived.Test.YtliklijcdcfomaaGreatAzD
import Derived.Test.YtliklijcdcfomaaGreatAzC

/- One frame, of the specification. -/
namespace Go.Proofs.YtliklijcdcfomaaGreat
open Go.RowKit Plain
set_option linter.unusedVariables false

theorem word_calls2 (r : ByteArray) (w : World) (h : r.size = 4) :
    Calls Tryz.prog 116 #[.string r] w fun e w' => e = .returned (.int .u32 (wdI r)) ∧ ∃ k, w' = w.drewN k := by
  have e0 := bAt_get r 0 (by omega)
  have e1 := bAt_get r 1 (by omega)
  have e2 := bAt_get r 2 (by omega)
  have e3 := bAt_get r 3 (by omega)
  have l0 := bAt_lt r 0
  have l1 := bAt_lt r 1
  have l2 := bAt_lt r 2
  have l3 := bAt_lt r 3
  have hw : wdI r = hiI (bAt r 3) (bAt r 2) (bAt r 1) (bAt r 0) := rfl
  rw [← low_hi] at hw
  have HW := hide hw
  clear hw
  generalize bAt r 0 = c0 at *
  generalize bAt r 1 = c1 at *
  generalize bAt r 2 = c2 at *
  generalize bAt r 3 = c3 at *
  have s0 : (0 : Int) < (r.size : Int) := by omega
  have s1 : (1 : Int) < (r.size : Int) := by omega
  have s2 : (2 : Int) < (r.size : Int) := by omega
  have s3 : (3 : Int) < (r.size : Int) := by omega
  go_enter Tryz.func116, Tryz.ntmps116
  go_wp2_with fail
  go_quiet (fail)
  go_wp2_with fail
  go_ret
  exact ⟨by rw [unhide HW]; rfl, _, rfl⟩

theorem word_quiet2 (r : ByteArray) (w : World) (q n : Nat) (h : r.size = 4) :
    Calls Tryz.prog 116 #[.string r] (w.drewN (q + n)) fun e w' => e = .returned (.int .u32 (wdI r)) ∧ ∃ m, w' = w.drewN (q + m) :=
  (word_calls2 r _ h).mono fun _ _ ⟨he, m, hm⟩ => ⟨he, n + m, by rw [hm, World.drewN_drewN, Nat.add_assoc]⟩

theorem specCrc_quiet2 (s : ByteArray) (w : World) (q n : Nat) (hs : s.size ≤ 1000000000000) :
    Calls Tryz.prog 100 #[.string s] (w.drewN (q + n)) fun e w' => e = .returned (.int .u32 (crcI s)) ∧ ∃ m, w' = w.drewN (q + m) :=
  (spec_Crc s _ hs).mono fun _ _ ⟨he, hm⟩ => ⟨he, n, hm.symm⟩

def spV (r : ByteArray) : Value := if frC r = 0 then .tuple #[.agg #[.int .i64 (bAt r 0 : Nat), .string (frB r)], .int .i64 (frN r : Nat), .int .i64 0] else .tuple #[.agg #[.int .i64 0, .string ⟨#[]⟩], .int .i64 0, .int .i64 (frC r)]
theorem spV_bad {r : ByteArray} {c : Int} (h : frC r = c) (hc : c ≠ 0) : spV r = .tuple #[.agg #[.int .i64 0, .string ⟨#[]⟩], .int .i64 0, .int .i64 c] := by unfold spV; rw [h, if_neg hc]
theorem frC_sz {r : ByteArray} {c : Int} {n : Nat} (h : szI r = (c, n)) (hc : c ≠ 0) : frC r = c := by unfold frC; rw [h, if_pos hc]

set_option maxRecDepth 10000 in
set_option maxHeartbeats 2000000 in
theorem l2Frame_calls (r : ByteArray) (w : World) (h : 1 ≤ r.size) (hs : r.size ≤ 1000000000) :
    Calls Tryz.prog 97 #[.string r] w fun e w' => e = .returned (spV r) ∧ Below w.heap.size w w' := by
  have e0 := bAt_get r 0 (by omega)
  have l0 := bAt_lt r 0
  have s0 : (0 : Int) < (r.size : Int) := by omega
  by_cases h1 : bAt r 0 < 1 ∨ 100 < bAt r 0
  · have hv := hide (spV_bad (frC_sz (show szI r = (2, 0) by unfold szI; rw [if_pos h1]) (by decide)) (by decide))
    have hin : (decide (1 ≤ (bAt r 0 : Int)) && decide ((bAt r 0 : Int) ≤ 100)) = false := by simp; omega
    generalize bAt r 0 = c0 at *
    go_enter Tryz.func97, Tryz.ntmps97
    go_wp2_with fail
    refine (l1In_calls _ _ _ _).mono ?_
    rintro e w1 ⟨rfl, rfl⟩
    rw [hin]
    go_wp2_with fail
    refine bodyPost_ret (v := .tuple #[.agg #[.int .i64 0, .string ⟨#[]⟩], .int .i64 0, .int .i64 2]) ?_ rfl ⟨by rw [unhide hv], ?_⟩
    · simp [results, Tryz.results97, go_sem]
    · exact ((Below.refl _ _).alloc (Nat.le_refl _) _).alloc (by simp) _
  · have k1 : 1 ≤ bAt r 0 := by omega
    have k2 : bAt r 0 ≤ 100 := by omega
    have hin : (decide (1 ≤ (bAt r 0 : Int)) && decide ((bAt r 0 : Int) ≤ 100)) = true := by simp; omega
    by_cases h3 : r.size < 5
    · have hv := hide (spV_bad (frC_sz (show szI r = (1, 0) by unfold szI; rw [if_neg h1, if_pos h3]) (by decide)) (by decide))
      generalize bAt r 0 = c0 at *
      go_enter Tryz.func97, Tryz.ntmps97
      go_wp2_with fail
      refine (l1In_calls _ _ _ _).mono ?_
      rintro e w1 ⟨rfl, rfl⟩
      rw [hin]
      go_wp2_with fail
      refine bodyPost_ret (v := .tuple #[.agg #[.int .i64 0, .string ⟨#[]⟩], .int .i64 0, .int .i64 1]) ?_ rfl ⟨by rw [unhide hv], ?_⟩
      · simp [results, Tryz.results97, go_sem]
      · exact ((Below.refl _ _).alloc (Nat.le_refl _) _).alloc (by simp) _
    · have hx : (r.extract 1 5).size = 4 := by simp; omega
      have hwd := wdI_word (r.extract 1 5)
      obtain ⟨N, hN⟩ := Int.eq_ofNat_of_zero_le hwd.1
      have hsz : szI r = if 20000 < wdI (r.extract 1 5) then (3, 0) else if r.size < 9 + (wdI (r.extract 1 5)).toNat then (1, 0) else (0, 9 + (wdI (r.extract 1 5)).toNat) := by unfold szI; rw [if_neg h1, if_neg h3]
      rw [hN, Int.toNat_natCast] at hsz
      rw [hN] at hwd
      have HN := hide hN
      have HSZ := hide hsz
      clear hN hsz
      have HC := hide (show (bAt r 0 : Int) = (bAt r 0 : Int) from rfl)
      obtain ⟨c0, hc0⟩ : ∃ c0, bAt r 0 = c0 := ⟨_, rfl⟩
      have HC0 := hide hc0
      rw [hc0] at e0 l0 k1 k2 hin
      clear hc0 h1 HC
      obtain ⟨wb, hwb⟩ : ∃ wb, (w.alloc (.cells #[.int .i64 0, .string ⟨#[]⟩] 103)).alloc (.cells #[.int .i64 0, .string ⟨#[]⟩] 103) = wb := ⟨_, rfl⟩
      have hbb : Below w.heap.size w wb := by rw [← hwb]; exact ((Below.refl _ _).alloc (Nat.le_refl _) _).alloc (by simp) _
      have hr2 : wb.heap[w.heap.size]? = some (.cells #[.int .i64 0, .string ⟨#[]⟩] 103 (0, 0)) := by rw [← hwb]; exact (h_old _ _ (by simp)).trans (h_new w _ rfl)
      have hr3 : wb.heap[w.heap.size + 1]? = some (.cells #[.int .i64 0, .string ⟨#[]⟩] 103 (0, 0)) := by rw [← hwb]; exact h_new _ _ (by simp)
      have g0 : wb.cell? ⟨w.heap.size, 0, none⟩ = some (.int .i64 0) := cell_of_row wb _ 0 _ _ _ hr2
      have g1 : wb.cell? ⟨w.heap.size, 1, none⟩ = some (.string ⟨#[]⟩) := cell_of_row wb _ 1 _ _ _ hr2
      have z0 : wb.frozen? ⟨w.heap.size, 0, none⟩ = false := frozen_of_row wb _ 0 _ _ hr2
      have z1 : wb.frozen? ⟨w.heap.size, 1, none⟩ = false := frozen_of_row wb _ 1 _ _ hr2
      have g2 : wb.cell? ⟨w.heap.size + 1, 0, none⟩ = some (.int .i64 0) := cell_of_row wb _ 0 _ _ _ hr3
      have g3 : wb.cell? ⟨w.heap.size + 1, 1, none⟩ = some (.string ⟨#[]⟩) := cell_of_row wb _ 1 _ _ _ hr3
      have HWB := hide hwb
      have HBB := hide hbb
      clear hwb hbb hr2 hr3
      go_enter Tryz.func97, Tryz.ntmps97
      go_wp2_with fail
      refine (l1In_calls _ _ _ _).mono ?_
      rintro e w1 ⟨rfl, rfl⟩
      rw [hin]
      go_wp2_with fail
      rw [unhide HWB]
      refine (word_calls2 _ _ hx).mono ?_
      rintro e w2 ⟨rfl, kk, rfl⟩
      rw [unhide HN]
      by_cases h4 : 20000 < N
      · have hsz := unhide HSZ
        rw [if_pos (by omega)] at hsz
        have hv := hide (spV_bad (frC_sz hsz (by decide)) (by decide))
        clear hsz HSZ HN
        go_wp2_with fail
        refine bodyPost_ret (v := .tuple #[.agg #[.int .i64 0, .string ⟨#[]⟩], .int .i64 0, .int .i64 3]) ?_ rfl ⟨by rw [unhide hv], ((below_drewN (unhide HBB) _).setCell (Nat.le_refl _) _).setCell (Nat.le_refl _) _⟩
        simp [results, Tryz.results97, go_sem, g0, g1]
      · have hsz := unhide HSZ
        rw [if_neg (by omega)] at hsz
        by_cases h5 : r.size < 9 + N
        · rw [if_pos h5] at hsz
          have hv := hide (spV_bad (frC_sz hsz (by decide)) (by decide))
          clear hsz HSZ HN
          go_wp2_with fail
          refine bodyPost_ret (v := .tuple #[.agg #[.int .i64 0, .string ⟨#[]⟩], .int .i64 0, .int .i64 1]) ?_ rfl ⟨by rw [unhide hv], ((below_drewN (unhide HBB) _).setCell (Nat.le_refl _) _).setCell (Nat.le_refl _) _⟩
          simp [results, Tryz.results97, go_sem, g0, g1]
        · rw [if_neg h5] at hsz
          obtain ⟨m, hm⟩ : ∃ m, N + 5 = m := ⟨_, rfl⟩
          have hm9 : 9 + N = m + 4 := by omega
          rw [hm9] at hsz h5
          have hmi : 9 + (N : Int) = (m : Int) + 4 := by omega
          have hfc : frC r = if crcI (r.extract 0 m) = wdI (r.extract m (m + 4)) then 0 else 4 := by unfold frC; rw [hsz, if_neg (by simp)]; simp
          have hfn : frN r = m + 4 := by unfold frN; rw [hsz]
          have hfb : frB r = r.extract 5 m := by unfold frB; rw [hfn, Nat.add_sub_cancel]
          have f2 : (r.extract 0 m).size = m := by simp; omega
          have f4 : (r.extract m (m + 4)).size = 4 := by simp; omega
          have i0 : (m : Int) + 4 ≤ (r.size : Int) := by omega
          have i1 : (5 : Int) ≤ (m : Int) := by omega
          have hm6 : m ≤ 20005 := by omega
          clear hsz HSZ HN hm9 hm
          obtain ⟨tl, htl⟩ : ∃ tl, r.extract m (m + 4) = tl := ⟨_, rfl⟩
          obtain ⟨bd, hbd⟩ : ∃ bd, r.extract 5 m = bd := ⟨_, rfl⟩
          obtain ⟨sl, hsl⟩ : ∃ sl, r.extract 0 m = sl := ⟨_, rfl⟩
          rw [hsl] at f2 hfc
          rw [htl] at f4 hfc
          rw [hbd] at hfb
          have HFB := hide hfb
          have HFC := hide hfc
          have HFN := hide hfn
          have hsl9 : sl.size ≤ 1000000000000 := by omega
          clear hfb hfc hfn
          go_wp2_with fail
          go_quiet ((first | (go_at_call 116; exact word_quiet2 _ _ _ _ f4) | (go_at_call 100; exact specCrc_quiet2 _ _ _ _ hsl9)))
          generalize crcI sl = x at HFC
          generalize wdI tl = y at HFC
          by_cases hxy : x = y
          · have hfc0 := unhide HFC
            rw [if_pos hxy] at hfc0
            have hfv : spV r = .tuple #[.agg #[.int .i64 (c0 : Int), .string bd], .int .i64 ((m + 4 : Nat) : Int), .int .i64 0] := by unfold spV; rw [if_pos hfc0, unhide HC0, unhide HFB, unhide HFN]
            have hv := hide hfv
            subst hxy
            clear hfc0 hfv HFC HFB HFN
            go_wp2_with fail
            go_region
            all_goals (try go_wp2_with fail)
            refine bodyPost_ret (v := .tuple #[.agg #[.int .i64 (c0 : Int), .string bd], .int .i64 ((m : Int) + 4), .int .i64 0]) ?_ rfl ⟨by rw [unhide hv]; rfl, ((below_drewN (unhide HBB) _).setCell (Nat.le_refl _) _).setCell (Nat.le_refl _) _⟩
            simp [results, Tryz.results97, go_sem, g0, g1]
          · have hfc4 := unhide HFC
            rw [if_neg hxy] at hfc4
            have hv := hide (spV_bad hfc4 (by decide))
            clear hfc4 HFC
            go_wp2_with fail
            refine bodyPost_ret (v := .tuple #[.agg #[.int .i64 0, .string ⟨#[]⟩], .int .i64 0, .int .i64 4]) ?_ rfl ⟨by rw [unhide hv], ((below_drewN (unhide HBB) _).setCell (Nat.le_refl _) _).setCell (Nat.le_refl _) _⟩
            simp [results, Tryz.results97, go_sem, g0, g1]
end Go.Proofs.YtliklijcdcfomaaGreat


/- ReadFrames of the specification. -/
namespace Go.Proofs.YtliklijcdcfomaaGreat
open Go.RowKit Plain
set_option linter.unusedVariables false

set_option maxRecDepth 10000 in
set_option maxHeartbeats 2000000 in
theorem specRead_calls (s : ByteArray) (w : World) (hs : s.size ≤ 1000000000) :
    Calls Tryz.prog 63 #[.string s] w fun e w' => ∃ v, e = .returned (.tuple #[v, .int .i64 ((readF s).2.1 : Nat), .int .i64 (readF s).2.2]) ∧ OwnF w' w.heap.size v (readF s).1 ∧ Below w.heap.size w w' := by
  go_enter Tryz.func63, Tryz.ntmps63
  go_wp2_with fail
  go_loopw [5, 6, 7, 8, 9] (fun v i _ _ _ wr => ∃ (F : List (Int × ByteArray)) (p : Nat), i = .int .i64 p ∧ Hid (Mid s F p) ∧ Hid (OwnF wr w.heap.size v F) ∧ Hid (Below w.heap.size w wr)) (fun _ i _ _ _ _ => s.size - (intOf i).toNat)
  case atStart => exact ⟨[], 0, rfl, Mid.start s, ownF_empty w _ (Nat.le_refl _), (Below.refl _ _).alloc (Nat.le_refl _) _⟩
  case round =>
    obtain ⟨F, p, rfl, HM, HO, HB⟩ := hrel
    obtain ⟨hm1, hm2, -⟩ := unhide HM
    obtain ⟨fa, fc, rfl⟩ := ownF_form (unhide HO)
    have hzr := (unhide HB).size
    by_cases hp : s.size ≤ p
    · have HE := hide ((unhide HM).ends hp)
      go_wp2_with fail
      go_ret3
      exact ⟨_, by rw [unhide HE]; rfl, by rw [unhide HE]; exact unhide HO, unhide HB⟩
    · by_cases hF : F.length = 2000
      · have HE := hide ((unhide HM).many hp hF)
        go_wp2_with fail
        go_ret3
        exact ⟨_, by rw [unhide HE]; rfl, by rw [unhide HE]; exact unhide HO, unhide HB⟩
      · have hF2 : F.length < 2000 := by omega
        have hnx := (unhide HM).next hp hF
        have hcd := (unhide HM).code hp hF
        have hrs := rest_size s p
        obtain ⟨r, hr⟩ : ∃ r, s.extract p s.size = r := ⟨_, rfl⟩
        rw [hr] at hnx hcd hrs
        have HNX := hide hnx
        have HCD := hide hcd
        clear hnx hcd
        go_wp2_with fail
        refine (l2Frame_calls r _ (by omega) (by omega)).mono ?_
        rintro e w4 ⟨rfl, hb4⟩
        have hz4 := hb4.size
        have HO4 := hide (ownF_below (unhide HO) hb4)
        have HB4 := hide ((unhide HB).trans (hb4.mono hzr))
        have hz5 := (unhide HB4).size
        clear hb4 HO HB
        by_cases hc : frC r = 0
        · have hfv : spV r = .tuple #[.agg #[.int .i64 (bAt r 0 : Nat), .string (frB r)], .int .i64 (frN r : Nat), .int .i64 0] := by unfold spV; rw [if_pos hc]
          have HN := hide (unhide HNX hc)
          obtain ⟨hpos, hpz, hpm, -, -⟩ := szI_ok (frC_ok hc)
          have hfn : frN r = (szI r).2 := rfl
          rw [← hfn] at hpos hpz hpm
          rw [hfv]
          have hfm : frm r = ((bAt r 0 : Int), frB r) := rfl
          rw [hfm] at HN
          clear hfv HNX HCD hc hfm hfn
          generalize (bAt r 0 : Int) = kd at HN
          generalize frB r = bd at HN
          generalize frN r = nn at HN hpos hpz hpm
          have hX : Below w4.heap.size w4 (w4.alloc (.cells #[.int .i64 kd, .string bd] 103)) := (Below.refl _ _).alloc (Nat.le_refl _) _
          have HOX := hide (ownF_below (unhide HO4) hX)
          have hzX := hX.size
          clear hX
          have j1 : (p : Int) + (nn : Int) ≤ 1000000000 := by omega
          go_wp2_with (at_builtin; go_must (refine appF rfl _ _ rfl (unhide HOX) rfl _ rfl (by simp) (by omega) (Nat.le_trans hz5 hzX) ?_); intro v' w6 hown6 hb6)
          go_roundw
          case rel =>
            have hball : Below w.heap.size w4 w6 := ((Below.refl w.heap.size w4).alloc hz5 _).trans hb6
            exact ⟨F ++ [(kd, bd)], p + nn, by go_num, HN, hide hown6, hide ((unhide HB4).trans hball)⟩
          case measure => simp [intOf]; omega
        · have hfv := spV_bad (r := r) rfl hc
          have HN := hide (unhide HCD hc)
          rw [hfv]
          clear hfv HNX HCD
          generalize frC r = cd at HN hc
          have hX : Below w4.heap.size w4 (w4.alloc (.cells #[.int .i64 0, .string ⟨#[]⟩] 103)) := (Below.refl _ _).alloc (Nat.le_refl _) _
          have HX := hide hX
          have HOX := hide (ownF_below (unhide HO4) hX)
          clear hX
          go_wp2_with fail
          go_ret3
          exact ⟨_, by rw [unhide HN]; rfl, by rw [unhide HN]; exact unhide HOX, (unhide HB4).trans ((unhide HX).mono hz5)⟩
end Go.Proofs.YtliklijcdcfomaaGreat

