/- Texts of one kind, put together. -/
import Derived.Test.YtliklijcdcfomaaGreatRzA
import Derived.Test.YtliklijcdcfomaaGreatCzA
import Derived.Deep.QuietTactic
import Derived.BigQuiet
import Derived.Test.YtliklijcdcfomaaGreatEzA
import Derived.Test.YtliklijcdcfomaaGreatRdE

/- The number in four bytes, and how bytes begin, of the program. -/
namespace Go.Proofs.YtliklijcdcfomaaGreat
open Go.RowKit Plain
set_option linter.unusedVariables false

theorem highFirst_any (a b c d : Int) (w : World) (n : Nat) (ha : 0 ≤ a ∧ a < 256) (hb : 0 ≤ b ∧ b < 256) (hc : 0 ≤ c ∧ c < 256) (hd : 0 ≤ d ∧ d < 256) :
    Calls Tryz.prog 146 #[.int .u8 a, .int .u8 b, .int .u8 c, .int .u8 d] (w.drewN n) fun r w' => r = .returned (.int .u32 (hiI a b c d)) ∧ ∃ m, w' = w.drewN m := by
  obtain ⟨a0, a1⟩ := ha
  obtain ⟨b0, b1⟩ := hb
  obtain ⟨c0, c1⟩ := hc
  obtain ⟨d0, d1⟩ := hd
  go_enter Tryz.func146, Tryz.ntmps146
  go_wp2
  go_ret
  exact ⟨rfl, n, rfl⟩

theorem low_calls (r : ByteArray) (w : World) (h : r.size = 4) :
    Calls Tryz.prog 133 #[.string r] w fun e w' => e = .returned (.int .u32 (wdI r)) ∧ ∃ k, w' = w.drewN k := by
  have e0 := bAt_get r 0 (by omega)
  have e1 := bAt_get r 1 (by omega)
  have e2 := bAt_get r 2 (by omega)
  have e3 := bAt_get r 3 (by omega)
  have l0 := bAt_lt r 0
  have l1 := bAt_lt r 1
  have l2 := bAt_lt r 2
  have l3 := bAt_lt r 3
  have hw : wdI r = hiI (bAt r 3) (bAt r 2) (bAt r 1) (bAt r 0) := rfl
  have HW := hide hw
  clear hw
  generalize bAt r 0 = c0 at *
  generalize bAt r 1 = c1 at *
  generalize bAt r 2 = c2 at *
  generalize bAt r 3 = c3 at *
  have s0 : (0 : Int) < (r.size : Int) := by omega
  have s1 : (1 : Int) < (r.size : Int) := by omega
  have s2 : (2 : Int) < (r.size : Int) := by omega
  have s3 : (3 : Int) < (r.size : Int) := by omega
  go_enter Tryz.func133, Tryz.ntmps133
  go_wp2_with fail
  go_quiet ((go_at_call 146; exact highFirst_any _ _ _ _ _ _ (by omega) (by omega) (by omega) (by omega)))
  go_wp2_with fail
  go_ret
  exact ⟨by rw [unhide HW]; rfl, _, rfl⟩

def szV (r : ByteArray) : Value := .tuple #[.int .i64 ((szI r).2 : Nat), .int .i64 (szI r).1]

set_option maxHeartbeats 1000000 in
theorem frameSize_calls (r : ByteArray) (w : World) (h : 1 ≤ r.size) (hs : r.size ≤ 1000000000000) :
    Calls Tryz.prog 132 #[.string r] w fun e w' => e = .returned (szV r) ∧ ∃ k, w' = w.drewN k := by
  have e0 := bAt_get r 0 (by omega)
  have l0 := bAt_lt r 0
  have hV : szV r = .tuple #[.int .i64 ((szI r).2 : Nat), .int .i64 (szI r).1] := rfl
  unfold szI at hV
  have s0 : (0 : Int) < (r.size : Int) := by omega
  by_cases h1 : bAt r 0 < 1
  · rw [if_pos (.inl h1)] at hV
    rw [hV]
    clear hV
    generalize bAt r 0 = c0 at *
    go_enter Tryz.func132, Tryz.ntmps132
    go_wp2_with fail
    go_ret2
    exact ⟨rfl, 0, rfl⟩
  · by_cases h2 : 100 < bAt r 0
    · rw [if_pos (.inr h2)] at hV
      rw [hV]
      clear hV
      generalize bAt r 0 = c0 at *
      go_enter Tryz.func132, Tryz.ntmps132
      go_wp2_with fail
      go_ret2
      exact ⟨rfl, 0, rfl⟩
    · rw [if_neg (by omega)] at hV
      by_cases h3 : r.size < 5
      · rw [if_pos h3] at hV
        rw [hV]
        clear hV
        generalize bAt r 0 = c0 at *
        go_enter Tryz.func132, Tryz.ntmps132
        go_wp2_with fail
        go_ret2
        exact ⟨rfl, 0, rfl⟩
      · rw [if_neg h3] at hV
        have hx : (r.extract 1 5).size = 4 := by simp; omega
        have hwd := wdI_word (r.extract 1 5)
        obtain ⟨N, hN⟩ := Int.eq_ofNat_of_zero_le hwd.1
        rw [hN] at hV hwd
        have HV := hide hV
        have HN := hide hN
        clear hV hN
        generalize bAt r 0 = c0 at *
        go_enter Tryz.func132, Tryz.ntmps132
        go_wp2_with fail
        refine (low_calls _ _ hx).mono ?_
        rintro e w1 ⟨rfl, k, rfl⟩
        rw [unhide HN]
        have hV := unhide HV
        clear HV
        by_cases h4 : 20000 < N
        · rw [if_pos (by omega)] at hV
          have HV := hide hV
          clear hV HN hx
          go_wp2_with fail
          go_ret2
          exact ⟨by rw [unhide HV]; rfl, k, rfl⟩
        · rw [if_neg (by omega), Int.toNat_natCast] at hV
          by_cases h5 : r.size < 9 + N
          · rw [if_pos h5] at hV
            have HV := hide hV
            clear hV HN hx
            go_wp2_with fail
            go_ret2
            exact ⟨by rw [unhide HV]; rfl, k, rfl⟩
          · rw [if_neg h5] at hV
            have HV := hide hV
            clear hV HN hx
            go_wp2_with fail
            go_ret2
            refine ⟨?_, k, rfl⟩
            rw [unhide HV]
            go_num
end Go.Proofs.YtliklijcdcfomaaGreat


/- One frame, of the program. -/
namespace Go.Proofs.YtliklijcdcfomaaGreat
open Go.RowKit Plain
set_option linter.unusedVariables false

namespace Plain
theorem ext_ext (r : ByteArray) (n m : Nat) (h : m ≤ n) : (r.extract 0 n).extract 0 m = r.extract 0 m := by
  apply ByteArray.ext
  simp
  rw [Nat.min_eq_left h]
theorem ext_tail (r : ByteArray) (n m : Nat) : (r.extract 0 n).extract m n = r.extract m n := by
  apply ByteArray.ext
  simp
theorem bAt_ext (r : ByteArray) (m : Nat) (h : 0 < m) (hm : m ≤ r.size) : bAt (r.extract 0 m) 0 = bAt r 0 := by
  rw [← bAt_get _ 0 (by simp; omega), ← bAt_get _ 0 (by omega), ByteArray.getElem_extract]
theorem TabAt.below {w w' : World} {B b off : Nat} (h : TabAt w b off) (hb : Below B w w') (hB : b < B) : TabAt w' b off := fun j hj => (hb.cell (p := ⟨b, off + j, none⟩) hB).trans (h j hj)
theorem OnlyAt.setNew {a : Addr} {u v : World} (h : OnlyAt a u v) {q : Addr} (hq : u.heap.size ≤ q.block) (x : Value) : OnlyAt a u (v.setCell q x) :=
  ⟨h.os, h.tape, h.output, by simpa using h.size, fun k hk hne => (Below.heap_setCell _ _ _ _ (by omega)).trans (h.block k hk hne), fun c hc hne => (World.cell?_setCell_other v q c x (fun e => by subst e; omega)).trans (h.cell c hc hne), fun c hc => by simpa using h.frozen c hc⟩
/-- What frame answers, and where the reader stands then. -/
def frV (r : ByteArray) : Value := if frC r = 0 then .tuple #[.agg #[.int .i64 (bAt r 0 : Nat), .string (frB r)], .int .i64 0] else .tuple #[.agg #[.int .i64 0, .string ByteArray.empty], .int .i64 (frC r)]
def frP (r : ByteArray) (p : Nat) : Nat := if frC r = 0 then p + frN r else p
end Plain

theorem crc_quiet (b off : Nat) (s : ByteArray) (w : World) (n : Nat) (hs : s.size ≤ 1000000000000) (htab : TabAt w b off) :
    Calls Tryz.prog 127 #[.pointer (some ⟨b, off, none⟩), .string s] (w.drewN n) fun e w' => e = .returned (.int .u32 (crcI s)) ∧ ∃ m, w' = w.drewN m :=
  (crc_calls b off s (w.drewN n) hs (show TabAt (w.drewN n) b off from htab)).mono fun _ _ ⟨he, m, hm⟩ => ⟨he, n + m, by rw [hm, World.drewN_drewN]⟩
theorem low_quiet (r : ByteArray) (w : World) (n : Nat) (h : r.size = 4) :
    Calls Tryz.prog 133 #[.string r] (w.drewN n) fun e w' => e = .returned (.int .u32 (wdI r)) ∧ ∃ m, w' = w.drewN m :=
  (low_calls r _ h).mono fun _ _ ⟨he, m, hm⟩ => ⟨he, n + m, by rw [hm, World.drewN_drewN]⟩

theorem crc_quiet2 (b off : Nat) (s : ByteArray) (w : World) (q n : Nat) (hs : s.size ≤ 1000000000000) (htab : TabAt w b off) :
    Calls Tryz.prog 127 #[.pointer (some ⟨b, off, none⟩), .string s] (w.drewN (q + n)) fun e w' => e = .returned (.int .u32 (crcI s)) ∧ ∃ m, w' = w.drewN (q + m) :=
  (crc_calls b off s (w.drewN (q + n)) hs (show TabAt (w.drewN (q + n)) b off from htab)).mono fun _ _ ⟨he, m, hm⟩ => ⟨he, n + m, by rw [hm, World.drewN_drewN, Nat.add_assoc]⟩
theorem low_quiet2 (r : ByteArray) (w : World) (q n : Nat) (h : r.size = 4) :
    Calls Tryz.prog 133 #[.string r] (w.drewN (q + n)) fun e w' => e = .returned (.int .u32 (wdI r)) ∧ ∃ m, w' = w.drewN (q + m) :=
  (low_calls r _ h).mono fun _ _ ⟨he, m, hm⟩ => ⟨he, n + m, by rw [hm, World.drewN_drewN, Nat.add_assoc]⟩

set_option maxRecDepth 10000 in
set_option maxHeartbeats 2000000 in
theorem frame_calls (R : Nat) (s : ByteArray) (p : Nat) (w : World) (hc0 : w.cell? ⟨R, 0, none⟩ = some (.string s)) (hc1 : w.cell? ⟨R, 1, none⟩ = some (.int .i64 p)) (hf : w.frozen? ⟨R, 1, none⟩ = false)
    (htab : TabAt w R 2) (hs : s.size ≤ 1000000000000) (hp : p < s.size) :
    Calls Tryz.prog 122 #[.pointer (some ⟨R, 0, none⟩)] w fun e w' => e = .returned (frV (s.extract p s.size)) ∧ OnlyAt ⟨R, 1, none⟩ w w' ∧ w'.cell? ⟨R, 1, none⟩ = some (.int .i64 (frP (s.extract p s.size) p : Nat)) := by
  have hR := lt_of_cell hc0
  simp only at hR
  have hrs := rest_size s p
  obtain ⟨r, hr⟩ : ∃ r, s.extract p s.size = r := ⟨_, rfl⟩
  rw [hr] at hrs
  have hfv : frV (s.extract p s.size) = frV r := by rw [hr]
  have hfp : frP (s.extract p s.size) p = frP r p := by rw [hr]
  rw [hfv, hfp]
  clear hfv hfp
  have HR := hide hr
  obtain ⟨wa, hwa⟩ : ∃ wa, w.alloc (.cells #[.int .i64 0, .string ⟨#[]⟩] 103) = wa := ⟨_, rfl⟩
  have hba : Below w.heap.size w wa := by rw [← hwa]; exact (Below.refl _ _).alloc (Nat.le_refl _) _
  have d0 := (hba.cell (p := ⟨R, 0, none⟩) hR).trans hc0
  have d1 := (hba.cell (p := ⟨R, 1, none⟩) hR).trans hc1
  have HT := hide (htab.below hba hR)
  have hrow : wa.heap[w.heap.size]? = some (.cells #[.int .i64 0, .string ⟨#[]⟩] 103 (0, 0)) := by rw [← hwa]; exact h_new w _ rfl
  have g0 : wa.cell? ⟨w.heap.size, 0, none⟩ = some (.int .i64 0) := cell_of_row wa _ 0 _ _ _ hrow
  have g1 : wa.cell? ⟨w.heap.size, 1, none⟩ = some (.string ⟨#[]⟩) := cell_of_row wa _ 1 _ _ _ hrow
  have z0 : wa.frozen? ⟨w.heap.size, 0, none⟩ = false := frozen_of_row wa _ 0 _ _ hrow
  have z1 : wa.frozen? ⟨w.heap.size, 1, none⟩ = false := frozen_of_row wa _ 1 _ _ hrow
  have hfa := (hba.frozen (p := ⟨R, 1, none⟩) hR).trans hf
  have HWA := hide hwa
  have HC1 := hide hc1
  have HBA := hide hba
  have hne : ¬ w.heap.size = R := by omega
  have hne2 : ¬ R = w.heap.size := by omega
  clear htab hr hrow hc0 hc1 hf hba hwa
  go_enter Tryz.func122, Tryz.ntmps122
  go_wp2_with fail
  rw [unhide HWA]
  refine (rest_ok R 0 s p wa d0 d1 hs (by omega)).mono ?_
  rintro e w1 ⟨rfl, k1, rfl⟩
  rw [unhide HR]
  go_wp2_with fail
  refine (frameSize_calls r _ (by omega) (by omega)).mono ?_
  rintro e w2 ⟨rfl, k2, rfl⟩
  have hsz : szV r = .tuple #[.int .i64 ((szI r).2 : Nat), .int .i64 (szI r).1] := rfl
  by_cases hcode : (szI r).1 = 0
  · obtain ⟨q1, q2, q3, q4, q5⟩ := szI_ok hcode
    have hfn : frN r = (szI r).2 := rfl
    have hfb : frB r = r.extract 5 ((szI r).2 - 4) := by unfold frB; rw [hfn]
    have hfc : frC r = if crcI (r.extract 0 ((szI r).2 - 4)) = wdI (r.extract ((szI r).2 - 4) (szI r).2) then 0 else 4 := by unfold frC; rw [if_neg (by simp [hcode])]
    rw [hsz, hcode]
    clear hsz
    generalize (szI r).2 = sz at q1 q2 q3 hfn hfb hfc
    obtain ⟨m, rfl⟩ : ∃ m, sz = m + 4 := ⟨sz - 4, by omega⟩
    rw [Nat.add_sub_cancel] at hfb hfc
    have HFN := hide hfn
    have HFB := hide hfb
    have HFC := hide hfc
    clear hfn hfb hfc hcode
    go_wp2_with fail
    refine (rest_ok R 0 s p (wa.drewN (k1 + k2)) (show (wa.drewN (k1 + k2)).cell? _ = _ from d0) (show (wa.drewN (k1 + k2)).cell? _ = _ from d1) hs (by omega)).mono ?_
    rintro e w3 ⟨rfl, k3, rfl⟩
    rw [unhide HR]
    have i0 : (m : Int) + 4 ≤ (r.size : Int) := by omega
    go_wp2_with fail
    rw [ext_ext r (m + 4) m (by omega)]
    have f1 : (r.extract 0 (m + 4)).size = m + 4 := by simp; omega
    have f2 : (r.extract 0 m).size = m := by simp; omega
    have f3 : (r.extract 0 (m + 4)).extract m (m + 4) = r.extract m (m + 4) := ext_tail r (m + 4) m
    have f4 : (r.extract m (m + 4)).size = 4 := by simp; omega
    have f5 : bAt (r.extract 0 m) 0 = bAt r 0 := bAt_ext r m (by omega) (by omega)
    have f6 : (r.extract 0 m).extract 5 m = r.extract 5 m := ext_tail r m 5
    have hfc := unhide HFC
    have hfb := unhide HFB
    clear HFC HFB
    obtain ⟨c0, hc0⟩ : ∃ c0, bAt r 0 = c0 := ⟨_, rfl⟩
    have HC0 := hide hc0
    rw [hc0] at q4 q5 f5
    clear hc0
    generalize r.extract 0 (m + 4) = wh at f1 f3
    generalize r.extract m (m + 4) = tl at f3 f4 hfc
    generalize r.extract 5 m = bd at f6 hfb
    generalize r.extract 0 m = sl at f2 f5 f6 hfc
    have f7 := (bAt_get sl 0 (by omega)).trans f5
    clear f5
    have HFB := hide hfb
    have HFC := hide hfc
    clear hfb hfc
    generalize k1 + k2 + k3 = K
    have hsl : sl.size ≤ 1000000000000 := by omega
    go_quiet ((first | (go_at_call 127; exact crc_quiet2 _ _ _ _ _ _ hsl (unhide HT)) | (go_at_call 133; exact low_quiet2 _ _ _ _ f4)))
    generalize crcI sl = x at HFC
    generalize wdI tl = y at HFC
    by_cases hxy : x = y
    · have hfc0 := unhide HFC
      rw [if_pos hxy] at hfc0
      have hfv : frV r = .tuple #[.agg #[.int .i64 (c0 : Int), .string bd], .int .i64 0] := by unfold frV; rw [if_pos hfc0, unhide HC0, unhide HFB]
      have hfp : frP r p = p + (m + 4) := by unfold frP; rw [if_pos hfc0, unhide HFN]
      have HFV := hide hfv
      have HFP := hide hfp
      subst hxy
      clear hfc0 hfv hfp HFC HFB HFN
      go_wp2_with fail
      refine (take_ok R 0 s p ((m : Int) + 4) (wa.drewN (K + nq)) (show (wa.drewN (K + nq)).cell? _ = _ from d0) (show (wa.drewN (K + nq)).cell? _ = _ from d1) (show (wa.drewN (K + nq)).frozen? _ = _ from hfa) hs (by omega) (by omega) (by omega)).mono ?_
      rintro e w5 ⟨rfl, ho5, hc5⟩
      have hla : w.heap.size < wa.heap.size := lt_of_cell g0
      have g0' : w5.cell? ⟨w.heap.size, 0, none⟩ = some (.int .i64 0) := (ho5.cell ⟨w.heap.size, 0, none⟩ hla (by simp)).trans g0
      have g1' : w5.cell? ⟨w.heap.size, 1, none⟩ = some (.string ⟨#[]⟩) := (ho5.cell ⟨w.heap.size, 1, none⟩ hla (by simp)).trans g1
      have z0' : w5.frozen? ⟨w.heap.size, 0, none⟩ = false := (ho5.frozen ⟨w.heap.size, 0, none⟩ hla).trans z0
      have z1' : w5.frozen? ⟨w.heap.size, 1, none⟩ = false := (ho5.frozen ⟨w.heap.size, 1, none⟩ hla).trans z1
      have HO5 := hide ho5
      have HC5 := hide hc5
      have hm5 : 5 ≤ m := by omega
      have m0 : (0 : Int) < (sl.size : Int) := by omega
      have m5 : (5 : Int) ≤ (sl.size : Int) := by omega
      clear ho5 hc5 g0 g1 z0 z1 d0 d1 hfa
      go_wp2_with fail
      go_region
      all_goals (try go_wp2_with fail)
      have hoo : OnlyAt ⟨R, 1, none⟩ w w5 := (OnlyAt.of_below (below_drewN (unhide HBA) (K + nq))).trans (unhide HO5)
      have hoz : OnlyAt ⟨R, 1, none⟩ w ((w5.setCell ⟨w.heap.size, 0, none⟩ (.int .i64 c0)).setCell ⟨w.heap.size, 1, none⟩ (.string bd)).drew := ((hoo.setNew (Nat.le_refl _) _).setNew (Nat.le_refl _) _).drewN 1
      refine bodyPost_ret (v := .tuple #[.agg #[.int .i64 c0, .string bd], .int .i64 0]) ?_ rfl ⟨by rw [unhide HFV], hoz, ?_⟩
      · simp [results, Tryz.results122, go_sem, g0', g1']
      · rw [unhide HFP]
        have hc5 := unhide HC5
        show ((w5.setCell ⟨w.heap.size, 0, none⟩ (.int .i64 c0)).setCell ⟨w.heap.size, 1, none⟩ (.string bd)).cell? ⟨R, 1, none⟩ = _
        rw [World.cell?_setCell_other _ ⟨w.heap.size, 1, none⟩ ⟨R, 1, none⟩ _ (by simp), World.cell?_setCell_other _ ⟨w.heap.size, 0, none⟩ ⟨R, 1, none⟩ _ (by simp)]
        exact hc5.trans rfl
    · have hfc4 := unhide HFC
      rw [if_neg hxy] at hfc4
      have hfv : frV r = .tuple #[.agg #[.int .i64 0, .string ⟨#[]⟩], .int .i64 4] := by unfold frV; rw [hfc4, if_neg (by decide)]; rfl
      have hfp : frP r p = p := by unfold frP; rw [hfc4, if_neg (by decide)]
      have HFV := hide hfv
      have HFP := hide hfp
      clear hfc4 hfv hfp HFC
      go_wp2_with fail
      have hb : Below w.heap.size w (((wa.drewN (K + nq)).setCell ⟨w.heap.size, 0, none⟩ (.int .i64 0)).setCell ⟨w.heap.size, 1, none⟩ (.string ⟨#[]⟩)) := ((below_drewN (unhide HBA) _).setCell (Nat.le_refl _) _).setCell (Nat.le_refl _) _
      refine bodyPost_ret (v := .tuple #[.agg #[.int .i64 0, .string ⟨#[]⟩], .int .i64 4]) ?_ rfl ⟨by rw [unhide HFV], OnlyAt.of_below hb, ?_⟩
      · simp [results, Tryz.results122, go_sem, g0, g1]
      · rw [unhide HFP]; exact (hb.cell (p := ⟨R, 1, none⟩) hR).trans (unhide HC1)
  · have hfc : frC r = (szI r).1 := by unfold frC; rw [if_pos hcode]
    have hfv : frV r = .tuple #[.agg #[.int .i64 0, .string ⟨#[]⟩], .int .i64 (szI r).1] := by unfold frV; rw [hfc, if_neg hcode]; rfl
    have hfp : frP r p = p := by unfold frP; rw [hfc, if_neg hcode]
    have HFV := hide hfv
    have HFP := hide hfp
    rw [hsz]
    clear hsz hfv hfp hfc
    generalize (szI r).1 = cd at hcode HFV
    generalize (szI r).2 = sz
    go_wp2_with fail
    have hb : Below w.heap.size w (((wa.drewN (k1 + k2)).setCell ⟨w.heap.size, 0, none⟩ (.int .i64 0)).setCell ⟨w.heap.size, 1, none⟩ (.string ⟨#[]⟩)) := ((below_drewN (unhide HBA) _).setCell (Nat.le_refl _) _).setCell (Nat.le_refl _) _
    refine bodyPost_ret (v := .tuple #[.agg #[.int .i64 0, .string ⟨#[]⟩], .int .i64 cd]) ?_ rfl ⟨by rw [unhide HFV], OnlyAt.of_below hb, ?_⟩
    · simp [results, Tryz.results122, go_sem, g0, g1]
    · rw [unhide HFP]; exact (hb.cell (p := ⟨R, 1, none⟩) hR).trans (unhide HC1)
end Go.Proofs.YtliklijcdcfomaaGreat


/- ReadFrames of the program. -/
namespace Go.Proofs.YtliklijcdcfomaaGreat
open Go.RowKit Plain
set_option linter.unusedVariables false

theorem store_any {P : Program} {ops : Array Oper} {rest : List Oper} {o : Oper} {a : Act} {w : World} {Q : Exit → Act → World → Prop} (hgd : o.guard = none) (ty : TypeId) (x y : Operand) (ho : o.op = .store ty x y)
    (g : Nat) (cells : Array Value) (hx : a.eval x = .pointer (some ⟨g, 0, none⟩)) (hy : a.eval y = .agg cells)
    (t : TypeId) (old : Array Value) (hg : w.heap[g]? = some (.cells old t (0, 0))) (hi : (P.info? ty).map (·.size) = some cells.size)
    (hold : old.size = cells.size) (h1 : cells.all (·.oneCell') = true)
    (h : ∀ w', w'.heap[g]? = some (.cells cells t (0, 0)) → w.grownBy w' (some g) → w'.heap.size = w.heap.size → wpList P ops Q rest (a.put o.dst undef) w') : wpList P ops Q (o :: rest) a w :=
  wpList_store_row hgd ty x y ho g cells hx hy t old hg hi hold h1 (h _ (setRow_heap w g _ _ t _ hg) (splice_grown _) (by simp))

namespace Plain
theorem fold_list (off : Nat) : ∀ (l : List Value) (k : Nat) (base : Array Value), off + k + l.length ≤ base.size →
    ((l.zipIdx k).foldl (fun cs x => cs.setIfInBounds (off + x.2) x.1) base).size = base.size ∧
    ∀ j : Nat, ((l.zipIdx k).foldl (fun cs x => cs.setIfInBounds (off + x.2) x.1) base)[j]? = if off + k ≤ j ∧ j < off + k + l.length then l[j - (off + k)]? else base[j]? := by
  intro l
  induction l with
  | nil => intro k base h; simp; intro j h1 h2; omega
  | cons x l ih =>
    intro k base h
    rw [List.zipIdx_cons, List.foldl_cons]
    simp only [List.length_cons] at h
    have := ih (k + 1) (base.setIfInBounds (off + k) x) (by simp; omega)
    refine ⟨by rw [this.1]; simp, fun j => ?_⟩
    rw [this.2 j]
    simp only [List.length_cons]
    by_cases h1 : off + (k + 1) ≤ j ∧ j < off + (k + 1) + l.length
    · rw [if_pos h1, if_pos (by omega), show j - (off + k) = (j - (off + (k + 1))) + 1 from by omega, List.getElem?_cons_succ]
    · rw [if_neg h1, Array.getElem?_setIfInBounds]
      by_cases h2 : off + k = j
      · subst h2
        rw [if_pos rfl, if_pos (by omega), if_pos (by omega)]
        simp
      · rw [if_neg h2, if_neg (by omega)]
noncomputable def bigC (s : ByteArray) (arr : Array Value) : Array Value :=
  Array.foldl (fun cs x => cs.setIfInBounds (2 + x.snd) x.fst) ((Tryz.zeroCells186.setIfInBounds 0 (.string s)).setIfInBounds 1 (.int .i64 0)) arr.zipIdx 0 256
theorem zero75 : Tryz.zeroCells186.size = 258 := by kernel_rfl
theorem bigC_is (s : ByteArray) (arr : Array Value) (h : arr.size = 256) : (bigC s arr).size = 258 ∧ (bigC s arr)[0]? = some (.string s) ∧ (bigC s arr)[1]? = some (.int .i64 0) ∧ ∀ j, j < 256 → (bigC s arr)[2 + j]? = arr[j]? := by
  have hf := fold_list 2 arr.toList 0 ((Tryz.zeroCells186.setIfInBounds 0 (.string s)).setIfInBounds 1 (.int .i64 0)) (by simp [h])
  have e : bigC s arr = (arr.toList.zipIdx 0).foldl (fun cs x => cs.setIfInBounds (2 + x.2) x.1) ((Tryz.zeroCells186.setIfInBounds 0 (.string s)).setIfInBounds 1 (.int .i64 0)) := by
    unfold bigC
    have h2 : arr.zipIdx.size = 256 := by simp [h]
    rw [← h2, ← Array.foldl_toList]
    simp
  rw [← e] at hf
  refine ⟨by rw [hf.1]; simp, ?_, ?_, fun j hj => ?_⟩
  · rw [hf.2 0, if_neg (by omega)]; simp
  · rw [hf.2 1, if_neg (by omega)]; simp
  · rw [hf.2 (2 + j), if_pos (by simp [h]; omega)]; simp
theorem bigC_one (s : ByteArray) (arr : Array Value) (h : arr.size = 256) (h1 : arr.all (·.oneCell') = true) : (bigC s arr).all (·.oneCell') = true := by
  obtain ⟨a, b, c, d⟩ := bigC_is s arr h
  rw [Array.all_eq_true] at h1 ⊢
  intro i hi
  rcases (show i = 0 ∨ i = 1 ∨ 2 ≤ i from by omega) with rfl | rfl | h2
  · rw [Array.getElem?_eq_getElem hi] at b; rw [Option.some.inj b]; rfl
  · rw [Array.getElem?_eq_getElem hi] at c; rw [Option.some.inj c]; rfl
  · have := d (i - 2) (by omega)
    rw [show 2 + (i - 2) = i from by omega, Array.getElem?_eq_getElem hi, Array.getElem?_eq_getElem (by omega)] at this
    rw [Option.some.inj this]
    exact h1 _ (by omega)
end Plain
theorem info75 : (Tryz.prog.info? 186).map (·.size) = some 258 := by kernel_rfl

theorem ownF_form {W : World} {B : Nat} {v : Value} {fs : List (Int × ByteArray)} (h : OwnF W B v fs) : ∃ a c, v = .slice a fs.length c := by
  rcases h.2 with ⟨rfl, h0⟩ | ⟨g, cap, cur, rfl, _⟩
  · rw [h0]; exact ⟨none, 0, rfl⟩
  · exact ⟨_, _, rfl⟩
theorem ownF_mono {W : World} {B B' : Nat} {v : Value} {fs : List (Int × ByteArray)} (h : OwnF W B v fs) (hb : B' ≤ B) : OwnF W B' v fs := by
  rcases h with ⟨hl, h1 | ⟨g, cap, cur, e, hg, hr⟩⟩
  · exact ⟨hl, .inl h1⟩
  · exact ⟨hl, .inr ⟨g, cap, cur, e, Nat.le_trans hb hg, hr⟩⟩
theorem ownF_keep {W W' : World} {B : Nat} {v : Value} {fs : List (Int × ByteArray)} (h : OwnF W B v fs) (hb : ∀ g, B ≤ g → g < W.heap.size → W'.heap[g]? = W.heap[g]?) : OwnF W' B v fs := by
  rcases h with ⟨hl, h1 | ⟨g, cap, cur, rfl, hg, hc, hr⟩⟩
  · exact ⟨hl, .inl h1⟩
  · refine ⟨hl, .inr ⟨g, cap, cur, rfl, hg, ?_, hr⟩⟩
    rw [hb g hg ?_]
    · exact hc
    · rcases Nat.lt_or_ge g W.heap.size with h | h
      · exact h
      · rw [Array.getElem?_eq_none h] at hc; cases hc
theorem ownF_below {W W' : World} {B : Nat} {v : Value} {fs : List (Int × ByteArray)} (h : OwnF W B v fs) (hb : Below W.heap.size W W') : OwnF W' B v fs := ownF_keep h (fun g _ hg => hb.block g hg)
theorem ownF_only {W W' : World} {B R : Nat} {v : Value} {fs : List (Int × ByteArray)} (h : OwnF W B v fs) (ho : OnlyAt ⟨R, 1, none⟩ W W') (hR : R < B) : OwnF W' B v fs := ownF_keep h (fun g hg hl => ho.block g hl (by simp; omega))
theorem empty_rest (s : ByteArray) (p : Nat) (h : s.size ≤ p) : (s.extract p s.size).toList.isEmpty = true := by
  rw [ByteArray.toList_eq, ByteArray.data_extract]
  simp
  omega
theorem full_rest (s : ByteArray) (p : Nat) (h : p < s.size) : (s.extract p s.size).toList.isEmpty = false := by
  rw [ByteArray.toList_eq, ByteArray.data_extract]
  simp
  omega

set_option maxRecDepth 10000 in
set_option maxHeartbeats 2000000 in
theorem implRead_calls (s : ByteArray) (w : World) (hs : s.size ≤ 1000000000) :
    Calls Tryz.prog 104 #[.string s] w fun e w' => ∃ v, e = .returned (.tuple #[v, .int .i64 ((readF s).2.1 : Nat), .int .i64 (readF s).2.2]) ∧ OwnF w' w.heap.size v (readF s).1 ∧ Below w.heap.size w w' := by
  go_enter Tryz.func104, Tryz.ntmps104
  go_wp2_with fail
  refine (newCrcTable_calls _).mono ?_
  rintro e w1 ⟨arr, htab, rfl, hb1⟩
  have HT := hide htab
  have HB1 := hide hb1
  have hsz := htab.1
  have hbc := bigC_is s arr hsz
  have h1c := bigC_one s arr hsz htab.2.1
  have hi75 : (Tryz.prog.info? 186).map (·.size) = some (bigC s arr).size := by rw [hbc.1]; exact info75
  have hold : Tryz.zeroCells186.size = (bigC s arr).size := by rw [hbc.1]; exact zero75
  have HBC := hide hbc
  have HI := hide hi75
  have HOLD := hide hold
  have H1C := hide h1c
  clear htab hb1 hbc hi75 hold h1c
  go_wp2_with (refine store_any rfl 186 (.tmp 5) (.tmp 12) rfl w1.heap.size (bigC s arr) rfl rfl 186 _ (h_new w1 _ rfl) (unhide HI) (unhide HOLD) (unhide H1C) ?_; intro w2 hrow2 hgr2 hsz2)
  have hb2 : Below w1.heap.size w1 w2 := ((Below.refl _ _).alloc (Nat.le_refl _) _).trans ((Below.refl _ _).grown hgr2 (by simp) (fun i hi => by simp at hi; omega))
  have hz2 : w1.heap.size < w2.heap.size := by rw [hsz2]; simp
  have hz1 := (unhide HB1).size
  have HB2 := hide ((unhide HB1).trans (hb2.mono hz1))
  obtain ⟨-, bc0, bc1, bc2⟩ := unhide HBC
  have c0 : w2.cell? ⟨w1.heap.size, 0, none⟩ = some (.string s) := (cell_of_row w2 _ 0 _ _ _ hrow2).trans bc0
  have c1 : w2.cell? ⟨w1.heap.size, 1, none⟩ = some (.int .i64 0) := (cell_of_row w2 _ 1 _ _ _ hrow2).trans bc1
  have cf : w2.frozen? ⟨w1.heap.size, 1, none⟩ = false := frozen_of_row w2 _ 1 _ _ hrow2
  have ct : TabAt w2 w1.heap.size 2 := fun j hj => ((cell_of_row w2 _ (2 + j) _ _ _ hrow2).trans (bc2 j hj)).trans ((unhide HT).2.2 j hj)
  have HC0 := hide c0
  have HC1 := hide c1
  have HCF := hide cf
  have HCT := hide ct
  clear hgr2 hsz2 hrow2 hb2 bc0 bc1 bc2 HBC HI HOLD H1C c0 c1 cf ct HT HB1 hsz
  generalize w1.heap.size = R at *
  go_loopw [6, 7, 8] (fun v _ _ wr => ∃ (F : List (Int × ByteArray)) (p : Nat), Hid (Mid s F p) ∧ Hid (OwnF wr w2.heap.size v F) ∧ Hid (wr.cell? ⟨R, 0, none⟩ = some (.string s) ∧ wr.cell? ⟨R, 1, none⟩ = some (.int .i64 p) ∧ wr.frozen? ⟨R, 1, none⟩ = false ∧ TabAt wr R 2) ∧ Hid (Below w.heap.size w wr) ∧ w2.heap.size ≤ wr.heap.size) (fun _ _ _ wr => match wr.cell? ⟨R, 1, none⟩ with | some (.int _ p) => s.size - p.toNat | _ => 0)
  case atStart => exact ⟨[], 0, Mid.start s, ownF_nil _ _, hide ⟨unhide HC0, unhide HC1, unhide HCF, unhide HCT⟩, HB2, Nat.le_refl _⟩
  case round =>
    clear HC0 HC1 HCF HCT HB2
    obtain ⟨F, p, HM, HO, HC, HB, hzr⟩ := hrel
    obtain ⟨c0, c1, cf, ct⟩ := unhide HC
    obtain ⟨hm1, hm2, -⟩ := unhide HM
    have HT := hide ct
    clear ct HC
    obtain ⟨fa, fc, rfl⟩ := ownF_form (unhide HO)
    by_cases hp : s.size ≤ p
    · have hend := (unhide HM).ends hp
      have hemp := empty_rest s p hp
      have HE := hide hend
      clear hend
      go_wp2_with fail
      refine (rest_ok R 0 s p wr c0 c1 (by omega) (by omega)).mono ?_
      rintro e w3 ⟨rfl, k3, rfl⟩
      go_wp2_with fail
      go_region
      all_goals (try go_wp2_with fail)
      go_ret3
      exact ⟨_, by rw [unhide HE]; rfl, by rw [unhide HE]; exact ownF_mono (ownF_below (unhide HO) (below_drewN (Below.refl _ _) _)) (by omega), below_drewN (unhide HB) _⟩
    · have hne := full_rest s p (by omega)
      go_wp2_with fail
      refine (rest_ok R 0 s p wr c0 c1 (by omega) (by omega)).mono ?_
      rintro e w3 ⟨rfl, k3, rfl⟩
      by_cases hF : F.length = 2000
      · have hend := (unhide HM).many hp hF
        have HE := hide hend
        clear hend
        go_wp2_with fail
        go_region
        all_goals (try go_wp2_with fail)
        go_ret3
        exact ⟨_, by rw [unhide HE]; rfl, by rw [unhide HE]; have h := ownF_mono (ownF_below (unhide HO) (below_drewN (Below.refl _ _) (k3 + 1))) (show w.heap.size ≤ w2.heap.size by omega); rw [hF] at h; exact h, below_drewN (unhide HB) _⟩
      · have hF2 : F.length < 2000 := by omega
        have hnx := (unhide HM).next hp hF
        have hcd := (unhide HM).code hp hF
        obtain ⟨r, hr⟩ : ∃ r, s.extract p s.size = r := ⟨_, rfl⟩
        rw [hr] at hnx hcd
        have HNX := hide hnx
        have HCD := hide hcd
        have HR := hide hr
        clear hnx hcd hr
        go_wp2_with fail
        refine (frame_calls R s p (wr.drewN k3) (show (wr.drewN k3).cell? _ = _ from c0) (show (wr.drewN k3).cell? _ = _ from c1) (show (wr.drewN k3).frozen? _ = _ from cf) (show TabAt (wr.drewN k3) R 2 from unhide HT) (by omega) (by omega)).mono ?_
        rintro e w4 ⟨rfl, ho4, hc4⟩
        rw [unhide HR] at hc4 ⊢
        have hz4 : w2.heap.size ≤ w4.heap.size := Nat.le_trans hzr ho4.size
        have HO4 := hide (ownF_only (show OwnF (wr.drewN k3) w2.heap.size _ F from unhide HO) ho4 hz2)
        have hRl : R < wr.heap.size := lt_of_cell c0
        have a0 := (ho4.cell ⟨R, 0, none⟩ hRl (by simp)).trans (show (wr.drewN k3).cell? _ = _ from c0)
        have af := (ho4.frozen ⟨R, 1, none⟩ hRl).trans (show (wr.drewN k3).frozen? _ = _ from cf)
        have at2 : TabAt w4 R 2 := fun j hj => (ho4.cell ⟨R, 2 + j, none⟩ hRl (by simp)).trans (show (wr.drewN k3).cell? _ = _ from unhide HT j hj)
        have HB4 := hide ((below_drewN (unhide HB) k3).trans (ho4.below hz1 (Nat.le_trans (unhide HB).size (Nat.le_refl _))))
        have HAT := hide at2
        have HCW := hide c1
        clear ho4 at2 c0 c1 cf HT HB HO HR hne
        by_cases hc : frC r = 0
        · have hfv : frV r = .tuple #[.agg #[.int .i64 (bAt r 0 : Nat), .string (frB r)], .int .i64 0] := by unfold frV; rw [if_pos hc]
          have hfp : frP r p = p + frN r := by unfold frP; rw [if_pos hc]
          have HN := hide (unhide HNX hc)
          have hpos := (szI_ok (frC_ok hc)).1
          rw [hfv]
          rw [hfp] at hc4
          have hfm : frm r = ((bAt r 0 : Int), frB r) := rfl
          rw [hfm] at HN
          have hfn : frN r = (szI r).2 := rfl
          rw [← hfn] at hpos
          clear hfv hfp HNX HCD hc hfm hfn
          generalize (bAt r 0 : Int) = kd at HN
          generalize frB r = bd at HN
          generalize frN r = nn at HN hc4 hpos
          have hX : Below w4.heap.size w4 (w4.alloc (.cells #[.int .i64 kd, .string bd] 103)) := (Below.refl _ _).alloc (Nat.le_refl _) _
          have HX := hide hX
          have HOX := hide (ownF_below (unhide HO4) hX)
          have hzX := hX.size
          clear hX
          go_wp2_with (at_builtin; go_must (refine appF rfl _ _ rfl (unhide HOX) rfl _ rfl (by simp) (by omega) (Nat.le_trans hz4 hzX) ?_); intro v' w6 hown6 hb6)
          go_roundw
          case rel =>
            have hball : Below w2.heap.size w4 w6 := ((Below.refl w2.heap.size w4).alloc hz4 _).trans hb6
            exact ⟨F ++ [(kd, bd)], p + nn, HN, hide hown6, hide ⟨(hball.cell (p := ⟨R, 0, none⟩) hz2).trans a0, (hball.cell (p := ⟨R, 1, none⟩) hz2).trans hc4, (hball.frozen (p := ⟨R, 1, none⟩) hz2).trans af, (unhide HAT).below hball hz2⟩, hide ((unhide HB4).trans (hball.mono (by omega))), Nat.le_trans hz4 hball.size⟩
          case measure =>
            have hball : Below w2.heap.size w4 w6 := ((Below.refl w2.heap.size w4).alloc hz4 _).trans hb6
            rw [(hball.cell (p := ⟨R, 1, none⟩) hz2).trans hc4, unhide HCW]
            simp
            omega
        · have hfv : frV r = .tuple #[.agg #[.int .i64 0, .string ⟨#[]⟩], .int .i64 (frC r)] := by unfold frV; rw [if_neg hc]; rfl
          have hfp : frP r p = p := by unfold frP; rw [if_neg hc]
          have HN := hide (unhide HCD hc)
          rw [hfv]
          rw [hfp] at hc4
          clear hfv hfp HNX HCD
          generalize frC r = cd at HN hc
          have hX : Below w4.heap.size w4 (w4.alloc (.cells #[.int .i64 0, .string ⟨#[]⟩] 103)) := (Below.refl _ _).alloc (Nat.le_refl _) _
          have hRX : R < w4.heap.size := lt_of_cell a0
          have HX := hide hX
          have HOX := hide (ownF_below (unhide HO4) hX)
          have hcX := (hX.cell (p := ⟨R, 1, none⟩) hRX).trans hc4
          clear hX
          go_wp2_with fail
          go_region
          all_goals (try go_wp2_with fail)
          go_ret3
          exact ⟨_, by rw [unhide HN]; rfl, by rw [unhide HN]; exact ownF_mono (unhide HOX) (by omega), ((unhide HB4).trans ((unhide HX).mono (by omega))).drew⟩
end Go.Proofs.YtliklijcdcfomaaGreat


/- The vote of a file, as the program reads it. -/
namespace Go.Proofs.YtliklijcdcfomaaGreat
open Go.RowKit Plain
set_option linter.unusedVariables false

theorem Plain.stp_raw {s : ByteArray} {p : Nat} {g : Bool} (h : (tkN s p).isSome = g) : stp s p = if g = true then some (rawN s p) else none := by
  subst h
  unfold rawN
  cases h2 : tkN s p with
  | none => simp [stp, h2]
  | some y => simp [stp, h2]

set_option maxRecDepth 10000 in
set_option maxHeartbeats 4000000 in
theorem readVote_calls (s : ByteArray) (w : World) (hs : s.size ≤ 1000000000) :
    Calls Tryz.prog 76 #[.string s] w fun e w' => e = .returned (votV (votF s)) ∧ Below w.heap.size w w' := by
  have HRD := hide (implRead_calls s w hs)
  have HNOT := hide (vot_not (s := s))
  have HONE := hide (fun k b => vot_one (s := s) (k := k) (b := b))
  have HSM := hide (fr_le s)
  generalize votF s = V at HNOT HONE ⊢
  generalize readF s = Q at HRD HNOT HONE HSM
  obtain ⟨F, ps, c⟩ := Q
  simp only [] at HRD HNOT HONE HSM
  by_cases hl : F.length = 1
  · obtain ⟨f, rfl⟩ : ∃ f, F = [f] := List.length_eq_one_iff.1 hl
    obtain ⟨k, b⟩ := f
    have hv := unhide HONE k b rfl
    have hbz : b.size ≤ 1000000000 := Nat.le_trans (unhide HSM _ List.mem_cons_self) hs
    clear HONE HNOT HSM hl
    by_cases hck : c = 0 ∧ k = 1
    · obtain ⟨rfl, rfl⟩ := hck
      rw [if_pos ⟨rfl, rfl⟩] at hv
      obtain ⟨g1, e1, e2, hp1, hv1, i1⟩ := raw_num b 0 (Nat.zero_le _)
      have s1 := stp_raw i1
      have HN := hide (fun (W : World) (B : Nat) (h0 : W.cell? ⟨B, 0, none⟩ = some (.string b)) (h1 : W.cell? ⟨B, 0 + 1, none⟩ = some (.int .i64 ((0 : Nat) : Int))) (h2 : W.frozen? ⟨B, 0 + 1, none⟩ = false) => number_ok B 0 b 0 W h0 h1 h2 (by omega) (Nat.zero_le _))
      rw [e1, e2] at HN
      generalize rawN b 0 = n1 at HN s1 hp1 hv1
      obtain ⟨t1, p1⟩ := n1
      simp only [] at HN hp1 hv1
      obtain ⟨g2, e3, e4, hp2, hv2, i2⟩ := raw_num b p1 hp1
      have s2 := stp_raw i2
      have HM := hide (fun (W : World) (B : Nat) (h0 : W.cell? ⟨B, 0, none⟩ = some (.string b)) (h1 : W.cell? ⟨B, 0 + 1, none⟩ = some (.int .i64 p1)) (h2 : W.frozen? ⟨B, 0 + 1, none⟩ = false) => number_ok B 0 b p1 W h0 h1 h2 (by omega) hp1)
      rw [e3, e4] at HM
      generalize rawN b p1 = n2 at HM s2 hp2 hv2
      obtain ⟨t2, p2⟩ := n2
      simp only [] at HM hp2 hv2
      obtain ⟨em, hem⟩ : ∃ em : Bool, (b.extract p2 b.size).toList.isEmpty = em := ⟨_, rfl⟩
      have hq : (p2 = b.size) ↔ em = true := by
        rw [← hem, ByteArray.toList_eq, List.isEmpty_iff_length_eq_zero, Array.length_toList]
        show _ ↔ (b.extract p2 b.size).size = 0
        rw [ByteArray.size_extract]
        omega
      have hv3 : V = if g1 = true ∧ g2 = true ∧ em = true then some (t1, t2) else none := by
        rw [hv, s1]
        cases g1 with
        | false => simp
        | true =>
          simp only [if_true]
          rw [s2]
          cases g2 with
          | false => simp
          | true => simp [hq]
      have HV := hide hv3
      clear hv s1 s2 hv3 e1 e2 e3 e4 i1 i2 hq
      go_enter Tryz.func76, Tryz.ntmps76
      go_wp2_with fail
      refine (unhide HRD).mono ?_
      rintro e w1 ⟨v, rfl, ho, hb1⟩
      obtain ⟨fa, fc, rfl⟩ := ownF_form ho
      obtain ⟨g, e1, l1, q0, q1⟩ := (OwnR.at (own_frm ho)).fm 0 (by simp)
      subst e1
      simp only [List.getElem_cons_zero, Nat.zero_mul, Nat.zero_add] at q0 q1
      obtain ⟨W2, hW2⟩ : ∃ W2, W2 = w1.alloc (.cells #[.string b, .int .i64 0] 170) := ⟨_, rfl⟩
      have hb2 : Below w1.heap.size w1 W2 := by rw [hW2]; exact bel1 _ _
      have c0 : W2.cell? ⟨w1.heap.size, 0, none⟩ = some (.string b) := by rw [hW2]; simp [go_sem]
      have c1 : W2.cell? ⟨w1.heap.size, 0 + 1, none⟩ = some (.int .i64 ((0 : Nat) : Int)) := by rw [hW2]; simp [go_sem]
      have z1 : W2.frozen? ⟨w1.heap.size, 0 + 1, none⟩ = false := by rw [hW2]; simp [go_sem]
      have HN2 := hide (unhide HN W2 _ c0 c1 z1)
      have HC2 := hide (And.intro c0 z1)
      have HB2 := hide (belOn hb1 hb2)
      have HW2 := hide hW2.symm
      have HL := hide (show w.heap.size ≤ w1.heap.size from hb1.size)
      clear hW2 ho hb1 hb2 c0 c1 z1 HN HRD
      go_wp2_with fail
      rw [unhide HW2]
      refine (unhide HN2).mono ?_
      rintro e w3 ⟨rfl, ho1, hc1⟩
      obtain ⟨c0, z1⟩ := unhide HC2
      have lW := lt_of_cell c0
      have d0 := (ho1.cell ⟨w1.heap.size, 0, none⟩ lW (by simp)).trans c0
      have d1 := (ho1.frozen ⟨w1.heap.size, 0 + 1, none⟩ lW).trans z1
      have HM3 := hide (unhide HM w3 _ d0 hc1 d1)
      have HC3 := hide d0
      have HB3 := hide ((unhide HB2).trans (ho1.below (unhide HL) (unhide HB2).size))
      clear ho1 hc1 c0 z1 d0 d1 HM HN2 HC2 lW
      go_wp2_with fail
      refine (unhide HM3).mono ?_
      rintro e w4 ⟨rfl, ho2, hc2⟩
      have d0 := unhide HC3
      have lW := lt_of_cell d0
      have HRE := hide (rest_ok w1.heap.size 0 b p2 w4 ((ho2.cell ⟨w1.heap.size, 0, none⟩ lW (by simp)).trans d0) hc2 (by omega) hp2)
      have HB4 := hide ((unhide HB3).trans (ho2.below (unhide HL) (unhide HB3).size))
      clear ho2 hc2 d0 lW HM3 HC3
      cases g1 <;> cases g2 <;> cases em
      all_goals
        go_wp2_with (go_at_call 106; refine (unhide HRE).mono ?_; rintro e w5 ⟨rfl, nq, rfl⟩)
        go_ret3
        refine ⟨by rw [unhide HV]; rfl, ?_⟩
        first
          | exact unhide HB4
          | exact belDN (unhide HB4)
    · have HV : Hid (V = none) := hide (by rw [hv, if_neg hck])
      clear hv
      have h3 : (c = 0 ∧ k ≠ 1) ∨ c ≠ 0 := by
        by_cases h : c = 0
        · exact .inl ⟨h, fun q => hck ⟨h, q⟩⟩
        · exact .inr h
      clear hck
      rcases h3 with ⟨rfl, hk⟩ | hc
      all_goals
        go_enter Tryz.func76, Tryz.ntmps76
        go_wp2_with fail
        refine (unhide HRD).mono ?_
        rintro e w1 ⟨v, rfl, ho, hb1⟩
        obtain ⟨fa, fc, rfl⟩ := ownF_form ho
        obtain ⟨g, e1, l1, q0, q1⟩ := (OwnR.at (own_frm ho)).fm 0 (by simp)
        subst e1
        simp only [List.getElem_cons_zero, Nat.zero_mul, Nat.zero_add] at q0 q1
        have HB1 := hide hb1
        clear ho hb1
        go_wp2_with fail
        go_ret3
        exact ⟨by rw [unhide HV]; rfl, unhide HB1⟩
  · have HV := hide (unhide HNOT hl)
    clear HONE HNOT HSM
    have hl2 : ¬ ((F.length : Int) = 1) := by omega
    go_enter Tryz.func76, Tryz.ntmps76
    go_wp2_with fail
    refine (unhide HRD).mono ?_
    rintro e w1 ⟨v, rfl, ho, hb1⟩
    obtain ⟨fa, fc, rfl⟩ := ownF_form ho
    have HB1 := hide hb1
    clear ho hb1
    go_wp2_with fail
    go_ret3
    exact ⟨by rw [unhide HV]; rfl, unhide HB1⟩
end Go.Proofs.YtliklijcdcfomaaGreat

