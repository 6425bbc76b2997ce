/- Texts of one kind, put together. -/
import Derived.Test.YtakalfckhailjaaGreatGAD
import Derived.Test.YtakalfckhailjaaGreatGAH
import Derived.Deep.QuietTactic
import Derived.BigQuiet
import Derived.Test.YtakalfckhailjaaGreatGAF
import Derived.Test.YtakalfckhailjaaGreatGAL
import Derived.Deep.RegionHeld3
import Derived.Test.YtakalfckhailjaaGreatGAA
import Derived.Lib.SlBytesConst
import Derived.Laws.MakeOwn

/- The number in four bytes, and how bytes begin, of the program. -/
namespace Go.Proofs.YtakalfckhailjaaGreat
open Go.RowKit Plain
set_option linter.unusedVariables false

theorem highFirst_any (a b c d : Int) (w : World) (n : Nat) (ha : 0 ≤ a ∧ a < 256) (hb : 0 ≤ b ∧ b < 256) (hc : 0 ≤ c ∧ c < 256) (hd : 0 ≤ d ∧ d < 256) :
    Calls Tryz.prog 141 #[.int .u8 a, .int .u8 b, .int .u8 c, .int .u8 d] (w.drewN n) fun r w' => r = .returned (.int .u32 (hiI a b c d)) ∧ ∃ m, w' = w.drewN m := by
  obtain ⟨a0, a1⟩ := ha
  obtain ⟨b0, b1⟩ := hb
  obtain ⟨c0, c1⟩ := hc
  obtain ⟨d0, d1⟩ := hd
  go_enter Tryz.func141, Tryz.ntmps141
  go_wp2
  go_ret
  exact ⟨rfl, n, rfl⟩

theorem low_calls (r : ByteArray) (w : World) (h : r.size = 4) :
    Calls Tryz.prog 128 #[.string r] w fun e w' => e = .returned (.int .u32 (wdI r)) ∧ ∃ k, w' = w.drewN k := by
  have e0 := bAt_get r 0 (by omega)
  have e1 := bAt_get r 1 (by omega)
  have e2 := bAt_get r 2 (by omega)
  have e3 := bAt_get r 3 (by omega)
  have l0 := bAt_lt r 0
  have l1 := bAt_lt r 1
  have l2 := bAt_lt r 2
  have l3 := bAt_lt r 3
  have hw : wdI r = hiI (bAt r 3) (bAt r 2) (bAt r 1) (bAt r 0) := rfl
  have HW := hide hw
  clear hw
  generalize bAt r 0 = c0 at *
  generalize bAt r 1 = c1 at *
  generalize bAt r 2 = c2 at *
  generalize bAt r 3 = c3 at *
  have s0 : (0 : Int) < (r.size : Int) := by omega
  have s1 : (1 : Int) < (r.size : Int) := by omega
  have s2 : (2 : Int) < (r.size : Int) := by omega
  have s3 : (3 : Int) < (r.size : Int) := by omega
  go_enter Tryz.func128, Tryz.ntmps128
  go_wp2_with fail
  go_quiet ((go_at_call 141; exact highFirst_any _ _ _ _ _ _ (by omega) (by omega) (by omega) (by omega)))
  go_wp2_with fail
  go_ret
  exact ⟨by rw [unhide HW]; rfl, _, rfl⟩

def szV (r : ByteArray) : Value := .tuple #[.int .i64 ((szI r).2 : Nat), .int .i64 (szI r).1]

set_option maxHeartbeats 1000000 in
theorem frameSize_calls (r : ByteArray) (w : World) (h : 1 ≤ r.size) (hs : r.size ≤ 1000000000000) :
    Calls Tryz.prog 127 #[.string r] w fun e w' => e = .returned (szV r) ∧ ∃ k, w' = w.drewN k := by
  have e0 := bAt_get r 0 (by omega)
  have l0 := bAt_lt r 0
  have hV : szV r = .tuple #[.int .i64 ((szI r).2 : Nat), .int .i64 (szI r).1] := rfl
  unfold szI at hV
  have s0 : (0 : Int) < (r.size : Int) := by omega
  by_cases h1 : bAt r 0 < 1
  · rw [if_pos (.inl h1)] at hV
    rw [hV]
    clear hV
    generalize bAt r 0 = c0 at *
    go_enter Tryz.func127, Tryz.ntmps127
    go_wp2_with fail
    go_ret2
    exact ⟨rfl, 0, rfl⟩
  · by_cases h2 : 100 < bAt r 0
    · rw [if_pos (.inr h2)] at hV
      rw [hV]
      clear hV
      generalize bAt r 0 = c0 at *
      go_enter Tryz.func127, Tryz.ntmps127
      go_wp2_with fail
      go_ret2
      exact ⟨rfl, 0, rfl⟩
    · rw [if_neg (by omega)] at hV
      by_cases h3 : r.size < 5
      · rw [if_pos h3] at hV
        rw [hV]
        clear hV
        generalize bAt r 0 = c0 at *
        go_enter Tryz.func127, Tryz.ntmps127
        go_wp2_with fail
        go_ret2
        exact ⟨rfl, 0, rfl⟩
      · rw [if_neg h3] at hV
        have hx : (r.extract 1 5).size = 4 := by simp; omega
        have hwd := wdI_word (r.extract 1 5)
        obtain ⟨N, hN⟩ := Int.eq_ofNat_of_zero_le hwd.1
        rw [hN] at hV hwd
        have HV := hide hV
        have HN := hide hN
        clear hV hN
        generalize bAt r 0 = c0 at *
        go_enter Tryz.func127, Tryz.ntmps127
        go_wp2_with fail
        refine (low_calls _ _ hx).mono ?_
        rintro e w1 ⟨rfl, k, rfl⟩
        rw [unhide HN]
        have hV := unhide HV
        clear HV
        by_cases h4 : 20000 < N
        · rw [if_pos (by omega)] at hV
          have HV := hide hV
          clear hV HN hx
          go_wp2_with fail
          go_ret2
          exact ⟨by rw [unhide HV]; rfl, k, rfl⟩
        · rw [if_neg (by omega), Int.toNat_natCast] at hV
          by_cases h5 : r.size < 9 + N
          · rw [if_pos h5] at hV
            have HV := hide hV
            clear hV HN hx
            go_wp2_with fail
            go_ret2
            exact ⟨by rw [unhide HV]; rfl, k, rfl⟩
          · rw [if_neg h5] at hV
            have HV := hide hV
            clear hV HN hx
            go_wp2_with fail
            go_ret2
            refine ⟨?_, k, rfl⟩
            rw [unhide HV]
            go_num
end Go.Proofs.YtakalfckhailjaaGreat


/- One frame, of the program. -/
namespace Go.Proofs.YtakalfckhailjaaGreat
open Go.RowKit Plain
set_option linter.unusedVariables false

namespace Plain
theorem ext_ext (r : ByteArray) (n m : Nat) (h : m ≤ n) : (r.extract 0 n).extract 0 m = r.extract 0 m := by
  apply ByteArray.ext
  simp
  rw [Nat.min_eq_left h]
theorem ext_tail (r : ByteArray) (n m : Nat) : (r.extract 0 n).extract m n = r.extract m n := by
  apply ByteArray.ext
  simp
theorem bAt_ext (r : ByteArray) (m : Nat) (h : 0 < m) (hm : m ≤ r.size) : bAt (r.extract 0 m) 0 = bAt r 0 := by
  rw [← bAt_get _ 0 (by simp; omega), ← bAt_get _ 0 (by omega), ByteArray.getElem_extract]
theorem TabAt.below {w w' : World} {B b off : Nat} (h : TabAt w b off) (hb : Below B w w') (hB : b < B) : TabAt w' b off := fun j hj => (hb.cell (p := ⟨b, off + j, none⟩) hB).trans (h j hj)
theorem OnlyAt.setNew {a : Addr} {u v : World} (h : OnlyAt a u v) {q : Addr} (hq : u.heap.size ≤ q.block) (x : Value) : OnlyAt a u (v.setCell q x) :=
  ⟨h.os, h.tape, h.output, by simpa using h.size, fun k hk hne => (Below.heap_setCell _ _ _ _ (by omega)).trans (h.block k hk hne), fun c hc hne => (World.cell?_setCell_other v q c x (fun e => by subst e; omega)).trans (h.cell c hc hne), fun c hc => by simpa using h.frozen c hc⟩
/-- What frame answers, and where the reader stands then. -/
def frV (r : ByteArray) : Value := if frC r = 0 then .tuple #[.agg #[.int .i64 (bAt r 0 : Nat), .string (frB r)], .int .i64 0] else .tuple #[.agg #[.int .i64 0, .string ByteArray.empty], .int .i64 (frC r)]
def frP (r : ByteArray) (p : Nat) : Nat := if frC r = 0 then p + frN r else p
end Plain

theorem crc_quiet2 (b off : Nat) (s : ByteArray) (w : World) (q n : Nat) (hs : s.size ≤ 1000000000000) (htab : TabAt w b off) :
    Calls Tryz.prog 119 #[.pointer (some ⟨b, off, none⟩), .string s] (w.drewN (q + n)) fun e w' => e = .returned (.int .u32 (crcI s)) ∧ ∃ m, w' = w.drewN (q + m) :=
  (crc_calls b off s (w.drewN (q + n)) hs (show TabAt (w.drewN (q + n)) b off from htab)).mono fun _ _ ⟨he, m, hm⟩ => ⟨he, n + m, by rw [hm, World.drewN_drewN, Nat.add_assoc]⟩
theorem low_quiet2 (r : ByteArray) (w : World) (q n : Nat) (h : r.size = 4) :
    Calls Tryz.prog 128 #[.string r] (w.drewN (q + n)) fun e w' => e = .returned (.int .u32 (wdI r)) ∧ ∃ m, w' = w.drewN (q + m) :=
  (low_calls r _ h).mono fun _ _ ⟨he, m, hm⟩ => ⟨he, n + m, by rw [hm, World.drewN_drewN, Nat.add_assoc]⟩

set_option maxRecDepth 10000 in
set_option maxHeartbeats 2000000 in
theorem frame_calls (R : Nat) (s : ByteArray) (p : Nat) (w : World) (hc0 : w.cell? ⟨R, 0, none⟩ = some (.string s)) (hc1 : w.cell? ⟨R, 1, none⟩ = some (.int .i64 p)) (hf : w.frozen? ⟨R, 1, none⟩ = false)
    (htab : TabAt w R 2) (hs : s.size ≤ 1000000000000) (hp : p < s.size) :
    Calls Tryz.prog 115 #[.pointer (some ⟨R, 0, none⟩)] w fun e w' => e = .returned (frV (s.extract p s.size)) ∧ OnlyAt ⟨R, 1, none⟩ w w' ∧ w'.cell? ⟨R, 1, none⟩ = some (.int .i64 (frP (s.extract p s.size) p : Nat)) := by
  have hR := lt_of_cell hc0
  simp only at hR
  have hrs := rest_size s p
  obtain ⟨r, hr⟩ : ∃ r, s.extract p s.size = r := ⟨_, rfl⟩
  rw [hr] at hrs
  have hfv : frV (s.extract p s.size) = frV r := by rw [hr]
  have hfp : frP (s.extract p s.size) p = frP r p := by rw [hr]
  rw [hfv, hfp]
  clear hfv hfp
  have HR := hide hr
  obtain ⟨wa, hwa⟩ : ∃ wa, w.alloc (.cells #[.int .i64 0, .string ⟨#[]⟩] 95) = wa := ⟨_, rfl⟩
  have hba : Below w.heap.size w wa := by rw [← hwa]; exact (Below.refl _ _).alloc (Nat.le_refl _) _
  have d0 := (hba.cell (p := ⟨R, 0, none⟩) hR).trans hc0
  have d1 := (hba.cell (p := ⟨R, 1, none⟩) hR).trans hc1
  have HT := hide (htab.below hba hR)
  have hrow : wa.heap[w.heap.size]? = some (.cells #[.int .i64 0, .string ⟨#[]⟩] 95 (0, 0)) := by rw [← hwa]; exact h_new w _ rfl
  have g0 : wa.cell? ⟨w.heap.size, 0, none⟩ = some (.int .i64 0) := cell_of_row wa _ 0 _ _ _ hrow
  have g1 : wa.cell? ⟨w.heap.size, 1, none⟩ = some (.string ⟨#[]⟩) := cell_of_row wa _ 1 _ _ _ hrow
  have z0 : wa.frozen? ⟨w.heap.size, 0, none⟩ = false := frozen_of_row wa _ 0 _ _ hrow
  have z1 : wa.frozen? ⟨w.heap.size, 1, none⟩ = false := frozen_of_row wa _ 1 _ _ hrow
  have hfa := (hba.frozen (p := ⟨R, 1, none⟩) hR).trans hf
  have HWA := hide hwa
  have HC1 := hide hc1
  have HBA := hide hba
  have hne : ¬ w.heap.size = R := by omega
  have hne2 : ¬ R = w.heap.size := by omega
  clear htab hr hrow hc0 hc1 hf hba hwa
  go_enter Tryz.func115, Tryz.ntmps115
  go_wp2_with fail
  rw [unhide HWA]
  refine (rest_ok R 0 s p wa d0 d1 hs (by omega)).mono ?_
  rintro e w1 ⟨rfl, k1, rfl⟩
  rw [unhide HR]
  go_wp2_with fail
  refine (frameSize_calls r _ (by omega) (by omega)).mono ?_
  rintro e w2 ⟨rfl, k2, rfl⟩
  have hsz : szV r = .tuple #[.int .i64 ((szI r).2 : Nat), .int .i64 (szI r).1] := rfl
  by_cases hcode : (szI r).1 = 0
  · obtain ⟨q1, q2, q3, q4, q5⟩ := szI_ok hcode
    have hfn : frN r = (szI r).2 := rfl
    have hfb : frB r = r.extract 5 ((szI r).2 - 4) := by unfold frB; rw [hfn]
    have hfc : frC r = if crcI (r.extract 0 ((szI r).2 - 4)) = wdI (r.extract ((szI r).2 - 4) (szI r).2) then 0 else 4 := by unfold frC; rw [if_neg (by simp [hcode])]
    rw [hsz, hcode]
    clear hsz
    generalize (szI r).2 = sz at q1 q2 q3 hfn hfb hfc
    obtain ⟨m, rfl⟩ : ∃ m, sz = m + 4 := ⟨sz - 4, by omega⟩
    rw [Nat.add_sub_cancel] at hfb hfc
    have HFN := hide hfn
    have HFB := hide hfb
    have HFC := hide hfc
    clear hfn hfb hfc hcode
    go_wp2_with fail
    refine (rest_ok R 0 s p (wa.drewN (k1 + k2)) (show (wa.drewN (k1 + k2)).cell? _ = _ from d0) (show (wa.drewN (k1 + k2)).cell? _ = _ from d1) hs (by omega)).mono ?_
    rintro e w3 ⟨rfl, k3, rfl⟩
    rw [unhide HR]
    have i0 : (m : Int) + 4 ≤ (r.size : Int) := by omega
    go_wp2_with fail
    rw [ext_ext r (m + 4) m (by omega)]
    have f1 : (r.extract 0 (m + 4)).size = m + 4 := by simp; omega
    have f2 : (r.extract 0 m).size = m := by simp; omega
    have f3 : (r.extract 0 (m + 4)).extract m (m + 4) = r.extract m (m + 4) := ext_tail r (m + 4) m
    have f4 : (r.extract m (m + 4)).size = 4 := by simp; omega
    have f5 : bAt (r.extract 0 m) 0 = bAt r 0 := bAt_ext r m (by omega) (by omega)
    have f6 : (r.extract 0 m).extract 5 m = r.extract 5 m := ext_tail r m 5
    have hfc := unhide HFC
    have hfb := unhide HFB
    clear HFC HFB
    obtain ⟨c0, hc0⟩ : ∃ c0, bAt r 0 = c0 := ⟨_, rfl⟩
    have HC0 := hide hc0
    rw [hc0] at q4 q5 f5
    clear hc0
    generalize r.extract 0 (m + 4) = wh at f1 f3
    generalize r.extract m (m + 4) = tl at f3 f4 hfc
    generalize r.extract 5 m = bd at f6 hfb
    generalize r.extract 0 m = sl at f2 f5 f6 hfc
    have f7 := (bAt_get sl 0 (by omega)).trans f5
    clear f5
    have HFB := hide hfb
    have HFC := hide hfc
    clear hfb hfc
    generalize k1 + k2 + k3 = K
    have hsl : sl.size ≤ 1000000000000 := by omega
    go_quiet ((first | (go_at_call 119; exact crc_quiet2 _ _ _ _ _ _ hsl (unhide HT)) | (go_at_call 128; exact low_quiet2 _ _ _ _ f4)))
    generalize crcI sl = x at HFC
    generalize wdI tl = y at HFC
    by_cases hxy : x = y
    · have hfc0 := unhide HFC
      rw [if_pos hxy] at hfc0
      have hfv : frV r = .tuple #[.agg #[.int .i64 (c0 : Int), .string bd], .int .i64 0] := by unfold frV; rw [if_pos hfc0, unhide HC0, unhide HFB]
      have hfp : frP r p = p + (m + 4) := by unfold frP; rw [if_pos hfc0, unhide HFN]
      have HFV := hide hfv
      have HFP := hide hfp
      subst hxy
      clear hfc0 hfv hfp HFC HFB HFN
      go_wp2_with fail
      refine (take_ok R 0 s p ((m : Int) + 4) (wa.drewN (K + nq)) (show (wa.drewN (K + nq)).cell? _ = _ from d0) (show (wa.drewN (K + nq)).cell? _ = _ from d1) (show (wa.drewN (K + nq)).frozen? _ = _ from hfa) hs (by omega) (by omega) (by omega)).mono ?_
      rintro e w5 ⟨rfl, ho5, hc5⟩
      have hla : w.heap.size < wa.heap.size := lt_of_cell g0
      have g0' : w5.cell? ⟨w.heap.size, 0, none⟩ = some (.int .i64 0) := (ho5.cell ⟨w.heap.size, 0, none⟩ hla (by simp)).trans g0
      have g1' : w5.cell? ⟨w.heap.size, 1, none⟩ = some (.string ⟨#[]⟩) := (ho5.cell ⟨w.heap.size, 1, none⟩ hla (by simp)).trans g1
      have z0' : w5.frozen? ⟨w.heap.size, 0, none⟩ = false := (ho5.frozen ⟨w.heap.size, 0, none⟩ hla).trans z0
      have z1' : w5.frozen? ⟨w.heap.size, 1, none⟩ = false := (ho5.frozen ⟨w.heap.size, 1, none⟩ hla).trans z1
      have HO5 := hide ho5
      have HC5 := hide hc5
      have hm5 : 5 ≤ m := by omega
      have m0 : (0 : Int) < (sl.size : Int) := by omega
      have m5 : (5 : Int) ≤ (sl.size : Int) := by omega
      clear ho5 hc5 g0 g1 z0 z1 d0 d1 hfa
      go_wp2_with fail
      go_region
      all_goals (try go_wp2_with fail)
      have hoo : OnlyAt ⟨R, 1, none⟩ w w5 := (OnlyAt.of_below (below_drewN (unhide HBA) (K + nq))).trans (unhide HO5)
      have hoz : OnlyAt ⟨R, 1, none⟩ w ((w5.setCell ⟨w.heap.size, 0, none⟩ (.int .i64 c0)).setCell ⟨w.heap.size, 1, none⟩ (.string bd)).drew := ((hoo.setNew (Nat.le_refl _) _).setNew (Nat.le_refl _) _).drewN 1
      refine bodyPost_ret (v := .tuple #[.agg #[.int .i64 c0, .string bd], .int .i64 0]) ?_ rfl ⟨by rw [unhide HFV], hoz, ?_⟩
      · simp [results, Tryz.results115, go_sem, g0', g1']
      · rw [unhide HFP]
        have hc5 := unhide HC5
        show ((w5.setCell ⟨w.heap.size, 0, none⟩ (.int .i64 c0)).setCell ⟨w.heap.size, 1, none⟩ (.string bd)).cell? ⟨R, 1, none⟩ = _
        rw [World.cell?_setCell_other _ ⟨w.heap.size, 1, none⟩ ⟨R, 1, none⟩ _ (by simp), World.cell?_setCell_other _ ⟨w.heap.size, 0, none⟩ ⟨R, 1, none⟩ _ (by simp)]
        exact hc5.trans rfl
    · have hfc4 := unhide HFC
      rw [if_neg hxy] at hfc4
      have hfv : frV r = .tuple #[.agg #[.int .i64 0, .string ⟨#[]⟩], .int .i64 4] := by unfold frV; rw [hfc4, if_neg (by decide)]; rfl
      have hfp : frP r p = p := by unfold frP; rw [hfc4, if_neg (by decide)]
      have HFV := hide hfv
      have HFP := hide hfp
      clear hfc4 hfv hfp HFC
      go_wp2_with fail
      have hb : Below w.heap.size w (((wa.drewN (K + nq)).setCell ⟨w.heap.size, 0, none⟩ (.int .i64 0)).setCell ⟨w.heap.size, 1, none⟩ (.string ⟨#[]⟩)) := ((below_drewN (unhide HBA) _).setCell (Nat.le_refl _) _).setCell (Nat.le_refl _) _
      refine bodyPost_ret (v := .tuple #[.agg #[.int .i64 0, .string ⟨#[]⟩], .int .i64 4]) ?_ rfl ⟨by rw [unhide HFV], OnlyAt.of_below hb, ?_⟩
      · simp [results, Tryz.results115, go_sem, g0, g1]
      · rw [unhide HFP]; exact (hb.cell (p := ⟨R, 1, none⟩) hR).trans (unhide HC1)
  · have hfc : frC r = (szI r).1 := by unfold frC; rw [if_pos hcode]
    have hfv : frV r = .tuple #[.agg #[.int .i64 0, .string ⟨#[]⟩], .int .i64 (szI r).1] := by unfold frV; rw [hfc, if_neg hcode]; rfl
    have hfp : frP r p = p := by unfold frP; rw [hfc, if_neg hcode]
    have HFV := hide hfv
    have HFP := hide hfp
    rw [hsz]
    clear hsz hfv hfp hfc
    generalize (szI r).1 = cd at hcode HFV
    generalize (szI r).2 = sz
    go_wp2_with fail
    have hb : Below w.heap.size w (((wa.drewN (k1 + k2)).setCell ⟨w.heap.size, 0, none⟩ (.int .i64 0)).setCell ⟨w.heap.size, 1, none⟩ (.string ⟨#[]⟩)) := ((below_drewN (unhide HBA) _).setCell (Nat.le_refl _) _).setCell (Nat.le_refl _) _
    refine bodyPost_ret (v := .tuple #[.agg #[.int .i64 0, .string ⟨#[]⟩], .int .i64 cd]) ?_ rfl ⟨by rw [unhide HFV], OnlyAt.of_below hb, ?_⟩
    · simp [results, Tryz.results115, go_sem, g0, g1]
    · rw [unhide HFP]; exact (hb.cell (p := ⟨R, 1, none⟩) hR).trans (unhide HC1)
end Go.Proofs.YtakalfckhailjaaGreat


/- Entries of a journal: whether they are right, by both programs. -/
namespace Go.Proofs.YtakalfckhailjaaGreat
open Go.RowKit Plain
set_option linter.unusedVariables false

def Plain.entB (t k : Int) (b : ByteArray) : Bool := ((decide (1 ≤ t) && decide (t ≤ 1000000000000)) && (decide (0 ≤ k) && decide (k ≤ 9))) && decide (b.size ≤ 4000)
theorem Plain.entB_yes {t k : Int} {b : ByteArray} (h : entB t k b = true) : 1 ≤ t ∧ t ≤ 1000000000000 ∧ 0 ≤ k ∧ k ≤ 9 ∧ b.size ≤ 4000 := by
  unfold entB at h
  simp at h
  omega

set_option maxHeartbeats 1000000 in
theorem entryOk_calls (t k : Int) (b : ByteArray) (w : World) (hb : b.size ≤ 1000000000000) :
    Calls Tryz.prog 56 #[.agg #[.int .i64 t, .int .i64 k, .string b]] w fun e w' => e = .returned (.bool (entB t k b)) ∧ Below w.heap.size w w' := by
  obtain ⟨R, hR⟩ : ∃ R, entB t k b = R := ⟨_, rfl⟩
  rw [hR]
  unfold entB at hR
  have HR := hide hR
  clear hR
  go_enter Tryz.func56, Tryz.ntmps56
  go_wp2_with fail
  all_goals go_ret
  all_goals refine ⟨?_, bel1 _ _⟩
  all_goals (show Ending.returned (.bool _) = Ending.returned (.bool _); rw [← unhide HR]; congr 2; rw [Bool.eq_iff_iff]; simp; try omega)

set_option maxHeartbeats 1000000 in
theorem l5Entry_calls (t k : Int) (b : ByteArray) (w : World) (hb : b.size ≤ 1000000000000) :
    Calls Tryz.prog 55 #[.agg #[.int .i64 t, .int .i64 k, .string b]] w fun e w' => e = .returned (.bool (entB t k b)) ∧ Below w.heap.size w w' := by
  obtain ⟨R, hR⟩ : ∃ R, entB t k b = R := ⟨_, rfl⟩
  rw [hR]
  unfold entB at hR
  have HR := hide hR
  clear hR
  go_enter Tryz.func55, Tryz.ntmps55
  go_wp2_with (go_at_call 28; refine (l1In_calls _ _ _ _).mono ?_; rintro e w' ⟨rfl, rfl⟩)
  all_goals go_ret
  all_goals refine ⟨?_, bel1 _ _⟩
  all_goals (show Ending.returned (.bool _) = Ending.returned (.bool _); rw [← unhide HR]; congr 2; rw [Bool.eq_iff_iff]; simp; try omega)

end Go.Proofs.YtakalfckhailjaaGreat


/- Blobs that are drawn are short; bytes that are made. -/
namespace Go.Proofs.YtakalfckhailjaaGreat
open Go.RowKit Plain
set_option linter.unusedVariables false

namespace Plain
def dataL : List ByteArray := [⟨#[]⟩, ⟨#[97]⟩, ⟨#[98]⟩, ⟨#[97, 98, 99]⟩, ⟨#[108, 97, 121, 101, 114]⟩, ⟨#[99, 111, 110, 102, 105, 103]⟩, ⟨#[122, 122, 57]⟩, ⟨#[48]⟩]
def dataV : Array Value := (dataL.map Value.string).toArray
theorem dataV_get (k : Nat) (h : k < 8) : dataV[k]? = some (.string (dataL.getD k ByteArray.empty)) := by
  match k, h with
  | 0, _ => rfl
  | 1, _ => rfl
  | 2, _ => rfl
  | 3, _ => rfl
  | 4, _ => rfl
  | 5, _ => rfl
  | 6, _ => rfl
  | 7, _ => rfl
theorem data_size : ∀ k : Fin 8, (dataL.getD k.val ByteArray.empty).size ≤ 6 := by decide +kernel
end Plain

theorem data_calls (R : Nat) (a : Option Addr) (len cap : Nat) (zs : List Int) (w : World) (h : Rd w R a len cap zs) :
    Calls Tryz.prog 100 #[.pointer (some ⟨R, 0, none⟩)] w fun e w' => ∃ s : ByteArray, e = .returned (.string s) ∧ s.size ≤ 6 ∧ Rd w' R a len cap zs ∧ OnlyAt ⟨R, 1, none⟩ w w' := by
  have hlt := h.lt
  have hb1 : Below w.heap.size w (w.alloc (.cells dataV 9)) := (Below.refl _ _).alloc (Nat.le_refl _) _
  have H1 := hide (h.below hb1)
  clear h
  go_enter Tryz.func100, Tryz.ntmps100
  go_wp2_with fail
  refine (below_calls R a len cap zs 8 _ (unhide H1) (by omega) (by omega)).mono ?_
  rintro e w2 ⟨v, rfl, hv0, hv1, hR2, ho2⟩
  obtain ⟨K, rfl⟩ := Int.eq_ofNat_of_zero_le hv0
  have hK : K < 8 := by omega
  have hc : w2.cell? ⟨w.heap.size, K, none⟩ = some (.string (dataL.getD K ByteArray.empty)) := by
    rw [ho2.cell ⟨w.heap.size, K, none⟩ (by simp) (by simp)]
    exact (cell_of_row _ _ K dataV _ _ (show (w.alloc _).heap[w.heap.size]? = _ from (MapKept.heap_alloc w _).1)).trans (dataV_get K hK)
  have hs := data_size ⟨K, hK⟩
  simp only at hs
  generalize dataL.getD K ByteArray.empty = s at hc hs
  have HR2 := hide hR2
  have hoo := hide ((OnlyAt.of_below (a := ⟨R, 1, none⟩) hb1).trans ho2)
  clear hR2 ho2 hb1
  go_wp2_with fail
  go_ret
  exact ⟨s, rfl, hs, unhide HR2, unhide hoo⟩

end Go.Proofs.YtakalfckhailjaaGreat

