/- One frame, of the program. -/
import Derived.Test.YtnkjdojpegmlcaaRdI
namespace Go.Proofs.Ytnkjdojpegmlcaa
open Go.RowKit Plain
set_option linter.unusedVariables false

namespace Plain
theorem ext_ext (r : ByteArray) (n m : Nat) (h : m ≤ n) : (r.extract 0 n).extract 0 m = r.extract 0 m := by
  apply ByteArray.ext
  simp
  rw [Nat.min_eq_left h]
theorem ext_tail (r : ByteArray) (n m : Nat) : (r.extract 0 n).extract m n = r.extract m n := by
  apply ByteArray.ext
  simp
theorem bAt_ext (r : ByteArray) (m : Nat) (h : 0 < m) (hm : m ≤ r.size) : bAt (r.extract 0 m) 0 = bAt r 0 := by
  rw [← bAt_get _ 0 (by simp; omega), ← bAt_get _ 0 (by omega), ByteArray.getElem_extract]
theorem TabAt.below {w w' : World} {B b off : Nat} (h : TabAt w b off) (hb : Below B w w') (hB : b < B) : TabAt w' b off := fun j hj => (hb.cell (p := ⟨b, off + j, none⟩) hB).trans (h j hj)
theorem OnlyAt.setNew {a : Addr} {u v : World} (h : OnlyAt a u v) {q : Addr} (hq : u.heap.size ≤ q.block) (x : Value) : OnlyAt a u (v.setCell q x) :=
  ⟨h.os, h.tape, h.output, by simpa using h.size, fun k hk hne => (Below.heap_setCell _ _ _ _ (by omega)).trans (h.block k hk hne), fun c hc hne => (World.cell?_setCell_other v q c x (fun e => by subst e; omega)).trans (h.cell c hc hne), fun c hc => by simpa using h.frozen c hc⟩
/-- What frame answers, and where the reader stands then. -/
def frV (r : ByteArray) : Value := if frC r = 0 then .tuple #[.agg #[.int .i64 (bAt r 0 : Nat), .string (frB r)], .int .i64 0] else .tuple #[.agg #[.int .i64 0, .string ByteArray.empty], .int .i64 (frC r)]
def frP (r : ByteArray) (p : Nat) : Nat := if frC r = 0 then p + frN r else p
end Plain

theorem crc_quiet (b off : Nat) (s : ByteArray) (w : World) (n : Nat) (hs : s.size ≤ 1000000000000) (htab : TabAt w b off) :
    Calls Try.prog 59 #[.pointer (some ⟨b, off, none⟩), .string s] (w.drewN n) fun e w' => e = .returned (.int .u32 (crcI s)) ∧ ∃ m, w' = w.drewN m :=
  (crc_calls b off s (w.drewN n) hs (show TabAt (w.drewN n) b off from htab)).mono fun _ _ ⟨he, m, hm⟩ => ⟨he, n + m, by rw [hm, World.drewN_drewN]⟩
theorem low_quiet (r : ByteArray) (w : World) (n : Nat) (h : r.size = 4) :
    Calls Try.prog 61 #[.string r] (w.drewN n) fun e w' => e = .returned (.int .u32 (wdI r)) ∧ ∃ m, w' = w.drewN m :=
  (low_calls r _ h).mono fun _ _ ⟨he, m, hm⟩ => ⟨he, n + m, by rw [hm, World.drewN_drewN]⟩

theorem crc_quiet2 (b off : Nat) (s : ByteArray) (w : World) (q n : Nat) (hs : s.size ≤ 1000000000000) (htab : TabAt w b off) :
    Calls Try.prog 59 #[.pointer (some ⟨b, off, none⟩), .string s] (w.drewN (q + n)) fun e w' => e = .returned (.int .u32 (crcI s)) ∧ ∃ m, w' = w.drewN (q + m) :=
  (crc_calls b off s (w.drewN (q + n)) hs (show TabAt (w.drewN (q + n)) b off from htab)).mono fun _ _ ⟨he, m, hm⟩ => ⟨he, n + m, by rw [hm, World.drewN_drewN, Nat.add_assoc]⟩
theorem low_quiet2 (r : ByteArray) (w : World) (q n : Nat) (h : r.size = 4) :
    Calls Try.prog 61 #[.string r] (w.drewN (q + n)) fun e w' => e = .returned (.int .u32 (wdI r)) ∧ ∃ m, w' = w.drewN (q + m) :=
  (low_calls r _ h).mono fun _ _ ⟨he, m, hm⟩ => ⟨he, n + m, by rw [hm, World.drewN_drewN, Nat.add_assoc]⟩

set_option maxRecDepth 10000 in
set_option maxHeartbeats 2000000 in
theorem frame_calls (R : Nat) (s : ByteArray) (p : Nat) (w : World) (hc0 : w.cell? ⟨R, 0, none⟩ = some (.string s)) (hc1 : w.cell? ⟨R, 1, none⟩ = some (.int .i64 p)) (hf : w.frozen? ⟨R, 1, none⟩ = false)
    (htab : TabAt w R 2) (hs : s.size ≤ 1000000000000) (hp : p < s.size) :
    Calls Try.prog 55 #[.pointer (some ⟨R, 0, none⟩)] w fun e w' => e = .returned (frV (s.extract p s.size)) ∧ OnlyAt ⟨R, 1, none⟩ w w' ∧ w'.cell? ⟨R, 1, none⟩ = some (.int .i64 (frP (s.extract p s.size) p : Nat)) := by
  have hR := lt_of_cell hc0
  simp only at hR
  have hrs := rest_size s p
  obtain ⟨r, hr⟩ : ∃ r, s.extract p s.size = r := ⟨_, rfl⟩
  rw [hr] at hrs
  have hfv : frV (s.extract p s.size) = frV r := by rw [hr]
  have hfp : frP (s.extract p s.size) p = frP r p := by rw [hr]
  rw [hfv, hfp]
  clear hfv hfp
  have HR := hide hr
  obtain ⟨wa, hwa⟩ : ∃ wa, w.alloc (.cells #[.int .i64 0, .string ⟨#[]⟩] 50) = wa := ⟨_, rfl⟩
  have hba : Below w.heap.size w wa := by rw [← hwa]; exact (Below.refl _ _).alloc (Nat.le_refl _) _
  have d0 := (hba.cell (p := ⟨R, 0, none⟩) hR).trans hc0
  have d1 := (hba.cell (p := ⟨R, 1, none⟩) hR).trans hc1
  have HT := hide (htab.below hba hR)
  have hrow : wa.heap[w.heap.size]? = some (.cells #[.int .i64 0, .string ⟨#[]⟩] 50 (0, 0)) := by rw [← hwa]; exact h_new w _ rfl
  have g0 : wa.cell? ⟨w.heap.size, 0, none⟩ = some (.int .i64 0) := cell_of_row wa _ 0 _ _ _ hrow
  have g1 : wa.cell? ⟨w.heap.size, 1, none⟩ = some (.string ⟨#[]⟩) := cell_of_row wa _ 1 _ _ _ hrow
  have z0 : wa.frozen? ⟨w.heap.size, 0, none⟩ = false := frozen_of_row wa _ 0 _ _ hrow
  have z1 : wa.frozen? ⟨w.heap.size, 1, none⟩ = false := frozen_of_row wa _ 1 _ _ hrow
  have hfa := (hba.frozen (p := ⟨R, 1, none⟩) hR).trans hf
  have HWA := hide hwa
  have HC1 := hide hc1
  have HBA := hide hba
  have hne : ¬ w.heap.size = R := by omega
  have hne2 : ¬ R = w.heap.size := by omega
  clear htab hr hrow hc0 hc1 hf hba hwa
  go_enter Try.func55, Try.ntmps55
  go_wp2_with fail
  rw [unhide HWA]
  refine (rest_ok R 0 s p wa d0 d1 hs (by omega)).mono ?_
  rintro e w1 ⟨rfl, k1, rfl⟩
  rw [unhide HR]
  go_wp2_with fail
  refine (frameSize_calls r _ (by omega) (by omega)).mono ?_
  rintro e w2 ⟨rfl, k2, rfl⟩
  have hsz : szV r = .tuple #[.int .i64 ((szI r).2 : Nat), .int .i64 (szI r).1] := rfl
  by_cases hcode : (szI r).1 = 0
  · obtain ⟨q1, q2, q3, q4, q5⟩ := szI_ok hcode
    have hfn : frN r = (szI r).2 := rfl
    have hfb : frB r = r.extract 5 ((szI r).2 - 4) := by unfold frB; rw [hfn]
    have hfc : frC r = if crcI (r.extract 0 ((szI r).2 - 4)) = wdI (r.extract ((szI r).2 - 4) (szI r).2) then 0 else 4 := by unfold frC; rw [if_neg (by simp [hcode])]
    rw [hsz, hcode]
    clear hsz
    generalize (szI r).2 = sz at q1 q2 q3 hfn hfb hfc
    obtain ⟨m, rfl⟩ : ∃ m, sz = m + 4 := ⟨sz - 4, by omega⟩
    rw [Nat.add_sub_cancel] at hfb hfc
    have HFN := hide hfn
    have HFB := hide hfb
    have HFC := hide hfc
    clear hfn hfb hfc hcode
    go_wp2_with fail
    refine (rest_ok R 0 s p (wa.drewN (k1 + k2)) (show (wa.drewN (k1 + k2)).cell? _ = _ from d0) (show (wa.drewN (k1 + k2)).cell? _ = _ from d1) hs (by omega)).mono ?_
    rintro e w3 ⟨rfl, k3, rfl⟩
    rw [unhide HR]
    have i0 : (m : Int) + 4 ≤ (r.size : Int) := by omega
    go_wp2_with fail
    rw [ext_ext r (m + 4) m (by omega)]
    have f1 : (r.extract 0 (m + 4)).size = m + 4 := by simp; omega
    have f2 : (r.extract 0 m).size = m := by simp; omega
    have f3 : (r.extract 0 (m + 4)).extract m (m + 4) = r.extract m (m + 4) := ext_tail r (m + 4) m
    have f4 : (r.extract m (m + 4)).size = 4 := by simp; omega
    have f5 : bAt (r.extract 0 m) 0 = bAt r 0 := bAt_ext r m (by omega) (by omega)
    have f6 : (r.extract 0 m).extract 5 m = r.extract 5 m := ext_tail r m 5
    have hfc := unhide HFC
    have hfb := unhide HFB
    clear HFC HFB
    obtain ⟨c0, hc0⟩ : ∃ c0, bAt r 0 = c0 := ⟨_, rfl⟩
    have HC0 := hide hc0
    rw [hc0] at q4 q5 f5
    clear hc0
    generalize r.extract 0 (m + 4) = wh at f1 f3
    generalize r.extract m (m + 4) = tl at f3 f4 hfc
    generalize r.extract 5 m = bd at f6 hfb
    generalize r.extract 0 m = sl at f2 f5 f6 hfc
    have f7 := (bAt_get sl 0 (by omega)).trans f5
    clear f5
    have HFB := hide hfb
    have HFC := hide hfc
    clear hfb hfc
    generalize k1 + k2 + k3 = K
    have hsl : sl.size ≤ 1000000000000 := by omega
    go_quiet ((first | (go_at_call 59; exact crc_quiet2 _ _ _ _ _ _ hsl (unhide HT)) | (go_at_call 61; exact low_quiet2 _ _ _ _ f4)))
    generalize crcI sl = x at HFC
    generalize wdI tl = y at HFC
    by_cases hxy : x = y
    · have hfc0 := unhide HFC
      rw [if_pos hxy] at hfc0
      have hfv : frV r = .tuple #[.agg #[.int .i64 (c0 : Int), .string bd], .int .i64 0] := by unfold frV; rw [if_pos hfc0, unhide HC0, unhide HFB]
      have hfp : frP r p = p + (m + 4) := by unfold frP; rw [if_pos hfc0, unhide HFN]
      have HFV := hide hfv
      have HFP := hide hfp
      subst hxy
      clear hfc0 hfv hfp HFC HFB HFN
      go_wp2_with fail
      refine (take_ok R 0 s p ((m : Int) + 4) (wa.drewN (K + nq)) (show (wa.drewN (K + nq)).cell? _ = _ from d0) (show (wa.drewN (K + nq)).cell? _ = _ from d1) (show (wa.drewN (K + nq)).frozen? _ = _ from hfa) hs (by omega) (by omega) (by omega)).mono ?_
      rintro e w5 ⟨rfl, ho5, hc5⟩
      have hla : w.heap.size < wa.heap.size := lt_of_cell g0
      have g0' : w5.cell? ⟨w.heap.size, 0, none⟩ = some (.int .i64 0) := (ho5.cell ⟨w.heap.size, 0, none⟩ hla (by simp)).trans g0
      have g1' : w5.cell? ⟨w.heap.size, 1, none⟩ = some (.string ⟨#[]⟩) := (ho5.cell ⟨w.heap.size, 1, none⟩ hla (by simp)).trans g1
      have z0' : w5.frozen? ⟨w.heap.size, 0, none⟩ = false := (ho5.frozen ⟨w.heap.size, 0, none⟩ hla).trans z0
      have z1' : w5.frozen? ⟨w.heap.size, 1, none⟩ = false := (ho5.frozen ⟨w.heap.size, 1, none⟩ hla).trans z1
      have HO5 := hide ho5
      have HC5 := hide hc5
      have hm5 : 5 ≤ m := by omega
      have m0 : (0 : Int) < (sl.size : Int) := by omega
      have m5 : (5 : Int) ≤ (sl.size : Int) := by omega
      clear ho5 hc5 g0 g1 z0 z1 d0 d1 hfa
      go_wp2_with fail
      go_region
      all_goals (try go_wp2_with fail)
      have hoo : OnlyAt ⟨R, 1, none⟩ w w5 := (OnlyAt.of_below (below_drewN (unhide HBA) (K + nq))).trans (unhide HO5)
      have hoz : OnlyAt ⟨R, 1, none⟩ w ((w5.setCell ⟨w.heap.size, 0, none⟩ (.int .i64 c0)).setCell ⟨w.heap.size, 1, none⟩ (.string bd)).drew := ((hoo.setNew (Nat.le_refl _) _).setNew (Nat.le_refl _) _).drewN 1
      refine bodyPost_ret (v := .tuple #[.agg #[.int .i64 c0, .string bd], .int .i64 0]) ?_ rfl ⟨by rw [unhide HFV], hoz, ?_⟩
      · simp [results, Try.results55, go_sem, g0', g1']
      · rw [unhide HFP]
        have hc5 := unhide HC5
        show ((w5.setCell ⟨w.heap.size, 0, none⟩ (.int .i64 c0)).setCell ⟨w.heap.size, 1, none⟩ (.string bd)).cell? ⟨R, 1, none⟩ = _
        rw [World.cell?_setCell_other _ ⟨w.heap.size, 1, none⟩ ⟨R, 1, none⟩ _ (by simp), World.cell?_setCell_other _ ⟨w.heap.size, 0, none⟩ ⟨R, 1, none⟩ _ (by simp)]
        exact hc5.trans rfl
    · have hfc4 := unhide HFC
      rw [if_neg hxy] at hfc4
      have hfv : frV r = .tuple #[.agg #[.int .i64 0, .string ⟨#[]⟩], .int .i64 4] := by unfold frV; rw [hfc4, if_neg (by decide)]; rfl
      have hfp : frP r p = p := by unfold frP; rw [hfc4, if_neg (by decide)]
      have HFV := hide hfv
      have HFP := hide hfp
      clear hfc4 hfv hfp HFC
      go_wp2_with fail
      have hb : Below w.heap.size w (((wa.drewN (K + nq)).setCell ⟨w.heap.size, 0, none⟩ (.int .i64 0)).setCell ⟨w.heap.size, 1, none⟩ (.string ⟨#[]⟩)) := ((below_drewN (unhide HBA) _).setCell (Nat.le_refl _) _).setCell (Nat.le_refl _) _
      refine bodyPost_ret (v := .tuple #[.agg #[.int .i64 0, .string ⟨#[]⟩], .int .i64 4]) ?_ rfl ⟨by rw [unhide HFV], OnlyAt.of_below hb, ?_⟩
      · simp [results, Try.results55, go_sem, g0, g1]
      · rw [unhide HFP]; exact (hb.cell (p := ⟨R, 1, none⟩) hR).trans (unhide HC1)
  · have hfc : frC r = (szI r).1 := by unfold frC; rw [if_pos hcode]
    have hfv : frV r = .tuple #[.agg #[.int .i64 0, .string ⟨#[]⟩], .int .i64 (szI r).1] := by unfold frV; rw [hfc, if_neg hcode]; rfl
    have hfp : frP r p = p := by unfold frP; rw [hfc, if_neg hcode]
    have HFV := hide hfv
    have HFP := hide hfp
    rw [hsz]
    clear hsz hfv hfp hfc
    generalize (szI r).1 = cd at hcode HFV
    generalize (szI r).2 = sz
    go_wp2_with fail
    have hb : Below w.heap.size w (((wa.drewN (k1 + k2)).setCell ⟨w.heap.size, 0, none⟩ (.int .i64 0)).setCell ⟨w.heap.size, 1, none⟩ (.string ⟨#[]⟩)) := ((below_drewN (unhide HBA) _).setCell (Nat.le_refl _) _).setCell (Nat.le_refl _) _
    refine bodyPost_ret (v := .tuple #[.agg #[.int .i64 0, .string ⟨#[]⟩], .int .i64 cd]) ?_ rfl ⟨by rw [unhide HFV], OnlyAt.of_below hb, ?_⟩
    · simp [results, Try.results55, go_sem, g0, g1]
    · rw [unhide HFP]; exact (hb.cell (p := ⟨R, 1, none⟩) hR).trans (unhide HC1)
end Go.Proofs.Ytnkjdojpegmlcaa
