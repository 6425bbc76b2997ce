/- An entry of a frame, by both programs. -/
import Derived.Test.YtliklijcdcfomaaGreatRzA
import Derived.Test.YtliklijcdcfomaaGreatCzA
import Derived.Deep.QuietTactic
import Derived.BigQuiet
namespace Go.Proofs.YtliklijcdcfomaaGreat
open Go.RowKit Plain
set_option linter.unusedVariables false

namespace Plain
theorem raw_num (s : ByteArray) (p : Nat) (hp : p ≤ s.size) : ∃ g, numV (tkN s p) = .tuple #[.int .i64 (rawN s p).1, .bool g] ∧ numAt p (tkN s p) = (rawN s p).2 ∧ (rawN s p).2 ≤ s.size ∧ (0 ≤ (rawN s p).1 ∧ (rawN s p).1 ≤ 1000000000000) ∧ (tkN s p).isSome = g := by
  unfold rawN stp
  cases h : tkN s p with
  | none => exact ⟨false, rfl, rfl, hp, by simp, rfl⟩
  | some y =>
    obtain ⟨v, l⟩ := y
    have := tkN_le h
    exact ⟨true, rfl, rfl, by simp; omega, by simp; omega, rfl⟩
theorem raw_fld (s : ByteArray) (p : Nat) (hp : p ≤ s.size) : ∃ g, fldV s p (tkT s p) = .tuple #[.string (rawT s p).1, .bool g] ∧ fldAt p (tkT s p) = (rawT s p).2 ∧ (rawT s p).2 ≤ s.size ∧ (rawT s p).1.size ≤ 20000 ∧ (tkT s p).isSome = g := by
  unfold rawT txp
  cases h : tkT s p with
  | none => exact ⟨false, rfl, rfl, hp, by show (⟨#[]⟩ : ByteArray).size ≤ 20000; decide, rfl⟩
  | some y =>
    obtain ⟨l, v⟩ := y
    have := tkT_le h
    exact ⟨true, rfl, rfl, by simp; omega, by simp; omega, rfl⟩
theorem belDN {B k : Nat} {w X : World} (h : Below B w X) : Below B w (X.drewN k) := ⟨h.os, h.tape, h.output, h.size, h.block⟩
def entV (e : Ent) : Value := .agg #[.int .i64 e.term, .int .i64 e.kind, .string e.body]
theorem rawE_small (b : ByteArray) (hb : b.size ≤ 1000000000000) : (rawE b).body.size ≤ 20000 := (raw_fld b _ (raw_num b _ (raw_num b 0 (Nat.zero_le _)).choose_spec.2.2.1).choose_spec.2.2.1).choose_spec.2.2.2.1
end Plain

set_option maxRecDepth 10000 in
set_option maxHeartbeats 4000000 in
theorem readEntryX_calls (k : Int) (b : ByteArray) (w : World) (hb : b.size ≤ 1000000000000) :
    Calls Tryz.prog 108 #[.agg #[.int .i64 k, .string b]] w fun e w' => ∃ g, e = .returned (.tuple #[.agg #[.int .i64 (rawE b).term, .int .i64 (rawE b).kind, .string (rawE b).body], .bool g]) ∧ frE (k, b) = (if g = true then some (rawE b) else none) ∧ Below w.heap.size w w' := by
  obtain ⟨W0, hW0⟩ : ∃ W0, W0 = ((w.alloc (.cells #[.int .i64 k, .string b] 103)).alloc (.cells #[.int .i64 0, .int .i64 0, .string ⟨#[]⟩] 76)).alloc (.cells #[.string b, .int .i64 0] 170) := ⟨_, rfl⟩
  have hb0 : Below w.heap.size w W0 := by rw [hW0]; exact belOn (belOn (bel1 _ _) (bel1 _ _)) (bel1 _ _)
  have hz : W0.heap.size = w.heap.size + 3 := by rw [hW0]; simp
  have f0 : W0.cell? ⟨w.heap.size, 0, none⟩ = some (.int .i64 k) := by rw [hW0]; simp [go_sem]
  have r0 : W0.cell? ⟨w.heap.size + 1, 0, none⟩ = some (.int .i64 0) := by rw [hW0]; simp [go_sem]
  have r1 : W0.cell? ⟨w.heap.size + 1, 1, none⟩ = some (.int .i64 0) := by rw [hW0]; simp [go_sem]
  have r2 : W0.cell? ⟨w.heap.size + 1, 2, none⟩ = some (.string ⟨#[]⟩) := by rw [hW0]; simp [go_sem]
  have y0 : W0.frozen? ⟨w.heap.size + 1, 0, none⟩ = false := by rw [hW0]; simp [go_sem]
  have y1 : W0.frozen? ⟨w.heap.size + 1, 1, none⟩ = false := by rw [hW0]; simp [go_sem]
  have y2 : W0.frozen? ⟨w.heap.size + 1, 2, none⟩ = false := by rw [hW0]; simp [go_sem]
  have c0 : W0.cell? ⟨w.heap.size + 2, 0, none⟩ = some (.string b) := by rw [hW0]; simp [go_sem]
  have c1 : W0.cell? ⟨w.heap.size + 2, 0 + 1, none⟩ = some (.int .i64 ((0 : Nat) : Int)) := by rw [hW0]; simp [go_sem]
  have z1 : W0.frozen? ⟨w.heap.size + 2, 0 + 1, none⟩ = false := by rw [hW0]; simp [go_sem]
  have HN := hide (number_ok (w.heap.size + 2) 0 b 0 W0 c0 c1 z1 hb (Nat.zero_le _))
  obtain ⟨g1, e1, e2, hp1, hv1, i1⟩ := raw_num b 0 (Nat.zero_le _)
  have HFE := hide (frE_of k b)
  rw [i1] at HFE
  rw [e1, e2] at HN
  have HC := hide (show W0.cell? ⟨w.heap.size + 2, 0, none⟩ = some (.string b) ∧ W0.frozen? ⟨w.heap.size + 2, 0 + 1, none⟩ = false from ⟨c0, z1⟩)
  have HR := hide (show (W0.cell? ⟨w.heap.size, 0, none⟩ = some (.int .i64 k) ∧ W0.cell? ⟨w.heap.size + 1, 0, none⟩ = some (.int .i64 0) ∧ W0.cell? ⟨w.heap.size + 1, 1, none⟩ = some (.int .i64 0) ∧ W0.cell? ⟨w.heap.size + 1, 2, none⟩ = some (.string ⟨#[]⟩)) ∧ (W0.frozen? ⟨w.heap.size + 1, 0, none⟩ = false ∧ W0.frozen? ⟨w.heap.size + 1, 1, none⟩ = false ∧ W0.frozen? ⟨w.heap.size + 1, 2, none⟩ = false) from ⟨⟨f0, r0, r1, r2⟩, y0, y1, y2⟩)
  have HB0 := hide hb0
  have HW0 := hide hW0.symm
  have HE := hide (show rawE b = ⟨(rawN b 0).1, (rawN b (rawN b 0).2).1, (rawT b (rawN b (rawN b 0).2).2).1⟩ from rfl)
  generalize rawE b = RE at HE HFE ⊢
  generalize rawN b 0 = n1 at HN HE HFE hp1 hv1
  obtain ⟨t1, p1⟩ := n1
  obtain ⟨g2, e3, e4, hp2, hv2, i2⟩ := raw_num b p1 hp1
  have HM := hide (fun (W : World) (h0 : W.cell? ⟨w.heap.size + 2, 0, none⟩ = some (.string b)) (h1 : W.cell? ⟨w.heap.size + 2, 0 + 1, none⟩ = some (.int .i64 p1)) (h2 : W.frozen? ⟨w.heap.size + 2, 0 + 1, none⟩ = false) => number_ok (w.heap.size + 2) 0 b p1 W h0 h1 h2 hb hp1)
  rw [e3, e4] at HM
  simp only [] at HE HFE hv1
  rw [i2] at HFE
  generalize rawN b p1 = n2 at HM HE HFE hp2 hv2
  obtain ⟨t2, p2⟩ := n2
  obtain ⟨g3, e5, e6, hp3, hv3, i3⟩ := raw_fld b p2 hp2
  have HF := hide (fun (W : World) (h0 : W.cell? ⟨w.heap.size + 2, 0, none⟩ = some (.string b)) (h1 : W.cell? ⟨w.heap.size + 2, 0 + 1, none⟩ = some (.int .i64 p2)) (h2 : W.frozen? ⟨w.heap.size + 2, 0 + 1, none⟩ = false) => field_ok (w.heap.size + 2) 0 b p2 W h0 h1 h2 hb hp2)
  rw [e5, e6] at HF
  simp only [] at HE HFE hv2
  rw [i3] at HFE
  generalize rawT b p2 = n3 at HF HE HFE hp3 hv3
  obtain ⟨t3, p3⟩ := n3
  simp only [] at HE HFE hp3 hv3
  have hE := unhide HE
  subst hE
  clear i1 i2 i3 HE e1 e2 e3 e4 e5 e6 c0 c1 z1 f0 r0 r1 r2 y0 y1 y2 hW0 hb0
  go_enter Tryz.func108, Tryz.ntmps108
  go_wp2_with fail
  rw [unhide HW0]
  refine (unhide HN).mono ?_
  rintro e w1 ⟨rfl, ho1, hc1⟩
  obtain ⟨c0, z1⟩ := unhide HC
  have d0 := (ho1.cell ⟨w.heap.size + 2, 0, none⟩ (lt_of_cell c0) (by simp)).trans c0
  have l2 : w.heap.size + 2 < W0.heap.size := by omega
  have l3 : w.heap.size + 2 < w1.heap.size := Nat.lt_of_lt_of_le l2 ho1.size
  have d1 := (ho1.frozen ⟨w.heap.size + 2, 0 + 1, none⟩ l2).trans z1
  have HM1 := hide (unhide HM w1 d0 hc1 d1)
  have HC1 := hide (And.intro d0 d1)
  have HO1 := hide ho1
  clear ho1 hc1 c0 z1 d0 d1 HM HN
  go_wp2_with fail
  refine (unhide HM1).mono ?_
  rintro e w2 ⟨rfl, ho2, hc2⟩
  obtain ⟨c0, z1⟩ := unhide HC1
  have d0 := (ho2.cell ⟨w.heap.size + 2, 0, none⟩ (lt_of_cell c0) (by simp)).trans c0
  have d1 := (ho2.frozen ⟨w.heap.size + 2, 0 + 1, none⟩ l3).trans z1
  have HF1 := hide (unhide HF w2 d0 hc2 d1)
  have HC2 := hide (And.intro d0 d1)
  have HO2 := hide ((unhide HO1).trans ho2)
  clear ho2 hc2 c0 z1 d0 d1 HF HM1 HO1
  go_wp2_with fail
  refine (unhide HF1).mono ?_
  rintro e w3 ⟨rfl, ho3, hc3⟩
  obtain ⟨c0, z1⟩ := unhide HC2
  have d0 := (ho3.cell ⟨w.heap.size + 2, 0, none⟩ (lt_of_cell c0) (by simp)).trans c0
  have ho := (unhide HO2).trans ho3
  have HRE := hide (rest_ok (w.heap.size + 2) 0 b p3 w3 d0 hc3 hb hp3)
  have HB3 := hide ((unhide HB0).trans (ho.below (show w.heap.size ≤ w.heap.size + 2 by omega) (unhide HB0).size))
  obtain ⟨⟨f0, r0, r1, r2⟩, y0, y1, y2⟩ := unhide HR
  have lt0 : w.heap.size < W0.heap.size := by omega
  have lt1 : w.heap.size + 1 < W0.heap.size := by omega
  have f0 := (ho.cell ⟨w.heap.size, 0, none⟩ lt0 (by simp)).trans f0
  have r0 := (ho.cell ⟨w.heap.size + 1, 0, none⟩ lt1 (by simp)).trans r0
  have r1 := (ho.cell ⟨w.heap.size + 1, 1, none⟩ lt1 (by simp)).trans r1
  have r2 := (ho.cell ⟨w.heap.size + 1, 2, none⟩ lt1 (by simp)).trans r2
  have y0 := (ho.frozen ⟨w.heap.size + 1, 0, none⟩ lt1).trans y0
  have y1 := (ho.frozen ⟨w.heap.size + 1, 1, none⟩ lt1).trans y1
  have y2 := (ho.frozen ⟨w.heap.size + 1, 2, none⟩ lt1).trans y2
  clear ho3 hc3 c0 z1 d0 ho HF1 HO2 HC2 HC HR HC1
  have HFIN := hide (fun (X : World) (hX : Below w.heap.size w X) => show Below w.heap.size w (((X.setCell ⟨w.heap.size + 1, 0, none⟩ (.int .i64 t1)).setCell ⟨w.heap.size + 1, 1, none⟩ (.int .i64 t2)).setCell ⟨w.heap.size + 1, 2, none⟩ (.string t3)) from ((hX.setCell (p := ⟨w.heap.size + 1, 0, none⟩) (Nat.le_succ _) _).setCell (p := ⟨w.heap.size + 1, 1, none⟩) (Nat.le_succ _) _).setCell (p := ⟨w.heap.size + 1, 2, none⟩) (Nat.le_succ _) _)
  clear lt0 lt1 l2 l3 hz
  obtain ⟨em, hem⟩ : ∃ em : Bool, (b.extract p3 b.size).toList.isEmpty = em := ⟨_, rfl⟩
  have hq : (p3 = b.size) ↔ em = true := by
    rw [← hem, ByteArray.toList_eq, List.isEmpty_iff_length_eq_zero, Array.length_toList]
    show _ ↔ (b.extract p3 b.size).size = 0
    rw [ByteArray.size_extract]
    omega
  have HFE := hide (show frE (k, b) = if k = 2 ∧ g1 = true ∧ g2 = true ∧ g3 = true ∧ em = true then some ⟨t1, t2, t3⟩ else none from by have h := unhide HFE; simp only [hq] at h; exact h)
  clear hq
  cases g1 <;> cases g2 <;> cases g3 <;> cases em
  all_goals
    go_wp2_with (go_at_call 106; refine (unhide HRE).mono ?_; rintro e w4 ⟨rfl, nq, rfl⟩)
    go_region
    all_goals (try go_wp2_with fail)
    all_goals
      refine bodyPost_ret (v := .tuple #[.agg #[.int .i64 t1, .int .i64 t2, .string t3], .bool _]) (by simp [results, Tryz.results108, go_sem, r0, r1, r2]; rfl) rfl ⟨_, rfl, (by rw [unhide HFE]; simp), ?_⟩
      first
        | exact unhide HFIN _ (unhide HB3)
        | exact belDN (unhide HFIN _ (unhide HB3))
        | exact belDN (unhide HFIN _ (belDN (unhide HB3)))
theorem readEntry_calls (k : Int) (b : ByteArray) (w : World) (hb : b.size ≤ 1000000000000) :
    Calls Tryz.prog 108 #[.agg #[.int .i64 k, .string b]] w fun e w' => ∃ g, e = .returned (.tuple #[.agg #[.int .i64 (rawE b).term, .int .i64 (rawE b).kind, .string (rawE b).body], .bool g]) ∧ Below w.heap.size w w' :=
  (readEntryX_calls k b w hb).mono fun e w' ⟨g, h1, _, h2⟩ => ⟨g, h1, h2⟩
end Go.Proofs.YtliklijcdcfomaaGreat
