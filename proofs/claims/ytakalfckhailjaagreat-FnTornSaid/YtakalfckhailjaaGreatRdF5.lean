/- The entry of a frame, by the specification. -/
import Derived.Test.YtakalfckhailjaaGreatGAM
import Derived.Test.YtakalfckhailjaaGreatGAD
import Derived.Test.YtakalfckhailjaaGreatGAH
import Derived.Test.YtakalfckhailjaaGreatGAI
import Derived.Test.YtakalfckhailjaaGreatGAE
import Derived.Test.YtakalfckhailjaaGreatReg2
import Derived.Deep.QuietTactic
import Derived.BigQuiet
namespace Go.Proofs.YtakalfckhailjaaGreat
open Go.RowKit Plain
set_option linter.unusedVariables false

namespace Plain
theorem tkV_open (r : ByteArray) : ∃ (t : Int) (s : ByteArray) (g : Bool), takeV r = .tuple #[.int .i64 t, .string s, .bool g] ∧ s.size ≤ r.size ∧ (0 ≤ t ∧ t ≤ 1000000000000) ∧ (g = false → tkN r 0 = none) ∧ (g = true → ∃ v l : Nat, tkN r 0 = some (v, l) ∧ t = v ∧ s = r.extract l r.size ∧ l ≤ r.size) := by
  unfold takeV
  cases h : tkN r 0 with
  | none => exact ⟨0, ByteArray.empty, false, rfl, Nat.zero_le _, by omega, fun _ => rfl, fun e => by cases e⟩
  | some x =>
    obtain ⟨v, l⟩ := x
    have := tkN_le h
    exact ⟨v, _, true, rfl, by rw [ByteArray.size_extract]; omega, by omega, (fun e => by cases e), fun _ => ⟨v, l, rfl, rfl, rfl, by omega⟩⟩
theorem txV_open (r : ByteArray) : ∃ (t s : ByteArray) (g : Bool), textV r = .tuple #[.string t, .string s, .bool g] ∧ s.size ≤ r.size ∧ t.size ≤ 20000 ∧ (g = false → tkT r 0 = none) ∧ (g = true → ∃ v l : Nat, tkT r 0 = some (l, v) ∧ t = r.extract l (l + v) ∧ s = r.extract (l + v) r.size ∧ l + v ≤ r.size) := by
  unfold textV
  cases h : tkT r 0 with
  | none => exact ⟨ByteArray.empty, ByteArray.empty, false, rfl, Nat.zero_le _, Nat.zero_le _, fun _ => rfl, fun e => by cases e⟩
  | some x =>
    obtain ⟨l, v⟩ := x
    have := tkT_le h
    exact ⟨_, _, true, rfl, by rw [ByteArray.size_extract]; omega, by rw [ByteArray.size_extract]; omega, (fun e => by cases e), fun _ => ⟨v, l, rfl, rfl, rfl, by omega⟩⟩
theorem ext2 (b : ByteArray) (p l : Nat) (hp : p ≤ b.size) : (b.extract p b.size).extract l (b.extract p b.size).size = b.extract (p + l) b.size := by
  rw [ByteArray.extract_extract, ByteArray.size_extract]
  congr 1
  omega
/-- The entry of a frame, by its parts as they are read. -/
theorem five_of {k : Int} {b r1 r2 r3 t3 : ByteArray} {t1 t2 : Int} {g1 g2 g3 : Bool}
    (a1 : g1 = false → tkN b 0 = none) (a2 : g1 = true → ∃ v l : Nat, tkN b 0 = some (v, l) ∧ t1 = v ∧ r1 = b.extract l b.size ∧ l ≤ b.size)
    (b1 : g2 = false → tkN r1 0 = none) (b2 : g2 = true → ∃ v l : Nat, tkN r1 0 = some (v, l) ∧ t2 = v ∧ r2 = r1.extract l r1.size ∧ l ≤ r1.size)
    (c1 : g3 = false → tkT r2 0 = none) (c2 : g3 = true → ∃ v l : Nat, tkT r2 0 = some (l, v) ∧ t3 = r2.extract l (l + v) ∧ r3 = r2.extract (l + v) r2.size ∧ l + v ≤ r2.size) :
    fiveE (k, b) = if k = 2 ∧ g1 = true ∧ g2 = true ∧ g3 = true ∧ r3.size = 0 ∧ entB t1 t2 t3 = true then some ⟨t1, t2, t3⟩ else none := by
  unfold fiveE
  cases g1 with
  | false =>
    rw [if_neg (by simp)]
    simp only [stp, a1 rfl, Option.map_none]
  | true =>
    obtain ⟨v1, l1, e1, rfl, rfl, h1⟩ := a2 rfl
    have s1 : stp b 0 = some ((v1 : Int), l1) := by unfold stp; rw [e1]; simp
    simp only [s1]
    cases g2 with
    | false =>
      have := b1 rfl
      rw [tkN_shift b l1 h1] at this
      rw [if_neg (by simp)]
      simp only [stp, this, Option.map_none]
    | true =>
      obtain ⟨v2, l2, e2, rfl, rfl, h2⟩ := b2 rfl
      rw [tkN_shift b l1 h1] at e2
      have hz : (b.extract l1 b.size).size = b.size - l1 := by rw [ByteArray.size_extract]; omega
      have s2 : stp b l1 = some ((v2 : Int), l1 + l2) := by unfold stp; rw [e2]; rfl
      simp only [s2]
      rw [ext2 b l1 l2 h1] at c1 c2
      cases g3 with
      | false =>
        have := c1 rfl
        rw [tkT_shift b (l1 + l2) (by omega)] at this
        rw [if_neg (by simp)]
        simp only [txp, this, Option.map_none]
      | true =>
        obtain ⟨v3, l3, e3, rfl, rfl, h3⟩ := c2 rfl
        rw [tkT_shift b (l1 + l2) (by omega)] at e3
        have hz2 : (b.extract (l1 + l2) b.size).size = b.size - (l1 + l2) := by rw [ByteArray.size_extract]; omega
        have e4 : (b.extract (l1 + l2) b.size).extract l3 (l3 + v3) = b.extract (l1 + l2 + l3) (l1 + l2 + l3 + v3) := by
          rw [ByteArray.extract_extract]; congr 1; omega
        rw [e4, ext2 b (l1 + l2) (l3 + v3) (by omega)]
        have s3 : txp b (l1 + l2) = some (b.extract (l1 + l2 + l3) (l1 + l2 + l3 + v3), l1 + l2 + l3 + v3) := by unfold txp; rw [e3]; rfl
        simp only [s3]
        have hz3 : (b.extract (l1 + l2 + (l3 + v3)) b.size).size = b.size - (l1 + l2 + (l3 + v3)) := by rw [ByteArray.size_extract]; omega
        by_cases hc : k = 2 ∧ l1 + l2 + l3 + v3 = b.size ∧ entB (v1 : Int) (v2 : Int) (b.extract (l1 + l2 + l3) (l1 + l2 + l3 + v3)) = true
        · rw [if_pos hc, if_pos ⟨hc.1, trivial, trivial, trivial, by omega, hc.2.2⟩]
        · rw [if_neg hc, if_neg (fun q => hc ⟨q.1, by have := q.2.2.2.2.1; omega, q.2.2.2.2.2⟩)]
/-- A world in which a block of three cells was written, and nothing else but new blocks. -/
structure Wrote (W : World) (g : Nat) (v0 v1 v2 : Value) where
  w : World
  ok : OnlyP (fun k => k = g) W w
  c0 : w.cell? ⟨g, 0, none⟩ = some v0
  c1 : w.cell? ⟨g, 1, none⟩ = some v1
  c2 : w.cell? ⟨g, 2, none⟩ = some v2
theorem Wrote.cell {W : World} {g b i : Nat} {v0 v1 v2 v : Value} (h : W.cell? ⟨b, i, none⟩ = some v) (hl : b < W.heap.size) (hb : b ≠ g) (x : Wrote W g v0 v1 v2) : x.w.cell? ⟨b, i, none⟩ = some v := (World.cell?_of_block (a := ⟨b, i, none⟩) (x.ok.block b hl hb)).trans h
theorem calls_wrote {f : FuncId} {args : Array Value} {W : World} {g : Nat} {v0 v1 v2 v : Value} (x : Wrote W g v0 v1 v2) (h : Calls Tryz.prog f args x.w fun e w' => e = .returned v ∧ Below x.w.heap.size x.w w') :
    Calls Tryz.prog f args x.w fun e w'' => e = .returned v ∧ ∃ y : Wrote W g v0 v1 v2, w'' = y.w :=
  h.mono fun e w' ⟨h1, h2⟩ => ⟨h1, ⟨w', x.ok.trans (OnlyP.of h2), bcl h2 (lt_of_cell x.c0) x.c0, bcl h2 (lt_of_cell x.c0) x.c1, bcl h2 (lt_of_cell x.c0) x.c2⟩, rfl⟩
end Plain

set_option maxRecDepth 10000 in
set_option maxHeartbeats 4000000 in
theorem l5Read_calls (k : Int) (b : ByteArray) (w : World) (hb : b.size ≤ 1000000000) :
    Calls Tryz.prog 106 #[.agg #[.int .i64 k, .string b]] w fun e w' => ∃ (t1 t2 : Int) (t3 : ByteArray) (ok : Bool), e = .returned (.tuple #[.agg #[.int .i64 t1, .int .i64 t2, .string t3], .bool ok]) ∧ t3.size ≤ 20000 ∧ fiveE (k, b) = (if ok = true then some ⟨t1, t2, t3⟩ else none) ∧ Below w.heap.size w w' := by
  obtain ⟨W0, hW0⟩ : ∃ W0, W0 = (w.alloc (.cells #[.int .i64 k, .string b] 95)).alloc (.cells #[.int .i64 0, .int .i64 0, .string ⟨#[]⟩] 45) := ⟨_, rfl⟩
  have hb0 : Below w.heap.size w W0 := by rw [hW0]; exact belOn (bel1 _ _) (bel1 _ _)
  have hz : W0.heap.size = w.heap.size + 2 := by rw [hW0]; simp
  have f0 : W0.cell? ⟨w.heap.size, 0, none⟩ = some (.int .i64 k) := by rw [hW0]; simp [go_sem]
  have f1 : W0.cell? ⟨w.heap.size, 1, none⟩ = some (.string b) := by rw [hW0]; simp [go_sem]
  have r0 : W0.cell? ⟨w.heap.size + 1, 0, none⟩ = some (.int .i64 0) := by rw [hW0]; simp [go_sem]
  have r1 : W0.cell? ⟨w.heap.size + 1, 1, none⟩ = some (.int .i64 0) := by rw [hW0]; simp [go_sem]
  have r2 : W0.cell? ⟨w.heap.size + 1, 2, none⟩ = some (.string ⟨#[]⟩) := by rw [hW0]; simp [go_sem]
  have y0 : W0.frozen? ⟨w.heap.size + 1, 0, none⟩ = false := by rw [hW0]; simp [go_sem]
  have y1 : W0.frozen? ⟨w.heap.size + 1, 1, none⟩ = false := by rw [hW0]; simp [go_sem]
  have y2 : W0.frozen? ⟨w.heap.size + 1, 2, none⟩ = false := by rw [hW0]; simp [go_sem]
  obtain ⟨t1, s1, g1, e1, hs1, hv1, a1, a2⟩ := tkV_open b
  obtain ⟨t2, s2, g2, e2, hs2, hv2, b1, b2⟩ := tkV_open s1
  obtain ⟨t3, s3, g3, e3, hs3, hv3, c1, c2⟩ := txV_open s2
  have HFV := hide (five_of (k := k) a1 a2 b1 b2 c1 c2)
  have HN := hide (spec_TakeNumber b W0 (by omega))
  rw [e1] at HN
  have HM := hide (fun (W : World) => spec_TakeNumber s1 W (by omega))
  rw [e2] at HM
  have HT := hide (fun (W : World) => spec_TakeText s2 W (by omega))
  rw [e3] at HT
  have HB0 := hide hb0
  have HW0 := hide hW0.symm
  have HC0 := hide (fun (W : World) (hW : Below W0.heap.size W0 W) => And.intro (bcl hW (by omega) f0) (And.intro (And.intro (bcl hW (by omega) r0) (And.intro (bcl hW (by omega) r1) (bcl hW (by omega) r2))) (And.intro ((hW.frozen (p := ⟨w.heap.size + 1, 0, none⟩) (show w.heap.size + 1 < W0.heap.size by omega)).trans y0) (And.intro ((hW.frozen (p := ⟨w.heap.size + 1, 1, none⟩) (show w.heap.size + 1 < W0.heap.size by omega)).trans y1) ((hW.frozen (p := ⟨w.heap.size + 1, 2, none⟩) (show w.heap.size + 1 < W0.heap.size by omega)).trans y2)))))
  clear e1 e2 e3 a1 a2 b1 b2 c1 c2 hW0 hb0 f0 f1 r0 r1 r2 y0 y1 y2
  go_enter Tryz.func106, Tryz.ntmps106
  go_wp2_with fail
  rw [unhide HW0]
  refine (unhide HN).mono ?_
  rintro e w1 ⟨rfl, q1, rfl⟩
  go_wp2_with fail
  refine (unhide HM _).mono ?_
  rintro e w1 ⟨rfl, q2, rfl⟩
  go_wp2_with fail
  refine (unhide HT _).mono ?_
  rintro e w1 ⟨rfl, hb1⟩
  have hb2 : Below W0.heap.size W0 w1 := ⟨hb1.os, hb1.tape, hb1.output, hb1.size, hb1.block⟩
  have hs := hb2.size
  obtain ⟨W2, hW2⟩ : ∃ W2, W2 = w1.alloc (.cells #[.int .i64 t1, .int .i64 t2, .string t3] 45) := ⟨_, rfl⟩
  have hb3 : Below w1.heap.size w1 W2 := by rw [hW2]; exact bel1 _ _
  have e0 : W2.cell? ⟨w1.heap.size, 0, none⟩ = some (.int .i64 t1) := by rw [hW2]; simp [go_sem]
  have e1 : W2.cell? ⟨w1.heap.size, 1, none⟩ = some (.int .i64 t2) := by rw [hW2]; simp [go_sem]
  have e2 : W2.cell? ⟨w1.heap.size, 2, none⟩ = some (.string t3) := by rw [hW2]; simp [go_sem]
  have HW2 := hide hW2.symm
  obtain ⟨f0, ⟨r0, r1, r2⟩, y0, y1, y2⟩ := unhide HC0 _ (belOn hb2 hb3)
  have HB3 := hide (belOn (unhide HB0) (belOn hb2 hb3))
  have hne : w1.heap.size ≠ w.heap.size + 1 := by omega
  have HLE := hide (fun (W : World) => l5Entry_calls t1 t2 t3 W (by omega))
  have HFIN := hide (fun (X : World) (hX : Below w.heap.size w X) => show Below w.heap.size w (((X.setCell ⟨w.heap.size + 1, 0, none⟩ (.int .i64 t1)).setCell ⟨w.heap.size + 1, 1, none⟩ (.int .i64 t2)).setCell ⟨w.heap.size + 1, 2, none⟩ (.string t3)) from ((hX.setCell (p := ⟨w.heap.size + 1, 0, none⟩) (Nat.le_succ _) _).setCell (p := ⟨w.heap.size + 1, 1, none⟩) (Nat.le_succ _) _).setCell (p := ⟨w.heap.size + 1, 2, none⟩) (Nat.le_succ _) _)
  obtain ⟨em, hem⟩ : ∃ em : Bool, s3.toList.isEmpty = em := ⟨_, rfl⟩
  have HEM := hide (show em = true ↔ s3.size = 0 from by rw [← hem, ByteArray.toList_eq, List.isEmpty_iff_length_eq_zero, Array.length_toList]; exact Iff.rfl)
  have hcs : (k ≠ 2) ∨ (k = 2 ∧ g1 = false) ∨ (k = 2 ∧ g1 = true ∧ g2 = false) ∨ (k = 2 ∧ g1 = true ∧ g2 = true ∧ g3 = false) ∨ (k = 2 ∧ g1 = true ∧ g2 = true ∧ g3 = true ∧ em = false) ∨ (k = 2 ∧ g1 = true ∧ g2 = true ∧ g3 = true ∧ em = true) := by
    by_cases hk : k = 2
    · cases g1 <;> cases g2 <;> cases g3 <;> cases em <;> simp [hk]
    · exact .inl hk
  have hrl := lt_of_cell r0
  have hel := lt_of_cell e0
  have hfl := lt_of_cell f0
  have A0 := Grown.cell e0 hel
  have A1 := Grown.cell e1 hel
  have A2 := Grown.cell e2 hel
  have A3 := Grown.cell f0 hfl
  have B0 := Wrote.cell (v0 := .int .i64 t1) (v1 := .int .i64 t2) (v2 := .string t3) e0 hel hne
  have B1 := Wrote.cell (v0 := .int .i64 t1) (v1 := .int .i64 t2) (v2 := .string t3) e1 hel hne
  have B2 := Wrote.cell (v0 := .int .i64 t1) (v1 := .int .i64 t2) (v2 := .string t3) e2 hel hne
  have B3 := Wrote.cell (g := w.heap.size + 1) (v0 := .int .i64 t1) (v1 := .int .i64 t2) (v2 := .string t3) f0 hfl (by omega)
  have HOV := hide (fun (x : Grown W2) => And.intro (And.intro (Grown.cell r0 hrl x) (And.intro (Grown.cell r1 hrl x) (Grown.cell r2 hrl x))) (And.intro ((x.ok.frozen (p := ⟨w.heap.size + 1, 0, none⟩) hrl).trans y0) (And.intro ((x.ok.frozen (p := ⟨w.heap.size + 1, 1, none⟩) hrl).trans y1) ((x.ok.frozen (p := ⟨w.heap.size + 1, 2, none⟩) hrl).trans y2))))
  have HWR := hide (fun (x : Grown W2) => show ∃ y : Wrote W2 (w.heap.size + 1) (.int .i64 t1) (.int .i64 t2) (.string t3), ((x.w.setCell ⟨w.heap.size + 1, 0, none⟩ (.int .i64 t1)).setCell ⟨w.heap.size + 1, 1, none⟩ (.int .i64 t2)).setCell ⟨w.heap.size + 1, 2, none⟩ (.string t3) = y.w from by
    obtain ⟨⟨x0, x1, x2⟩, _⟩ := unhide HOV x
    refine ⟨⟨_, ?_, ?_, ?_, ?_⟩, rfl⟩
    · have o1 : ∀ (X : World) (i : Nat) (v : Value), OnlyP (fun k => k = w.heap.size + 1) X (X.setCell ⟨w.heap.size + 1, i, none⟩ v) := fun X i v => have h := OnlyAt.setCell ⟨w.heap.size + 1, i, none⟩ X v; ⟨h.os, h.tape, h.output, h.size, fun k hk hn => h.block k hk hn⟩
      exact (((OnlyP.of x.ok).trans (o1 _ _ _)).trans (o1 _ _ _)).trans (o1 _ _ _)
    · exact (World.cell?_setCell_other _ _ _ _ (by simp)).trans ((World.cell?_setCell_other _ _ _ _ (by simp)).trans (World.cell?_setCell_same _ _ _ x0))
    · exact (World.cell?_setCell_other _ _ _ _ (by simp)).trans (World.cell?_setCell_same _ _ _ ((World.cell?_setCell_other _ _ _ _ (by simp)).trans x1))
    · exact World.cell?_setCell_same _ _ _ ((World.cell?_setCell_other _ _ _ _ (by simp)).trans ((World.cell?_setCell_other _ _ _ _ (by simp)).trans x2)))
  have hNG : Nonempty (Grown W2) := ⟨⟨W2, Below.refl _ _⟩⟩
  have hNW : Nonempty (Wrote W2 (w.heap.size + 1) (.int .i64 t1) (.int .i64 t2) (.string t3)) := by obtain ⟨y, _⟩ := unhide HWR ⟨W2, Below.refl _ _⟩; exact ⟨y⟩
  have HFN := hide (fun (y : Wrote W2 (w.heap.size + 1) (.int .i64 t1) (.int .i64 t2) (.string t3)) => show Below w.heap.size w y.w from (unhide HB3).trans (y.ok.below (B := w.heap.size) (fun g hg => by omega) (unhide HB3).size))
  obtain ⟨B, hB⟩ : ∃ B, entB t1 t2 t3 = B := ⟨_, rfl⟩
  rw [hB] at HLE HFV
  clear hB hW2 hb1 hb2 hb3 hs HN HM HT hz HC0 HW0 HB0 r0 r1 r2 y0 y1 y2 e0 e1 e2 f0 HFIN HB3
  rcases hcs with hk | ⟨rfl, rfl⟩ | ⟨rfl, rfl, rfl⟩ | ⟨rfl, rfl, rfl, rfl⟩ | ⟨rfl, rfl, rfl, rfl, rfl⟩ | ⟨rfl, rfl, rfl, rfl, rfl⟩
  case' inl => have hk2 : (k == 2) = false := by rw [beq_eq_false_iff_ne]; exact hk
  all_goals
    go_wp2_with fail
    rw [unhide HW2]
    refine Reg2.region_wrote (fun w' => ∃ x : Grown W2, w' = x.w) (fun w' => ∃ x : Wrote W2 (w.heap.size + 1) (.int .i64 t1) (.int .i64 t2) (.string t3), w' = x.w) 21 _ (by kernel_rfl) (by kernel_rfl) rfl rfl (by kernel_rfl) (by kernel_rfl) ⟨⟨{ W2 with drawn := W2.drawn + 1 }, ⟨rfl, rfl, rfl, Nat.le_refl _, fun _ _ => rfl⟩⟩, rfl⟩ ?_
    simp only [List.take_succ_cons, List.take_zero, List.drop_succ_cons, List.drop_zero]
    repeat (go_big_quiet_step (first | (go_at_call 55; exact calls_grown _ (unhide HLE _))))
    refine wpQuiet_nil ⟨?_, by kernel_rfl, ?_, ?_⟩
    · repeat (go_big_quiet_step (first | (go_at_call 55; exact calls_wrote _ (unhide HLE _))))
      exact wpQuiet_nil rfl
    · rintro _ ⟨x, rfl⟩
      obtain ⟨⟨x0, x1, x2⟩, z0, z1, z2⟩ := unhide HOV x
      obtain ⟨y, hy⟩ := unhide HWR x
      refine ⟨((x.w.setCell ⟨w.heap.size + 1, 0, none⟩ (.int .i64 t1)).setCell ⟨w.heap.size + 1, 1, none⟩ (.int .i64 t2)).setCell ⟨w.heap.size + 1, 2, none⟩ (.string t3), ?_, ⟨y, hy⟩⟩
      simp [go_sem, x0, x1, x2, z0, z1, z2]
    · repeat (go_big_quiet_step (fail))
      refine wpQuiet_nil ⟨?_, ?_⟩
      · repeat (go_big_quiet_step (fail))
        exact wpQuiet_nil rfl
      · rintro _ ⟨y, rfl⟩
        have y0 := y.c0
        have y1 := y.c1
        have y2 := y.c2
        go_wp2_with fail
        first
          | (refine bodyPost_ret (v := .tuple #[.agg #[.int .i64 t1, .int .i64 t2, .string t3], .bool false]) ?_ rfl ⟨t1, t2, t3, false, rfl, hv3, ?_, unhide HFN y⟩
             · simp [results, Tryz.results106, go_sem, y0, y1, y2]
               done
             · rw [unhide HFV, if_neg (fun q => by first | exact hk q.1 | exact absurd q.2.1 (by decide) | exact absurd q.2.2.1 (by decide) | exact absurd q.2.2.2.1 (by decide) | exact absurd ((unhide HEM).2 q.2.2.2.2.1) (by decide))]
               rfl)
          | (refine bodyPost_ret (v := .tuple #[.agg #[.int .i64 t1, .int .i64 t2, .string t3], .bool B]) ?_ rfl ⟨t1, t2, t3, B, rfl, hv3, ?_, unhide HFN y⟩
             · simp [results, Tryz.results106, go_sem, y0, y1, y2]
               done
             · rw [unhide HFV]
               cases B
               · rw [if_neg (fun q => absurd q.2.2.2.2.2 (by decide)), if_neg (by decide)]
               · rw [if_pos (And.intro (by trivial) (And.intro (by trivial) (And.intro (by trivial) (And.intro (by trivial) (And.intro ((unhide HEM).1 (by trivial)) (by trivial))))))]
                 rfl)
end Go.Proofs.YtakalfckhailjaaGreat
