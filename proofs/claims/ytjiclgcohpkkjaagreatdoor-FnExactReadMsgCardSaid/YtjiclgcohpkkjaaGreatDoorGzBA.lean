/- Texts of one kind, put together. -/
import Derived.Test.YtjiclgcohpkkjaaGreatDoorGzAM
import Derived.Test.YtjiclgcohpkkjaaGreatDoorGzAA
import Derived.Test.YtjiclgcohpkkjaaGreatDoorGzAI
import Derived.Test.YtjiclgcohpkkjaaGreatDoorGzAL
import Derived.Test.YtjiclgcohpkkjaaGreatDoorReg2
import Derived.Deep.QuietTactic
import Derived.BigQuiet
import Derived.Test.YtjiclgcohpkkjaaGreatDoorGzAO
import Derived.Test.YtjiclgcohpkkjaaGreatDoorCrcS
import Derived.Test.YtjiclgcohpkkjaaGreatDoorNum

/- The entry of a frame, by the specification. -/
namespace Go.Proofs.YtjiclgcohpkkjaaGreatDoor
open Go.RowKit Plain
set_option linter.unusedVariables false

namespace Plain
theorem tkV_open (r : ByteArray) : ∃ (t : Int) (s : ByteArray) (g : Bool), takeV r = .tuple #[.int .i64 t, .string s, .bool g] ∧ s.size ≤ r.size ∧ (0 ≤ t ∧ t ≤ 1000000000000) ∧ (g = false → tkN r 0 = none) ∧ (g = true → ∃ v l : Nat, tkN r 0 = some (v, l) ∧ t = v ∧ s = r.extract l r.size ∧ l ≤ r.size) := by
  unfold takeV
  cases h : tkN r 0 with
  | none => exact ⟨0, ByteArray.empty, false, rfl, Nat.zero_le _, by omega, fun _ => rfl, fun e => by cases e⟩
  | some x =>
    obtain ⟨v, l⟩ := x
    have := tkN_le h
    exact ⟨v, _, true, rfl, by rw [ByteArray.size_extract]; omega, by omega, (fun e => by cases e), fun _ => ⟨v, l, rfl, rfl, rfl, by omega⟩⟩
theorem txV_open (r : ByteArray) : ∃ (t s : ByteArray) (g : Bool), textV r = .tuple #[.string t, .string s, .bool g] ∧ s.size ≤ r.size ∧ t.size ≤ 20000 ∧ (g = false → tkT r 0 = none) ∧ (g = true → ∃ v l : Nat, tkT r 0 = some (l, v) ∧ t = r.extract l (l + v) ∧ s = r.extract (l + v) r.size ∧ l + v ≤ r.size) := by
  unfold textV
  cases h : tkT r 0 with
  | none => exact ⟨ByteArray.empty, ByteArray.empty, false, rfl, Nat.zero_le _, Nat.zero_le _, fun _ => rfl, fun e => by cases e⟩
  | some x =>
    obtain ⟨l, v⟩ := x
    have := tkT_le h
    exact ⟨_, _, true, rfl, by rw [ByteArray.size_extract]; omega, by rw [ByteArray.size_extract]; omega, (fun e => by cases e), fun _ => ⟨v, l, rfl, rfl, rfl, by omega⟩⟩
theorem ext2 (b : ByteArray) (p l : Nat) (hp : p ≤ b.size) : (b.extract p b.size).extract l (b.extract p b.size).size = b.extract (p + l) b.size := by
  rw [ByteArray.extract_extract, ByteArray.size_extract]
  congr 1
  omega
/-- The entry of a frame, by its parts as they are read. -/
theorem five_of {k : Int} {b r1 r2 r3 t3 : ByteArray} {t1 t2 : Int} {g1 g2 g3 : Bool}
    (a1 : g1 = false → tkN b 0 = none) (a2 : g1 = true → ∃ v l : Nat, tkN b 0 = some (v, l) ∧ t1 = v ∧ r1 = b.extract l b.size ∧ l ≤ b.size)
    (b1 : g2 = false → tkN r1 0 = none) (b2 : g2 = true → ∃ v l : Nat, tkN r1 0 = some (v, l) ∧ t2 = v ∧ r2 = r1.extract l r1.size ∧ l ≤ r1.size)
    (c1 : g3 = false → tkT r2 0 = none) (c2 : g3 = true → ∃ v l : Nat, tkT r2 0 = some (l, v) ∧ t3 = r2.extract l (l + v) ∧ r3 = r2.extract (l + v) r2.size ∧ l + v ≤ r2.size) :
    fiveE (k, b) = if k = 2 ∧ g1 = true ∧ g2 = true ∧ g3 = true ∧ r3.size = 0 ∧ entB t1 t2 t3 = true then some ⟨t1, t2, t3⟩ else none := by
  unfold fiveE
  cases g1 with
  | false =>
    rw [if_neg (by simp)]
    simp only [stp, a1 rfl, Option.map_none]
  | true =>
    obtain ⟨v1, l1, e1, rfl, rfl, h1⟩ := a2 rfl
    have s1 : stp b 0 = some ((v1 : Int), l1) := by unfold stp; rw [e1]; simp
    simp only [s1]
    cases g2 with
    | false =>
      have := b1 rfl
      rw [tkN_shift b l1 h1] at this
      rw [if_neg (by simp)]
      simp only [stp, this, Option.map_none]
    | true =>
      obtain ⟨v2, l2, e2, rfl, rfl, h2⟩ := b2 rfl
      rw [tkN_shift b l1 h1] at e2
      have hz : (b.extract l1 b.size).size = b.size - l1 := by rw [ByteArray.size_extract]; omega
      have s2 : stp b l1 = some ((v2 : Int), l1 + l2) := by unfold stp; rw [e2]; rfl
      simp only [s2]
      rw [ext2 b l1 l2 h1] at c1 c2
      cases g3 with
      | false =>
        have := c1 rfl
        rw [tkT_shift b (l1 + l2) (by omega)] at this
        rw [if_neg (by simp)]
        simp only [txp, this, Option.map_none]
      | true =>
        obtain ⟨v3, l3, e3, rfl, rfl, h3⟩ := c2 rfl
        rw [tkT_shift b (l1 + l2) (by omega)] at e3
        have hz2 : (b.extract (l1 + l2) b.size).size = b.size - (l1 + l2) := by rw [ByteArray.size_extract]; omega
        have e4 : (b.extract (l1 + l2) b.size).extract l3 (l3 + v3) = b.extract (l1 + l2 + l3) (l1 + l2 + l3 + v3) := by
          rw [ByteArray.extract_extract]; congr 1; omega
        rw [e4, ext2 b (l1 + l2) (l3 + v3) (by omega)]
        have s3 : txp b (l1 + l2) = some (b.extract (l1 + l2 + l3) (l1 + l2 + l3 + v3), l1 + l2 + l3 + v3) := by unfold txp; rw [e3]; rfl
        simp only [s3]
        have hz3 : (b.extract (l1 + l2 + (l3 + v3)) b.size).size = b.size - (l1 + l2 + (l3 + v3)) := by rw [ByteArray.size_extract]; omega
        by_cases hc : k = 2 ∧ l1 + l2 + l3 + v3 = b.size ∧ entB (v1 : Int) (v2 : Int) (b.extract (l1 + l2 + l3) (l1 + l2 + l3 + v3)) = true
        · rw [if_pos hc, if_pos ⟨hc.1, trivial, trivial, trivial, by omega, hc.2.2⟩]
        · rw [if_neg hc, if_neg (fun q => hc ⟨q.1, by have := q.2.2.2.2.1; omega, q.2.2.2.2.2⟩)]
/-- A world in which a block of three cells was written, and nothing else but new blocks. -/
structure Wrote (W : World) (g : Nat) (v0 v1 v2 : Value) where
  w : World
  ok : OnlyP (fun k => k = g) W w
  c0 : w.cell? ⟨g, 0, none⟩ = some v0
  c1 : w.cell? ⟨g, 1, none⟩ = some v1
  c2 : w.cell? ⟨g, 2, none⟩ = some v2
theorem Wrote.cell {W : World} {g b i : Nat} {v0 v1 v2 v : Value} (h : W.cell? ⟨b, i, none⟩ = some v) (hl : b < W.heap.size) (hb : b ≠ g) (x : Wrote W g v0 v1 v2) : x.w.cell? ⟨b, i, none⟩ = some v := (World.cell?_of_block (a := ⟨b, i, none⟩) (x.ok.block b hl hb)).trans h
theorem calls_wrote {f : FuncId} {args : Array Value} {W : World} {g : Nat} {v0 v1 v2 v : Value} (x : Wrote W g v0 v1 v2) (h : Calls Tryz.prog f args x.w fun e w' => e = .returned v ∧ Below x.w.heap.size x.w w') :
    Calls Tryz.prog f args x.w fun e w'' => e = .returned v ∧ ∃ y : Wrote W g v0 v1 v2, w'' = y.w :=
  h.mono fun e w' ⟨h1, h2⟩ => ⟨h1, ⟨w', x.ok.trans (OnlyP.of h2), bcl h2 (lt_of_cell x.c0) x.c0, bcl h2 (lt_of_cell x.c0) x.c1, bcl h2 (lt_of_cell x.c0) x.c2⟩, rfl⟩
end Plain

set_option maxRecDepth 10000 in
set_option maxHeartbeats 4000000 in
theorem l5Read_calls (k : Int) (b : ByteArray) (w : World) (hb : b.size ≤ 1000000000) :
    Calls Tryz.prog 20 #[.agg #[.int .i64 k, .string b]] w fun e w' => ∃ (t1 t2 : Int) (t3 : ByteArray) (ok : Bool), e = .returned (.tuple #[.agg #[.int .i64 t1, .int .i64 t2, .string t3], .bool ok]) ∧ t3.size ≤ 20000 ∧ fiveE (k, b) = (if ok = true then some ⟨t1, t2, t3⟩ else none) ∧ Below w.heap.size w w' := by
  obtain ⟨W0, hW0⟩ : ∃ W0, W0 = (w.alloc (.cells #[.int .i64 k, .string b] 55)).alloc (.cells #[.int .i64 0, .int .i64 0, .string ⟨#[]⟩] 51) := ⟨_, rfl⟩
  have hb0 : Below w.heap.size w W0 := by rw [hW0]; exact belOn (bel1 _ _) (bel1 _ _)
  have hz : W0.heap.size = w.heap.size + 2 := by rw [hW0]; simp
  have f0 : W0.cell? ⟨w.heap.size, 0, none⟩ = some (.int .i64 k) := by rw [hW0]; simp [go_sem]
  have f1 : W0.cell? ⟨w.heap.size, 1, none⟩ = some (.string b) := by rw [hW0]; simp [go_sem]
  have r0 : W0.cell? ⟨w.heap.size + 1, 0, none⟩ = some (.int .i64 0) := by rw [hW0]; simp [go_sem]
  have r1 : W0.cell? ⟨w.heap.size + 1, 1, none⟩ = some (.int .i64 0) := by rw [hW0]; simp [go_sem]
  have r2 : W0.cell? ⟨w.heap.size + 1, 2, none⟩ = some (.string ⟨#[]⟩) := by rw [hW0]; simp [go_sem]
  have y0 : W0.frozen? ⟨w.heap.size + 1, 0, none⟩ = false := by rw [hW0]; simp [go_sem]
  have y1 : W0.frozen? ⟨w.heap.size + 1, 1, none⟩ = false := by rw [hW0]; simp [go_sem]
  have y2 : W0.frozen? ⟨w.heap.size + 1, 2, none⟩ = false := by rw [hW0]; simp [go_sem]
  obtain ⟨t1, s1, g1, e1, hs1, hv1, a1, a2⟩ := tkV_open b
  obtain ⟨t2, s2, g2, e2, hs2, hv2, b1, b2⟩ := tkV_open s1
  obtain ⟨t3, s3, g3, e3, hs3, hv3, c1, c2⟩ := txV_open s2
  have HFV := hide (five_of (k := k) a1 a2 b1 b2 c1 c2)
  have HN := hide (spec_TakeNumber b W0 (by omega))
  rw [e1] at HN
  have HM := hide (fun (W : World) => spec_TakeNumber s1 W (by omega))
  rw [e2] at HM
  have HT := hide (fun (W : World) => spec_TakeText s2 W (by omega))
  rw [e3] at HT
  have HB0 := hide hb0
  have HW0 := hide hW0.symm
  have HC0 := hide (fun (W : World) (hW : Below W0.heap.size W0 W) => And.intro (bcl hW (by omega) f0) (And.intro (And.intro (bcl hW (by omega) r0) (And.intro (bcl hW (by omega) r1) (bcl hW (by omega) r2))) (And.intro ((hW.frozen (p := ⟨w.heap.size + 1, 0, none⟩) (show w.heap.size + 1 < W0.heap.size by omega)).trans y0) (And.intro ((hW.frozen (p := ⟨w.heap.size + 1, 1, none⟩) (show w.heap.size + 1 < W0.heap.size by omega)).trans y1) ((hW.frozen (p := ⟨w.heap.size + 1, 2, none⟩) (show w.heap.size + 1 < W0.heap.size by omega)).trans y2)))))
  clear e1 e2 e3 a1 a2 b1 b2 c1 c2 hW0 hb0 f0 f1 r0 r1 r2 y0 y1 y2
  go_enter Tryz.func20, Tryz.ntmps20
  go_wp2_with fail
  rw [unhide HW0]
  refine (unhide HN).mono ?_
  rintro e w1 ⟨rfl, q1, rfl⟩
  go_wp2_with fail
  refine (unhide HM _).mono ?_
  rintro e w1 ⟨rfl, q2, rfl⟩
  go_wp2_with fail
  refine (unhide HT _).mono ?_
  rintro e w1 ⟨rfl, hb1⟩
  have hb2 : Below W0.heap.size W0 w1 := ⟨hb1.os, hb1.tape, hb1.output, hb1.size, hb1.block⟩
  have hs := hb2.size
  obtain ⟨W2, hW2⟩ : ∃ W2, W2 = w1.alloc (.cells #[.int .i64 t1, .int .i64 t2, .string t3] 51) := ⟨_, rfl⟩
  have hb3 : Below w1.heap.size w1 W2 := by rw [hW2]; exact bel1 _ _
  have e0 : W2.cell? ⟨w1.heap.size, 0, none⟩ = some (.int .i64 t1) := by rw [hW2]; simp [go_sem]
  have e1 : W2.cell? ⟨w1.heap.size, 1, none⟩ = some (.int .i64 t2) := by rw [hW2]; simp [go_sem]
  have e2 : W2.cell? ⟨w1.heap.size, 2, none⟩ = some (.string t3) := by rw [hW2]; simp [go_sem]
  have HW2 := hide hW2.symm
  obtain ⟨f0, ⟨r0, r1, r2⟩, y0, y1, y2⟩ := unhide HC0 _ (belOn hb2 hb3)
  have HB3 := hide (belOn (unhide HB0) (belOn hb2 hb3))
  have hne : w1.heap.size ≠ w.heap.size + 1 := by omega
  have HLE := hide (fun (W : World) => l5Entry_calls t1 t2 t3 W (by omega))
  have HFIN := hide (fun (X : World) (hX : Below w.heap.size w X) => show Below w.heap.size w (((X.setCell ⟨w.heap.size + 1, 0, none⟩ (.int .i64 t1)).setCell ⟨w.heap.size + 1, 1, none⟩ (.int .i64 t2)).setCell ⟨w.heap.size + 1, 2, none⟩ (.string t3)) from ((hX.setCell (p := ⟨w.heap.size + 1, 0, none⟩) (Nat.le_succ _) _).setCell (p := ⟨w.heap.size + 1, 1, none⟩) (Nat.le_succ _) _).setCell (p := ⟨w.heap.size + 1, 2, none⟩) (Nat.le_succ _) _)
  obtain ⟨em, hem⟩ : ∃ em : Bool, s3.toList.isEmpty = em := ⟨_, rfl⟩
  have HEM := hide (show em = true ↔ s3.size = 0 from by rw [← hem, ByteArray.toList_eq, List.isEmpty_iff_length_eq_zero, Array.length_toList]; exact Iff.rfl)
  have hcs : (k ≠ 2) ∨ (k = 2 ∧ g1 = false) ∨ (k = 2 ∧ g1 = true ∧ g2 = false) ∨ (k = 2 ∧ g1 = true ∧ g2 = true ∧ g3 = false) ∨ (k = 2 ∧ g1 = true ∧ g2 = true ∧ g3 = true ∧ em = false) ∨ (k = 2 ∧ g1 = true ∧ g2 = true ∧ g3 = true ∧ em = true) := by
    by_cases hk : k = 2
    · cases g1 <;> cases g2 <;> cases g3 <;> cases em <;> simp [hk]
    · exact .inl hk
  have hrl := lt_of_cell r0
  have hel := lt_of_cell e0
  have hfl := lt_of_cell f0
  have A0 := Grown.cell e0 hel
  have A1 := Grown.cell e1 hel
  have A2 := Grown.cell e2 hel
  have A3 := Grown.cell f0 hfl
  have B0 := Wrote.cell (v0 := .int .i64 t1) (v1 := .int .i64 t2) (v2 := .string t3) e0 hel hne
  have B1 := Wrote.cell (v0 := .int .i64 t1) (v1 := .int .i64 t2) (v2 := .string t3) e1 hel hne
  have B2 := Wrote.cell (v0 := .int .i64 t1) (v1 := .int .i64 t2) (v2 := .string t3) e2 hel hne
  have B3 := Wrote.cell (g := w.heap.size + 1) (v0 := .int .i64 t1) (v1 := .int .i64 t2) (v2 := .string t3) f0 hfl (by omega)
  have HOV := hide (fun (x : Grown W2) => And.intro (And.intro (Grown.cell r0 hrl x) (And.intro (Grown.cell r1 hrl x) (Grown.cell r2 hrl x))) (And.intro ((x.ok.frozen (p := ⟨w.heap.size + 1, 0, none⟩) hrl).trans y0) (And.intro ((x.ok.frozen (p := ⟨w.heap.size + 1, 1, none⟩) hrl).trans y1) ((x.ok.frozen (p := ⟨w.heap.size + 1, 2, none⟩) hrl).trans y2))))
  have HWR := hide (fun (x : Grown W2) => show ∃ y : Wrote W2 (w.heap.size + 1) (.int .i64 t1) (.int .i64 t2) (.string t3), ((x.w.setCell ⟨w.heap.size + 1, 0, none⟩ (.int .i64 t1)).setCell ⟨w.heap.size + 1, 1, none⟩ (.int .i64 t2)).setCell ⟨w.heap.size + 1, 2, none⟩ (.string t3) = y.w from by
    obtain ⟨⟨x0, x1, x2⟩, _⟩ := unhide HOV x
    refine ⟨⟨_, ?_, ?_, ?_, ?_⟩, rfl⟩
    · have o1 : ∀ (X : World) (i : Nat) (v : Value), OnlyP (fun k => k = w.heap.size + 1) X (X.setCell ⟨w.heap.size + 1, i, none⟩ v) := fun X i v => have h := OnlyAt.setCell ⟨w.heap.size + 1, i, none⟩ X v; ⟨h.os, h.tape, h.output, h.size, fun k hk hn => h.block k hk hn⟩
      exact (((OnlyP.of x.ok).trans (o1 _ _ _)).trans (o1 _ _ _)).trans (o1 _ _ _)
    · exact (World.cell?_setCell_other _ _ _ _ (by simp)).trans ((World.cell?_setCell_other _ _ _ _ (by simp)).trans (World.cell?_setCell_same _ _ _ x0))
    · exact (World.cell?_setCell_other _ _ _ _ (by simp)).trans (World.cell?_setCell_same _ _ _ ((World.cell?_setCell_other _ _ _ _ (by simp)).trans x1))
    · exact World.cell?_setCell_same _ _ _ ((World.cell?_setCell_other _ _ _ _ (by simp)).trans ((World.cell?_setCell_other _ _ _ _ (by simp)).trans x2)))
  have hNG : Nonempty (Grown W2) := ⟨⟨W2, Below.refl _ _⟩⟩
  have hNW : Nonempty (Wrote W2 (w.heap.size + 1) (.int .i64 t1) (.int .i64 t2) (.string t3)) := by obtain ⟨y, _⟩ := unhide HWR ⟨W2, Below.refl _ _⟩; exact ⟨y⟩
  have HFN := hide (fun (y : Wrote W2 (w.heap.size + 1) (.int .i64 t1) (.int .i64 t2) (.string t3)) => show Below w.heap.size w y.w from (unhide HB3).trans (y.ok.below (B := w.heap.size) (fun g hg => by omega) (unhide HB3).size))
  obtain ⟨B, hB⟩ : ∃ B, entB t1 t2 t3 = B := ⟨_, rfl⟩
  rw [hB] at HLE HFV
  clear hB hW2 hb1 hb2 hb3 hs HN HM HT hz HC0 HW0 HB0 r0 r1 r2 y0 y1 y2 e0 e1 e2 f0 HFIN HB3
  rcases hcs with hk | ⟨rfl, rfl⟩ | ⟨rfl, rfl, rfl⟩ | ⟨rfl, rfl, rfl, rfl⟩ | ⟨rfl, rfl, rfl, rfl, rfl⟩ | ⟨rfl, rfl, rfl, rfl, rfl⟩
  case' inl => have hk2 : (k == 2) = false := by rw [beq_eq_false_iff_ne]; exact hk
  all_goals
    go_wp2_with fail
    rw [unhide HW2]
    refine Reg2.region_wrote (fun w' => ∃ x : Grown W2, w' = x.w) (fun w' => ∃ x : Wrote W2 (w.heap.size + 1) (.int .i64 t1) (.int .i64 t2) (.string t3), w' = x.w) 21 _ (by kernel_rfl) (by kernel_rfl) rfl rfl (by kernel_rfl) (by kernel_rfl) ⟨⟨{ W2 with drawn := W2.drawn + 1 }, ⟨rfl, rfl, rfl, Nat.le_refl _, fun _ _ => rfl⟩⟩, rfl⟩ ?_
    simp only [List.take_succ_cons, List.take_zero, List.drop_succ_cons, List.drop_zero]
    repeat (go_big_quiet_step (first | (go_at_call 58; exact calls_grown _ (unhide HLE _))))
    refine wpQuiet_nil ⟨?_, by kernel_rfl, ?_, ?_⟩
    · repeat (go_big_quiet_step (first | (go_at_call 58; exact calls_wrote _ (unhide HLE _))))
      exact wpQuiet_nil rfl
    · rintro _ ⟨x, rfl⟩
      obtain ⟨⟨x0, x1, x2⟩, z0, z1, z2⟩ := unhide HOV x
      obtain ⟨y, hy⟩ := unhide HWR x
      refine ⟨((x.w.setCell ⟨w.heap.size + 1, 0, none⟩ (.int .i64 t1)).setCell ⟨w.heap.size + 1, 1, none⟩ (.int .i64 t2)).setCell ⟨w.heap.size + 1, 2, none⟩ (.string t3), ?_, ⟨y, hy⟩⟩
      simp [go_sem, x0, x1, x2, z0, z1, z2]
    · repeat (go_big_quiet_step (fail))
      refine wpQuiet_nil ⟨?_, ?_⟩
      · repeat (go_big_quiet_step (fail))
        exact wpQuiet_nil rfl
      · rintro _ ⟨y, rfl⟩
        have y0 := y.c0
        have y1 := y.c1
        have y2 := y.c2
        go_wp2_with fail
        first
          | (refine bodyPost_ret (v := .tuple #[.agg #[.int .i64 t1, .int .i64 t2, .string t3], .bool false]) ?_ rfl ⟨t1, t2, t3, false, rfl, hv3, ?_, unhide HFN y⟩
             · simp [results, Tryz.results20, go_sem, y0, y1, y2]
               done
             · rw [unhide HFV, if_neg (fun q => by first | exact hk q.1 | exact absurd q.2.1 (by decide) | exact absurd q.2.2.1 (by decide) | exact absurd q.2.2.2.1 (by decide) | exact absurd ((unhide HEM).2 q.2.2.2.2.1) (by decide))]
               rfl)
          | (refine bodyPost_ret (v := .tuple #[.agg #[.int .i64 t1, .int .i64 t2, .string t3], .bool B]) ?_ rfl ⟨t1, t2, t3, B, rfl, hv3, ?_, unhide HFN y⟩
             · simp [results, Tryz.results20, go_sem, y0, y1, y2]
               done
             · rw [unhide HFV]
               cases B
               · rw [if_neg (fun q => absurd q.2.2.2.2.2 (by decide)), if_neg (by decide)]
               · rw [if_pos (And.intro (by trivial) (And.intro (by trivial) (And.intro (by trivial) (And.intro (by trivial) (And.intro ((unhide HEM).1 (by trivial)) (by trivial))))))]
                 rfl)
end Go.Proofs.YtjiclgcohpkkjaaGreatDoor


/- One frame, of the specification. -/
namespace Go.Proofs.YtjiclgcohpkkjaaGreatDoor
open Go.RowKit Plain
set_option linter.unusedVariables false

theorem word_calls2 (r : ByteArray) (w : World) (h : r.size = 4) :
    Calls Tryz.prog 93 #[.string r] w fun e w' => e = .returned (.int .u32 (wdI r)) ∧ ∃ k, w' = w.drewN k := by
  have e0 := bAt_get r 0 (by omega)
  have e1 := bAt_get r 1 (by omega)
  have e2 := bAt_get r 2 (by omega)
  have e3 := bAt_get r 3 (by omega)
  have l0 := bAt_lt r 0
  have l1 := bAt_lt r 1
  have l2 := bAt_lt r 2
  have l3 := bAt_lt r 3
  have hw : wdI r = hiI (bAt r 3) (bAt r 2) (bAt r 1) (bAt r 0) := rfl
  rw [← low_hi] at hw
  have HW := hide hw
  clear hw
  generalize bAt r 0 = c0 at *
  generalize bAt r 1 = c1 at *
  generalize bAt r 2 = c2 at *
  generalize bAt r 3 = c3 at *
  have s0 : (0 : Int) < (r.size : Int) := by omega
  have s1 : (1 : Int) < (r.size : Int) := by omega
  have s2 : (2 : Int) < (r.size : Int) := by omega
  have s3 : (3 : Int) < (r.size : Int) := by omega
  go_enter Tryz.func93, Tryz.ntmps93
  go_wp2_with fail
  go_quiet (fail)
  go_wp2_with fail
  go_ret
  exact ⟨by rw [unhide HW]; rfl, _, rfl⟩

theorem word_quiet2 (r : ByteArray) (w : World) (q n : Nat) (h : r.size = 4) :
    Calls Tryz.prog 93 #[.string r] (w.drewN (q + n)) fun e w' => e = .returned (.int .u32 (wdI r)) ∧ ∃ m, w' = w.drewN (q + m) :=
  (word_calls2 r _ h).mono fun _ _ ⟨he, m, hm⟩ => ⟨he, n + m, by rw [hm, World.drewN_drewN, Nat.add_assoc]⟩

theorem specCrc_quiet2 (s : ByteArray) (w : World) (q n : Nat) (hs : s.size ≤ 1000000000000) :
    Calls Tryz.prog 94 #[.string s] (w.drewN (q + n)) fun e w' => e = .returned (.int .u32 (crcI s)) ∧ ∃ m, w' = w.drewN (q + m) :=
  (spec_Crc s _ hs).mono fun _ _ ⟨he, hm⟩ => ⟨he, n, hm.symm⟩

def spV (r : ByteArray) : Value := if frC r = 0 then .tuple #[.agg #[.int .i64 (bAt r 0 : Nat), .string (frB r)], .int .i64 (frN r : Nat), .int .i64 0] else .tuple #[.agg #[.int .i64 0, .string ⟨#[]⟩], .int .i64 0, .int .i64 (frC r)]
theorem spV_bad {r : ByteArray} {c : Int} (h : frC r = c) (hc : c ≠ 0) : spV r = .tuple #[.agg #[.int .i64 0, .string ⟨#[]⟩], .int .i64 0, .int .i64 c] := by unfold spV; rw [h, if_neg hc]
theorem frC_sz {r : ByteArray} {c : Int} {n : Nat} (h : szI r = (c, n)) (hc : c ≠ 0) : frC r = c := by unfold frC; rw [h, if_pos hc]

set_option maxRecDepth 10000 in
set_option maxHeartbeats 2000000 in
theorem l2Frame_calls (r : ByteArray) (w : World) (h : 1 ≤ r.size) (hs : r.size ≤ 1000000000) :
    Calls Tryz.prog 57 #[.string r] w fun e w' => e = .returned (spV r) ∧ Below w.heap.size w w' := by
  have e0 := bAt_get r 0 (by omega)
  have l0 := bAt_lt r 0
  have s0 : (0 : Int) < (r.size : Int) := by omega
  by_cases h1 : bAt r 0 < 1 ∨ 100 < bAt r 0
  · have hv := hide (spV_bad (frC_sz (show szI r = (2, 0) by unfold szI; rw [if_pos h1]) (by decide)) (by decide))
    have hin : (decide (1 ≤ (bAt r 0 : Int)) && decide ((bAt r 0 : Int) ≤ 100)) = false := by simp; omega
    generalize bAt r 0 = c0 at *
    go_enter Tryz.func57, Tryz.ntmps57
    go_wp2_with fail
    refine (l1In_calls _ _ _ _).mono ?_
    rintro e w1 ⟨rfl, rfl⟩
    rw [hin]
    go_wp2_with fail
    refine bodyPost_ret (v := .tuple #[.agg #[.int .i64 0, .string ⟨#[]⟩], .int .i64 0, .int .i64 2]) ?_ rfl ⟨by rw [unhide hv], ?_⟩
    · simp [results, Tryz.results57, go_sem]
    · exact ((Below.refl _ _).alloc (Nat.le_refl _) _).alloc (by simp) _
  · have k1 : 1 ≤ bAt r 0 := by omega
    have k2 : bAt r 0 ≤ 100 := by omega
    have hin : (decide (1 ≤ (bAt r 0 : Int)) && decide ((bAt r 0 : Int) ≤ 100)) = true := by simp; omega
    by_cases h3 : r.size < 5
    · have hv := hide (spV_bad (frC_sz (show szI r = (1, 0) by unfold szI; rw [if_neg h1, if_pos h3]) (by decide)) (by decide))
      generalize bAt r 0 = c0 at *
      go_enter Tryz.func57, Tryz.ntmps57
      go_wp2_with fail
      refine (l1In_calls _ _ _ _).mono ?_
      rintro e w1 ⟨rfl, rfl⟩
      rw [hin]
      go_wp2_with fail
      refine bodyPost_ret (v := .tuple #[.agg #[.int .i64 0, .string ⟨#[]⟩], .int .i64 0, .int .i64 1]) ?_ rfl ⟨by rw [unhide hv], ?_⟩
      · simp [results, Tryz.results57, go_sem]
      · exact ((Below.refl _ _).alloc (Nat.le_refl _) _).alloc (by simp) _
    · have hx : (r.extract 1 5).size = 4 := by simp; omega
      have hwd := wdI_word (r.extract 1 5)
      obtain ⟨N, hN⟩ := Int.eq_ofNat_of_zero_le hwd.1
      have hsz : szI r = if 20000 < wdI (r.extract 1 5) then (3, 0) else if r.size < 9 + (wdI (r.extract 1 5)).toNat then (1, 0) else (0, 9 + (wdI (r.extract 1 5)).toNat) := by unfold szI; rw [if_neg h1, if_neg h3]
      rw [hN, Int.toNat_natCast] at hsz
      rw [hN] at hwd
      have HN := hide hN
      have HSZ := hide hsz
      clear hN hsz
      have HC := hide (show (bAt r 0 : Int) = (bAt r 0 : Int) from rfl)
      obtain ⟨c0, hc0⟩ : ∃ c0, bAt r 0 = c0 := ⟨_, rfl⟩
      have HC0 := hide hc0
      rw [hc0] at e0 l0 k1 k2 hin
      clear hc0 h1 HC
      obtain ⟨wb, hwb⟩ : ∃ wb, (w.alloc (.cells #[.int .i64 0, .string ⟨#[]⟩] 55)).alloc (.cells #[.int .i64 0, .string ⟨#[]⟩] 55) = wb := ⟨_, rfl⟩
      have hbb : Below w.heap.size w wb := by rw [← hwb]; exact ((Below.refl _ _).alloc (Nat.le_refl _) _).alloc (by simp) _
      have hr2 : wb.heap[w.heap.size]? = some (.cells #[.int .i64 0, .string ⟨#[]⟩] 55 (0, 0)) := by rw [← hwb]; exact (h_old _ _ (by simp)).trans (h_new w _ rfl)
      have hr3 : wb.heap[w.heap.size + 1]? = some (.cells #[.int .i64 0, .string ⟨#[]⟩] 55 (0, 0)) := by rw [← hwb]; exact h_new _ _ (by simp)
      have g0 : wb.cell? ⟨w.heap.size, 0, none⟩ = some (.int .i64 0) := cell_of_row wb _ 0 _ _ _ hr2
      have g1 : wb.cell? ⟨w.heap.size, 1, none⟩ = some (.string ⟨#[]⟩) := cell_of_row wb _ 1 _ _ _ hr2
      have z0 : wb.frozen? ⟨w.heap.size, 0, none⟩ = false := frozen_of_row wb _ 0 _ _ hr2
      have z1 : wb.frozen? ⟨w.heap.size, 1, none⟩ = false := frozen_of_row wb _ 1 _ _ hr2
      have g2 : wb.cell? ⟨w.heap.size + 1, 0, none⟩ = some (.int .i64 0) := cell_of_row wb _ 0 _ _ _ hr3
      have g3 : wb.cell? ⟨w.heap.size + 1, 1, none⟩ = some (.string ⟨#[]⟩) := cell_of_row wb _ 1 _ _ _ hr3
      have HWB := hide hwb
      have HBB := hide hbb
      clear hwb hbb hr2 hr3
      go_enter Tryz.func57, Tryz.ntmps57
      go_wp2_with fail
      refine (l1In_calls _ _ _ _).mono ?_
      rintro e w1 ⟨rfl, rfl⟩
      rw [hin]
      go_wp2_with fail
      rw [unhide HWB]
      refine (word_calls2 _ _ hx).mono ?_
      rintro e w2 ⟨rfl, kk, rfl⟩
      rw [unhide HN]
      by_cases h4 : 20000 < N
      · have hsz := unhide HSZ
        rw [if_pos (by omega)] at hsz
        have hv := hide (spV_bad (frC_sz hsz (by decide)) (by decide))
        clear hsz HSZ HN
        go_wp2_with fail
        refine bodyPost_ret (v := .tuple #[.agg #[.int .i64 0, .string ⟨#[]⟩], .int .i64 0, .int .i64 3]) ?_ rfl ⟨by rw [unhide hv], ((below_drewN (unhide HBB) _).setCell (Nat.le_refl _) _).setCell (Nat.le_refl _) _⟩
        simp [results, Tryz.results57, go_sem, g0, g1]
      · have hsz := unhide HSZ
        rw [if_neg (by omega)] at hsz
        by_cases h5 : r.size < 9 + N
        · rw [if_pos h5] at hsz
          have hv := hide (spV_bad (frC_sz hsz (by decide)) (by decide))
          clear hsz HSZ HN
          go_wp2_with fail
          refine bodyPost_ret (v := .tuple #[.agg #[.int .i64 0, .string ⟨#[]⟩], .int .i64 0, .int .i64 1]) ?_ rfl ⟨by rw [unhide hv], ((below_drewN (unhide HBB) _).setCell (Nat.le_refl _) _).setCell (Nat.le_refl _) _⟩
          simp [results, Tryz.results57, go_sem, g0, g1]
        · rw [if_neg h5] at hsz
          obtain ⟨m, hm⟩ : ∃ m, N + 5 = m := ⟨_, rfl⟩
          have hm9 : 9 + N = m + 4 := by omega
          rw [hm9] at hsz h5
          have hmi : 9 + (N : Int) = (m : Int) + 4 := by omega
          have hfc : frC r = if crcI (r.extract 0 m) = wdI (r.extract m (m + 4)) then 0 else 4 := by unfold frC; rw [hsz, if_neg (by simp)]; simp
          have hfn : frN r = m + 4 := by unfold frN; rw [hsz]
          have hfb : frB r = r.extract 5 m := by unfold frB; rw [hfn, Nat.add_sub_cancel]
          have f2 : (r.extract 0 m).size = m := by simp; omega
          have f4 : (r.extract m (m + 4)).size = 4 := by simp; omega
          have i0 : (m : Int) + 4 ≤ (r.size : Int) := by omega
          have i1 : (5 : Int) ≤ (m : Int) := by omega
          have hm6 : m ≤ 20005 := by omega
          clear hsz HSZ HN hm9 hm
          obtain ⟨tl, htl⟩ : ∃ tl, r.extract m (m + 4) = tl := ⟨_, rfl⟩
          obtain ⟨bd, hbd⟩ : ∃ bd, r.extract 5 m = bd := ⟨_, rfl⟩
          obtain ⟨sl, hsl⟩ : ∃ sl, r.extract 0 m = sl := ⟨_, rfl⟩
          rw [hsl] at f2 hfc
          rw [htl] at f4 hfc
          rw [hbd] at hfb
          have HFB := hide hfb
          have HFC := hide hfc
          have HFN := hide hfn
          have hsl9 : sl.size ≤ 1000000000000 := by omega
          clear hfb hfc hfn
          go_wp2_with fail
          go_quiet ((first | (go_at_call 93; exact word_quiet2 _ _ _ _ f4) | (go_at_call 94; exact specCrc_quiet2 _ _ _ _ hsl9)))
          generalize crcI sl = x at HFC
          generalize wdI tl = y at HFC
          by_cases hxy : x = y
          · have hfc0 := unhide HFC
            rw [if_pos hxy] at hfc0
            have hfv : spV r = .tuple #[.agg #[.int .i64 (c0 : Int), .string bd], .int .i64 ((m + 4 : Nat) : Int), .int .i64 0] := by unfold spV; rw [if_pos hfc0, unhide HC0, unhide HFB, unhide HFN]
            have hv := hide hfv
            subst hxy
            clear hfc0 hfv HFC HFB HFN
            go_wp2_with fail
            go_region
            all_goals (try go_wp2_with fail)
            refine bodyPost_ret (v := .tuple #[.agg #[.int .i64 (c0 : Int), .string bd], .int .i64 ((m : Int) + 4), .int .i64 0]) ?_ rfl ⟨by rw [unhide hv]; rfl, ((below_drewN (unhide HBB) _).setCell (Nat.le_refl _) _).setCell (Nat.le_refl _) _⟩
            simp [results, Tryz.results57, go_sem, g0, g1]
          · have hfc4 := unhide HFC
            rw [if_neg hxy] at hfc4
            have hv := hide (spV_bad hfc4 (by decide))
            clear hfc4 HFC
            go_wp2_with fail
            refine bodyPost_ret (v := .tuple #[.agg #[.int .i64 0, .string ⟨#[]⟩], .int .i64 0, .int .i64 4]) ?_ rfl ⟨by rw [unhide hv], ((below_drewN (unhide HBB) _).setCell (Nat.le_refl _) _).setCell (Nat.le_refl _) _⟩
            simp [results, Tryz.results57, go_sem, g0, g1]
end Go.Proofs.YtjiclgcohpkkjaaGreatDoor

