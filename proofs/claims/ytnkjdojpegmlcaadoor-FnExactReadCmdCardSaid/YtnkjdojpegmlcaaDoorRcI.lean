/- The program's reader of rows: numbers, texts, its end; ReadCmd. -/
import Derived.Test.YtnkjdojpegmlcaaDoorRcM
import Derived.Test.YtnkjdojpegmlcaaDoorFmdI
import Derived.LoopN
namespace Go.Proofs.YtnkjdojpegmlcaaDoor
open Go.RowKit Plain
set_option linter.unusedVariables false

namespace Plain
/-- A reader at R and a command at B. -/
structure RSt (w : World) (R B : Nat) (s : ByteArray) (p : Nat) (f : Bool) (a b c : Int) (r t d x : ByteArray) : Prop where
  t0 : w.cell? ⟨R, 0, none⟩ = some (.string s)
  t1 : w.cell? ⟨R, 1, none⟩ = some (.int .i64 p)
  t2 : w.cell? ⟨R, 2, none⟩ = some (.bool f)
  z1 : w.frozen? ⟨R, 1, none⟩ = false
  z2 : w.frozen? ⟨R, 2, none⟩ = false
  c0 : w.cell? ⟨B, 0, none⟩ = some (.int .i64 a)
  c1 : w.cell? ⟨B, 1, none⟩ = some (.int .i64 b)
  c2 : w.cell? ⟨B, 2, none⟩ = some (.int .i64 c)
  c3 : w.cell? ⟨B, 3, none⟩ = some (.string r)
  c4 : w.cell? ⟨B, 4, none⟩ = some (.string t)
  c5 : w.cell? ⟨B, 5, none⟩ = some (.string d)
  c6 : w.cell? ⟨B, 6, none⟩ = some (.string x)
  y0 : w.frozen? ⟨B, 0, none⟩ = false
  y1 : w.frozen? ⟨B, 1, none⟩ = false
  y2 : w.frozen? ⟨B, 2, none⟩ = false
  y3 : w.frozen? ⟨B, 3, none⟩ = false
  y4 : w.frozen? ⟨B, 4, none⟩ = false
  y5 : w.frozen? ⟨B, 5, none⟩ = false
  y6 : w.frozen? ⟨B, 6, none⟩ = false
  ne : R ≠ B
theorem addr_ne {b c i j : Nat} (h : b ≠ c) : (⟨b, i, none⟩ : Addr) ≠ ⟨c, j, none⟩ := fun e => h (congrArg Addr.block e)
theorem addr_no {b c i j : Nat} (h : i ≠ j) : (⟨b, i, none⟩ : Addr) ≠ ⟨c, j, none⟩ := fun e => h (by injection e)
section
variable {w w' : World} {R B : Nat} {s : ByteArray} {p : Nat} {f : Bool} {a b c : Int} {r t d x : ByteArray}
theorem RSt.only (h : RSt w R B s p f a b c r t d x) (ho : OnlyAt ⟨R, 1, none⟩ w w') {p' : Nat} (hq : w'.cell? ⟨R, 1, none⟩ = some (.int .i64 p')) : RSt w' R B s p' f a b c r t d x :=
  have lr := lt_of_cell h.t0
  have lb := lt_of_cell h.c0
  ⟨(ho.cell ⟨R, 0, none⟩ lr (addr_no (by decide))).trans h.t0, hq, (ho.cell ⟨R, 2, none⟩ lr (addr_no (by decide))).trans h.t2, (ho.frozen ⟨R, 1, none⟩ lr).trans h.z1, (ho.frozen ⟨R, 2, none⟩ lr).trans h.z2,
   (ho.cell ⟨B, 0, none⟩ lb (addr_ne h.ne.symm)).trans h.c0, (ho.cell ⟨B, 1, none⟩ lb (addr_ne h.ne.symm)).trans h.c1, (ho.cell ⟨B, 2, none⟩ lb (addr_ne h.ne.symm)).trans h.c2, (ho.cell ⟨B, 3, none⟩ lb (addr_ne h.ne.symm)).trans h.c3, (ho.cell ⟨B, 4, none⟩ lb (addr_ne h.ne.symm)).trans h.c4, (ho.cell ⟨B, 5, none⟩ lb (addr_ne h.ne.symm)).trans h.c5, (ho.cell ⟨B, 6, none⟩ lb (addr_ne h.ne.symm)).trans h.c6,
   (ho.frozen ⟨B, 0, none⟩ lb).trans h.y0, (ho.frozen ⟨B, 1, none⟩ lb).trans h.y1, (ho.frozen ⟨B, 2, none⟩ lb).trans h.y2, (ho.frozen ⟨B, 3, none⟩ lb).trans h.y3, (ho.frozen ⟨B, 4, none⟩ lb).trans h.y4, (ho.frozen ⟨B, 5, none⟩ lb).trans h.y5, (ho.frozen ⟨B, 6, none⟩ lb).trans h.y6, h.ne⟩
theorem RSt.keep (h : RSt w R B s p f a b c r t d x) (hb : Below w.heap.size w w') : RSt w' R B s p f a b c r t d x :=
  have lr := lt_of_cell h.t0
  have lb := lt_of_cell h.c0
  ⟨bcl hb lr h.t0, bcl hb lr h.t1, bcl hb lr h.t2, (hb.frozen (p := ⟨R, 1, none⟩) lr).trans h.z1, (hb.frozen (p := ⟨R, 2, none⟩) lr).trans h.z2,
   bcl hb lb h.c0, bcl hb lb h.c1, bcl hb lb h.c2, bcl hb lb h.c3, bcl hb lb h.c4, bcl hb lb h.c5, bcl hb lb h.c6,
   (hb.frozen (p := ⟨B, 0, none⟩) lb).trans h.y0, (hb.frozen (p := ⟨B, 1, none⟩) lb).trans h.y1, (hb.frozen (p := ⟨B, 2, none⟩) lb).trans h.y2, (hb.frozen (p := ⟨B, 3, none⟩) lb).trans h.y3, (hb.frozen (p := ⟨B, 4, none⟩) lb).trans h.y4, (hb.frozen (p := ⟨B, 5, none⟩) lb).trans h.y5, (hb.frozen (p := ⟨B, 6, none⟩) lb).trans h.y6, h.ne⟩
theorem RSt.set0 (h : RSt w R B s p f a b c r t d x) (v : Int) (g : Bool) : RSt ((w.setCell ⟨B, 0, none⟩ (.int .i64 v)).setCell ⟨R, 2, none⟩ (.bool g)) R B s p g v b c r t d x := by
  have hne := h.ne
  have hne' := h.ne.symm
  have oo : ∀ q : Addr, q ≠ ⟨B, 0, none⟩ → q ≠ ⟨R, 2, none⟩ → ((w.setCell ⟨B, 0, none⟩ (.int .i64 v)).setCell ⟨R, 2, none⟩ (.bool g)).cell? q = w.cell? q := fun q h1 h2 => (World.cell?_setCell_other _ _ _ _ (fun e => h2 e.symm)).trans (World.cell?_setCell_other _ _ _ _ (fun e => h1 e.symm))
  have ff : ∀ q : Addr, ((w.setCell ⟨B, 0, none⟩ (.int .i64 v)).setCell ⟨R, 2, none⟩ (.bool g)).frozen? q = w.frozen? q := fun q => by simp
  refine ⟨(oo _ (addr_ne hne) (addr_no (by decide))).trans h.t0, (oo _ (addr_ne hne) (addr_no (by decide))).trans h.t1, World.cell?_setCell_same _ _ _ ((World.cell?_setCell_other _ _ _ _ (addr_ne hne')).trans h.t2), (ff _).trans h.z1, (ff _).trans h.z2,
    (World.cell?_setCell_other _ _ _ _ (addr_ne hne)).trans (World.cell?_setCell_same _ _ _ h.c0), (oo _ (addr_no (by decide)) (addr_ne hne')).trans h.c1, (oo _ (addr_no (by decide)) (addr_ne hne')).trans h.c2, (oo _ (addr_no (by decide)) (addr_ne hne')).trans h.c3, (oo _ (addr_no (by decide)) (addr_ne hne')).trans h.c4, (oo _ (addr_no (by decide)) (addr_ne hne')).trans h.c5, (oo _ (addr_no (by decide)) (addr_ne hne')).trans h.c6,
    (ff _).trans h.y0, (ff _).trans h.y1, (ff _).trans h.y2, (ff _).trans h.y3, (ff _).trans h.y4, (ff _).trans h.y5, (ff _).trans h.y6, h.ne⟩
theorem RSt.set1 (h : RSt w R B s p f a b c r t d x) (v : Int) (g : Bool) : RSt ((w.setCell ⟨B, 1, none⟩ (.int .i64 v)).setCell ⟨R, 2, none⟩ (.bool g)) R B s p g a v c r t d x := by
  have hne := h.ne
  have hne' := h.ne.symm
  have oo : ∀ q : Addr, q ≠ ⟨B, 1, none⟩ → q ≠ ⟨R, 2, none⟩ → ((w.setCell ⟨B, 1, none⟩ (.int .i64 v)).setCell ⟨R, 2, none⟩ (.bool g)).cell? q = w.cell? q := fun q h1 h2 => (World.cell?_setCell_other _ _ _ _ (fun e => h2 e.symm)).trans (World.cell?_setCell_other _ _ _ _ (fun e => h1 e.symm))
  have ff : ∀ q : Addr, ((w.setCell ⟨B, 1, none⟩ (.int .i64 v)).setCell ⟨R, 2, none⟩ (.bool g)).frozen? q = w.frozen? q := fun q => by simp
  refine ⟨(oo _ (addr_ne hne) (addr_no (by decide))).trans h.t0, (oo _ (addr_ne hne) (addr_no (by decide))).trans h.t1, World.cell?_setCell_same _ _ _ ((World.cell?_setCell_other _ _ _ _ (addr_ne hne')).trans h.t2), (ff _).trans h.z1, (ff _).trans h.z2,
    (oo _ (addr_no (by decide)) (addr_ne hne')).trans h.c0, (World.cell?_setCell_other _ _ _ _ (addr_ne hne)).trans (World.cell?_setCell_same _ _ _ h.c1), (oo _ (addr_no (by decide)) (addr_ne hne')).trans h.c2, (oo _ (addr_no (by decide)) (addr_ne hne')).trans h.c3, (oo _ (addr_no (by decide)) (addr_ne hne')).trans h.c4, (oo _ (addr_no (by decide)) (addr_ne hne')).trans h.c5, (oo _ (addr_no (by decide)) (addr_ne hne')).trans h.c6,
    (ff _).trans h.y0, (ff _).trans h.y1, (ff _).trans h.y2, (ff _).trans h.y3, (ff _).trans h.y4, (ff _).trans h.y5, (ff _).trans h.y6, h.ne⟩
theorem RSt.set2 (h : RSt w R B s p f a b c r t d x) (v : Int) (g : Bool) : RSt ((w.setCell ⟨B, 2, none⟩ (.int .i64 v)).setCell ⟨R, 2, none⟩ (.bool g)) R B s p g a b v r t d x := by
  have hne := h.ne
  have hne' := h.ne.symm
  have oo : ∀ q : Addr, q ≠ ⟨B, 2, none⟩ → q ≠ ⟨R, 2, none⟩ → ((w.setCell ⟨B, 2, none⟩ (.int .i64 v)).setCell ⟨R, 2, none⟩ (.bool g)).cell? q = w.cell? q := fun q h1 h2 => (World.cell?_setCell_other _ _ _ _ (fun e => h2 e.symm)).trans (World.cell?_setCell_other _ _ _ _ (fun e => h1 e.symm))
  have ff : ∀ q : Addr, ((w.setCell ⟨B, 2, none⟩ (.int .i64 v)).setCell ⟨R, 2, none⟩ (.bool g)).frozen? q = w.frozen? q := fun q => by simp
  refine ⟨(oo _ (addr_ne hne) (addr_no (by decide))).trans h.t0, (oo _ (addr_ne hne) (addr_no (by decide))).trans h.t1, World.cell?_setCell_same _ _ _ ((World.cell?_setCell_other _ _ _ _ (addr_ne hne')).trans h.t2), (ff _).trans h.z1, (ff _).trans h.z2,
    (oo _ (addr_no (by decide)) (addr_ne hne')).trans h.c0, (oo _ (addr_no (by decide)) (addr_ne hne')).trans h.c1, (World.cell?_setCell_other _ _ _ _ (addr_ne hne)).trans (World.cell?_setCell_same _ _ _ h.c2), (oo _ (addr_no (by decide)) (addr_ne hne')).trans h.c3, (oo _ (addr_no (by decide)) (addr_ne hne')).trans h.c4, (oo _ (addr_no (by decide)) (addr_ne hne')).trans h.c5, (oo _ (addr_no (by decide)) (addr_ne hne')).trans h.c6,
    (ff _).trans h.y0, (ff _).trans h.y1, (ff _).trans h.y2, (ff _).trans h.y3, (ff _).trans h.y4, (ff _).trans h.y5, (ff _).trans h.y6, h.ne⟩
theorem RSt.set3 (h : RSt w R B s p f a b c r t d x) (v : ByteArray) (g : Bool) : RSt ((w.setCell ⟨B, 3, none⟩ (.string v)).setCell ⟨R, 2, none⟩ (.bool g)) R B s p g a b c v t d x := by
  have hne := h.ne
  have hne' := h.ne.symm
  have oo : ∀ q : Addr, q ≠ ⟨B, 3, none⟩ → q ≠ ⟨R, 2, none⟩ → ((w.setCell ⟨B, 3, none⟩ (.string v)).setCell ⟨R, 2, none⟩ (.bool g)).cell? q = w.cell? q := fun q h1 h2 => (World.cell?_setCell_other _ _ _ _ (fun e => h2 e.symm)).trans (World.cell?_setCell_other _ _ _ _ (fun e => h1 e.symm))
  have ff : ∀ q : Addr, ((w.setCell ⟨B, 3, none⟩ (.string v)).setCell ⟨R, 2, none⟩ (.bool g)).frozen? q = w.frozen? q := fun q => by simp
  refine ⟨(oo _ (addr_ne hne) (addr_no (by decide))).trans h.t0, (oo _ (addr_ne hne) (addr_no (by decide))).trans h.t1, World.cell?_setCell_same _ _ _ ((World.cell?_setCell_other _ _ _ _ (addr_ne hne')).trans h.t2), (ff _).trans h.z1, (ff _).trans h.z2,
    (oo _ (addr_no (by decide)) (addr_ne hne')).trans h.c0, (oo _ (addr_no (by decide)) (addr_ne hne')).trans h.c1, (oo _ (addr_no (by decide)) (addr_ne hne')).trans h.c2, (World.cell?_setCell_other _ _ _ _ (addr_ne hne)).trans (World.cell?_setCell_same _ _ _ h.c3), (oo _ (addr_no (by decide)) (addr_ne hne')).trans h.c4, (oo _ (addr_no (by decide)) (addr_ne hne')).trans h.c5, (oo _ (addr_no (by decide)) (addr_ne hne')).trans h.c6,
    (ff _).trans h.y0, (ff _).trans h.y1, (ff _).trans h.y2, (ff _).trans h.y3, (ff _).trans h.y4, (ff _).trans h.y5, (ff _).trans h.y6, h.ne⟩
theorem RSt.set4 (h : RSt w R B s p f a b c r t d x) (v : ByteArray) (g : Bool) : RSt ((w.setCell ⟨B, 4, none⟩ (.string v)).setCell ⟨R, 2, none⟩ (.bool g)) R B s p g a b c r v d x := by
  have hne := h.ne
  have hne' := h.ne.symm
  have oo : ∀ q : Addr, q ≠ ⟨B, 4, none⟩ → q ≠ ⟨R, 2, none⟩ → ((w.setCell ⟨B, 4, none⟩ (.string v)).setCell ⟨R, 2, none⟩ (.bool g)).cell? q = w.cell? q := fun q h1 h2 => (World.cell?_setCell_other _ _ _ _ (fun e => h2 e.symm)).trans (World.cell?_setCell_other _ _ _ _ (fun e => h1 e.symm))
  have ff : ∀ q : Addr, ((w.setCell ⟨B, 4, none⟩ (.string v)).setCell ⟨R, 2, none⟩ (.bool g)).frozen? q = w.frozen? q := fun q => by simp
  refine ⟨(oo _ (addr_ne hne) (addr_no (by decide))).trans h.t0, (oo _ (addr_ne hne) (addr_no (by decide))).trans h.t1, World.cell?_setCell_same _ _ _ ((World.cell?_setCell_other _ _ _ _ (addr_ne hne')).trans h.t2), (ff _).trans h.z1, (ff _).trans h.z2,
    (oo _ (addr_no (by decide)) (addr_ne hne')).trans h.c0, (oo _ (addr_no (by decide)) (addr_ne hne')).trans h.c1, (oo _ (addr_no (by decide)) (addr_ne hne')).trans h.c2, (oo _ (addr_no (by decide)) (addr_ne hne')).trans h.c3, (World.cell?_setCell_other _ _ _ _ (addr_ne hne)).trans (World.cell?_setCell_same _ _ _ h.c4), (oo _ (addr_no (by decide)) (addr_ne hne')).trans h.c5, (oo _ (addr_no (by decide)) (addr_ne hne')).trans h.c6,
    (ff _).trans h.y0, (ff _).trans h.y1, (ff _).trans h.y2, (ff _).trans h.y3, (ff _).trans h.y4, (ff _).trans h.y5, (ff _).trans h.y6, h.ne⟩
theorem RSt.set5 (h : RSt w R B s p f a b c r t d x) (v : ByteArray) (g : Bool) : RSt ((w.setCell ⟨B, 5, none⟩ (.string v)).setCell ⟨R, 2, none⟩ (.bool g)) R B s p g a b c r t v x := by
  have hne := h.ne
  have hne' := h.ne.symm
  have oo : ∀ q : Addr, q ≠ ⟨B, 5, none⟩ → q ≠ ⟨R, 2, none⟩ → ((w.setCell ⟨B, 5, none⟩ (.string v)).setCell ⟨R, 2, none⟩ (.bool g)).cell? q = w.cell? q := fun q h1 h2 => (World.cell?_setCell_other _ _ _ _ (fun e => h2 e.symm)).trans (World.cell?_setCell_other _ _ _ _ (fun e => h1 e.symm))
  have ff : ∀ q : Addr, ((w.setCell ⟨B, 5, none⟩ (.string v)).setCell ⟨R, 2, none⟩ (.bool g)).frozen? q = w.frozen? q := fun q => by simp
  refine ⟨(oo _ (addr_ne hne) (addr_no (by decide))).trans h.t0, (oo _ (addr_ne hne) (addr_no (by decide))).trans h.t1, World.cell?_setCell_same _ _ _ ((World.cell?_setCell_other _ _ _ _ (addr_ne hne')).trans h.t2), (ff _).trans h.z1, (ff _).trans h.z2,
    (oo _ (addr_no (by decide)) (addr_ne hne')).trans h.c0, (oo _ (addr_no (by decide)) (addr_ne hne')).trans h.c1, (oo _ (addr_no (by decide)) (addr_ne hne')).trans h.c2, (oo _ (addr_no (by decide)) (addr_ne hne')).trans h.c3, (oo _ (addr_no (by decide)) (addr_ne hne')).trans h.c4, (World.cell?_setCell_other _ _ _ _ (addr_ne hne)).trans (World.cell?_setCell_same _ _ _ h.c5), (oo _ (addr_no (by decide)) (addr_ne hne')).trans h.c6,
    (ff _).trans h.y0, (ff _).trans h.y1, (ff _).trans h.y2, (ff _).trans h.y3, (ff _).trans h.y4, (ff _).trans h.y5, (ff _).trans h.y6, h.ne⟩
theorem RSt.set6 (h : RSt w R B s p f a b c r t d x) (v : ByteArray) (g : Bool) : RSt ((w.setCell ⟨B, 6, none⟩ (.string v)).setCell ⟨R, 2, none⟩ (.bool g)) R B s p g a b c r t d v := by
  have hne := h.ne
  have hne' := h.ne.symm
  have oo : ∀ q : Addr, q ≠ ⟨B, 6, none⟩ → q ≠ ⟨R, 2, none⟩ → ((w.setCell ⟨B, 6, none⟩ (.string v)).setCell ⟨R, 2, none⟩ (.bool g)).cell? q = w.cell? q := fun q h1 h2 => (World.cell?_setCell_other _ _ _ _ (fun e => h2 e.symm)).trans (World.cell?_setCell_other _ _ _ _ (fun e => h1 e.symm))
  have ff : ∀ q : Addr, ((w.setCell ⟨B, 6, none⟩ (.string v)).setCell ⟨R, 2, none⟩ (.bool g)).frozen? q = w.frozen? q := fun q => by simp
  refine ⟨(oo _ (addr_ne hne) (addr_no (by decide))).trans h.t0, (oo _ (addr_ne hne) (addr_no (by decide))).trans h.t1, World.cell?_setCell_same _ _ _ ((World.cell?_setCell_other _ _ _ _ (addr_ne hne')).trans h.t2), (ff _).trans h.z1, (ff _).trans h.z2,
    (oo _ (addr_no (by decide)) (addr_ne hne')).trans h.c0, (oo _ (addr_no (by decide)) (addr_ne hne')).trans h.c1, (oo _ (addr_no (by decide)) (addr_ne hne')).trans h.c2, (oo _ (addr_no (by decide)) (addr_ne hne')).trans h.c3, (oo _ (addr_no (by decide)) (addr_ne hne')).trans h.c4, (oo _ (addr_no (by decide)) (addr_ne hne')).trans h.c5, (World.cell?_setCell_other _ _ _ _ (addr_ne hne)).trans (World.cell?_setCell_same _ _ _ h.c6),
    (ff _).trans h.y0, (ff _).trans h.y1, (ff _).trans h.y2, (ff _).trans h.y3, (ff _).trans h.y4, (ff _).trans h.y5, (ff _).trans h.y6, h.ne⟩
end
theorem num_open (s : ByteArray) (p : Nat) (hp : p ≤ s.size) : ∃ (v : Int) (g : Bool) (p' : Nat), numV (tkN s p) = .tuple #[.int .i64 v, .bool g] ∧ numAt p (tkN s p) = p' ∧ p' ≤ s.size ∧ ∀ f, MoR (stp s p) p' f (f || !g) v := by
  cases h : tkN s p with
  | none => exact ⟨0, false, p, rfl, rfl, hp, fun f => .inl ⟨by simp, .inr (by unfold stp; rw [h]; rfl)⟩⟩
  | some y =>
    obtain ⟨v, l⟩ := y
    have := tkN_le h
    refine ⟨v, true, p + l, rfl, rfl, by omega, fun f => ?_⟩
    cases f with
    | true => exact .inl ⟨rfl, .inl rfl⟩
    | false => exact .inr ⟨rfl, rfl, by unfold stp; rw [h]; rfl⟩
theorem fld_open (s : ByteArray) (p : Nat) (hp : p ≤ s.size) : ∃ (v : ByteArray) (g : Bool) (p' : Nat), fldV s p (tkT s p) = .tuple #[.string v, .bool g] ∧ fldAt p (tkT s p) = p' ∧ p' ≤ s.size ∧ v.size ≤ 20000 ∧ ∀ f, MoR (txp s p) p' f (f || !g) v := by
  cases h : tkT s p with
  | none => exact ⟨⟨#[]⟩, false, p, rfl, rfl, hp, by decide, fun f => .inl ⟨by simp, .inr (by unfold txp; rw [h]; rfl)⟩⟩
  | some y =>
    obtain ⟨l, v⟩ := y
    have := tkT_le h
    refine ⟨s.extract (p + l) (p + l + v), true, p + l + v, rfl, rfl, by omega, by rw [ByteArray.size_extract]; omega, fun f => ?_⟩
    cases f with
    | true => exact .inl ⟨rfl, .inl rfl⟩
    | false => exact .inr ⟨rfl, rfl, by unfold txp; rw [h]; rfl⟩
/-- What was read so far of three numbers. -/
def Ch3 (s : ByteArray) (p : Nat) (f : Bool) (k p' : Nat) (f' : Bool) (a b c : Int) : Prop := match k with
  | 0 => p' = p ∧ f' = f
  | 1 => MoR (stp s p) p' f f' a
  | 2 => ∃ p1 f1, MoR (stp s p) p1 f f1 a ∧ MoR (stp s p1) p' f1 f' b
  | _ => ∃ p1 f1 p2 f2, MoR (stp s p) p1 f f1 a ∧ MoR (stp s p1) p2 f1 f2 b ∧ MoR (stp s p2) p' f2 f' c
/-- What was read so far of four texts. -/
def Ch4 (s : ByteArray) (p : Nat) (f : Bool) (k p' : Nat) (f' : Bool) (r t d x : ByteArray) : Prop := match k with
  | 0 => p' = p ∧ f' = f
  | 1 => MoR (txp s p) p' f f' r
  | 2 => ∃ p1 f1, MoR (txp s p) p1 f f1 r ∧ MoR (txp s p1) p' f1 f' t
  | 3 => ∃ p1 f1 p2 f2, MoR (txp s p) p1 f f1 r ∧ MoR (txp s p1) p2 f1 f2 t ∧ MoR (txp s p2) p' f2 f' d
  | _ => ∃ p1 f1 p2 f2 p3 f3, MoR (txp s p) p1 f f1 r ∧ MoR (txp s p1) p2 f1 f2 t ∧ MoR (txp s p2) p3 f2 f3 d ∧ MoR (txp s p3) p' f3 f' x
theorem Ch3.num {s : ByteArray} {p p' : Nat} {f f' : Bool} {a b c : Int} (h : Ch3 s p f 3 p' f' a b c) {α : Type} {S : Option (α × Nat)} {y : α} (hs : HasR S f y p) : HasR (stN s (stN s (stN s S))) f' (((y, a), b), c) p' := by
  obtain ⟨p1, f1, p2, f2, h1, h2, h3⟩ := h
  exact ((hs.num h1).num h2).num h3
theorem Ch4.txt {s : ByteArray} {p p' : Nat} {f f' : Bool} {r t d x : ByteArray} (h : Ch4 s p f 4 p' f' r t d x) {α : Type} {S : Option (α × Nat)} {y : α} (hs : HasR S f y p) : HasR (stT s (stT s (stT s (stT s S)))) f' ((((y, r), t), d), x) p' := by
  obtain ⟨p1, f1, p2, f2, p3, f3, h1, h2, h3, h4⟩ := h
  exact (((hs.txt h1).txt h2).txt h3).txt h4
end Plain

/-- What numbers leaves. -/
def Plain.numbersPost (s : ByteArray) (p : Nat) (f : Bool) (R B K : Nat) (r t d x : ByteArray) (w : World) (e : Ending) (w' : World) : Prop := ∃ (p' : Nat) (f' : Bool) (a' b' c' : Int), e = .returned (.tuple #[]) ∧ p' ≤ s.size ∧ RSt w' R B s p' f' a' b' c' r t d x ∧ Ch3 s p f 3 p' f' a' b' c' ∧ Below K w w'

set_option maxRecDepth 10000 in
set_option maxHeartbeats 8000000 in
theorem numbers_calls (R B S K : Nat) (s : ByteArray) (p : Nat) (f : Bool) (a b c : Int) (r t d x : ByteArray) (w : World) (h : RSt w R B s p f a b c r t d x) (hp : p ≤ s.size) (hs : s.size ≤ 1000000000000) (q0 : w.cell? ⟨S, 0, none⟩ = some (.pointer (some ⟨B, 0, none⟩))) (q1 : w.cell? ⟨S, 1, none⟩ = some (.pointer (some ⟨B, 1, none⟩))) (q2 : w.cell? ⟨S, 2, none⟩ = some (.pointer (some ⟨B, 2, none⟩))) (hSR : S ≠ R) (hSB : S ≠ B) (hKR : K ≤ R) (hKB : K ≤ B) :
    Calls Tryd.prog 21 #[.pointer (some ⟨R, 0, none⟩), .slice (some ⟨S, 0, none⟩) 3 3] w (numbersPost s p f R B K r t d x w) := by
  have HH := hide h
  have HSR := hide hSR
  have HSB := hide hSB
  have hKs : K ≤ w.heap.size := Nat.le_trans hKR (Nat.le_of_lt (lt_of_cell h.t0))
  clear h
  go_enter Tryd.func21, Tryd.ntmps21
  go_wp2_with fail
  go_loopw [10] (fun i wr => ∃ (k p' : Nat) (f' : Bool) (a' b' c' : Int), i = .int .i64 k ∧ k ≤ 3 ∧ p' ≤ s.size ∧ Hid (RSt wr R B s p' f' a' b' c' r t d x) ∧ Hid (Ch3 s p f k p' f' a' b' c') ∧ Hid (wr.cell? ⟨S, 0, none⟩ = some (.pointer (some ⟨B, 0, none⟩)) ∧ wr.cell? ⟨S, 1, none⟩ = some (.pointer (some ⟨B, 1, none⟩)) ∧ wr.cell? ⟨S, 2, none⟩ = some (.pointer (some ⟨B, 2, none⟩))) ∧ Hid (Below K w wr)) (fun i _ => 3 - (intOf i).toNat)
  case atStart => exact ⟨0, p, f, a, b, c, rfl, by omega, hp, HH, ⟨rfl, rfl⟩, ⟨q0, q1, q2⟩, Below.refl _ _⟩
  case round =>
    obtain ⟨k, p', f', a', b', c', rfl, hk, hp', HR, HC, HQ, HB⟩ := hrel
    have HK : ∀ j, k = j → k = j := fun _ h => h
    by_cases hk3 : k = 3
    · subst hk3
      go_wp2_with fail
      exact bodyPost_ret (v := .tuple #[]) (by simp [results, Tryd.results21, go_sem]) rfl ⟨p', f', a', b', c', rfl, hp', unhide HR, unhide HC, unhide HB⟩
    · have HN := hide (number_ok R 0 s p' wr (unhide HR).t0 (unhide HR).t1 (unhide HR).z1 hs hp')
      obtain ⟨v, g, p2, e1, e2, hp2, hmo⟩ := num_open s p' hp'
      rw [e1, e2] at HN
      have HM := hide (hmo f')
      have HE2 := hide e2
      clear e1 e2 hmo HK
      obtain ⟨u0, u1, u2⟩ := unhide HQ
      have lS : S < wr.heap.size := lt_of_cell u0
      obtain rfl | rfl | rfl : k = 0 ∨ k = 1 ∨ k = 2 := by omega
      · have U := hide u0
        clear hk hk3
        go_wp2_with fail
        refine (unhide HN).mono ?_
        rintro e w1 ⟨rfl, ho, hc⟩
        have hR1 := (unhide HR).only ho hc
        have HR1 := hide hR1
        have HQ1 := hide (show w1.cell? ⟨S, 0, none⟩ = some (.pointer (some ⟨B, 0, none⟩)) ∧ w1.cell? ⟨S, 1, none⟩ = some (.pointer (some ⟨B, 1, none⟩)) ∧ w1.cell? ⟨S, 2, none⟩ = some (.pointer (some ⟨B, 2, none⟩)) from ⟨(ho.cell ⟨S, 0, none⟩ lS (addr_ne (unhide HSR))).trans u0, (ho.cell ⟨S, 1, none⟩ lS (addr_ne (unhide HSR))).trans u1, (ho.cell ⟨S, 2, none⟩ lS (addr_ne (unhide HSR))).trans u2⟩)
        have hB1 : Below K w w1 := (unhide HB).trans (ho.below hKR (Nat.le_trans hKs (unhide HB).size))
        have HB1 := hide hB1
        have b2 := hR1.t2
        have b3 := hR1.z2
        have b4 := hR1.c0
        have b5 := hR1.y0
        have hs1 : K ≤ w1.heap.size := Nat.le_trans hKs hB1.size
        have hne : (⟨B, 0, none⟩ : Addr) ≠ ⟨R, 2, none⟩ := addr_ne hR1.ne.symm
        clear hR1 ho hc hB1
        cases f' <;> (
          go_wp2_with fail
          go_roundw
          case rel =>
            refine ⟨1, p2, _, v, b', c', by go_num, by omega, hp2, hide ((unhide HR1).set0 v _), hide (by obtain ⟨rfl, rfl⟩ := unhide HC; exact unhide HM), hide ?_, hide ?_⟩
            · obtain ⟨u0, u1, u2⟩ := unhide HQ1
              exact ⟨(World.cell?_setCell_other _ _ _ _ (addr_ne (unhide HSR).symm)).trans ((World.cell?_setCell_other _ _ _ _ (addr_ne (unhide HSB).symm)).trans u0), (World.cell?_setCell_other _ _ _ _ (addr_ne (unhide HSR).symm)).trans ((World.cell?_setCell_other _ _ _ _ (addr_ne (unhide HSB).symm)).trans u1), (World.cell?_setCell_other _ _ _ _ (addr_ne (unhide HSR).symm)).trans ((World.cell?_setCell_other _ _ _ _ (addr_ne (unhide HSB).symm)).trans u2)⟩
            · exact (unhide HB1).trans (((Below.refl K w1).setCell (p := ⟨B, 0, none⟩) hKB _).setCell (p := ⟨R, 2, none⟩) hKR _)
          case measure => simp [intOf])
      · have U := hide u1
        clear hk hk3
        go_wp2_with fail
        refine (unhide HN).mono ?_
        rintro e w1 ⟨rfl, ho, hc⟩
        have hR1 := (unhide HR).only ho hc
        have HR1 := hide hR1
        have HQ1 := hide (show w1.cell? ⟨S, 0, none⟩ = some (.pointer (some ⟨B, 0, none⟩)) ∧ w1.cell? ⟨S, 1, none⟩ = some (.pointer (some ⟨B, 1, none⟩)) ∧ w1.cell? ⟨S, 2, none⟩ = some (.pointer (some ⟨B, 2, none⟩)) from ⟨(ho.cell ⟨S, 0, none⟩ lS (addr_ne (unhide HSR))).trans u0, (ho.cell ⟨S, 1, none⟩ lS (addr_ne (unhide HSR))).trans u1, (ho.cell ⟨S, 2, none⟩ lS (addr_ne (unhide HSR))).trans u2⟩)
        have hB1 : Below K w w1 := (unhide HB).trans (ho.below hKR (Nat.le_trans hKs (unhide HB).size))
        have HB1 := hide hB1
        have b2 := hR1.t2
        have b3 := hR1.z2
        have b4 := hR1.c1
        have b5 := hR1.y1
        have hs1 : K ≤ w1.heap.size := Nat.le_trans hKs hB1.size
        have hne : (⟨B, 1, none⟩ : Addr) ≠ ⟨R, 2, none⟩ := addr_ne hR1.ne.symm
        clear hR1 ho hc hB1
        cases f' <;> (
          go_wp2_with fail
          go_roundw
          case rel =>
            refine ⟨2, p2, _, a', v, c', by go_num, by omega, hp2, hide ((unhide HR1).set1 v _), hide (⟨p', _, unhide HC, unhide HM⟩), hide ?_, hide ?_⟩
            · obtain ⟨u0, u1, u2⟩ := unhide HQ1
              exact ⟨(World.cell?_setCell_other _ _ _ _ (addr_ne (unhide HSR).symm)).trans ((World.cell?_setCell_other _ _ _ _ (addr_ne (unhide HSB).symm)).trans u0), (World.cell?_setCell_other _ _ _ _ (addr_ne (unhide HSR).symm)).trans ((World.cell?_setCell_other _ _ _ _ (addr_ne (unhide HSB).symm)).trans u1), (World.cell?_setCell_other _ _ _ _ (addr_ne (unhide HSR).symm)).trans ((World.cell?_setCell_other _ _ _ _ (addr_ne (unhide HSB).symm)).trans u2)⟩
            · exact (unhide HB1).trans (((Below.refl K w1).setCell (p := ⟨B, 1, none⟩) hKB _).setCell (p := ⟨R, 2, none⟩) hKR _)
          case measure => simp [intOf])
      · have U := hide u2
        clear hk hk3
        go_wp2_with fail
        refine (unhide HN).mono ?_
        rintro e w1 ⟨rfl, ho, hc⟩
        have hR1 := (unhide HR).only ho hc
        have HR1 := hide hR1
        have HQ1 := hide (show w1.cell? ⟨S, 0, none⟩ = some (.pointer (some ⟨B, 0, none⟩)) ∧ w1.cell? ⟨S, 1, none⟩ = some (.pointer (some ⟨B, 1, none⟩)) ∧ w1.cell? ⟨S, 2, none⟩ = some (.pointer (some ⟨B, 2, none⟩)) from ⟨(ho.cell ⟨S, 0, none⟩ lS (addr_ne (unhide HSR))).trans u0, (ho.cell ⟨S, 1, none⟩ lS (addr_ne (unhide HSR))).trans u1, (ho.cell ⟨S, 2, none⟩ lS (addr_ne (unhide HSR))).trans u2⟩)
        have hB1 : Below K w w1 := (unhide HB).trans (ho.below hKR (Nat.le_trans hKs (unhide HB).size))
        have HB1 := hide hB1
        have b2 := hR1.t2
        have b3 := hR1.z2
        have b4 := hR1.c2
        have b5 := hR1.y2
        have hs1 : K ≤ w1.heap.size := Nat.le_trans hKs hB1.size
        have hne : (⟨B, 2, none⟩ : Addr) ≠ ⟨R, 2, none⟩ := addr_ne hR1.ne.symm
        clear hR1 ho hc hB1
        cases f' <;> (
          go_wp2_with fail
          go_roundw
          case rel =>
            refine ⟨3, p2, _, a', b', v, by go_num, by omega, hp2, hide ((unhide HR1).set2 v _), hide (by obtain ⟨m1, n1, h1, h2⟩ := unhide HC; exact ⟨m1, n1, p', _, h1, h2, unhide HM⟩), hide ?_, hide ?_⟩
            · obtain ⟨u0, u1, u2⟩ := unhide HQ1
              exact ⟨(World.cell?_setCell_other _ _ _ _ (addr_ne (unhide HSR).symm)).trans ((World.cell?_setCell_other _ _ _ _ (addr_ne (unhide HSB).symm)).trans u0), (World.cell?_setCell_other _ _ _ _ (addr_ne (unhide HSR).symm)).trans ((World.cell?_setCell_other _ _ _ _ (addr_ne (unhide HSB).symm)).trans u1), (World.cell?_setCell_other _ _ _ _ (addr_ne (unhide HSR).symm)).trans ((World.cell?_setCell_other _ _ _ _ (addr_ne (unhide HSB).symm)).trans u2)⟩
            · exact (unhide HB1).trans (((Below.refl K w1).setCell (p := ⟨B, 2, none⟩) hKB _).setCell (p := ⟨R, 2, none⟩) hKR _)
          case measure => simp [intOf])

/-- What texts leaves. -/
def Plain.textsPost (s : ByteArray) (p : Nat) (f : Bool) (R B K : Nat) (a b c : Int) (w : World) (e : Ending) (w' : World) : Prop := ∃ (p' : Nat) (f' : Bool) (r' t' d' x' : ByteArray), e = .returned (.tuple #[]) ∧ p' ≤ s.size ∧ RSt w' R B s p' f' a b c r' t' d' x' ∧ Ch4 s p f 4 p' f' r' t' d' x' ∧ r'.size ≤ 1000000 ∧ t'.size ≤ 1000000 ∧ d'.size ≤ 1000000 ∧ x'.size ≤ 1000000 ∧ Below K w w'

set_option maxRecDepth 10000 in
set_option maxHeartbeats 8000000 in
theorem texts_calls (R B S K : Nat) (s : ByteArray) (p : Nat) (f : Bool) (a b c : Int) (r t d x : ByteArray) (w : World) (h : RSt w R B s p f a b c r t d x) (hp : p ≤ s.size) (hs : s.size ≤ 1000000000000) (q0 : w.cell? ⟨S, 0, none⟩ = some (.pointer (some ⟨B, 3, none⟩))) (q1 : w.cell? ⟨S, 1, none⟩ = some (.pointer (some ⟨B, 4, none⟩))) (q2 : w.cell? ⟨S, 2, none⟩ = some (.pointer (some ⟨B, 5, none⟩))) (q3 : w.cell? ⟨S, 3, none⟩ = some (.pointer (some ⟨B, 6, none⟩))) (hSR : S ≠ R) (hSB : S ≠ B) (hKR : K ≤ R) (hKB : K ≤ B) (hr : r.size ≤ 1000000) (ht : t.size ≤ 1000000) (hd : d.size ≤ 1000000) (hx : x.size ≤ 1000000) :
    Calls Tryd.prog 22 #[.pointer (some ⟨R, 0, none⟩), .slice (some ⟨S, 0, none⟩) 4 4] w (textsPost s p f R B K a b c w) := by
  have HH := hide h
  have HSR := hide hSR
  have HSB := hide hSB
  have hKs : K ≤ w.heap.size := Nat.le_trans hKR (Nat.le_of_lt (lt_of_cell h.t0))
  clear h
  go_enter Tryd.func22, Tryd.ntmps22
  go_wp2_with fail
  go_loopw [10] (fun i wr => ∃ (k p' : Nat) (f' : Bool) (r' t' d' x' : ByteArray), i = .int .i64 k ∧ k ≤ 4 ∧ p' ≤ s.size ∧ Hid (RSt wr R B s p' f' a b c r' t' d' x') ∧ Hid (Ch4 s p f k p' f' r' t' d' x') ∧ Hid (wr.cell? ⟨S, 0, none⟩ = some (.pointer (some ⟨B, 3, none⟩)) ∧ wr.cell? ⟨S, 1, none⟩ = some (.pointer (some ⟨B, 4, none⟩)) ∧ wr.cell? ⟨S, 2, none⟩ = some (.pointer (some ⟨B, 5, none⟩)) ∧ wr.cell? ⟨S, 3, none⟩ = some (.pointer (some ⟨B, 6, none⟩))) ∧ Hid (Below K w wr) ∧ r'.size ≤ 1000000 ∧ t'.size ≤ 1000000 ∧ d'.size ≤ 1000000 ∧ x'.size ≤ 1000000) (fun i _ => 4 - (intOf i).toNat)
  case atStart => exact ⟨0, p, f, r, t, d, x, rfl, by omega, hp, HH, ⟨rfl, rfl⟩, ⟨q0, q1, q2, q3⟩, Below.refl _ _, hr, ht, hd, hx⟩
  case round =>
    obtain ⟨k, p', f', r', t', d', x', rfl, hk, hp', HR, HC, HQ, HB, s1, s2, s3, s4⟩ := hrel
    have HK : ∀ j, k = j → k = j := fun _ h => h
    by_cases hk4 : k = 4
    · subst hk4
      go_wp2_with fail
      exact bodyPost_ret (v := .tuple #[]) (by simp [results, Tryd.results22, go_sem]) rfl ⟨p', f', r', t', d', x', rfl, hp', unhide HR, unhide HC, s1, s2, s3, s4, unhide HB⟩
    · have HN := hide (field_ok R 0 s p' wr (unhide HR).t0 (unhide HR).t1 (unhide HR).z1 hs hp')
      obtain ⟨v, g, p2, e1, e2, hp2, hv, hmo⟩ := fld_open s p' hp'
      rw [e1, e2] at HN
      have HM := hide (hmo f')
      have HE2 := hide e2
      clear e1 e2 hmo HK
      obtain ⟨u0, u1, u2, u3⟩ := unhide HQ
      have lS : S < wr.heap.size := lt_of_cell u0
      obtain rfl | rfl | rfl | rfl : k = 0 ∨ k = 1 ∨ k = 2 ∨ k = 3 := by omega
      · have U := hide u0
        clear hk hk4
        go_wp2_with fail
        refine (unhide HN).mono ?_
        rintro e w1 ⟨rfl, ho, hc⟩
        have hR1 := (unhide HR).only ho hc
        have HR1 := hide hR1
        have HQ1 := hide (show w1.cell? ⟨S, 0, none⟩ = some (.pointer (some ⟨B, 3, none⟩)) ∧ w1.cell? ⟨S, 1, none⟩ = some (.pointer (some ⟨B, 4, none⟩)) ∧ w1.cell? ⟨S, 2, none⟩ = some (.pointer (some ⟨B, 5, none⟩)) ∧ w1.cell? ⟨S, 3, none⟩ = some (.pointer (some ⟨B, 6, none⟩)) from ⟨(ho.cell ⟨S, 0, none⟩ lS (addr_ne (unhide HSR))).trans u0, (ho.cell ⟨S, 1, none⟩ lS (addr_ne (unhide HSR))).trans u1, (ho.cell ⟨S, 2, none⟩ lS (addr_ne (unhide HSR))).trans u2, (ho.cell ⟨S, 3, none⟩ lS (addr_ne (unhide HSR))).trans u3⟩)
        have hB1 : Below K w w1 := (unhide HB).trans (ho.below hKR (Nat.le_trans hKs (unhide HB).size))
        have HB1 := hide hB1
        have b2 := hR1.t2
        have b3 := hR1.z2
        have b4 := hR1.c3
        have b5 := hR1.y3
        have hs1 : K ≤ w1.heap.size := Nat.le_trans hKs hB1.size
        have hne : (⟨B, 3, none⟩ : Addr) ≠ ⟨R, 2, none⟩ := addr_ne hR1.ne.symm
        clear hR1 ho hc hB1
        cases f' <;> (
          go_wp2_with fail
          go_roundw
          case rel =>
            refine ⟨1, p2, _, v, t', d', x', by go_num, by omega, hp2, hide ((unhide HR1).set3 v _), hide (by obtain ⟨rfl, rfl⟩ := unhide HC; exact unhide HM), hide ?_, hide ?_, (by omega), s2, s3, s4⟩
            · obtain ⟨u0, u1, u2, u3⟩ := unhide HQ1
              exact ⟨(World.cell?_setCell_other _ _ _ _ (addr_ne (unhide HSR).symm)).trans ((World.cell?_setCell_other _ _ _ _ (addr_ne (unhide HSB).symm)).trans u0), (World.cell?_setCell_other _ _ _ _ (addr_ne (unhide HSR).symm)).trans ((World.cell?_setCell_other _ _ _ _ (addr_ne (unhide HSB).symm)).trans u1), (World.cell?_setCell_other _ _ _ _ (addr_ne (unhide HSR).symm)).trans ((World.cell?_setCell_other _ _ _ _ (addr_ne (unhide HSB).symm)).trans u2), (World.cell?_setCell_other _ _ _ _ (addr_ne (unhide HSR).symm)).trans ((World.cell?_setCell_other _ _ _ _ (addr_ne (unhide HSB).symm)).trans u3)⟩
            · exact (unhide HB1).trans (((Below.refl K w1).setCell (p := ⟨B, 3, none⟩) hKB _).setCell (p := ⟨R, 2, none⟩) hKR _)
          case measure => simp [intOf])
      · have U := hide u1
        clear hk hk4
        go_wp2_with fail
        refine (unhide HN).mono ?_
        rintro e w1 ⟨rfl, ho, hc⟩
        have hR1 := (unhide HR).only ho hc
        have HR1 := hide hR1
        have HQ1 := hide (show w1.cell? ⟨S, 0, none⟩ = some (.pointer (some ⟨B, 3, none⟩)) ∧ w1.cell? ⟨S, 1, none⟩ = some (.pointer (some ⟨B, 4, none⟩)) ∧ w1.cell? ⟨S, 2, none⟩ = some (.pointer (some ⟨B, 5, none⟩)) ∧ w1.cell? ⟨S, 3, none⟩ = some (.pointer (some ⟨B, 6, none⟩)) from ⟨(ho.cell ⟨S, 0, none⟩ lS (addr_ne (unhide HSR))).trans u0, (ho.cell ⟨S, 1, none⟩ lS (addr_ne (unhide HSR))).trans u1, (ho.cell ⟨S, 2, none⟩ lS (addr_ne (unhide HSR))).trans u2, (ho.cell ⟨S, 3, none⟩ lS (addr_ne (unhide HSR))).trans u3⟩)
        have hB1 : Below K w w1 := (unhide HB).trans (ho.below hKR (Nat.le_trans hKs (unhide HB).size))
        have HB1 := hide hB1
        have b2 := hR1.t2
        have b3 := hR1.z2
        have b4 := hR1.c4
        have b5 := hR1.y4
        have hs1 : K ≤ w1.heap.size := Nat.le_trans hKs hB1.size
        have hne : (⟨B, 4, none⟩ : Addr) ≠ ⟨R, 2, none⟩ := addr_ne hR1.ne.symm
        clear hR1 ho hc hB1
        cases f' <;> (
          go_wp2_with fail
          go_roundw
          case rel =>
            refine ⟨2, p2, _, r', v, d', x', by go_num, by omega, hp2, hide ((unhide HR1).set4 v _), hide (⟨p', _, unhide HC, unhide HM⟩), hide ?_, hide ?_, s1, (by omega), s3, s4⟩
            · obtain ⟨u0, u1, u2, u3⟩ := unhide HQ1
              exact ⟨(World.cell?_setCell_other _ _ _ _ (addr_ne (unhide HSR).symm)).trans ((World.cell?_setCell_other _ _ _ _ (addr_ne (unhide HSB).symm)).trans u0), (World.cell?_setCell_other _ _ _ _ (addr_ne (unhide HSR).symm)).trans ((World.cell?_setCell_other _ _ _ _ (addr_ne (unhide HSB).symm)).trans u1), (World.cell?_setCell_other _ _ _ _ (addr_ne (unhide HSR).symm)).trans ((World.cell?_setCell_other _ _ _ _ (addr_ne (unhide HSB).symm)).trans u2), (World.cell?_setCell_other _ _ _ _ (addr_ne (unhide HSR).symm)).trans ((World.cell?_setCell_other _ _ _ _ (addr_ne (unhide HSB).symm)).trans u3)⟩
            · exact (unhide HB1).trans (((Below.refl K w1).setCell (p := ⟨B, 4, none⟩) hKB _).setCell (p := ⟨R, 2, none⟩) hKR _)
          case measure => simp [intOf])
      · have U := hide u2
        clear hk hk4
        go_wp2_with fail
        refine (unhide HN).mono ?_
        rintro e w1 ⟨rfl, ho, hc⟩
        have hR1 := (unhide HR).only ho hc
        have HR1 := hide hR1
        have HQ1 := hide (show w1.cell? ⟨S, 0, none⟩ = some (.pointer (some ⟨B, 3, none⟩)) ∧ w1.cell? ⟨S, 1, none⟩ = some (.pointer (some ⟨B, 4, none⟩)) ∧ w1.cell? ⟨S, 2, none⟩ = some (.pointer (some ⟨B, 5, none⟩)) ∧ w1.cell? ⟨S, 3, none⟩ = some (.pointer (some ⟨B, 6, none⟩)) from ⟨(ho.cell ⟨S, 0, none⟩ lS (addr_ne (unhide HSR))).trans u0, (ho.cell ⟨S, 1, none⟩ lS (addr_ne (unhide HSR))).trans u1, (ho.cell ⟨S, 2, none⟩ lS (addr_ne (unhide HSR))).trans u2, (ho.cell ⟨S, 3, none⟩ lS (addr_ne (unhide HSR))).trans u3⟩)
        have hB1 : Below K w w1 := (unhide HB).trans (ho.below hKR (Nat.le_trans hKs (unhide HB).size))
        have HB1 := hide hB1
        have b2 := hR1.t2
        have b3 := hR1.z2
        have b4 := hR1.c5
        have b5 := hR1.y5
        have hs1 : K ≤ w1.heap.size := Nat.le_trans hKs hB1.size
        have hne : (⟨B, 5, none⟩ : Addr) ≠ ⟨R, 2, none⟩ := addr_ne hR1.ne.symm
        clear hR1 ho hc hB1
        cases f' <;> (
          go_wp2_with fail
          go_roundw
          case rel =>
            refine ⟨3, p2, _, r', t', v, x', by go_num, by omega, hp2, hide ((unhide HR1).set5 v _), hide (by obtain ⟨m1, n1, h1, h2⟩ := unhide HC; exact ⟨m1, n1, p', _, h1, h2, unhide HM⟩), hide ?_, hide ?_, s1, s2, (by omega), s4⟩
            · obtain ⟨u0, u1, u2, u3⟩ := unhide HQ1
              exact ⟨(World.cell?_setCell_other _ _ _ _ (addr_ne (unhide HSR).symm)).trans ((World.cell?_setCell_other _ _ _ _ (addr_ne (unhide HSB).symm)).trans u0), (World.cell?_setCell_other _ _ _ _ (addr_ne (unhide HSR).symm)).trans ((World.cell?_setCell_other _ _ _ _ (addr_ne (unhide HSB).symm)).trans u1), (World.cell?_setCell_other _ _ _ _ (addr_ne (unhide HSR).symm)).trans ((World.cell?_setCell_other _ _ _ _ (addr_ne (unhide HSB).symm)).trans u2), (World.cell?_setCell_other _ _ _ _ (addr_ne (unhide HSR).symm)).trans ((World.cell?_setCell_other _ _ _ _ (addr_ne (unhide HSB).symm)).trans u3)⟩
            · exact (unhide HB1).trans (((Below.refl K w1).setCell (p := ⟨B, 5, none⟩) hKB _).setCell (p := ⟨R, 2, none⟩) hKR _)
          case measure => simp [intOf])
      · have U := hide u3
        clear hk hk4
        go_wp2_with fail
        refine (unhide HN).mono ?_
        rintro e w1 ⟨rfl, ho, hc⟩
        have hR1 := (unhide HR).only ho hc
        have HR1 := hide hR1
        have HQ1 := hide (show w1.cell? ⟨S, 0, none⟩ = some (.pointer (some ⟨B, 3, none⟩)) ∧ w1.cell? ⟨S, 1, none⟩ = some (.pointer (some ⟨B, 4, none⟩)) ∧ w1.cell? ⟨S, 2, none⟩ = some (.pointer (some ⟨B, 5, none⟩)) ∧ w1.cell? ⟨S, 3, none⟩ = some (.pointer (some ⟨B, 6, none⟩)) from ⟨(ho.cell ⟨S, 0, none⟩ lS (addr_ne (unhide HSR))).trans u0, (ho.cell ⟨S, 1, none⟩ lS (addr_ne (unhide HSR))).trans u1, (ho.cell ⟨S, 2, none⟩ lS (addr_ne (unhide HSR))).trans u2, (ho.cell ⟨S, 3, none⟩ lS (addr_ne (unhide HSR))).trans u3⟩)
        have hB1 : Below K w w1 := (unhide HB).trans (ho.below hKR (Nat.le_trans hKs (unhide HB).size))
        have HB1 := hide hB1
        have b2 := hR1.t2
        have b3 := hR1.z2
        have b4 := hR1.c6
        have b5 := hR1.y6
        have hs1 : K ≤ w1.heap.size := Nat.le_trans hKs hB1.size
        have hne : (⟨B, 6, none⟩ : Addr) ≠ ⟨R, 2, none⟩ := addr_ne hR1.ne.symm
        clear hR1 ho hc hB1
        cases f' <;> (
          go_wp2_with fail
          go_roundw
          case rel =>
            refine ⟨4, p2, _, r', t', d', v, by go_num, by omega, hp2, hide ((unhide HR1).set6 v _), hide (by obtain ⟨m1, n1, m2, n2, h1, h2, h3⟩ := unhide HC; exact ⟨m1, n1, m2, n2, p', _, h1, h2, h3, unhide HM⟩), hide ?_, hide ?_, s1, s2, s3, (by omega)⟩
            · obtain ⟨u0, u1, u2, u3⟩ := unhide HQ1
              exact ⟨(World.cell?_setCell_other _ _ _ _ (addr_ne (unhide HSR).symm)).trans ((World.cell?_setCell_other _ _ _ _ (addr_ne (unhide HSB).symm)).trans u0), (World.cell?_setCell_other _ _ _ _ (addr_ne (unhide HSR).symm)).trans ((World.cell?_setCell_other _ _ _ _ (addr_ne (unhide HSB).symm)).trans u1), (World.cell?_setCell_other _ _ _ _ (addr_ne (unhide HSR).symm)).trans ((World.cell?_setCell_other _ _ _ _ (addr_ne (unhide HSB).symm)).trans u2), (World.cell?_setCell_other _ _ _ _ (addr_ne (unhide HSR).symm)).trans ((World.cell?_setCell_other _ _ _ _ (addr_ne (unhide HSB).symm)).trans u3)⟩
            · exact (unhide HB1).trans (((Below.refl K w1).setCell (p := ⟨B, 6, none⟩) hKB _).setCell (p := ⟨R, 2, none⟩) hKR _)
          case measure => simp [intOf])

end Go.Proofs.YtnkjdojpegmlcaaDoor
