/- Blocks of five cells: requests as variables. -/
import Derived.Test.YtanekbifdedmeaaGreatDoorGAH
import Derived.Test.YtanekbifdedmeaaGreatDoorGAG
import Derived.Test.YtanekbifdedmeaaGreatDoorGAD
import Derived.Test.YtanekbifdedmeaaGreatDoorReg2
namespace Go.Proofs.YtanekbifdedmeaaGreatDoor
open Go.RowKit Plain
set_option linter.unusedVariables false

theorem Plain.Blk.five {W : World} {b : Nat} {x y z u v : Value} (h : Blk W b [x, y, z, u, v]) : W.cell? ⟨b, 0, none⟩ = some x ∧ W.cell? ⟨b, 1, none⟩ = some y ∧ W.cell? ⟨b, 2, none⟩ = some z ∧ W.cell? ⟨b, 3, none⟩ = some u ∧ W.cell? ⟨b, 4, none⟩ = some v :=
  ⟨h.c 0 (by simp), h.c 1 (by simp), h.c 2 (by simp), h.c 3 (by simp), h.c 4 (by simp)⟩
theorem Plain.Blk.fiveZ {W : World} {b : Nat} {x y z u v : Value} (h : Blk W b [x, y, z, u, v]) : W.frozen? ⟨b, 0, none⟩ = false ∧ W.frozen? ⟨b, 1, none⟩ = false ∧ W.frozen? ⟨b, 2, none⟩ = false ∧ W.frozen? ⟨b, 3, none⟩ = false ∧ W.frozen? ⟨b, 4, none⟩ = false :=
  ⟨h.f 0 (by simp), h.f 1 (by simp), h.f 2 (by simp), h.f 3 (by simp), h.f 4 (by simp)⟩
/-- A result of five cells is written. -/
def out5 (W : World) (n : Nat) (x y z u v : Value) : World := ((((W.setCell ⟨n, 0, none⟩ x).setCell ⟨n, 1, none⟩ y).setCell ⟨n, 2, none⟩ z).setCell ⟨n, 3, none⟩ u).setCell ⟨n, 4, none⟩ v
theorem out5_below (W : World) (n : Nat) (x y z u v : Value) : Below n W (out5 W n x y z u v) :=
  (((((Below.refl n W).setCell (p := ⟨n, 0, none⟩) (Nat.le_refl _) _).setCell (p := ⟨n, 1, none⟩) (Nat.le_refl _) _).setCell (p := ⟨n, 2, none⟩) (Nat.le_refl _) _).setCell (p := ⟨n, 3, none⟩) (Nat.le_refl _) _).setCell (p := ⟨n, 4, none⟩) (Nat.le_refl _) _
theorem out5_blk {W : World} {n : Nat} {x0 y0 z0 u0 v0 : Value} (h : Blk W n [x0, y0, z0, u0, v0]) (x y z u v : Value) : Blk (out5 W n x y z u v) n [x, y, z, u, v] :=
  ((((h.set 0 (by simp) x).set 1 (by simp) y).set 2 (by simp) z).set 3 (by simp) u).set 4 (by simp) v
theorem out5_own {α : Type} {e : Elem α} {W : World} {n B : Nat} {x y z u v k : Value} {xs : List α} (h : OwnR e W B k xs) (hB : n < B) : OwnR e (out5 W n x y z u v) B k xs :=
  ownsRow_setCell_below (ownsRow_setCell_below (ownsRow_setCell_below (ownsRow_setCell_below (ownsRow_setCell_below h hB _) hB _) hB _) hB _) hB _


namespace Plain
/-- The worlds in which block n holds vs and nothing else of W has changed. -/
structure Wrt (W : World) (n : Nat) (vs : List Value) where
  w : World
  ok : OnlyP (fun k => k = n) W w
  blk : Blk w n vs
theorem Wrt.cell {W : World} {n b i : Nat} {vs : List Value} {v : Value} (h : W.cell? ⟨b, i, none⟩ = some v) (hl : b < W.heap.size) (hb : b ≠ n) (x : Wrt W n vs) : x.w.cell? ⟨b, i, none⟩ = some v := (World.cell?_of_block (a := ⟨b, i, none⟩) (x.ok.block b hl hb)).trans h
theorem wrt_below {W : World} {n B : Nat} {vs : List Value} (x : Wrt W n vs) (hB : B ≤ n) (hW : B ≤ W.heap.size) : Below B W x.w := x.ok.below (B := B) (fun g hg => by omega) hW
end Plain
theorem calls_wrt {f : FuncId} {args : Array Value} {W : World} {n : Nat} {vs : List Value} {v : Value} (x : Wrt W n vs) (h : Calls Tryz.prog f args x.w fun e w' => e = .returned v ∧ Below x.w.heap.size x.w w') :
    Calls Tryz.prog f args x.w fun e w'' => e = .returned v ∧ ∃ y : Wrt W n vs, w'' = y.w :=
  h.mono fun e w' ⟨h1, h2⟩ => ⟨h1, ⟨w', x.ok.trans (OnlyP.of h2), x.blk.call h2⟩, rfl⟩
theorem wrt_of {W : World} {n : Nat} {x0 y0 z0 u0 v0 : Value} (h : Blk W n [x0, y0, z0, u0, v0]) (g : Grown W) (x y z u v : Value) : ∃ k : Wrt W n [x, y, z, u, v], ((((g.w.setCell ⟨n, 0, none⟩ x).setCell ⟨n, 1, none⟩ y).setCell ⟨n, 2, none⟩ z).setCell ⟨n, 3, none⟩ u).setCell ⟨n, 4, none⟩ v = k.w := by
  have o1 : ∀ (X : World) (i : Nat) (t : Value), OnlyP (fun k => k = n) X (X.setCell ⟨n, i, none⟩ t) := fun X i t => have h := OnlyAt.setCell ⟨n, i, none⟩ X t; ⟨h.os, h.tape, h.output, h.size, fun k hk hn => h.block k hk hn⟩
  exact ⟨⟨_, (((((OnlyP.of g.ok).trans (o1 _ _ _)).trans (o1 _ _ _)).trans (o1 _ _ _)).trans (o1 _ _ _)).trans (o1 _ _ _), out5_blk (h.call g.ok) x y z u v⟩, rfl⟩
theorem own_otherQ {α : Type} {e : Elem α} {W W' : World} {B : Nat} {v : Value} {xs : List α} (h : OwnR e W B v xs) (hh : ∀ g, v.ownBlock = some g → W'.heap[g]? = W.heap[g]?) : OwnR e W' B v xs := by
  refine ⟨h.1, ?_⟩
  rcases h.2 with ⟨a, c⟩ | ⟨g, cap, cur, rfl, c, d, r⟩
  · exact .inl ⟨a, c⟩
  · exact .inr ⟨g, cap, cur, rfl, c, (hh g rfl).trans d, r⟩
theorem own_lowQ {α : Type} {e : Elem α} {W : World} {B B' : Nat} {v : Value} {xs : List α} (h : OwnR e W B v xs) (hB : B' ≤ B) : OwnR e W B' v xs := by
  refine ⟨h.1, ?_⟩
  rcases h.2 with ⟨a, c⟩ | ⟨g, cap, cur, rfl, c, d, r⟩
  · exact .inl ⟨a, c⟩
  · exact .inr ⟨g, cap, cur, rfl, Nat.le_trans hB c, d, r⟩
/-- A row is appended to the third cell of a request's block. -/
theorem pair_fin {wm w6 w8 : World} {q : Nat} {x y z u v v8 : Value} {α : Type} {e : Elem α} {rows : List α} {P : Prop} (hq : q < w6.heap.size) (hQ : Blk wm q [x, y, z, u, v]) (hP : OnlyP (fun b => b = q) w6 wm)
    (h : OwnR e w8 w6.heap.size v8 rows ∧ Below w6.heap.size wm.drew w8 ∧ P) :
    Hid (Blk (w8.setCell ⟨q, 2, none⟩ v8) q [x, y, v8, u, v]) ∧ Hid (OwnR e (w8.setCell ⟨q, 2, none⟩ v8) w6.heap.size v8 rows) ∧ Hid (OnlyP (fun b => b = q) w6 (w8.setCell ⟨q, 2, none⟩ v8)) := by
  obtain ⟨h1, h2, _⟩ := h
  have h3 : Below w6.heap.size wm w8 := ⟨h2.os, h2.tape, h2.output, h2.size, h2.block⟩
  have h4 : OnlyP (fun b => b = q) w6 w8 := ⟨h3.os.trans hP.os, h3.tape.trans hP.tape, h3.output.trans hP.output, Nat.le_trans hP.size h3.size, fun k hk hn => (h3.block k hk).trans (hP.block k hk hn)⟩
  have h5 := OnlyAt.setCell ⟨q, 2, none⟩ w8 v8
  exact ⟨hide ((hQ.below h3 hq).set 2 (by simp) v8), hide (ownsRow_setCell_below h1 (show q < w6.heap.size from hq) _), hide (h4.trans ⟨h5.os, h5.tape, h5.output, h5.size, fun k hk hn => h5.block k hk hn⟩)⟩
/-- Three texts in a row of the call's own. -/
theorem three_str {W : World} {B c : Nat} {a : Option Addr} {x y z : ByteArray} (h : OwnR strE W B (.slice a 3 c) [x, y, z]) : ∃ g, a = some ⟨g, 0, none⟩ ∧ B ≤ g ∧ g < W.heap.size ∧ W.cell? ⟨g, 0, none⟩ = some (.string x) ∧ W.cell? ⟨g, 1, none⟩ = some (.string y) ∧ W.cell? ⟨g, 2, none⟩ = some (.string z) := by
  obtain ⟨g, rfl, l1, p0, _⟩ := h.at.str 0 (by simp)
  obtain ⟨g', e1, _, p1, _⟩ := h.at.str 1 (by simp)
  cases e1
  obtain ⟨g', e1, _, p2, _⟩ := h.at.str 2 (by simp)
  cases e1
  refine ⟨g, rfl, ?_, l1, p0, p1, p2⟩
  exact (World.ownsRow.lt h g rfl).1
end Go.Proofs.YtanekbifdedmeaaGreatDoor
