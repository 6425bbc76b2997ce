/- Texts of one kind, put together. -/
import Derived.Test.YtknpccpfjclngaaGAC
import Derived.Test.YtknpccpfjclngaaDskV
import Derived.Test.YtknpccpfjclngaaGAD
import Derived.Test.YtknpccpfjclngaaDskW
import Derived.Test.YtknpccpfjclngaaGAA

/- Rows of files, as the exact laws copy, measure and compare them. -/
namespace Go.Proofs.Ytknpccpfjclngaa
open Go.RowKit Plain
set_option linter.unusedVariables false

namespace Plain
theorem ArgAt.file {W : World} {a : Option Addr} {xs : List Fl} (h : ArgAt 2 fileL W a xs) (i : Nat) (hi : i < xs.length) : ∃ g o, a = some ⟨g, o, none⟩ ∧ g < W.heap.size ∧ W.cell? ⟨g, o + i * 2, none⟩ = some (.string xs[i].1) ∧ W.cell? ⟨g, o + i * 2 + 1, none⟩ = some (.string xs[i].2) := by
  obtain ⟨g, o, e, hl, hc⟩ := h i hi
  exact ⟨g, o, e, hl, hc 0 (by decide), hc 1 (by decide)⟩
end Plain











end Go.Proofs.Ytknpccpfjclngaa


/- Rows of ops, as the exact laws copy, measure and compare them. -/
namespace Go.Proofs.Ytknpccpfjclngaa
open Go.RowKit Plain
set_option linter.unusedVariables false


namespace Plain
theorem ArgAt.o {W : World} {a : Option Addr} {xs : List Dop} (h : ArgAt 4 dopL W a xs) (i : Nat) (hi : i < xs.length) : ∃ g o, a = some ⟨g, o, none⟩ ∧ g < W.heap.size ∧ W.cell? ⟨g, o + i * 4, none⟩ = some (.int .i64 xs[i].kind) ∧ W.cell? ⟨g, o + i * 4 + 1, none⟩ = some (.string xs[i].name) ∧ W.cell? ⟨g, o + i * 4 + 2, none⟩ = some (.string xs[i].to) ∧ W.cell? ⟨g, o + i * 4 + 3, none⟩ = some (.string xs[i].data) := by
  obtain ⟨g, o, e, hl, hc⟩ := h i hi
  exact ⟨g, o, e, hl, hc 0 (by decide), hc 1 (by decide), hc 2 (by decide), hc 3 (by decide)⟩
end Plain
end Go.Proofs.Ytknpccpfjclngaa


/- Disks, as the exact laws copy, measure and compare them. -/
namespace Go.Proofs.Ytknpccpfjclngaa
open Go.RowKit Plain
set_option linter.unusedVariables false

theorem OwnR.other {α : Type} {e : Elem α} {W W' : World} {B : Nat} {v : Value} {xs : List α} (h : OwnR e W B v xs) (hh : ∀ g, v.ownBlock = some g → W'.heap[g]? = W.heap[g]?) : OwnR e W' B v xs := by
  refine ⟨h.1, ?_⟩
  rcases h.2 with ⟨a, c⟩ | ⟨g, cap, cur, rfl, c, d, r⟩
  · exact .inl ⟨a, c⟩
  · exact .inr ⟨g, cap, cur, rfl, c, (hh g rfl).trans d, r⟩
theorem Plain.heap_set {W : World} {b i g : Nat} {u : Value} (h : b ≠ g) : (W.setCell ⟨b, i, none⟩ u).heap[g]? = W.heap[g]? := Below.heap_setCell _ _ _ _ (fun e => h (by simp at e; exact e.symm))
theorem Plain.cell_set {W : World} {b i : Nat} {u v : Value} (h : W.cell? ⟨b, i, none⟩ = some v) : (W.setCell ⟨b, i, none⟩ u).cell? ⟨b, i, none⟩ = some u := World.cell?_setCell_same' _ _ _ (by rw [h]; rfl)
theorem Plain.cell_off {W : World} {b i g j : Nat} {u : Value} (h : b ≠ g ∨ i ≠ j) : (W.setCell ⟨b, i, none⟩ u).cell? ⟨g, j, none⟩ = W.cell? ⟨g, j, none⟩ := World.cell?_setCell_other _ ⟨b, i, none⟩ ⟨g, j, none⟩ _ (fun q => by have h1 := congrArg Addr.block q; have h2 := congrArg Addr.off q; simp at h1 h2; omega)

/-- A disk among the arguments. -/
structure Plain.DskArg (W : World) (aL : Option Addr) (nL cL : Nat) (live : List Fl) (aS : Option Addr) (nS cS : Nat) (safe : List Fl) (aO : Option Addr) (nO cO : Nat) (ops : List Dop) : Prop where
  l : ArgRow 2 fileL goodF W aL nL cL live
  s : ArgRow 2 fileL goodF W aS nS cS safe
  o : ArgRow 4 dopL goodO W aO nO cO ops
theorem Plain.DskArg.below {W W' : World} {aL : Option Addr} {nL cL : Nat} {live : List Fl} {aS : Option Addr} {nS cS : Nat} {safe : List Fl} {aO : Option Addr} {nO cO : Nat} {ops : List Dop}
    (h : DskArg W aL nL cL live aS nS cS safe aO nO cO ops) (hb : Below W.heap.size W W') : DskArg W' aL nL cL live aS nS cS safe aO nO cO ops :=
  ⟨⟨h.l.len, h.l.le, h.l.good, h.l.row.below hb⟩, ⟨h.s.len, h.s.le, h.s.good, h.s.row.below hb⟩, ⟨h.o.len, h.o.le, h.o.good, h.o.row.below hb⟩⟩
/-- The three rows of a disk that is read. -/
structure Plain.DskRow (W : World) (aL aS aO : Option Addr) (live safe : List Fl) (ops : List Dop) : Prop where
  l : RowAt fileE W aL live
  s : RowAt fileE W aS safe
  o : RowAt dopE W aO ops
theorem Plain.DskRow.below {W W' : World} {aL aS aO : Option Addr} {live safe : List Fl} {ops : List Dop} (h : DskRow W aL aS aO live safe ops) (hb : Below W.heap.size W W') : DskRow W' aL aS aO live safe ops := ⟨h.l.below hb, h.s.below hb, h.o.below hb⟩

end Go.Proofs.Ytknpccpfjclngaa


/- The laws' own test of a code's length. -/
namespace Go.Proofs.Ytknpccpfjclngaa
open Go.RowKit Plain
set_option linter.unusedVariables false

theorem big_calls (a : Option Addr) (len cap : Nat) (w : World) (h : len ≤ maxLen) :
    Calls Try.prog 5 #[.slice a len cap] w fun e w' => e = .returned (.bool (decide (1048576 < (len : Int)))) ∧ w = w' := by
  unfold maxLen at h
  go_enter Try.func5, Try.ntmps5
  go_wp2
  go_ret
  exact ⟨rfl, rfl⟩

namespace Plain
theorem IsRow.len {w : World} {k : IntKind} {a : Option Addr} {len cap : Nat} {zs : List Int} (h : IsRow k w a len cap zs) : len ≤ maxLen := by
  rcases h with ⟨_, h, _⟩ | ⟨x, _, h1, h2, _⟩
  · omega
  · omega
end Plain
end Go.Proofs.Ytknpccpfjclngaa

