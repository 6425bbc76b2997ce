/- Members, as the exact laws copy, measure and compare them. -/
import Derived.Test.YtmokpgmehaakgaaGreatDoorConJ
namespace Go.Proofs.YtmokpgmehaakgaaGreatDoor
open Go.RowKit Plain
set_option linter.unusedVariables false

namespace Plain
/-- Members among the arguments. -/
structure ConfArg (W : World) (av : Option Addr) (nv cv : Nat) (v : List Int) (al : Option Addr) (nl cl : Nat) (l : List Int) : Prop where
  v : ArgRow 1 intL goodI W av nv cv v
  l : ArgRow 1 intL goodI W al nl cl l
theorem ConfArg.below {W W' : World} {av : Option Addr} {nv cv : Nat} {v : List Int} {al : Option Addr} {nl cl : Nat} {l : List Int} (h : ConfArg W av nv cv v al nl cl l) (hb : Below W.heap.size W W') : ConfArg W' av nv cv v al nl cl l :=
  ⟨⟨h.v.len, h.v.le, h.v.good, h.v.row.below hb⟩, ⟨h.l.len, h.l.le, h.l.good, h.l.row.below hb⟩⟩
end Plain
theorem OwnR.oth {α : Type} {e : Elem α} {W W' : World} {B : Nat} {v : Value} {xs : List α} (h : OwnR e W B v xs) (hh : ∀ g, v.ownBlock = some g → W'.heap[g]? = W.heap[g]?) : OwnR e W' B v xs := by
  refine ⟨h.1, ?_⟩
  rcases h.2 with ⟨a, c⟩ | ⟨g, cap, cur, rfl, c, d, r⟩
  · exact .inl ⟨a, c⟩
  · exact .inr ⟨g, cap, cur, rfl, c, (hh g rfl).trans d, r⟩
theorem Plain.own_blkI {g g' n c : Nat} (h : (Value.slice (some ⟨g, 0, none⟩) n c).ownBlock = some g') : g = g' := Option.some.inj h
theorem Plain.heap_setI {W : World} {b i g : Nat} {u : Value} (h : b ≠ g) : (W.setCell ⟨b, i, none⟩ u).heap[g]? = W.heap[g]? := Below.heap_setCell _ _ _ _ (fun e => h (by simp at e; exact e.symm))
/-- What toConf leaves. -/
def ToConf (nv nl : Nat) (v l : List Int) (w : World) (e : Ending) (w' : World) : Prop := ∃ g1 g2, e = .returned (.agg #[.slice (some ⟨g1, 0, none⟩) nv nv, .slice (some ⟨g2, 0, none⟩) nl nl]) ∧ g1 < g2 ∧ OwnR i64E w' w.heap.size (.slice (some ⟨g1, 0, none⟩) nv nv) v ∧ OwnR i64E w' w.heap.size (.slice (some ⟨g2, 0, none⟩) nl nl) l ∧ Below w.heap.size w w'





end Go.Proofs.YtmokpgmehaakgaaGreatDoor