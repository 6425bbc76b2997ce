/- Members, as the exact laws copy, measure and compare them. -/
import Derived.Test.YtfjldlmdhemajaaDoorConJ
namespace Go.Proofs.YtfjldlmdhemajaaDoor
open Go.RowKit Plain
set_option linter.unusedVariables false

namespace Plain
/-- Members among the arguments. -/
structure ConfArg (W : World) (av : Option Addr) (nv cv : Nat) (v : List Int) (al : Option Addr) (nl cl : Nat) (l : List Int) : Prop where
  v : ArgRow 1 intL goodI W av nv cv v
  l : ArgRow 1 intL goodI W al nl cl l
theorem ConfArg.below {W W' : World} {av : Option Addr} {nv cv : Nat} {v : List Int} {al : Option Addr} {nl cl : Nat} {l : List Int} (h : ConfArg W av nv cv v al nl cl l) (hb : Below W.heap.size W W') : ConfArg W' av nv cv v al nl cl l :=
  ⟨⟨h.v.len, h.v.le, h.v.good, h.v.row.below hb⟩, ⟨h.l.len, h.l.le, h.l.good, h.l.row.below hb⟩⟩
end Plain
theorem OwnR.oth {α : Type} {e : Elem α} {W W' : World} {B : Nat} {v : Value} {xs : List α} (h : OwnR e W B v xs) (hh : ∀ g, v.ownBlock = some g → W'.heap[g]? = W.heap[g]?) : OwnR e W' B v xs := by
  refine ⟨h.1, ?_⟩
  rcases h.2 with ⟨a, c⟩ | ⟨g, cap, cur, rfl, c, d, r⟩
  · exact .inl ⟨a, c⟩
  · exact .inr ⟨g, cap, cur, rfl, c, (hh g rfl).trans d, r⟩
theorem Plain.own_blkI {g g' n c : Nat} (h : (Value.slice (some ⟨g, 0, none⟩) n c).ownBlock = some g') : g = g' := Option.some.inj h
theorem Plain.heap_setI {W : World} {b i g : Nat} {u : Value} (h : b ≠ g) : (W.setCell ⟨b, i, none⟩ u).heap[g]? = W.heap[g]? := Below.heap_setCell _ _ _ _ (fun e => h (by simp at e; exact e.symm))
/-- What toConf leaves. -/
def ToConf (nv nl : Nat) (v l : List Int) (w : World) (e : Ending) (w' : World) : Prop := ∃ g1 g2, e = .returned (.agg #[.slice (some ⟨g1, 0, none⟩) nv nv, .slice (some ⟨g2, 0, none⟩) nl nl]) ∧ g1 < g2 ∧ OwnR i64E w' w.heap.size (.slice (some ⟨g1, 0, none⟩) nv nv) v ∧ OwnR i64E w' w.heap.size (.slice (some ⟨g2, 0, none⟩) nl nl) l ∧ Below w.heap.size w w'





set_option maxRecDepth 10000 in
set_option maxHeartbeats 1000000 in
theorem eqConf_calls (av al bv bl : Option Addr) (nv nl c1 c2 c3 c4 : Nat) (v l : List Int) (w : World) (h1 : ConfAt w av nv v al nl l) (h2 : ConfAt w bv nv v bl nl l) :
    Calls Tryd.prog 6 #[.agg #[.slice av nv c1, .slice al nl c2], .agg #[.slice bv nv c3, .slice bl nl c4]] w fun e w' => e = .returned (.bool true) ∧ Below w.heap.size w w' := by
  obtain ⟨W0, hW0⟩ : ∃ W0, W0 = (w.alloc (.cells #[.slice av nv c1, .slice al nl c2] 24)).alloc (.cells #[.slice bv nv c3, .slice bl nl c4] 24) := ⟨_, rfl⟩
  have hb0 : Below w.heap.size w W0 := by rw [hW0]; exact belOn (bel1 _ _) (bel1 _ _)
  have hs0 : w.heap.size + 1 < W0.heap.size := by rw [hW0]; simp
  have hs1 : w.heap.size < W0.heap.size := by omega
  have c1' : W0.cell? ⟨w.heap.size, 1, none⟩ = some (.slice al nl c2) := by rw [hW0]; simp [go_sem]
  have d1 : W0.cell? ⟨w.heap.size + 1, 1, none⟩ = some (.slice bl nl c4) := by rw [hW0, show w.heap.size + 1 = (w.alloc (.cells #[.slice av nv c1, .slice al nl c2] 24)).heap.size from by simp]; simp [go_sem]
  have HB0 := hide hb0
  have HW0 := hide hW0.symm
  have b1 := h1.v.bn
  have b2 := h1.l.bn
  have H1 := hide (eqInt64S_calls av bv c1 c3 nv v W0 h1.v.len (by omega) (h1.below hb0).v.row (h2.below hb0).v.row)
  have H2 := hide (fun (W : World) (hW : Below W0.heap.size W0 W) => eqInt64S_calls al bl c2 c4 nl l W h1.l.len (by omega) (h1.below (belOn hb0 hW)).l.row (h2.below (belOn hb0 hW)).l.row)
  clear hb0 hW0 h1 h2
  go_enter Tryd.func6, Tryd.ntmps6
  go_wp2_with fail
  rw [unhide HW0]
  refine (unhide H1).mono ?_
  rintro e w1 ⟨rfl, hb1⟩
  have q1 := bcl hb1 hs1 c1'
  have q2 := bcl hb1 hs0 d1
  have HB1 := hide hb1
  clear hb1 c1' d1
  go_wp2_with fail
  refine (unhide H2 _ (unhide HB1)).mono ?_
  rintro e w2 ⟨rfl, hb2⟩
  have HB2 := hide (belOn (unhide HB0) (belOn (unhide HB1) hb2))
  clear hb2
  go_wp2_with fail
  go_ret
  exact ⟨rfl, unhide HB2⟩
end Go.Proofs.YtfjldlmdhemajaaDoor
