/- Members by the program: right ones, quorums, whether two sets of quorums meet. -/
import Derived.Test.YtiakhgafibgpgaaDoorConJ
import Derived.Deep.QuietTactic
import Derived.BigQuiet
namespace Go.Proofs.YtiakhgafibgpgaaDoor
open Go.RowKit Plain
set_option linter.unusedVariables false

namespace Plain
theorem dec_lt (a b : Nat) : decide ((a : Int) < (b : Int)) = decide (a < b) := decide_eq_decide.2 (by omega)
theorem dec_le (a b : Nat) : decide ((a : Int) ≤ (b : Int)) = decide (a ≤ b) := decide_eq_decide.2 (by omega)
theorem maj_le {x m : Nat} (h : popN 64 x / 2 + 1 = m) : m ≤ 1000 := by
  have := popN_le 64 x
  generalize popN 64 x = a at *
  omega
theorem add_small (a b : Nat) (ha : a ≤ 1000) (hb : b ≤ 1000) : wrap64 ((a : Int) + (b : Int)) = ((a + b : Nat) : Int) := by unfold wrap64; omega
theorem add_small2 (a b : Nat) (ha : a ≤ 1000) (hb : b ≤ 1000) : IntKind.i64.wrap ((a : Int) + (b : Int)) = ((a + b : Nat) : Int) := by rw [IntKind.wrap_i64]; omega
end Plain

set_option maxRecDepth 10000 in
set_option maxHeartbeats 1000000 in
theorem impl_ConfOk (av : Option Addr) (nv cv : Nat) (v : List Int) (al : Option Addr) (nl cl : Nat) (l : List Int) (w : World) (h : ConfAt w av nv v al nl l) :
    Calls Tryd.prog 43 #[.agg #[.slice av nv cv, .slice al nl cl]] w fun e w' => e = .returned (.bool (confB v l)) ∧ Below w.heap.size w w' := by
  obtain ⟨W0, hW0⟩ : ∃ W0, W0 = w.alloc (.cells #[.slice av nv cv, .slice al nl cl] 31) := ⟨_, rfl⟩
  have hb0 : Below w.heap.size w W0 := by rw [hW0]; exact bel1 _ _
  have c0 : W0.cell? ⟨w.heap.size, 0, none⟩ = some (.slice av nv cv) := by rw [hW0]; simp [go_sem]
  have c1 : W0.cell? ⟨w.heap.size, 1, none⟩ = some (.slice al nl cl) := by rw [hW0]; simp [go_sem]
  have HC := hide (councilOf_calls av nv cv v al nl cl l W0 (h.below hb0))
  obtain ⟨V, L, e1, -⟩ := councV_is v l
  rw [e1] at HC
  generalize confB v l = R at HC
  have HB0 := hide hb0
  have HW0 := hide hW0.symm
  clear hb0 hW0 h e1
  go_enter Tryd.func43, Tryd.ntmps43
  go_wp2_with fail
  rw [unhide HW0]
  refine (unhide HC).mono ?_
  rintro e w1 ⟨rfl, hb1⟩
  have HB1 := hide (belOn (unhide HB0) hb1)
  clear hb1 c0 c1
  go_wp2_with fail
  go_ret
  exact ⟨rfl, belOn (unhide HB1) (bel1 _ _)⟩







namespace Plain
/-- How many of v are among ids. -/
def among (v ids : List Int) : Nat := (v.filter fun x => decide (x ∈ ids)).length
def quoB (v l ids : List Int) : Bool := confB v l && decide (v.length < 2 * among v ids)
theorem confB_v {v l : List Int} (h : confB v l = true) : okIds 0 v = true ∧ 1 ≤ v.length ∧ v.length ≤ 7 := by
  unfold confB at h
  simp only [Bool.and_eq_true, decide_eq_true_iff] at h
  exact ⟨h.1.1, h.2.1.1, h.2.2.1⟩
theorem among_le (v ids : List Int) : among v ids ≤ v.length := List.length_filter_le _ _
end Plain



namespace Plain
def meetB (v l u k : List Int) : Bool := (confB v l && confB u k) && decide (v.length + u.length - among v u < (v.length / 2 + 1) + (u.length / 2 + 1))
end Plain

end Go.Proofs.YtiakhgafibgpgaaDoor