/- Members by the specification: quorums, and whether two sets of quorums meet. -/
import Derived.Test.YtiakhgafibgpgaaDoorConS
namespace Go.Proofs.YtiakhgafibgpgaaDoor
open Go.RowKit Plain
set_option linter.unusedVariables false

namespace Plain
theorem among_take (v ids : List Int) (k : Nat) (h : k < v.length) : among (v.take (k + 1)) ids = among (v.take k) ids + (decide (v[k] ∈ ids)).toNat := by
  unfold among
  rw [List.take_succ_eq_append_getElem h, List.filter_append, List.length_append]
  cases hd : decide (v[k] ∈ ids) <;> simp [hd] <;> simpa using hd
theorem among_zero (ids : List Int) : among [] ids = 0 := rfl
end Plain



namespace Plain
/-- The specification's way to tell whether quorums meet. -/
theorem meet_way (na nb s : Nat) (ha : 1 ≤ na) (hb : 1 ≤ nb) (hs : s ≤ na) (X Y : Int) (hX : X = max 0 (((na / 2 + 1 : Nat) : Int) - ((na : Int) - (s : Int)))) (hY : Y = max 0 (((nb / 2 + 1 : Nat) : Int) - ((nb : Int) - (s : Int)))) :
    decide ((s : Int) < X + Y) = decide (na + nb - s < (na / 2 + 1) + (nb / 2 + 1)) := decide_eq_decide.2 (by omega)
theorem half_go (n : Nat) (h : n ≤ 1000) : IntKind.i64.wrap ((n : Int).tdiv 2 + 1) = ((n / 2 + 1 : Nat) : Int) := by rw [IntKind.wrap_i64, Int.tdiv_eq_ediv_of_nonneg (by omega)]; omega
theorem half_go2 (n : Nat) (h : n ≤ 1000) : IntKind.i64.wrap ((n : Int) / 2 + 1) = ((n / 2 + 1 : Nat) : Int) := by rw [IntKind.wrap_i64]; omega
theorem sub_go (a b : Int) (ha : -1000 ≤ a) (ha2 : a ≤ 1000) (hb : -1000 ≤ b) (hb2 : b ≤ 1000) : IntKind.i64.wrap (a - b) = a - b := by rw [IntKind.wrap_i64]; omega
theorem add_go (a b : Int) (ha : -1000 ≤ a) (ha2 : a ≤ 1000) (hb : -1000 ≤ b) (hb2 : b ≤ 1000) : IntKind.i64.wrap (a + b) = a + b := by rw [IntKind.wrap_i64]; omega
end Plain

end Go.Proofs.YtiakhgafibgpgaaDoor