/- The specification's ops: which are of their form, what they do. -/
import Derived.Test.YtgdcamolpmjceaaDskT
import Derived.Test.YtgdcamolpmjceaaMan
namespace Go.Proofs.Ytgdcamolpmjceaa
open Go.RowKit Plain
set_option linter.unusedVariables false

/-- An op's value. -/
def Plain.dopV (o : Dop) : Value := .agg #[.int .i64 o.kind, .string o.name, .string o.to, .string o.data]
def Plain.FitO (o : Dop) : Prop := o.name.size ≤ 1000000000000 ∧ o.to.size ≤ 1000000000000 ∧ o.data.size ≤ 1000000000000



namespace Plain
theorem sameF_len (s t : List Fl) (h : s.length ≠ t.length) : sameF s t = false := by
  induction s generalizing t with
  | nil =>
    cases t with
    | nil => simp at h
    | cons g t => rfl
  | cons f s ih =>
    cases t with
    | nil => rfl
    | cons g t => rw [sameF, ih t (by simpa using h)]; simp
theorem sameF_step (s t : List Fl) (k : Nat) (h : k < s.length) (h2 : k < t.length) : sameF (s.drop k) (t.drop k) = ((eqN s[k].1 t[k].1 && eqN s[k].2 t[k].2) && sameF (s.drop (k + 1)) (t.drop (k + 1))) := by
  rw [List.drop_eq_getElem_cons h, List.drop_eq_getElem_cons h2, sameF]
end Plain

end Go.Proofs.Ytgdcamolpmjceaa