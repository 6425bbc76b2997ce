/- Texts and numbers behind one another: TakeNumber, PutText, TakeText of both programs by their contracts. -/
import Derived.Test.YtiakhgafibgpgaaDoorNum
import Derived.Test.YtiakhgafibgpgaaDoorTake
import Derived.Test.YtiakhgafibgpgaaDoorCur
import Derived.Test.YtiakhgafibgpgaaDoorPlainB
namespace Go.Proofs.YtiakhgafibgpgaaDoor
open Go.RowKit Plain
set_option linter.unusedVariables false

theorem numV_none {r : Option (Nat × Nat)} (h : r = none) : numV r = .tuple #[.int .i64 0, .bool false] := by subst h; rfl
theorem numV_some {r : Option (Nat × Nat)} {v l : Nat} (h : r = some (v, l)) : numV r = .tuple #[.int .i64 v, .bool true] := by subst h; rfl



theorem impl_PutText (s : ByteArray) (w : World) (hs : s.size ≤ 1000000000000) :
    Calls Tryd.prog 22 #[.string s] w fun e w' => e = .returned (.string (putT s)) ∧ Below w.heap.size w w' := by
  unfold putT
  by_cases h : s.size ≤ 20000
  · rw [if_pos h]
    have hu := putS_size (s.size : Int)
    go_enter Tryd.func22, Tryd.ntmps22
    go_wp2_with fail
    refine (impl_PutNumber _ _).mono ?_
    rintro e w1 ⟨rfl, hb⟩
    go_wp2
    go_ret
    exact ⟨rfl, hb⟩
  · rw [if_neg h]
    go_enter Tryd.func22, Tryd.ntmps22
    go_wp2
    go_ret
    exact ⟨rfl, Below.refl _ _⟩

theorem spec_PutText (s : ByteArray) (w : World) (hs : s.size ≤ 1000000000000) :
    Calls Tryd.prog 13 #[.string s] w fun e w' => e = .returned (.string (putT s)) ∧ Below w.heap.size w w' := by
  unfold putT
  by_cases h : s.size ≤ 20000
  · rw [if_pos h]
    have hu := putS_size (s.size : Int)
    go_enter Tryd.func13, Tryd.ntmps13
    go_wp2_with fail
    refine (spec_PutNumber _ _).mono ?_
    rintro e w1 ⟨rfl, hb⟩
    go_wp2
    go_ret
    exact ⟨rfl, hb⟩
  · rw [if_neg h]
    go_enter Tryd.func13, Tryd.ntmps13
    go_wp2
    go_ret
    exact ⟨rfl, Below.refl _ _⟩

/-- What the reader's field answers, and where its cursor stands behind it. -/
def fldV (s : ByteArray) (p : Nat) (r : Option (Nat × Nat)) : Value := match r with
  | none => .tuple #[.string ByteArray.empty, .bool false]
  | some (l, v) => .tuple #[.string (s.extract (p + l) (p + l + v)), .bool true]
def fldAt (p : Nat) (r : Option (Nat × Nat)) : Nat := match r with
  | none => p
  | some (l, v) => p + l + v



/-- What TakeText answers. -/
def textV (s : ByteArray) : Value := match tkT s 0 with
  | none => .tuple #[.string ByteArray.empty, .string ByteArray.empty, .bool false]
  | some (l, v) => .tuple #[.string (s.extract l (l + v)), .string (s.extract (l + v) s.size), .bool true]
theorem textV_none {s : ByteArray} (h : tkT s 0 = none) : textV s = .tuple #[.string ByteArray.empty, .string ByteArray.empty, .bool false] := by unfold textV; rw [h]
theorem textV_some {s : ByteArray} {l v : Nat} (h : tkT s 0 = some (l, v)) : textV s = .tuple #[.string (s.extract l (l + v)), .string (s.extract (l + v) s.size), .bool true] := by unfold textV; rw [h]





end Go.Proofs.YtiakhgafibgpgaaDoor
