/- Texts of one kind, put together. -/
import Derived.Test.YtanekbifdedmeaaGreatDoorGAB
import Derived.Lib.SmallJoins
import Derived.ChangeSame
import Derived.Shelf.Strings.Cut
import Derived.Test.YtanekbifdedmeaaGreatDoorProg

/- Rows that are arguments: read anywhere in their block. -/
namespace Go.Proofs.YtanekbifdedmeaaGreatDoor
open Go.RowKit Plain
set_option linter.unusedVariables false

/-- The slice at a holds xs, each in n cells. -/
def Plain.ArgAt {α : Type} (n : Nat) (en : α → List Value) (W : World) (a : Option Addr) (xs : List α) : Prop := ∀ i (h : i < xs.length), ∃ g o, a = some ⟨g, o, none⟩ ∧ g < W.heap.size ∧ ∀ j, j < n → W.cell? ⟨g, o + i * n + j, none⟩ = (en xs[i])[j]?
theorem Plain.ArgAt.below {α : Type} {n : Nat} {en : α → List Value} {W W' : World} {a : Option Addr} {xs : List α} (h : ArgAt n en W a xs) (hb : Below W.heap.size W W') : ArgAt n en W' a xs := fun i hi => by
  obtain ⟨g, o, e, hl, hc⟩ := h i hi
  exact ⟨g, o, e, Nat.lt_of_lt_of_le hl hb.size, fun j hj => (hb.cell (p := ⟨g, o + i * n + j, none⟩) hl).trans (hc j hj)⟩
/-- An argument that is a slice. -/
structure Plain.ArgRow {α : Type} (n : Nat) (en : α → List Value) (good : α → Prop) (W : World) (a : Option Addr) (k c : Nat) (xs : List α) : Prop where
  len : xs.length = k
  le : k ≤ maxLen
  good : ∀ z ∈ xs, good z
  row : ArgAt n en W a xs

namespace Plain
end Plain



namespace Plain
end Plain



end Go.Proofs.YtanekbifdedmeaaGreatDoor


/- The library's strings.Cut, laid at this program: where its functions and types lie. -/
namespace Go.Proofs
open Go.Shelf
def Tryz.lays145_ren : Go.Shelf.Ren := ⟨fun | 145 => 94 | 220 => 129 | 219 => 144 | 217 => 164 | 225 => 165 | 224 => 166 | 267 => 167 | 266 => 181 | 314 => 182 | n => n, fun | 9 => 9 | 4 => 4 | 59 => 127 | 3 => 3 | 5 => 5 | 46 => 161 | 146 => 213 | 51 => 180 | n => n, fun | 1 => 2 | n => n⟩
theorem Tryz.lays145 : Go.Proofs.Lays.n145 Tryz.prog Tryz.lays145_ren := {
  mixed := by kernel_rfl
  f145 := Tryz.func94.trans (congrArg some (by kernel_rfl))
  f217 := Tryz.func164.trans (congrArg some (by kernel_rfl))
  f219 := Tryz.func144.trans (congrArg some (by kernel_rfl))
  f220 := Tryz.func129.trans (congrArg some (by kernel_rfl))
  f224 := Tryz.func166.trans (congrArg some (by kernel_rfl))
  f225 := Tryz.func165.trans (congrArg some (by kernel_rfl))
  f266 := Tryz.func181.trans (congrArg some (by kernel_rfl))
  f267 := Tryz.func167.trans (congrArg some (by kernel_rfl))
  f314 := Tryz.func182.trans (congrArg some (by kernel_rfl))
  t3 := Tryz.underlying3
  a3 := Tryz.isAgg3
  z3 := Tryz.sizeOf3
  v3 := Tryz.zeroValue3
  t4 := Tryz.underlying4
  a4 := Tryz.isAgg4
  z4 := Tryz.sizeOf4
  v4 := Tryz.zeroValue4
  t5 := Tryz.underlying5
  a5 := Tryz.isAgg5
  z5 := Tryz.sizeOf5
  v5 := Tryz.zeroValue5
  t9 := Tryz.underlying9
  a9 := Tryz.isAgg9
  z9 := Tryz.sizeOf9
  v9 := Tryz.zeroValue9
  t46 := Tryz.underlying161
  a46 := Tryz.isAgg161
  z46 := Tryz.sizeOf161
  v46 := Tryz.zeroValue161
  t51 := Tryz.underlying180
  a51 := Tryz.isAgg180
  z51 := Tryz.sizeOf180
  v51 := Tryz.zeroValue180
  t59 := Tryz.underlying127
  a59 := Tryz.isAgg127
  z59 := Tryz.sizeOf127
  v59 := Tryz.zeroValue127
  t146 := Tryz.underlying213
  a146 := Tryz.isAgg213
  z146 := Tryz.sizeOf213
  v146 := Tryz.zeroValue213
  g1 := by kernel_rfl }
end Go.Proofs

