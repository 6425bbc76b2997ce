/- Rows of bytes that a call itself makes: a byte appended to one, over this program's types. -/
import Derived.Test.YtjjdeffmciknjaaRows
import Derived.Test.YtjjdeffmciknjaaPlain
namespace Go.Proofs.Ytjjdeffmciknjaa
open Go.RowKit Plain
set_option linter.unusedVariables false

theorem info5 : (Try.prog.info? 5).map (fun i => (i.zero, i.size, i.bytes)) = some (some (.int .u8 0), 1, 1) := by kernel_rfl

/-- The value v is a slice of bytes which the call owns (from block B on), holding xs. -/
def OwnB (W : World) (B : Nat) (v : Value) (xs : List Int) : Prop := W.ownsRow B 5 1 v xs.length (xs.map (Value.int .u8))

theorem ownB_nil (W : World) (B : Nat) : OwnB W B (.slice none 0 0) [] := World.ownsRow_nil _ _ _ _

theorem ownB_empty (W : World) (B : Nat) (hB : B ≤ W.heap.size) : OwnB (W.alloc (.cells #[] 5)) B (.slice (some ⟨W.heap.size, 0, none⟩) 0 0) [] :=
  World.ownsRow_made W #[] 0 hB (by unfold maxLen; omega) rfl

theorem own_below {W w' : World} {B : Nat} {v : Value} {e : TypeId} {size n : Nat} {xs : List Value} (h : W.ownsRow B e size v n xs) (hg : W.grownBy w' v.ownBlock) (hB : B ≤ W.heap.size) : Below B W w' :=
  (Below.refl B W).grown hg hB fun k hk => (h.lt k hk).1





end Go.Proofs.Ytjjdeffmciknjaa
