/- Rows of bytes that a call itself makes: a byte appended to one, over this program's types. -/
import Derived.Test.YtliklijcdcfomaaGreatRows
import Derived.Test.YtliklijcdcfomaaGreatPlain
namespace Go.Proofs.YtliklijcdcfomaaGreat
open Go.RowKit Plain
set_option linter.unusedVariables false

theorem info5 : (Tryz.prog.info? 5).map (fun i => (i.zero, i.size, i.bytes)) = some (some (.int .u8 0), 1, 1) := by kernel_rfl

/-- The value v is a slice of bytes which the call owns (from block B on), holding xs. -/
def OwnB (W : World) (B : Nat) (v : Value) (xs : List Int) : Prop := W.ownsRow B 5 1 v xs.length (xs.map (Value.int .u8))

theorem ownB_nil (W : World) (B : Nat) : OwnB W B (.slice none 0 0) [] := World.ownsRow_nil _ _ _ _

theorem ownB_empty (W : World) (B : Nat) (hB : B ≤ W.heap.size) : OwnB (W.alloc (.cells #[] 5)) B (.slice (some ⟨W.heap.size, 0, none⟩) 0 0) [] :=
  World.ownsRow_made W #[] 0 hB (by unfold maxLen; omega) rfl

theorem own_below {W w' : World} {B : Nat} {v : Value} {e : TypeId} {size n : Nat} {xs : List Value} (h : W.ownsRow B e size v n xs) (hg : W.grownBy w' v.ownBlock) (hB : B ≤ W.heap.size) : Below B W w' :=
  (Below.refl B W).grown hg hB fun k hk => (h.lt k hk).1

theorem app1 {ops : Array Oper} {rest : List Oper} {o : Oper} {a : Act} {Q : Exit → Act → World → Prop} (hgd : o.guard = none) (s x : Operand)
    (ho : o.op = .call { callee := .builtin .append, args := #[s, x], argTypes := #[134, 134] })
    {w : World} {B : Nat} {b : Int} {v : Value} {xs : List Int} (hown : OwnB w B v xs) (hs : a.eval s = v)
    (hx : a.eval x = .slice (some ⟨w.heap.size, 0, none⟩) 1 1) (hlen : xs.length < 1000000000000) (hB : B ≤ w.heap.size)
    (h : ∀ v' w', OwnB w' B v' (xs ++ [b]) → (w.alloc (.cells #[.int .u8 b] 5)).grownBy w' v.ownBlock → Below B w w' → wpList Tryz.prog ops Q rest (a.put o.dst v') w') :
    wpList Tryz.prog ops Q (o :: rest) a (w.alloc (.cells #[.int .u8 b] 5)) := by
  obtain ⟨i0, hi, hz0, hz1, hz2⟩ := info_parts info5
  have ha := World.ownsRow.alloc hown (.cells #[.int .u8 b] 5)
  refine wpList_append_own _ hgd s x 134 ho B 5 i0 (.int .u8 0) 1 1 Tryz.underlying134 hi hz0 hz1 hz2 rfl (by decide) v xs.length (xs.map (Value.int .u8)) hs ha
    ⟨w.heap.size, 0, none⟩ 1 1 [.int .u8 b] hx rfl (cell_one_new _ _ _) ?_ (by unfold maxLen; omega) (by omega) (by simp; omega) ?_
  · intro u hu; simp at hu; subst hu; rfl
  · intro v' w' h1 h2 _
    refine h v' w' ?_ h2 ?_
    · unfold OwnB; simpa using h1
    · exact (((Below.refl B w).alloc hB _).trans (own_below ha h2 (by simp; omega)))

theorem conv_ownB (W : World) (B : Nat) (v : Value) (xs : List Int) (h : OwnB W B v xs) : (convert 134 9 v).run Tryz.prog W = .ok (.string (strOfNums xs)) W :=
  conv_own W B 134 5 9 Tryz.underlying134 Tryz.underlying5 Tryz.underlying9 v xs.length xs h

end Go.Proofs.YtliklijcdcfomaaGreat
