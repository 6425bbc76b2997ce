/- Rows of frames of the call's own; a frame appended to one. -/
import Derived.Test.YtnkjdojpegmlcaaRdM
import Derived.Test.YtnkjdojpegmlcaaMem
import Derived.Deep.AppendLies
namespace Go.Proofs.Ytnkjdojpegmlcaa
open Go.RowKit Plain
set_option linter.unusedVariables false

namespace Plain
def fcells (fs : List (Int × ByteArray)) : List Value := fs.flatMap fun f => [.int .i64 f.1, .string f.2]
theorem fcells_length (fs : List (Int × ByteArray)) : (fcells fs).length = fs.length * 2 := by
  induction fs with
  | nil => rfl
  | cons x l ih => simp [fcells] at ih ⊢; omega
theorem fcells_app (fs : List (Int × ByteArray)) (f : Int × ByteArray) : fcells (fs ++ [f]) = fcells fs ++ [.int .i64 f.1, .string f.2] := by simp [fcells]
theorem fcells_get (fs : List (Int × ByteArray)) (i : Nat) (h : i < fs.length) : (fcells fs)[i * 2]? = some (.int .i64 (fs[i]).1) ∧ (fcells fs)[i * 2 + 1]? = some (.string (fs[i]).2) := by
  induction fs generalizing i with
  | nil => simp at h
  | cons x l ih =>
    cases i with
    | zero => exact ⟨rfl, rfl⟩
    | succ i =>
      have := ih i (by simpa using h)
      have e : fcells (x :: l) = .int .i64 x.1 :: .string x.2 :: fcells l := rfl
      rw [e, show (i + 1) * 2 = i * 2 + 1 + 1 from by omega]
      simpa using this
end Plain

/-- The value v is a slice of frames which the call owns (from block B on), holding fs. -/
def OwnF (W : World) (B : Nat) (v : Value) (fs : List (Int × ByteArray)) : Prop := W.ownsRow B 50 2 v fs.length (fcells fs)
theorem ownF_nil (W : World) (B : Nat) : OwnF W B (.slice none 0 0) [] := World.ownsRow_nil _ _ _ _
theorem ownF_empty (W : World) (B : Nat) (hB : B ≤ W.heap.size) : OwnF (W.alloc (.cells #[] 50)) B (.slice (some ⟨W.heap.size, 0, none⟩) 0 0) [] :=
  World.ownsRow_made W #[] 0 hB (by unfold maxLen; omega) rfl
theorem info35 : (Try.prog.info? 50).map (fun i => (i.zero, i.size, i.bytes)) = some (some (.agg #[.int .i64 0, .string ⟨#[]⟩]), 2, 24) := by kernel_rfl

theorem appF {ops : Array Oper} {rest : List Oper} {o : Oper} {a : Act} {Q : Exit → Act → World → Prop} (hgd : o.guard = none) (s x : Operand)
    (ho : o.op = .call { callee := .builtin .append, args := #[s, x], argTypes := #[69, 69] })
    {w : World} {B : Nat} {k : Int} {b : ByteArray} {v : Value} {fs : List (Int × ByteArray)} (hown : OwnF w B v fs) (hs : a.eval s = v)
    (gx : Nat) (hx : a.eval x = .slice (some ⟨gx, 0, none⟩) 1 1) (hgx : gx = w.heap.size) (hlen : fs.length < 1000000) (hB : B ≤ w.heap.size)
    (h : ∀ v' w', OwnF w' B v' (fs ++ [(k, b)]) → Below B w w' → wpList Try.prog ops Q rest (a.put o.dst v') w') :
    wpList Try.prog ops Q (o :: rest) a (w.alloc (.cells #[.int .i64 k, .string b] 50)) := by
  subst hgx
  obtain ⟨i0, hi, hz0, hz1, hz2⟩ := info_parts info35
  have ha := World.ownsRow.alloc hown (.cells #[.int .i64 k, .string b] 50)
  refine wpList_append_own _ hgd s x 69 ho B 50 i0 (.agg #[.int .i64 0, .string ⟨#[]⟩]) 2 24 Try.underlying69 hi hz0 hz1 hz2 rfl (by decide) v fs.length (fcells fs) hs ha
    ⟨w.heap.size, 0, none⟩ 1 1 [.int .i64 k, .string b] hx rfl (World.news_of_block (h_new w _ rfl)) ?_ (by unfold maxLen; omega) (by omega) (by simp; omega) ?_
  · intro u hu; simp at hu; rcases hu with rfl | rfl <;> rfl
  · intro v' w' h1 h2 _
    refine h v' w' ?_ (((Below.refl B w).alloc hB _).trans (own_below ha h2 (by simp; omega)))
    unfold OwnF
    rw [fcells_app]
    simpa using h1
end Go.Proofs.Ytnkjdojpegmlcaa
