/- RepoOk of the program by its contract. -/
import Derived.Test.YtkeindhefiaghaaRep
import Derived.Deep.LoopGhost
import Derived.WalkMore
namespace Go.Proofs.Ytkeindhefiaghaa
open Go.RowKit Plain
set_option linter.unusedVariables false

namespace Plain
/-- Where the scanner in block b stands. -/
def curAt (b : Nat) (w : World) : Nat := match w.cell? ⟨b, 1, none⟩ with
  | some (.int _ n) => n.toNat
  | _ => 0
theorem curAt_of {b : Nat} {w : World} {p : Nat} (h : w.cell? ⟨b, 1, none⟩ = some (.int .i64 p)) : curAt b w = p := by unfold curAt; rw [h]; simp
/-- The scanner over s in block b, made in this call, stands at p. -/
structure Scan (W : World) (s : ByteArray) (p : Nat) (w : World) : Prop where
  text : w.cell? ⟨W.heap.size, 0, none⟩ = some (.string s)
  at_ : w.cell? ⟨W.heap.size, 1, none⟩ = some (.int .i64 p)
  free : w.frozen? ⟨W.heap.size, 1, none⟩ = false
  size : W.heap.size < w.heap.size
  below : Below W.heap.size W w
theorem Scan.only {W : World} {s : ByteArray} {p : Nat} {w w' : World} (h : Scan W s p w) (ho : OnlyAt ⟨W.heap.size, 1, none⟩ w w') {q : Nat} (hq : w'.cell? ⟨W.heap.size, 1, none⟩ = some (.int .i64 q)) : Scan W s q w' :=
  ⟨(ho.cell ⟨_, 0, none⟩ h.size (by simp)).trans h.text, hq, (ho.frozen ⟨_, 1, none⟩ h.size).trans h.free, Nat.lt_of_lt_of_le h.size ho.size, h.below.trans (ho.below (Nat.le_refl _) (Nat.le_of_lt h.size))⟩
theorem Scan.drewN {W : World} {s : ByteArray} {p : Nat} {w : World} (h : Scan W s p w) (k : Nat) : Scan W s p (w.drewN k) := h.only ((OnlyAt.refl _ _).drewN k) h.at_
theorem Scan.new (w : World) (s : ByteArray) (T : TypeId) : Scan w s 0 (w.alloc (.cells #[.string s, .int .i64 0] T)) :=
  ⟨by simp [go_sem], by simp [go_sem], by simp [go_sem], by simp, (Below.refl _ _).alloc (Nat.le_refl _) _⟩
theorem drop_all (s : ByteArray) (p : Nat) (h : s.size ≤ p) : s.data.toList.drop p = [] := List.drop_of_length_le (by rw [len_list]; exact h)
theorem drop_cons (s : ByteArray) (p : Nat) (h : p < s.size) : s.data.toList.drop p = s[p] :: s.data.toList.drop (p + 1) := List.drop_eq_getElem_cons (by rw [len_list]; exact h)
theorem repoB_of {s : ByteArray} (h : s.size ≤ 100) : repoB s = rep 0 (s.data.toList.drop 0) := by unfold repoB; simp [h]
end Plain

end Go.Proofs.Ytkeindhefiaghaa