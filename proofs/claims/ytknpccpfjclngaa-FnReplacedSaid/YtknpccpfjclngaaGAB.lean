/- Texts of one kind, put together. -/
import Derived.Test.YtknpccpfjclngaaGAA
import Derived.Test.YtknpccpfjclngaaGen
import Derived.Laws.OwnMore
import Derived.Laws.MakeOwn
import Derived.Lib.SmallJoins
import Derived.ChangeSame
import Derived.Deep.RegionWith
import Derived.Sort.Walk0

/- Names of repositories as plain mathematics: one automaton over the bytes, which both programs follow. -/
namespace Go.Proofs.Ytknpccpfjclngaa
open Go.RowKit Plain
set_option linter.unusedVariables false
namespace Plain
theorem u8 {c : UInt8} {n : Nat} (hn : n < 256) (h : c.toNat = n) : c = UInt8.ofNat n := by
  apply UInt8.toNat_inj.1
  rw [h, UInt8.toNat_ofNat']
  omega

/-! ### What the scanner takes: a word, a mark -/
def hy : List UInt8 → Nat
  | [] => 0
  | c :: l => if c.toNat = 45 then hy l + 1 else 0
/-- How many bytes the mark at the beginning takes. -/
def un : List UInt8 → Nat
  | [] => 1
  | d :: _ => if d.toNat = 95 then 2 else 1
def mk : List UInt8 → Nat
  | [] => 0
  | c :: l => if c.toNat = 95 then un l else if c.toNat = 46 then 1 else hy (c :: l)
end Plain
end Go.Proofs.Ytknpccpfjclngaa


/- References as plain mathematics: where the first of two signs stands, what is read of a text, what is written. -/
namespace Go.Proofs.Ytknpccpfjclngaa
open Go.RowKit Plain
set_option linter.unusedVariables false
namespace Plain
/-- The place of the first byte that is a or b; the length: there is none. -/
def fd (a b : Nat) : List UInt8 → Nat
  | [] => 0
  | c :: l => if c.toNat = a ∨ c.toNat = b then 0 else fd a b l + 1
end Plain
end Go.Proofs.Ytknpccpfjclngaa


/- A text cut at a sign: the specification's l3Cut by its contract. -/
namespace Go.Proofs.Ytknpccpfjclngaa
open Go.RowKit Plain
set_option linter.unusedVariables false

namespace Plain
def toB (l : List UInt8) : ByteArray := ⟨l.toArray⟩
def emp (t : ByteArray) : Bool := t.toList.isEmpty
end Plain

end Go.Proofs.Ytknpccpfjclngaa


/- Rows of texts, as the exact laws copy, measure and compare them. -/
namespace Go.Proofs.Ytknpccpfjclngaa
open Go.RowKit Plain
set_option linter.unusedVariables false

namespace Plain
/-- The slice at a holds the texts ls. -/
def StrsAt (W : World) (a : Option Addr) (ls : List ByteArray) : Prop := ∀ i (h : i < ls.length), ∃ g o, a = some ⟨g, o, none⟩ ∧ g < W.heap.size ∧ W.cell? ⟨g, o + i, none⟩ = some (.string ls[i])
theorem StrsAt.below {W W' : World} {a : Option Addr} {ls : List ByteArray} (h : StrsAt W a ls) (hb : Below W.heap.size W W') : StrsAt W' a ls := fun i hi => by
  obtain ⟨g, o, e, hl, hc⟩ := h i hi
  exact ⟨g, o, e, Nat.lt_of_lt_of_le hl hb.size, (hb.cell (p := ⟨g, o + i, none⟩) hl).trans hc⟩
theorem StrsAt.nil (W : World) (a : Option Addr) : StrsAt W a [] := fun i h => by simp at h
end Plain
namespace Plain
end Plain



end Go.Proofs.Ytknpccpfjclngaa


/- Rows that are arguments: read anywhere in their block. -/
namespace Go.Proofs.Ytknpccpfjclngaa
open Go.RowKit Plain
set_option linter.unusedVariables false

/-- The slice at a holds xs, each in n cells. -/
def Plain.ArgAt {α : Type} (n : Nat) (en : α → List Value) (W : World) (a : Option Addr) (xs : List α) : Prop := ∀ i (h : i < xs.length), ∃ g o, a = some ⟨g, o, none⟩ ∧ g < W.heap.size ∧ ∀ j, j < n → W.cell? ⟨g, o + i * n + j, none⟩ = (en xs[i])[j]?
theorem Plain.ArgAt.below {α : Type} {n : Nat} {en : α → List Value} {W W' : World} {a : Option Addr} {xs : List α} (h : ArgAt n en W a xs) (hb : Below W.heap.size W W') : ArgAt n en W' a xs := fun i hi => by
  obtain ⟨g, o, e, hl, hc⟩ := h i hi
  exact ⟨g, o, e, Nat.lt_of_lt_of_le hl hb.size, fun j hj => (hb.cell (p := ⟨g, o + i * n + j, none⟩) hl).trans (hc j hj)⟩
/-- An argument that is a slice. -/
structure Plain.ArgRow {α : Type} (n : Nat) (en : α → List Value) (good : α → Prop) (W : World) (a : Option Addr) (k c : Nat) (xs : List α) : Prop where
  len : xs.length = k
  le : k ≤ maxLen
  good : ∀ z ∈ xs, good z
  row : ArgAt n en W a xs

namespace Plain
def fileL (f : ByteArray × ByteArray) : List Value := [.string f.1, .string f.2]
def goodF (f : ByteArray × ByteArray) : Prop := f.1.size ≤ maxLen ∧ f.2.size ≤ maxLen
end Plain



namespace Plain
/-- An op of a disk. -/
structure Dop where
  kind : Int
  name : ByteArray
  to : ByteArray
  data : ByteArray
def dopL (o : Dop) : List Value := [.int .i64 o.kind, .string o.name, .string o.to, .string o.data]
def goodO (o : Dop) : Prop := (Lit.int .i64 o.kind).wf = true ∧ o.name.size ≤ maxLen ∧ o.to.size ≤ maxLen ∧ o.data.size ≤ maxLen
end Plain



end Go.Proofs.Ytknpccpfjclngaa


/- A word in four bytes, the lowest first: both programs by their contracts. -/
namespace Go.Proofs.Ytknpccpfjclngaa
open Go.RowKit Plain
set_option linter.unusedVariables false

namespace Plain
end Plain

end Go.Proofs.Ytknpccpfjclngaa


/- The texts by which the exact laws mark memory. -/
namespace Go.Proofs.Ytknpccpfjclngaa
open Go.RowKit Plain
set_option linter.unusedVariables false

namespace Plain
/-- A number's decimal digits ahead of out. -/
def decB : Nat → Nat → ByteArray → ByteArray
  | 0, _, out => out
  | f + 1, k, out => if k = 0 then out else decB f (k / 10) (strOfNums [((48 + k % 10 : Nat) : Int)] ++ out)
def mtx (k : Nat) : ByteArray := ⟨#[109]⟩ ++ decB k k ⟨#[]⟩
end Plain



end Go.Proofs.Ytknpccpfjclngaa


/- Rows of texts marked and looked at again, as the exact laws do it. -/
namespace Go.Proofs.Ytknpccpfjclngaa
open Go.RowKit Plain
set_option linter.unusedVariables false

namespace Plain
end Plain



end Go.Proofs.Ytknpccpfjclngaa


/- Texts rising, each once: the specification's l1Rising by its contract. -/
namespace Go.Proofs.Ytknpccpfjclngaa
open Go.RowKit Plain
set_option linter.unusedVariables false

namespace Plain
def ltB (a b : ByteArray) : Prop := a.data.toList < b.data.toList
theorem ltB_irrefl (a : ByteArray) : ¬ ltB a a := List.lt_irrefl _
theorem ltB_trans {a b c : ByteArray} (h : ltB a b) (h2 : ltB b c) : ltB a c := List.lt_trans h h2
theorem ltB_tri {a b : ByteArray} (h : ¬ ltB a b) (h2 : a ≠ b) : ltB b a := by
  rcases Classical.em (ltB b a) with h3 | h3
  · exact h3
  · exact absurd (ByteArray.ext (Array.toList_inj.1 (List.le_antisymm h3 h))) h2
theorem less_ltB (a b : ByteArray) : Op.bytesLess a.toList b.toList = true ↔ ltB a b := by
  rw [bytesLess_eq, ByteArray.toList_eq, ByteArray.toList_eq, decide_eq_true_iff]; rfl
theorem beq_bytes (a b : ByteArray) : (a.toList == b.toList) = true ↔ a = b := by
  rw [beq_iff_eq, ByteArray.toList_eq, ByteArray.toList_eq]
  exact ⟨fun h => ByteArray.ext (Array.toList_inj.1 h), fun h => by rw [h]⟩
end Plain



end Go.Proofs.Ytknpccpfjclngaa


/- Numbers in bytes: PutNumber of both programs by its contract. -/
namespace Go.Proofs.Ytknpccpfjclngaa
open Go.RowKit Plain
set_option linter.unusedVariables false

theorem l1In_calls (n lo hi : Int) (w : World) : Calls Try.prog 22 #[.int .i64 n, .int .i64 lo, .int .i64 hi] w fun e w' => e = .returned (.bool (decide (lo ≤ n) && decide (n ≤ hi))) ∧ w = w' := by
  by_cases h1 : lo ≤ n <;> by_cases h2 : n ≤ hi <;>
    (go_enter Try.func22, Try.ntmps22
     go_wp2
     go_ret
     exact ⟨by simp [h1, h2], rfl⟩)









end Go.Proofs.Ytknpccpfjclngaa


/- More plain facts on numbers and texts in bytes. -/
namespace Go.Proofs.Ytknpccpfjclngaa.Plain
open Go Go.RowKit
set_option linter.unusedVariables false

end Go.Proofs.Ytknpccpfjclngaa.Plain

