/- Three rows of texts that lie apart. -/
import Derived.Test.YtldgkpnlplfopaaDoorAppA
import Derived.Test.YtldgkpnlplfopaaDoorStM
import Derived.Test.YtldgkpnlplfopaaDoorTzA
namespace Go.Proofs.YtldgkpnlplfopaaDoor
open Go.RowKit Go.Maps Plain
set_option linter.unusedVariables false

namespace Plain
/-- Two rows that do not lie in one block. -/
def ApT (u v : Value) : Prop := ∀ g, u.ownBlock = some g → v.ownBlock ≠ some g
theorem ApT.symm {u v : Value} (h : ApT u v) : ApT v u := fun g hv hu => h g hu hv
theorem keptT {α : Type} {e : Elem α} {W w' : World} {B : Nat} {u v : Value} {L : List α} (h : OwnR e W B v L) (ha : ApT u v) (hg : W.grownBy w' u.ownBlock) : OwnR e w' B v L := by
  refine World.ownsRow.kept h hg ?_
  cases hu : u.ownBlock with
  | none =>
    cases hx : v.ownBlock with
    | none => exact .inl rfl
    | some g => exact .inr (by simp)
  | some g => exact .inr (ha g hu)
theorem ApT.next {α : Type} {e : Elem α} {W : World} {B : Nat} {u u' v : Value} {L : List α} (h : ApT u v) (hv : OwnR e W B v L) {H : Nat} (hw : W.heap.size ≤ H) (hu : u'.ownBlock = u.ownBlock ∨ u'.ownBlock = some H) : ApT u' v := by
  intro g hg q
  rcases hu with e | e
  · exact h g (by rw [← e]; exact hg) q
  · rw [e] at hg
    have h1 : H = g := by simpa using hg
    have := (World.ownsRow.lt hv g q).2
    omega
theorem ApT.new {α β : Type} {e : Elem α} {e' : Elem β} {W W' : World} {B B' : Nat} {u v : Value} {L : List α} {M : List β} (hu : OwnR e W B u L) (hv : OwnR e' W' B' v M) (hB : W.heap.size ≤ B') : ApT u v := by
  intro g hg q
  have h1 := (World.ownsRow.lt hu g hg).2
  have h2 := (World.ownsRow.lt hv g q).1
  omega
structure Tri (W : World) (B : Nat) (v1 v2 v3 : Value) (l1 l2 l3 : List ByteArray) : Prop where
  o1 : OwnR strE W B v1 l1
  o2 : OwnR strE W B v2 l2
  o3 : OwnR strE W B v3 l3
  a12 : ApT v1 v2
  a13 : ApT v1 v3
  a23 : ApT v2 v3
theorem Tri.rot {W : World} {B : Nat} {v1 v2 v3 : Value} {l1 l2 l3 : List ByteArray} (h : Tri W B v1 v2 v3 l1 l2 l3) : Tri W B v2 v3 v1 l2 l3 l1 := ⟨h.o2, h.o3, h.o1, h.a23, h.a12.symm, h.a13.symm⟩
theorem Tri.keep {W W' : World} {B : Nat} {v1 v2 v3 : Value} {l1 l2 l3 : List ByteArray} (h : Tri W B v1 v2 v3 l1 l2 l3) (hb : Below W.heap.size W W') : Tri W' B v1 v2 v3 l1 l2 l3 := ⟨h.o1.keep hb, h.o2.keep hb, h.o3.keep hb, h.a12, h.a13, h.a23⟩
theorem Tri.app {W w' : World} {B : Nat} {v1 v1' v2 v3 : Value} {l1 l1' l2 l3 : List ByteArray} (h : Tri W B v1 v2 v3 l1 l2 l3) (o : OwnR strE w' B v1' l1') (hg : W.grownBy w' v1.ownBlock) (hw : v1'.ownBlock = v1.ownBlock ∨ v1'.ownBlock = some W.heap.size) : Tri w' B v1' v2 v3 l1' l2 l3 :=
  ⟨o, keptT h.o2 h.a12 hg, keptT h.o3 h.a13 hg, h.a12.next h.o2 (Nat.le_refl _) hw, h.a13.next h.o3 (Nat.le_refl _) hw, h.a23⟩
end Plain
theorem tri_made (w : World) : Tri (((w.alloc (.cells #[] 9)).alloc (.cells #[] 9)).alloc (.cells #[] 9)) w.heap.size (.slice (some ⟨w.heap.size, 0, none⟩) 0 0) (.slice (some ⟨w.heap.size + 1, 0, none⟩) 0 0) (.slice (some ⟨w.heap.size + 1 + 1, 0, none⟩) 0 0) [] [] [] := by
  have s1 : (w.alloc (.cells #[] 9)).heap.size = w.heap.size + 1 := by simp
  have s2 : ((w.alloc (.cells #[] 9)).alloc (.cells #[] 9)).heap.size = w.heap.size + 1 + 1 := by simp
  have o1 := ownR_empty strE w w.heap.size (Nat.le_refl _)
  have o2 := ownR_empty strE (w.alloc (.cells #[] 9)) w.heap.size (by omega)
  have o3 := ownR_empty strE ((w.alloc (.cells #[] 9)).alloc (.cells #[] 9)) w.heap.size (by omega)
  rw [s1] at o2
  rw [s2] at o3
  have b1 : ∀ W : World, Below W.heap.size W (W.alloc (.cells #[] 9)) := fun W => (Below.refl _ _).alloc (Nat.le_refl _) _
  refine ⟨(o1.keep (b1 _)).keep (b1 _), o2.keep (b1 _), o3, ?_, ?_, ?_⟩
  · intro g hg q
    simp [Value.ownBlock] at hg q
    omega
  · intro g hg q
    simp [Value.ownBlock] at hg q
    omega
  · intro g hg q
    simp [Value.ownBlock] at hg q
    omega

namespace Plain
/-- What one set has under a branch and the other has not. -/
def lsB (A B : List ByteArray) (q : Nat × Nat) : List ByteArray := (A.filter (preB (prT q))).filter fun x => !anyB (B.filter (preB (prT q))) x
theorem lsB_len (A B : List ByteArray) (q : Nat × Nat) (h : A.length ≤ 200) : (lsB A B q).length ≤ 200 := by
  unfold lsB
  have h1 := List.length_filter_le (fun x => !anyB (B.filter (preB (prT q))) x) (A.filter (preB (prT q)))
  have h2 := List.length_filter_le (preB (prT q)) A
  omega
theorem flat_le (A B : List ByteArray) (h : A.length ≤ 200) : ∀ (u : List (Nat × Nat)), (u.flatMap (lsB A B)).length ≤ 200 * u.length
  | [] => by simp
  | q :: u => by
    rw [List.flatMap_cons, List.length_append, List.length_cons]
    have := flat_le A B h u
    have := lsB_len A B q h
    omega
def stOk (A B : List ByteArray) : Bool := setB A && setB B
def asL (A B : List ByteArray) : List ByteArray := if stOk A B then (askB (dfB A B)).map prT else []
def mrL (A B : List ByteArray) : List ByteArray := if stOk A B then (unlB (dfB A B)).flatMap (lsB A B) else []
def leL (A B : List ByteArray) : List ByteArray := if stOk A B then (unlB (dfB A B)).flatMap (lsB B A) else []
theorem nd_same {A : List ByteArray} {q : Nat × Nat} : nodeU (2 - q.1) (A.filter (preB (prT q))) (prT q) = ndB A q := nodeU_filt _ _ _ _ fun s h => h
theorem blw_sx {q : Nat × Nat} (h : gdB q) (h1 : q.1 < 2) : blwL (prT q) 16 = (sxB q).map prT := by
  unfold blwL sxB
  rw [List.map_map]
  apply List.map_congr_left
  intro c hc
  exact (prT_next h h1 c (List.mem_range.1 hc)).symm
end Plain
end Go.Proofs.YtldgkpnlplfopaaDoor
