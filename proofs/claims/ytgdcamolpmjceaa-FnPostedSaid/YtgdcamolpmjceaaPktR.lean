/- Rows of packets, as the exact laws copy, measure and compare them. -/
import Derived.Test.YtgdcamolpmjceaaFilR
namespace Go.Proofs.Ytgdcamolpmjceaa
open Go.RowKit Plain
set_option linter.unusedVariables false

namespace Plain
/-- A packet of a net. -/
structure Pkt where
  id : Int
  src : Int
  dst : Int
  body : ByteArray
def pktL (e : Pkt) : List Value := [.int .i64 e.id, .int .i64 e.src, .int .i64 e.dst, .string e.body]
def goodP (e : Pkt) : Prop := (Lit.int .i64 e.id).wf = true ∧ (Lit.int .i64 e.src).wf = true ∧ (Lit.int .i64 e.dst).wf = true ∧ e.body.size ≤ maxLen
end Plain



/-- Packets as elements. -/
def pktE : Elem Pkt where
  E := 34
  S := 24
  n := 4
  bytes := 40
  zero := .agg #[.int .i64 0, .int .i64 0, .int .i64 0, .string ⟨#[]⟩]
  enc := fun e => [.int .i64 e.id, .int .i64 e.src, .int .i64 e.dst, .string e.body]
  hund := Try.underlying24
  hinfo := by kernel_rfl
  hz := rfl
  hn := by decide
  hb := by decide
  hlen := fun _ => rfl
  hone := fun x u hu => by simp at hu; rcases hu with rfl | rfl | rfl | rfl <;> rfl

namespace Plain
def totP (fs : List Pkt) : Nat := (fs.map fun f => f.body.size).sum
theorem totP_drop (fs : List Pkt) (k : Nat) (h : k < fs.length) : totP (fs.drop k) = (fs[k].body.size) + totP (fs.drop (k + 1)) := by rw [totP, List.drop_eq_getElem_cons h, List.map_cons, List.sum_cons]; rfl
theorem totP_end (fs : List Pkt) (k : Nat) (h : fs.length ≤ k) : totP (fs.drop k) = 0 := by rw [List.drop_of_length_le h]; rfl
theorem totP_mem (fs : List Pkt) (f : Pkt) (h : f ∈ fs) : f.body.size ≤ totP fs := by
  induction fs with
  | nil => simp at h
  | cons g t ih =>
    have e : totP (g :: t) = (g.body.size) + totP t := by rw [totP, List.map_cons, List.sum_cons]; rfl
    rw [e]
    rcases List.mem_cons.1 h with rfl | h
    · omega
    · have := ih h; omega
theorem ArgAt.p {W : World} {a : Option Addr} {xs : List Pkt} (h : ArgAt 4 pktL W a xs) (i : Nat) (hi : i < xs.length) : ∃ g o, a = some ⟨g, o, none⟩ ∧ g < W.heap.size ∧ W.cell? ⟨g, o + i * 4, none⟩ = some (.int .i64 xs[i].id) ∧ W.cell? ⟨g, o + i * 4 + 1, none⟩ = some (.int .i64 xs[i].src) ∧ W.cell? ⟨g, o + i * 4 + 2, none⟩ = some (.int .i64 xs[i].dst) ∧ W.cell? ⟨g, o + i * 4 + 3, none⟩ = some (.string xs[i].body) := by
  obtain ⟨g, o, e, hl, hc⟩ := h i hi
  exact ⟨g, o, e, hl, hc 0 (by decide), hc 1 (by decide), hc 2 (by decide), hc 3 (by decide)⟩
end Plain
theorem RowAt.px {W : World} {a : Option Addr} {xs : List Pkt} (h : RowAt pktE W a xs) (i : Nat) (hi : i < xs.length) : ∃ g, a = some ⟨g, 0, none⟩ ∧ g < W.heap.size ∧ W.cell? ⟨g, i * 4, none⟩ = some (.int .i64 xs[i].id) ∧ W.cell? ⟨g, i * 4 + 1, none⟩ = some (.int .i64 xs[i].src) ∧ W.cell? ⟨g, i * 4 + 2, none⟩ = some (.int .i64 xs[i].dst) ∧ W.cell? ⟨g, i * 4 + 3, none⟩ = some (.string xs[i].body) := by
  obtain ⟨g, e, hl, hc⟩ := h i hi
  exact ⟨g, e, hl, (hc 0 (by decide)).1, (hc 1 (by decide)).1, (hc 2 (by decide)).1, (hc 3 (by decide)).1⟩











end Go.Proofs.Ytgdcamolpmjceaa