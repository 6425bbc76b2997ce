/- Rows of texts, as the exact laws copy, measure and compare them. -/
import Derived.Test.YtmgjkomgpkoenaaGreatGen
import Derived.Test.YtmgjkomgpkoenaaGreatCut
import Derived.Laws.OwnMore
import Derived.Laws.MakeOwn
namespace Go.Proofs.YtmgjkomgpkoenaaGreat
open Go.RowKit Plain
set_option linter.unusedVariables false

namespace Plain
/-- The slice at a holds the texts ls. -/
def StrsAt (W : World) (a : Option Addr) (ls : List ByteArray) : Prop := ∀ i (h : i < ls.length), ∃ g o, a = some ⟨g, o, none⟩ ∧ g < W.heap.size ∧ W.cell? ⟨g, o + i, none⟩ = some (.string ls[i])
theorem StrsAt.below {W W' : World} {a : Option Addr} {ls : List ByteArray} (h : StrsAt W a ls) (hb : Below W.heap.size W W') : StrsAt W' a ls := fun i hi => by
  obtain ⟨g, o, e, hl, hc⟩ := h i hi
  exact ⟨g, o, e, Nat.lt_of_lt_of_le hl hb.size, (hb.cell (p := ⟨g, o + i, none⟩) hl).trans hc⟩
theorem StrsAt.via {W W' : World} {B : Nat} {a : Option Addr} {ls : List ByteArray} (h : StrsAt W a ls) (hb : Below B W W') (hB : W.heap.size ≤ B) : StrsAt W' a ls := h.below (hb.mono hB)
/-- An argument that is a slice of texts. -/
def StrsRow (W : World) (a : Option Addr) (n c : Nat) (ls : List ByteArray) : Prop := ls.length = n ∧ n ≤ maxLen ∧ (∀ l ∈ ls, l.size ≤ maxLen) ∧ StrsAt W a ls
theorem StrsAt.of_cells {W : World} {x : Addr} {ss : List ByteArray} {n : Nat} (hn : n ≤ ss.length) (h : ∀ i, i < ss.length → W.cell? (x.add i) = some (.string (ss.getD i ByteArray.empty))) : StrsAt W (some x) (ss.take n) := by
  intro i hi
  rw [List.length_take] at hi
  have hc := h i (by omega)
  obtain ⟨b, off, spot⟩ := x
  have hspot : spot = none := by simpa [Addr.add] using World.cell?_spot (h 0 (by omega))
  subst hspot
  rw [show (⟨b, off, none⟩ : Addr).add i = ⟨b, off + i, none⟩ from by unfold Addr.add; split <;> simp_all] at hc
  refine ⟨b, off, rfl, lt_of_cell hc, ?_⟩
  rw [hc, List.getElem_take, List.getD, List.getElem?_eq_getElem (show i < ss.length by omega), Option.getD_some]
theorem StrsAt.nil (W : World) (a : Option Addr) : StrsAt W a [] := fun i h => by simp at h
end Plain
theorem RowAt.strs {W : World} {a : Option Addr} {xs : List ByteArray} (h : RowAt strE W a xs) : StrsAt W a xs := fun i hi => by
  obtain ⟨g, e, hl, hc, hf⟩ := h.str i hi
  exact ⟨g, 0, e, hl, by rw [Nat.zero_add]; exact hc⟩

theorem flat_str (xs : List ByteArray) : xs.flatMap strE.enc = xs.map Value.string := by
  show xs.flatMap (fun s => [Value.string s]) = _
  induction xs with
  | nil => rfl
  | cons x l ih => rw [List.flatMap_cons, ih]; rfl
theorem OwnR.setS {W : World} {B g n cap k : Nat} {xs : List ByteArray} (h : OwnR strE W B (.slice (some ⟨g, 0, none⟩) n cap) xs) (hn : xs.length = n) (y : ByteArray) :
    OwnR strE (W.setCell ⟨g, k, none⟩ (.string y)) B (.slice (some ⟨g, 0, none⟩) n cap) (xs.set k y) := by
  unfold OwnR at h ⊢
  rw [flat_str] at h ⊢
  rw [List.length_set]
  subst hn
  rw [List.map_set]
  exact (World.ownsRow.stored h k (.string y)).1
def zerosS (n : Nat) : Array Value := madeCells #[.string ⟨#[]⟩] (n * 1)
theorem make_strs (n : Nat) (w : World) (hn : n ≤ 10000000) : (Instr.makeSlice 171 (.int .i64 n) (.int .i64 n)).run Tryz.prog w = .ok (.slice (some ⟨w.heap.size, 0, none⟩) n n) (w.alloc (.cells (zerosS n) 9)) := by
  obtain ⟨i0, hi, hz0, hz1, hz2⟩ := info_parts strE.hinfo
  have hb : i0.bytes = 16 := hz2
  have := run_make w 171 9 i0 (.string ⟨#[]⟩) Tryz.underlying171 hi hz0 .i64 .i64 n n (by omega) (by omega) (by rw [hb]; omega) (by omega)
  have hs : i0.size = 1 := hz1
  rw [hs] at this
  exact this
theorem own_zerosS (n : Nat) (w : World) (hn : n ≤ 10000000) : OwnR strE (w.alloc (.cells (zerosS n) 9)) w.heap.size (.slice (some ⟨w.heap.size, 0, none⟩) n n) (List.replicate n ⟨#[]⟩) := by
  unfold OwnR
  rw [flat_str, List.length_replicate]
  have := World.ownsRow_lit (base := w.heap.size) (e := 9) (size := 1) w (zerosS n) n (Nat.le_refl _) (by unfold maxLen; omega) (by simp [zerosS, size_madeCells])
  rw [show (zerosS n).toList = (List.replicate n (⟨#[]⟩ : ByteArray)).map Value.string from by
    unfold zerosS; rw [toList_madeCells_one, Nat.mul_one, List.map_replicate]] at this
  exact this



namespace Plain
def sumZ (ls : List ByteArray) : Nat := (ls.map fun l => l.size).sum
/-- What is left of a purse behind a row of texts; less than nought: it was too small. -/
def szL (ls : List ByteArray) (left : Int) : Int := if left < ls.length + sumZ ls then -1 else left - (ls.length + sumZ ls)
theorem sumZ_cons (x : ByteArray) (ls : List ByteArray) : sumZ (x :: ls) = x.size + sumZ ls := by simp [sumZ]
theorem sumZ_drop (ls : List ByteArray) (k : Nat) (h : k < ls.length) : sumZ (ls.drop k) = ls[k].size + sumZ (ls.drop (k + 1)) := by rw [List.drop_eq_getElem_cons h, sumZ_cons]
theorem sumZ_end (ls : List ByteArray) (k : Nat) (h : ls.length ≤ k) : sumZ (ls.drop k) = 0 := by rw [List.drop_of_length_le h]; rfl
theorem sumZ_mem (ls : List ByteArray) (x : ByteArray) (h : x ∈ ls) : x.size ≤ sumZ ls := by
  induction ls with
  | nil => simp at h
  | cons y l ih =>
    rw [sumZ_cons]
    rcases List.mem_cons.1 h with rfl | h
    · omega
    · have := ih h; omega
end Plain



end Go.Proofs.YtmgjkomgpkoenaaGreat