/- A row of structs that the library sorts: what was owned is owned behind it. -/
import Derived.Test.YtldgkpnlplfopaaGreatDoorGen
import Derived.Shelf.SlSortCmp.NoneTotal
namespace Go.Proofs.YtldgkpnlplfopaaGreatDoor
open Go.RowKit Go.Sort Plain
set_option linter.unusedVariables false

theorem flatK_list {α : Type} [Inhabited α] (e : Elem α) (d : List α) : (flatK e.enc e.n d.toArray).toList = d.flatMap e.enc := by
  have hn := e.hn
  apply List.ext_getElem?
  intro t
  by_cases ht : t < d.length * e.n
  · have hi : t / e.n < d.length := (Nat.div_lt_iff_lt_mul hn).2 ht
    have hj : t % e.n < e.n := Nat.mod_lt _ hn
    have h2 := flat_get e.enc e.n e.hlen d (t / e.n) (t % e.n) hi hj
    rw [Nat.div_add_mod' t e.n] at h2
    have h1 := get_flatK e.enc e.n d.toArray t (by simpa using ht)
    have hs : t < (flatK e.enc e.n d.toArray).size := by rw [size_flatK]; simpa using ht
    rw [Array.getElem?_toList, Array.getElem?_eq_getElem hs, h2]
    rw [getElem!_pos _ t hs] at h1
    rw [h1]
    have hl := e.hlen d[t / e.n]
    have hi2 : t / e.n < d.toArray.size := by simpa using hi
    rw [getElem!_pos d.toArray _ hi2]
    simp only [List.getElem_toArray]
    rw [List.getElem?_eq_getElem (by omega), getElem!_pos _ _ (by omega)]
  · rw [List.getElem?_eq_none (by rw [Array.length_toList, size_flatK]; simpa using ht), List.getElem?_eq_none (by rw [flat_len e.enc e.n e.hlen]; omega)]

theorem flatK_get {α : Type} [Inhabited α] (e : Elem α) (d : List α) (j : Nat) (hj : j < d.length * e.n) : (d.flatMap e.enc)[j]? = some (flatK e.enc e.n d.toArray)[j]! := by
  rw [← flatK_list, Array.getElem?_toList]
  have hs : j < (flatK e.enc e.n d.toArray).size := by rw [size_flatK]; simpa using hj
  rw [Array.getElem?_eq_getElem hs, getElem!_pos (flatK e.enc e.n d.toArray) j hs]

theorem OwnR.holdsK {α : Type} [Inhabited α] {e : Elem α} {w : World} {B g n cap : Nat} {xs : List α} (h : OwnR e w B (.slice (some ⟨g, 0, none⟩) n cap) xs) : HoldsK e.enc e.n w g 0 xs.toArray := by
  obtain ⟨a', cap', he⟩ := h.form
  obtain ⟨-, rfl, rfl⟩ : some (⟨g, 0, none⟩ : Addr) = a' ∧ n = xs.length ∧ cap = cap' := by simpa using he
  intro j hj
  have hj2 : j < xs.length * e.n := by rw [size_flatK] at hj; simpa using hj
  refine ⟨?_, ?_⟩
  · rw [Nat.zero_add, World.ownsRow.cellAt h j hj2, flatK_get e xs j hj2]
    rfl
  · rw [Nat.zero_add]
    exact World.ownsRow.frozenAt h j

theorem OwnR.sortedK {α : Type} [Inhabited α] {e : Elem α} {w : World} {B g n cap : Nat} {xs ys : List α} (h : OwnR e w B (.slice (some ⟨g, 0, none⟩) n cap) xs) (hl : ys.length = xs.length) (m : Nat) (os : Array Obj) :
    OwnR e (sortWorldK e.enc e.n w g 0 m ys.toArray os) B (.slice (some ⟨g, 0, none⟩) n cap) ys := by
  rcases h.2 with ⟨e1, _⟩ | ⟨g', cap', cur, e1, hg, hc, h1, h2, h3, h4⟩
  · simp at e1
  · simp only [Value.slice.injEq, Option.some.injEq, Addr.mk.injEq, and_true] at e1
    obtain ⟨rfl, rfl, rfl⟩ := e1
    have hlt : g < w.heap.size := (Array.getElem?_eq_some_iff.1 hc).1
    have hmul : xs.length * e.n ≤ cap * e.n := Nat.mul_le_mul_right _ h1
    have hblk : (sortWorldK e.enc e.n w g 0 m ys.toArray os).heap[g]? = some (.cells (putCells id 0 (flatK e.enc e.n ys.toArray) cur) e.E (0, 0)) := by
      unfold sortWorldK putRowK
      rw [heap_grow_old _ _ (by simpa [putRow, mapBlock, Sort.ahead] using hlt)]
      simp [putRow, mapBlock, Sort.ahead, Array.getElem?_modify, hc, onCells]
    have htk : (putCells id 0 (flatK e.enc e.n ys.toArray) cur).toList.take (xs.length * e.n) = ys.flatMap e.enc := by
      apply List.ext_getElem?
      intro j
      by_cases hj : j < xs.length * e.n
      · rw [List.getElem?_take_of_lt hj, Array.getElem?_toList, flatK_get e ys j (by rw [hl]; exact hj)]
        have hj3 : j < ys.length * e.n := by rw [hl]; exact hj
        simp [putCells, hj3, show j < cur.size by omega]
      · rw [List.getElem?_take_eq_none (by omega), List.getElem?_eq_none (by rw [flat_len e.enc e.n e.hlen, hl]; omega)]
    refine ⟨flat_len e.enc e.n e.hlen ys, .inr ⟨g, cap, _, by rw [hl], hg, hblk, by omega, h2, by simp [putCells, h3], by rw [hl]; exact htk⟩⟩

theorem below_sortedK {α : Type} [Inhabited α] (e : Elem α) (w : World) (B g m : Nat) (ys : List α) (os : Array Obj) (hB : B ≤ g) (hg : g < w.heap.size) : Below B w (sortWorldK e.enc e.n w g 0 m ys.toArray os) := by
  unfold sortWorldK putRowK
  refine ⟨rfl, rfl, rfl, by simp [putRow, mapBlock, Sort.ahead], fun k hk => ?_⟩
  have hlt : k < w.heap.size := by omega
  rw [heap_grow_old _ _ (by simpa [putRow, mapBlock, Sort.ahead] using hlt)]
  have : g ≠ k := by omega
  simp [putRow, mapBlock, Sort.ahead, Array.getElem?_modify, this]
end Go.Proofs.YtldgkpnlplfopaaGreatDoor
