/- Texts of one kind, put together. -/
import Derived.Test.YtknpccpfjclngaaDskP

/- What an op does to the files, and what the program's change does to its table: the same. -/
namespace Go.Proofs.Ytknpccpfjclngaa
open Go.RowKit Go.Maps Plain
set_option linter.unusedVariables false

namespace Plain
theorem atF_none {n : ByteArray} {fs : List Fl} (h : atF n fs = none) : ∀ g ∈ fs, g.1 ≠ n := by
  induction fs with
  | nil => simp
  | cons f t ih =>
    rw [atF] at h
    cases he : eqN f.1 n with
    | true => rw [he] at h; simp at h
    | false =>
      rw [he] at h
      simp at h
      intro g hg
      rcases List.mem_cons.1 hg with rfl | hg
      · intro e; rw [(eqN_iff _ _).2 e] at he; simp at he
      · exact ih h g hg
theorem tab_at_none {fs : List Fl} (hr : Risen fs) {n : ByteArray} (h : atF n fs = none) : tabF fs n = none := by
  apply opt_ext
  intro y
  rw [tabF_some _ hr.names]
  constructor
  · intro hm; exact absurd rfl (atF_none h _ hm)
  · intro hm; simp at hm
theorem tab_at_some {fs : List Fl} (hr : Risen fs) {n : ByteArray} {i : Nat} (h : atF n fs = some i) : tabF fs n = some (fs.getD i (⟨#[]⟩, ⟨#[]⟩)).2 := by
  obtain ⟨hi, he⟩ := atF_lt n fs i h
  rw [tabF_some _ hr.names, List.getD_eq_getElem?_getD, List.getElem?_eq_getElem hi]
  show (n, fs[i].2) ∈ fs
  rw [← he]
  exact List.getElem_mem hi
theorem risen_do {fs : List Fl} (h : Risen fs) (o : Dop) : Risen (doF fs o).1 := by
  unfold doF
  split
  · exact h.put _ _
  · split
    · exact h
    · show Risen (if o.kind = 2 then _ else _)
      split
      · exact (h.cut _).put _ _
      · exact h.cut _
theorem updT_same {f : ByteArray → Option ByteArray} {n : ByteArray} {v : Option ByteArray} (h : f n = v) : updT f n v = f := by
  funext x
  unfold updT
  by_cases e : x = n
  · rw [if_pos e, e, h]
  · rw [if_neg e]
theorem do_app {fs : List Fl} (h : Risen fs) (o : Dop) (hk : o.kind = 1) : (doF fs o).2 = true ∧ tabF (doF fs o).1 = updT (tabF fs) o.name (some ((tabF fs o.name).getD ⟨#[]⟩ ++ o.data)) := by
  unfold doF
  rw [if_pos hk]
  refine ⟨rfl, ?_⟩
  rw [tab_put h]
  cases ha : atF o.name fs with
  | none => rw [tab_at_none h ha]; simp; congr
  | some i => rw [tab_at_some h ha]; rfl
theorem do_ren {fs : List Fl} (h : Risen fs) (o : Dop) (hk : o.kind = 2) : (doF fs o).2 = (tabF fs o.name).isSome ∧ tabF (doF fs o).1 = (match tabF fs o.name with | none => tabF fs | some d => updT (updT (tabF fs) o.name none) o.to (some d)) := by
  unfold doF
  rw [if_neg (by omega)]
  cases ha : atF o.name fs with
  | none => rw [tab_at_none h ha]; exact ⟨rfl, rfl⟩
  | some i =>
    rw [tab_at_some h ha]
    refine ⟨rfl, ?_⟩
    show tabF (if o.kind = 2 then _ else _) = _
    rw [if_pos hk, tab_put (h.cut _), tab_cut h]
theorem do_rem {fs : List Fl} (h : Risen fs) (o : Dop) (hk : o.kind = 3) : (doF fs o).2 = (tabF fs o.name).isSome ∧ tabF (doF fs o).1 = updT (tabF fs) o.name none := by
  unfold doF
  rw [if_neg (by omega)]
  cases ha : atF o.name fs with
  | none => rw [tab_at_none h ha]; exact ⟨rfl, (updT_same (tab_at_none h ha)).symm⟩
  | some i =>
    rw [tab_at_some h ha]
    refine ⟨rfl, ?_⟩
    show tabF (if o.kind = 2 then _ else _) = _
    rw [if_neg (by omega), tab_cut h]
theorem names_do {fs : List Fl} (h : ∀ f ∈ fs, nmB f.1 = true) (o : Dop) (ho : formB o = true) : ∀ f ∈ (doF fs o).1, nmB f.1 = true := by
  unfold formB at ho
  simp only [Bool.and_eq_true] at ho
  obtain ⟨⟨hk, hn⟩, ht⟩ := ho
  unfold doF
  split
  · intro f hf
    rcases (mem_put _ _ _ f).1 hf with rfl | hf
    · exact hn
    · exact h f hf.1
  · split
    · exact h
    · show ∀ f ∈ (if o.kind = 2 then _ else _), _
      split
      · next h2 =>
        rw [if_pos h2, Bool.and_eq_true] at ht
        intro f hf
        rcases (mem_put _ _ _ f).1 hf with rfl | hf
        · exact ht.1
        · exact h f ((mem_cut _ _ f).1 hf.1).1
      · intro f hf; exact h f ((mem_cut _ _ f).1 hf).1
/-- Behind a change of its form the files are right unless they are too full. -/
theorem filesB_do {fs : List Fl} (h : okF none fs = true) (o : Dop) (ho : formB o = true) : filesB (doF fs o).1 = (decide ((doF fs o).1.length ≤ 60) && decide (sumF (doF fs o).1 ≤ 200000)) := by
  have h2 := (okF_none fs).1 h
  have h3 : okF none (doF fs o).1 = true := (okF_none _).2 ⟨names_do h2.1 o ho, risen_do h2.2 o⟩
  unfold filesB
  rw [h3, Bool.true_and]
theorem sameF_iff : ∀ (fs gs : List Fl), sameF fs gs = true ↔ fs = gs
  | [], [] => by simp [sameF]
  | [], _ :: _ => by simp [sameF]
  | _ :: _, [] => by simp [sameF]
  | f :: s, g :: t => by
    rw [sameF, Bool.and_eq_true, Bool.and_eq_true, eqN_iff, eqN_iff, sameF_iff s t, List.cons.injEq, Prod.ext_iff]
end Plain

/-- The program's change does to its table what the op does to the files. -/
theorem apply_calls (b m : Nat) (fs : List Fl) (o : Dop) (w : World) (h : Tab w b m (tabF fs)) (hr : Risen fs) (ho : formB o = true) (hm : m ≤ 1000000) (hf : FitF fs) (hd : FitO o) :
    Calls Try.prog 36 #[.map (some b), chV o] w fun e w' => e = .returned (.bool (doF fs o).2) ∧ Hid (Tab w' b (m + 1) (tabF (doF fs o).1)) ∧ OnlyRow (some ⟨b, 0, none⟩) w w' := by
  have ho2 := ho
  unfold formB at ho2
  simp only [Bool.and_eq_true, decide_eq_true_eq] at ho2
  obtain ⟨⟨⟨k1, k2⟩, hn⟩, ht⟩ := ho2
  have hsz : ∀ x y, tabF fs x = some y → y.size ≤ 1000000000000 := fun x y hx => (hf (x, y) ((tabF_some fs hr.names x y).1 hx)).2
  obtain ⟨d1, d2, d3⟩ := hd
  unfold chV
  rw [if_pos hn]
  by_cases e1 : o.kind = 1
  · rw [if_pos e1]
    obtain ⟨a1, a2⟩ := do_app hr o e1
    rw [a1, a2]
    exact apply_app b m _ o.name o.data w h hm (by omega) (by omega) hsz
  · rw [if_neg e1]
    by_cases e2 : o.kind = 2
    · rw [if_pos e2]
      obtain ⟨a1, a2⟩ := do_ren hr o e2
      rw [a1, a2]
      exact apply_ren b m _ o.name o.to w h hm (by omega) (by omega)
    · rw [if_neg e2, if_pos (by omega)]
      obtain ⟨a1, a2⟩ := do_rem hr o (by omega)
      rw [a1, a2]
      exact apply_rem b m _ o.name w h hm (by omega)
end Go.Proofs.Ytknpccpfjclngaa


/- The names of the table, sorted, are the rising row's. -/
namespace Go.Proofs.Ytknpccpfjclngaa
open Go.RowKit Go.Maps Plain
set_option linter.unusedVariables false

namespace Plain
theorem Risen.sorted {fs : List Fl} (h : Risen fs) : (namesF fs).Pairwise (fun a b => a ≤ b) := by
  unfold namesF
  rw [List.pairwise_map]
  exact List.Pairwise.imp (fun {a b} hab => List.le_of_lt hab) h
theorem sort_names {w : World} {b m : Nat} {D : DataW Unit} {fs : List Fl} (hown : w.ownsMap Try.prog 9 flElem b m D) (hD : TabD D (tabF fs)) (h : Risen fs) {ss : List (List UInt8)} (hs : ss.Perm (strKeys D)) : ss.mergeSort (fun x y => decide (x ≤ y)) = namesF fs := by
  have hp : (ss.mergeSort (fun x y => decide (x ≤ y))).Perm (namesF fs) := (List.mergeSort_perm ss _).trans (hs.trans (tab_keys hown hD h.names).symm)
  have hso : (ss.mergeSort (fun x y => decide (x ≤ y))).Pairwise (fun a b => a ≤ b) := by
    have := List.pairwise_mergeSort (le := fun x y : List UInt8 => decide (x ≤ y)) (fun a b c h1 h2 => by simp only [decide_eq_true_eq] at *; exact List.le_trans h1 h2) (fun a b => by have := List.le_total a b; simpa using this) ss
    simpa using this
  exact hp.eq_of_pairwise (le := fun a b => a ≤ b) (fun a b _ _ h1 h2 => List.le_antisymm h1 h2) hso h.sorted
end Plain
end Go.Proofs.Ytknpccpfjclngaa

