/- Texts of one kind, put together. -/
import Derived.Test.YtakalfckhailjaaGreatGAQ
import Derived.Test.YtakalfckhailjaaGreatIter

/- Files with rising names and the program's table: one and the same. -/
namespace Go.Proofs.YtakalfckhailjaaGreat
open Go.RowKit Go.Maps Plain
set_option linter.unusedVariables false

namespace Plain
def Risen (fs : List Fl) : Prop := fs.Pairwise (fun f g => ltB f.1 g.1)
theorem okF_iff (fs : List Fl) : ∀ p, okF p fs = true ↔ (∀ f ∈ fs, nmB f.1 = true) ∧ Risen fs ∧ (∀ q, p = some q → ∀ f ∈ fs, ltB q f.1) := by
  induction fs with
  | nil => intro p; cases p <;> simp [okF, Risen]
  | cons f t ih =>
    intro p
    have h2 := ih (some f.1)
    unfold Risen at h2 ⊢
    rw [List.pairwise_cons]
    cases p with
    | none =>
      rw [okF, Bool.and_eq_true, h2]
      constructor
      · rintro ⟨a, b, c, d⟩
        exact ⟨fun g hg => (List.mem_cons.1 hg).elim (fun e => e ▸ a) (b g), ⟨d _ rfl, c⟩, by simp⟩
      · rintro ⟨a, ⟨b, c⟩, d⟩
        exact ⟨a f (by simp), fun g hg => a g (by simp [hg]), c, fun q hq => by cases hq; exact b⟩
    | some p =>
      rw [okF, Bool.and_eq_true, Bool.and_eq_true, lessN_iff, h2]
      constructor
      · rintro ⟨⟨a, a2⟩, b, c, d⟩
        refine ⟨fun g hg => (List.mem_cons.1 hg).elim (fun e => e ▸ a) (b g), ⟨d _ rfl, c⟩, fun q hq g hg => ?_⟩
        cases hq
        rcases List.mem_cons.1 hg with rfl | hg
        · exact a2
        · exact ltB_trans a2 (d _ rfl g hg)
      · rintro ⟨a, ⟨b, c⟩, d⟩
        exact ⟨⟨a f (by simp), d p rfl f (by simp)⟩, fun g hg => a g (by simp [hg]), c, fun q hq => by cases hq; exact b⟩
theorem okF_none (fs : List Fl) : okF none fs = true ↔ (∀ f ∈ fs, nmB f.1 = true) ∧ Risen fs := by
  rw [okF_iff]; simp
theorem Risen.names {fs : List Fl} (h : Risen fs) : (namesF fs).Nodup := by
  unfold namesF
  rw [List.Nodup, List.pairwise_map]
  refine List.Pairwise.imp ?_ h
  intro a b hab e
  have e2 : a.1 = b.1 := ByteArray.ext (Array.toList_inj.1 e)
  rw [← e2] at hab
  exact ltB_irrefl a.1 hab
theorem cutF_eq (n : ByteArray) (fs : List Fl) : cutF n fs = fs.filter (fun f => !eqN f.1 n) := by
  induction fs with
  | nil => rfl
  | cons f t ih => rw [cutF, List.filter_cons, ih]; cases eqN f.1 n <;> rfl
theorem putG_true (n d : ByteArray) (fs : List Fl) : putG n d true fs = cutF n fs := by
  induction fs with
  | nil => rfl
  | cons f t ih => rw [putG, cutF, Bool.true_or, ih]; rfl
theorem mem_cut (n : ByteArray) (fs : List Fl) (g : Fl) : g ∈ cutF n fs ↔ g ∈ fs ∧ g.1 ≠ n := by
  rw [cutF_eq, List.mem_filter, Bool.not_eq_true', ← Bool.not_eq_true, eqN_iff]
theorem Risen.cut {fs : List Fl} (h : Risen fs) (n : ByteArray) : Risen (cutF n fs) := by
  rw [cutF_eq]; exact h.filter _
theorem putF_lo (f : Fl) (t : List Fl) (n d : ByteArray) (h : lessN f.1 n = true) : putF (f :: t) n d = f :: putF t n d := by
  have he : eqN f.1 n = false := by
    cases hh : eqN f.1 n with
    | false => rfl
    | true => have := (eqN_iff _ _).1 hh; rw [this, lessN_self] at h; simp at h
  unfold putF
  rw [putG, h, he]; rfl
theorem putF_hi (f : Fl) (t : List Fl) (n d : ByteArray) (h : lessN f.1 n = false) : putF (f :: t) n d = (n, d) :: cutF n (f :: t) := by
  unfold putF
  rw [putG, h, cutF, Bool.false_or, Bool.not_false, putG_true]; rfl
theorem mem_put (n d : ByteArray) (fs : List Fl) (g : Fl) : g ∈ putF fs n d ↔ g = (n, d) ∨ (g ∈ fs ∧ g.1 ≠ n) := by
  induction fs with
  | nil => simp [putF, putG]
  | cons f t ih =>
    cases h : lessN f.1 n with
    | true =>
      rw [putF_lo f t n d h, List.mem_cons, ih, List.mem_cons]
      have hne : f.1 ≠ n := fun e => by rw [e, lessN_self] at h; simp at h
      constructor
      · rintro (rfl | h | h)
        · exact .inr ⟨.inl rfl, hne⟩
        · exact .inl h
        · exact .inr ⟨.inr h.1, h.2⟩
      · rintro (h | ⟨rfl | h, h2⟩)
        · exact .inr (.inl h)
        · exact .inl rfl
        · exact .inr (.inr ⟨h, h2⟩)
    | false => rw [putF_hi f t n d h, List.mem_cons, mem_cut]
theorem Risen.put {fs : List Fl} (h : Risen fs) (n d : ByteArray) : Risen (putF fs n d) := by
  induction fs with
  | nil => simp [putF, putG, Risen]
  | cons f t ih =>
    have h2 := List.pairwise_cons.1 h
    cases hl : lessN f.1 n with
    | true =>
      rw [putF_lo f t n d hl]
      refine List.pairwise_cons.2 ⟨fun g hg => ?_, ih h2.2⟩
      rcases (mem_put n d t g).1 hg with rfl | hg
      · exact (lessN_iff _ _).1 hl
      · exact h2.1 g hg.1
    | false =>
      rw [putF_hi f t n d hl]
      refine List.pairwise_cons.2 ⟨fun g hg => ?_, h.cut n⟩
      have hg2 := (mem_cut n _ g).1 hg
      have hfn : ¬ ltB f.1 n := fun hh => by rw [(lessN_iff _ _).2 hh] at hl; simp at hl
      rcases List.mem_cons.1 hg2.1 with rfl | hg3
      · exact ltB_tri hfn hg2.2
      · by_cases e : f.1 = n
        · have := h2.1 g hg3; rw [e] at this; exact this
        · exact ltB_trans (ltB_tri hfn e) (h2.1 g hg3)
theorem opt_ext {α : Type} {a b : Option α} (h : ∀ y, a = some y ↔ b = some y) : a = b := by
  cases a with
  | none => cases b with
    | none => rfl
    | some y => have := (h y).2 rfl; simp at this
  | some y => exact ((h y).1 rfl).symm
theorem tab_put {fs : List Fl} (h : Risen fs) (n d : ByteArray) : tabF (putF fs n d) = updT (tabF fs) n (some d) := by
  funext x
  apply opt_ext
  intro y
  rw [tabF_some _ (h.put n d).names, mem_put]
  unfold updT
  by_cases e : x = n
  · rw [if_pos e]; subst e; simp; exact eq_comm
  · rw [if_neg e, tabF_some _ h.names]; simp [e]
theorem tab_cut {fs : List Fl} (h : Risen fs) (n : ByteArray) : tabF (cutF n fs) = updT (tabF fs) n none := by
  funext x
  apply opt_ext
  intro y
  rw [tabF_some _ (h.cut n).names, mem_cut]
  unfold updT
  by_cases e : x = n
  · rw [if_pos e]; simp [e]
  · rw [if_neg e, tabF_some _ h.names]; simp [e]
end Plain
end Go.Proofs.YtakalfckhailjaaGreat


/- What an op does to the files, and what the program's change does to its table: the same. -/
namespace Go.Proofs.YtakalfckhailjaaGreat
open Go.RowKit Go.Maps Plain
set_option linter.unusedVariables false

namespace Plain
theorem atF_none {n : ByteArray} {fs : List Fl} (h : atF n fs = none) : ∀ g ∈ fs, g.1 ≠ n := by
  induction fs with
  | nil => simp
  | cons f t ih =>
    rw [atF] at h
    cases he : eqN f.1 n with
    | true => rw [he] at h; simp at h
    | false =>
      rw [he] at h
      simp at h
      intro g hg
      rcases List.mem_cons.1 hg with rfl | hg
      · intro e; rw [(eqN_iff _ _).2 e] at he; simp at he
      · exact ih h g hg
theorem tab_at_none {fs : List Fl} (hr : Risen fs) {n : ByteArray} (h : atF n fs = none) : tabF fs n = none := by
  apply opt_ext
  intro y
  rw [tabF_some _ hr.names]
  constructor
  · intro hm; exact absurd rfl (atF_none h _ hm)
  · intro hm; simp at hm
theorem tab_at_some {fs : List Fl} (hr : Risen fs) {n : ByteArray} {i : Nat} (h : atF n fs = some i) : tabF fs n = some (fs.getD i (⟨#[]⟩, ⟨#[]⟩)).2 := by
  obtain ⟨hi, he⟩ := atF_lt n fs i h
  rw [tabF_some _ hr.names, List.getD_eq_getElem?_getD, List.getElem?_eq_getElem hi]
  show (n, fs[i].2) ∈ fs
  rw [← he]
  exact List.getElem_mem hi
theorem risen_do {fs : List Fl} (h : Risen fs) (o : Dop) : Risen (doF fs o).1 := by
  unfold doF
  split
  · exact h.put _ _
  · split
    · exact h
    · show Risen (if o.kind = 2 then _ else _)
      split
      · exact (h.cut _).put _ _
      · exact h.cut _
theorem updT_same {f : ByteArray → Option ByteArray} {n : ByteArray} {v : Option ByteArray} (h : f n = v) : updT f n v = f := by
  funext x
  unfold updT
  by_cases e : x = n
  · rw [if_pos e, e, h]
  · rw [if_neg e]
theorem do_app {fs : List Fl} (h : Risen fs) (o : Dop) (hk : o.kind = 1) : (doF fs o).2 = true ∧ tabF (doF fs o).1 = updT (tabF fs) o.name (some ((tabF fs o.name).getD ⟨#[]⟩ ++ o.data)) := by
  unfold doF
  rw [if_pos hk]
  refine ⟨rfl, ?_⟩
  rw [tab_put h]
  cases ha : atF o.name fs with
  | none => rw [tab_at_none h ha]; simp; congr
  | some i => rw [tab_at_some h ha]; rfl
theorem do_ren {fs : List Fl} (h : Risen fs) (o : Dop) (hk : o.kind = 2) : (doF fs o).2 = (tabF fs o.name).isSome ∧ tabF (doF fs o).1 = (match tabF fs o.name with | none => tabF fs | some d => updT (updT (tabF fs) o.name none) o.to (some d)) := by
  unfold doF
  rw [if_neg (by omega)]
  cases ha : atF o.name fs with
  | none => rw [tab_at_none h ha]; exact ⟨rfl, rfl⟩
  | some i =>
    rw [tab_at_some h ha]
    refine ⟨rfl, ?_⟩
    show tabF (if o.kind = 2 then _ else _) = _
    rw [if_pos hk, tab_put (h.cut _), tab_cut h]
theorem do_rem {fs : List Fl} (h : Risen fs) (o : Dop) (hk : o.kind = 3) : (doF fs o).2 = (tabF fs o.name).isSome ∧ tabF (doF fs o).1 = updT (tabF fs) o.name none := by
  unfold doF
  rw [if_neg (by omega)]
  cases ha : atF o.name fs with
  | none => rw [tab_at_none h ha]; exact ⟨rfl, (updT_same (tab_at_none h ha)).symm⟩
  | some i =>
    rw [tab_at_some h ha]
    refine ⟨rfl, ?_⟩
    show tabF (if o.kind = 2 then _ else _) = _
    rw [if_neg (by omega), tab_cut h]
theorem names_do {fs : List Fl} (h : ∀ f ∈ fs, nmB f.1 = true) (o : Dop) (ho : formB o = true) : ∀ f ∈ (doF fs o).1, nmB f.1 = true := by
  unfold formB at ho
  simp only [Bool.and_eq_true] at ho
  obtain ⟨⟨hk, hn⟩, ht⟩ := ho
  unfold doF
  split
  · intro f hf
    rcases (mem_put _ _ _ f).1 hf with rfl | hf
    · exact hn
    · exact h f hf.1
  · split
    · exact h
    · show ∀ f ∈ (if o.kind = 2 then _ else _), _
      split
      · next h2 =>
        rw [if_pos h2, Bool.and_eq_true] at ht
        intro f hf
        rcases (mem_put _ _ _ f).1 hf with rfl | hf
        · exact ht.1
        · exact h f ((mem_cut _ _ f).1 hf.1).1
      · intro f hf; exact h f ((mem_cut _ _ f).1 hf).1
/-- Behind a change of its form the files are right unless they are too full. -/
theorem filesB_do {fs : List Fl} (h : okF none fs = true) (o : Dop) (ho : formB o = true) : filesB (doF fs o).1 = (decide ((doF fs o).1.length ≤ 60) && decide (sumF (doF fs o).1 ≤ 200000)) := by
  have h2 := (okF_none fs).1 h
  have h3 : okF none (doF fs o).1 = true := (okF_none _).2 ⟨names_do h2.1 o ho, risen_do h2.2 o⟩
  unfold filesB
  rw [h3, Bool.true_and]
theorem sameF_iff : ∀ (fs gs : List Fl), sameF fs gs = true ↔ fs = gs
  | [], [] => by simp [sameF]
  | [], _ :: _ => by simp [sameF]
  | _ :: _, [] => by simp [sameF]
  | f :: s, g :: t => by
    rw [sameF, Bool.and_eq_true, Bool.and_eq_true, eqN_iff, eqN_iff, sameF_iff s t, List.cons.injEq, Prod.ext_iff]
end Plain

/-- The program's change does to its table what the op does to the files. -/
theorem apply_calls (b m : Nat) (fs : List Fl) (o : Dop) (w : World) (h : Tab w b m (tabF fs)) (hr : Risen fs) (ho : formB o = true) (hm : m ≤ 1000000) (hf : FitF fs) (hd : FitO o) :
    Calls Tryz.prog 76 #[.map (some b), chV o] w fun e w' => e = .returned (.bool (doF fs o).2) ∧ Hid (Tab w' b (m + 1) (tabF (doF fs o).1)) ∧ OnlyRow (some ⟨b, 0, none⟩) w w' := by
  have ho2 := ho
  unfold formB at ho2
  simp only [Bool.and_eq_true, decide_eq_true_eq] at ho2
  obtain ⟨⟨⟨k1, k2⟩, hn⟩, ht⟩ := ho2
  have hsz : ∀ x y, tabF fs x = some y → y.size ≤ 1000000000000 := fun x y hx => (hf (x, y) ((tabF_some fs hr.names x y).1 hx)).2
  obtain ⟨d1, d2, d3⟩ := hd
  unfold chV
  rw [if_pos hn]
  by_cases e1 : o.kind = 1
  · rw [if_pos e1]
    obtain ⟨a1, a2⟩ := do_app hr o e1
    rw [a1, a2]
    exact apply_app b m _ o.name o.data w h hm (by omega) (by omega) hsz
  · rw [if_neg e1]
    by_cases e2 : o.kind = 2
    · rw [if_pos e2]
      obtain ⟨a1, a2⟩ := do_ren hr o e2
      rw [a1, a2]
      exact apply_ren b m _ o.name o.to w h hm (by omega) (by omega)
    · rw [if_neg e2, if_pos (by omega)]
      obtain ⟨a1, a2⟩ := do_rem hr o (by omega)
      rw [a1, a2]
      exact apply_rem b m _ o.name w h hm (by omega)
end Go.Proofs.YtakalfckhailjaaGreat


/- The names of the table, sorted, are the rising row's. -/
namespace Go.Proofs.YtakalfckhailjaaGreat
open Go.RowKit Go.Maps Plain
set_option linter.unusedVariables false

namespace Plain
theorem Risen.sorted {fs : List Fl} (h : Risen fs) : (namesF fs).Pairwise (fun a b => a ≤ b) := by
  unfold namesF
  rw [List.pairwise_map]
  exact List.Pairwise.imp (fun {a b} hab => List.le_of_lt hab) h
theorem sort_names {w : World} {b m : Nat} {D : DataW Unit} {fs : List Fl} (hown : w.ownsMap Tryz.prog 9 flElem b m D) (hD : TabD D (tabF fs)) (h : Risen fs) {ss : List (List UInt8)} (hs : ss.Perm (strKeys D)) : ss.mergeSort (fun x y => decide (x ≤ y)) = namesF fs := by
  have hp : (ss.mergeSort (fun x y => decide (x ≤ y))).Perm (namesF fs) := (List.mergeSort_perm ss _).trans (hs.trans (tab_keys hown hD h.names).symm)
  have hso : (ss.mergeSort (fun x y => decide (x ≤ y))).Pairwise (fun a b => a ≤ b) := by
    have := List.pairwise_mergeSort (le := fun x y : List UInt8 => decide (x ≤ y)) (fun a b c h1 h2 => by simp only [decide_eq_true_eq] at *; exact List.le_trans h1 h2) (fun a b => by have := List.le_total a b; simpa using this) ss
    simpa using this
  exact hp.eq_of_pairwise (le := fun a b => a ≤ b) (fun a b _ _ h1 h2 => List.le_antisymm h1 h2) hso h.sorted
end Plain
end Go.Proofs.YtakalfckhailjaaGreat


/- The program's list of its table. -/
namespace Go.Proofs.YtakalfckhailjaaGreat
open Go.RowKit Go.Maps Plain
set_option linter.unusedVariables false

theorem keysOf_calls (b : Nat) (w : World) : Calls Tryz.prog 89 #[.map (some b)] w fun e w' => e = .returned (.func (.func 113) #[] #[.pointer (some ⟨w.heap.size, 0, none⟩)]) ∧ w' = w.alloc (.cells #[.map (some b)] 71) :=
  callsIn_wide.1 (Tryz.maps_Keys_89 (some b) w)
set_option maxRecDepth 10000 in
theorem sortedKeys_calls (b m : Nat) (fs : List Fl) (w : World) (h : Tab w b m (tabF fs)) (hr : Risen fs) (hl : fs.length ≤ 1000000) :
    Calls Tryz.prog 88 #[.func (.func 113) #[] #[.pointer (some ⟨w.heap.size, 0, none⟩)]] (w.alloc (.cells #[.map (some b)] 71)) fun e w' => ∃ v, e = .returned v ∧ w'.ownsRow (w.heap.size + 1) 9 1 v fs.length ((namesF fs).map encStr) ∧ (v = .slice none 0 0 ↔ fs = []) ∧ Below w.heap.size w w' := by
  obtain ⟨D, hown, hD⟩ := h
  have hsz := tab_size hown hD hr.names
  refine (callsIn_wide.1 (Tryz.slices_Sorted_keys_88_89 b m D flElem w hown (by rw [hsz]; unfold maxLen; omega) (by rw [hsz]; omega))).mono ?_
  rintro e w' ⟨v, ss, rfl, hS, hrow, hnil, hb⟩
  have hlen : ss.length = fs.length := by rw [hS.length_eq, ← (tab_keys hown hD hr.names).length_eq]; simp [namesF]
  rw [sort_names hown hD hr hS, hlen] at hrow
  refine ⟨v, rfl, ?_, ?_, ?_⟩
  · simpa using hrow
  · rw [hnil, ← List.length_eq_zero_iff, hlen, List.length_eq_zero_iff]
  · exact (bel1 w _).trans (hb.mono (by simp))

namespace Plain
theorem row_name {W : World} {B : Nat} {a : Option Addr} {n c : Nat} {fs : List Fl} (h : W.ownsRow B 9 1 (.slice a n c) fs.length ((namesF fs).map encStr)) (i : Nat) (hi : i < fs.length) : ∃ g, a = some ⟨g, 0, none⟩ ∧ g < W.heap.size ∧ W.cell? ⟨g, i, none⟩ = some (.string fs[i].1) := by
  rcases h.2 with ⟨_, h0⟩ | ⟨g, cap, cur, e1, hg, hc, _⟩
  · omega
  · obtain ⟨rfl, rfl, rfl⟩ : a = some ⟨g, 0, none⟩ ∧ n = fs.length ∧ c = cap := by simpa using e1
    refine ⟨g, rfl, (Array.getElem?_eq_some_iff.1 hc).1, ?_⟩
    rw [World.ownsRow.cellAt h i (by omega)]
    simp [namesF, encStr, hi]
theorem row_form {W : World} {B : Nat} {v : Value} {k : Nat} {xs : List Value} {e : TypeId} (h : W.ownsRow B e 1 v k xs) : ∃ a c, v = .slice a k c := by
  rcases h.2 with ⟨e1, h0⟩ | ⟨g, cap, cur, e1, _⟩
  · exact ⟨none, 0, by rw [e1, h0]⟩
  · exact ⟨_, cap, e1⟩
theorem Tab.below {w w' : World} {b m B : Nat} {f : ByteArray → Option ByteArray} (h : Tab w b m f) (hb : Below B w w') (hB : b < B) : Tab w' b m f := by
  obtain ⟨D, h1, h2⟩ := h
  exact ⟨D, ownsMap_below h1 hb hB, h2⟩
/-- The file that a look into the table answers. -/
def fileAt (f : ByteArray → Option ByteArray) (nm : ByteArray) : Value := match f nm with | some d => .agg #[.string nm, .string d] | none => .agg #[.string ⟨#[]⟩, .string ⟨#[]⟩]
theorem TabD.lookV {D : DataW Unit} {f : ByteArray → Option ByteArray} (h : TabD D f) (nm : ByteArray) : Maps.has D (keyL nm) = (f nm).isSome ∧ ∀ v ps, flElem v = some (D.atKey (keyL nm) (flD (⟨#[]⟩, ⟨#[]⟩)), ps) → v = fileAt f nm := by
  have hx := h nm
  unfold fileAt
  cases hf : f nm with
  | none =>
    rw [hf] at hx
    refine ⟨hx, fun v ps hv => ?_⟩
    rw [atKey_of_not_has hx] at hv
    exact flElem_inv hv
  | some d =>
    rw [hf] at hx
    refine ⟨hx.1, fun v ps hv => ?_⟩
    rw [hx.2] at hv
    exact flElem_inv hv
end Plain
theorem Plain.Tab.look {w : World} {b m : Nat} {f : ByteArray → Option ByteArray} (h : Tab w b m f) {nm : ByteArray} (hs : nm.size ≤ 1000000000000) : (Instr.lookup 71 (.map (some b)) (.string nm) false).run Tryz.prog w = .ok (fileAt f nm) w := by
  obtain ⟨D, hown, hD⟩ := h
  have hkey : keyOf Tryz.prog 9 (.string nm) = some (keyL nm) := Go.WideMaps.keyOf_string_mk Tryz.underlying9 (by unfold maxLen; omega)
  obtain ⟨v, ps, hrun, hv⟩ := hown.lookup law_str Tryz.underlying71 (zeroF w) (flElem_mk _ _) hkey
  rw [hrun, (hD.lookV nm).2 v ps hv]
theorem Plain.Tab.look_ok {w : World} {b m : Nat} {f : ByteArray → Option ByteArray} (h : Tab w b m f) {nm : ByteArray} (hs : nm.size ≤ 1000000000000) : (Instr.lookup 71 (.map (some b)) (.string nm) true).run Tryz.prog w = .ok (.tuple #[fileAt f nm, .bool (f nm).isSome]) w := by
  obtain ⟨D, hown, hD⟩ := h
  have hkey : keyOf Tryz.prog 9 (.string nm) = some (keyL nm) := Go.WideMaps.keyOf_string_mk Tryz.underlying9 (by unfold maxLen; omega)
  obtain ⟨v, ps, hrun, hv⟩ := hown.look_ok law_str Tryz.underlying71 (zeroF w) (flElem_mk _ _) hkey
  rw [hrun, (hD.lookV nm).2 v ps hv, (hD.lookV nm).1]

set_option maxRecDepth 10000 in
set_option maxHeartbeats 4000000 in
theorem list_calls (b m : Nat) (fs : List Fl) (w : World) (h : Tab w b m (tabF fs)) (hr : Risen fs) (hl : fs.length ≤ 1000000) (hf : FitF fs) :
    Calls Tryz.prog 48 #[.map (some b)] w fun e w' => ∃ v, e = .returned v ∧ OwnR fileE w' w.heap.size v fs ∧ Below w.heap.size w w' := by
  have H := hide h
  have HR := hide hr
  have HF := hide hf
  have hbw := h.lt
  clear h hr hf
  go_enter Tryz.func48, Tryz.ntmps48
  go_wp2_with fail
  refine (keysOf_calls b w).mono ?_
  rintro e w1 ⟨rfl, rfl⟩
  go_wp2_with fail
  refine (sortedKeys_calls b m fs w (unhide H) (unhide HR) hl).mono ?_
  rintro e w2 ⟨v, rfl, hrow, hnil, hb2⟩
  obtain ⟨a, c, rfl⟩ := row_form hrow
  have HROW := hide hrow
  have HT := hide ((unhide H).below hb2 hbw)
  have HB2 := hide hb2
  have hsz := hb2.size
  have HNN : Hid (fs.length = fs.length) := hide rfl
  obtain ⟨n, hn⟩ : ∃ n, fs.length = n := ⟨_, rfl⟩
  rw [hn] at hl ⊢
  have HN := hide hn
  have HRT := hide (fun i hi => row_name hrow i hi)
  clear hrow hnil hb2 HNN hn HROW H
  go_wp2_with fail
  go_loopw [3, 10] (fun fv i wr => ∃ (k : Nat), i = .int .i64 k ∧ k ≤ n ∧ Hid (OwnR fileE wr w2.heap.size fv (fs.take k)) ∧ Hid (Below w2.heap.size w2 wr)) (fun _ i _ => n - (intOf i).toNat)
  case atStart => exact ⟨0, rfl, by omega, hide (by simpa using ownR_nil fileE w2 w2.heap.size), hide (Below.refl _ _)⟩
  case round =>
    obtain ⟨k, rfl, hk, HO, HB⟩ := hrel
    by_cases hkn : k < n
    · have hkl : k < fs.length := by rw [unhide HN]; exact hkn
      obtain ⟨g, e1, l1, p0⟩ := unhide HRT k hkl
      have p1 := bcl (unhide HB) l1 p0
      have hnm := (unhide HF fs[k] (by simp)).1
      have hlk := (((unhide HT).below (unhide HB) (Nat.lt_of_lt_of_le hbw hsz)).look hnm)
      have hfa : fileAt (tabF fs) fs[k].1 = .agg #[.string fs[k].1, .string fs[k].2] := by unfold fileAt; rw [(tabF_some fs (unhide HR).names fs[k].1 fs[k].2).2 (List.getElem_mem hkl)]
      rw [hfa] at hlk
      have HTK := hide (List.take_succ_eq_append_getElem hkl)
      have hlen : (fs.take k).length = k := by rw [List.length_take]; omega
      have HLEN := hide hlen
      generalize fs[k] = f at p1 hlk HTK
      obtain ⟨nm, dt⟩ := f
      simp only at p1 hlk
      clear hfa p0 hnm
      subst e1
      have i0 : (0 : Int) ≤ (k : Int) := by omega
      have i1 : (k : Int) < (n : Int) := by omega
      go_wp2_with (at_builtin; refine appR rfl _ _ rfl (unhide HO) rfl (nm, dt) rfl _ rfl rfl (by rw [unhide HLEN]; omega) (unhide HB).size ?_; intro v3 w3 hO3 hb3 _)
      go_roundw
      case rel => exact ⟨k + 1, by go_num, by omega, hide (by rw [unhide HTK]; exact hO3), hide ((unhide HB).trans hb3)⟩
      case measure => simp [intOf]; omega
    · obtain rfl : k = n := by omega
      have HO2 := unhide HO
      rw [List.take_of_length_le (by rw [unhide HN]; exact Nat.le_refl _)] at HO2
      have HO3 := hide HO2
      clear HO HO2
      go_wp2_with fail
      go_ret
      exact ⟨_, rfl, (unhide HO3).le hsz, belOn (unhide HB2) (unhide HB)⟩
end Go.Proofs.YtakalfckhailjaaGreat

