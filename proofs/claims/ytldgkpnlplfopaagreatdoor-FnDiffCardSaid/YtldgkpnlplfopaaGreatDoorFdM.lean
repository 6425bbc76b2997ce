/- Two sets differ where their trees do, unless two unlike texts have one digest: the mathematics. -/
import Derived.Test.YtldgkpnlplfopaaGreatDoorQzA
import Derived.Test.YtldgkpnlplfopaaGreatDoorWzB
namespace Go.Proofs.YtldgkpnlplfopaaGreatDoor
open Go.RowKit Go.Maps Plain
set_option linter.unusedVariables false

namespace Plain
/-- Two sets are unlike under a branch. -/
def udB (A B : List ByteArray) (q : Nat × Nat) : Bool := decide (A.filter (preB (prT q)) ≠ B.filter (preB (prT q)))
theorem filt_child (A : List ByteArray) (p : ByteArray) (c : Nat) : (A.filter (preB p)).filter (preB (p ++ dgC c)) = A.filter (preB (p ++ dgC c)) := by
  rw [List.filter_filter]
  apply List.filter_congr
  intro s _
  cases hp : preB (p ++ dgC c) s with
  | false => simp
  | true => simp [pre_mono c hp]
theorem ud_up {A B : List ByteArray} {q : Nat × Nat} (hq : gdB q) (h1 : q.1 < 2) {c : Nat} (hc : c < 16) (h : udB A B (q.1 + 1, q.2 * 16 + c) = true) : udB A B q = true := by
  unfold udB at h ⊢
  rw [decide_eq_true_eq] at h ⊢
  rw [prT_next hq h1 c hc] at h
  intro e
  apply h
  rw [← filt_child A, ← filt_child B, e]
/-- What was asked stays asked. -/
theorem stB_grow (d : Nat × Nat → Bool) (i : Nat) : ∀ k, ∃ t u, (stB d (i + k)).1 = (stB d i).1 ++ t ∧ (stB d (i + k)).2 = (stB d i).2 ++ u
  | 0 => ⟨[], [], by simp, by simp⟩
  | k + 1 => by
    obtain ⟨t, u, h1, h2⟩ := stB_grow d i k
    cases hq : (stB d (i + k)).1[i + k]? with
    | none =>
      have e : stB d (i + k + 1) = stB d (i + k) := by rw [stB, hq]
      exact ⟨t, u, by rw [← Nat.add_assoc, e, h1], by rw [← Nat.add_assoc, e, h2]⟩
    | some q =>
      cases hd : d q with
      | false =>
        have e := stB_same d (i + k) q hq hd
        exact ⟨t, u, by rw [← Nat.add_assoc, e, h1], by rw [← Nat.add_assoc, e, h2]⟩
      | true =>
        by_cases hl : q.1 = 2
        · have e := stB_leaf d (i + k) q hq hd hl
          exact ⟨t, u ++ [q], by rw [← Nat.add_assoc, e, h1], by rw [← Nat.add_assoc, e, h2, List.append_assoc]⟩
        · have e := stB_more d (i + k) q hq hd hl
          exact ⟨t ++ sxB q, u, by rw [← Nat.add_assoc, e, h1, List.append_assoc], by rw [← Nat.add_assoc, e, h2]⟩
theorem ask_step {d : Nat × Nat → Bool} {q : Nat × Nat} (hm : q ∈ askB d) (hd : d q = true) : (q.1 = 2 → q ∈ unlB d) ∧ (¬ q.1 = 2 → ∀ x ∈ sxB q, x ∈ askB d) := by
  obtain ⟨n, hn, he⟩ := exist_end d
  have h1 : (stB d n).1 = askB d := by rw [he]
  have h2 : (stB d n).2 = unlB d := by rw [he]
  rw [← h1] at hm
  obtain ⟨k, hk, hkq⟩ := List.mem_iff_getElem.1 hm
  have hkn : k < n := by omega
  have hkl : k < (stB d k).1.length := by
    rcases Nat.lt_or_ge k (stB d k).1.length with h | h
    · exact h
    · have := stB_end d k h n (by omega)
      rw [this] at hk
      omega
  obtain ⟨t, u, g1, g2⟩ := stB_grow d k (n - k)
  rw [show k + (n - k) = n from by omega] at g1 g2
  have hq0 : (stB d k).1[k]? = some q := by
    rw [List.getElem?_eq_getElem hkl]
    have : (stB d n).1[k]? = (stB d k).1[k]? := by rw [g1, List.getElem?_append_left hkl]
    rw [List.getElem?_eq_getElem hk, List.getElem?_eq_getElem hkl, hkq] at this
    exact this.symm
  obtain ⟨t', u', g3, g4⟩ := stB_grow d (k + 1) (n - (k + 1))
  rw [show k + 1 + (n - (k + 1)) = n from by omega] at g3 g4
  constructor
  · intro hl
    rw [← h2, g4, stB_leaf d k q hq0 hd hl]
    simp
  · intro hl x hx
    rw [← h1, g3, stB_more d k q hq0 hd hl]
    simp [hx]
theorem unl_sound (d : Nat × Nat → Bool) : ∀ i, ∀ q ∈ (stB d i).2, d q = true ∧ q.1 = 2
  | 0 => fun q hq => by simp [stB] at hq
  | i + 1 => by
    have ih := unl_sound d i
    cases hq : (stB d i).1[i]? with
    | none =>
      have e : stB d (i + 1) = stB d i := by rw [stB, hq]
      rw [e]
      exact ih
    | some q =>
      cases hd : d q with
      | false => rw [stB_same d i q hq hd]; exact ih
      | true =>
        by_cases hl : q.1 = 2
        · rw [stB_leaf d i q hq hd hl]
          intro x hx
          rcases List.mem_append.1 hx with e | e
          · exact ih x e
          · rw [List.mem_singleton] at e
            subst e
            exact ⟨hd, hl⟩
        · rw [stB_more d i q hq hd hl]
          exact ih
theorem root_ask (d : Nat × Nat → Bool) : (0, 0) ∈ askB d := by
  obtain ⟨t, u, g1, g2⟩ := stB_grow d 0 273
  unfold askB
  rw [Nat.zero_add] at g1
  rw [g1]
  simp [stB]
theorem mem_sx (q : Nat × Nat) {c : Nat} (hc : c < 16) : (q.1 + 1, q.2 * 16 + c) ∈ sxB q := List.mem_map.2 ⟨c, List.mem_range.2 hc, rfl⟩
theorem root_gd : gdB (0, 0) := ⟨by simp, by simp⟩
theorem reach1 {A B : List ByteArray} {v : Nat} (hv : v < 16) (h : udB A B (1, v) = true) : (1, v) ∈ askB (udB A B) := by
  have e : (0 + 1, 0 * 16 + v) = (1, v) := by rw [Nat.zero_add, Nat.zero_mul, Nat.zero_add]
  have hr : udB A B (0, 0) = true := ud_up (q := (0, 0)) root_gd (by decide) hv (by rw [e]; exact h)
  have h2 : ¬ ((0, 0) : Nat × Nat).1 = 2 := by decide
  have := (ask_step (d := udB A B) (q := (0, 0)) (root_ask _) hr).2 h2 (0 + 1, 0 * 16 + v) (mem_sx (0, 0) hv)
  rw [e] at this
  exact this
/-- A branch at which they are unlike is asked. -/
theorem reach {A B : List ByteArray} {q : Nat × Nat} (hq : gdB q) (h : udB A B q = true) : q ∈ askB (udB A B) := by
  obtain ⟨n, v⟩ := q
  have h1 := hq.1
  have h2 := hq.2
  simp only at h1 h2
  by_cases e0 : n = 0
  · subst e0
    have : v = 0 := by simpa using h2
    subst this
    exact root_ask _
  by_cases e1 : n = 1
  · subst e1
    exact reach1 (by simpa using h2) h
  have e2 : n = 2 := by omega
  subst e2
  have hv : v < 256 := by simpa using h2
  have g1 : gdB (1, v / 16) := ⟨by show 1 ≤ 2; omega, by show v / 16 < 16 ^ 1; omega⟩
  have ev : (1 + 1, v / 16 * 16 + v % 16) = (2, v) := by rw [show v / 16 * 16 + v % 16 = v from by omega]
  have hr1 : udB A B (1, v / 16) = true := ud_up (q := (1, v / 16)) g1 (by show 1 < 2; omega) (c := v % 16) (by omega) (by rw [ev]; exact h)
  have hn : ¬ ((1, v / 16) : Nat × Nat).1 = 2 := by show ¬ 1 = 2; omega
  have m2 := (ask_step (d := udB A B) (q := (1, v / 16)) (reach1 (by omega) hr1) hr1).2 hn (1 + 1, v / 16 * 16 + v % 16) (mem_sx (1, v / 16) (by omega))
  rw [ev] at m2
  exact m2
/-- No two unlike sets have one node. -/
def noCl (A B : List ByteArray) : Prop := ∀ q, gdB q → udB A B q = true → ndB A q ≠ ndB B q
theorem df_ud {A B : List ByteArray} (h : noCl A B) : ∀ q, gdB q → dfB A B q = udB A B q := by
  intro q hq
  unfold dfB
  cases hu : udB A B q with
  | true =>
    have := h q hq hu
    simp [this]
  | false =>
    unfold udB at hu
    rw [decide_eq_false_iff_not] at hu
    have e : A.filter (preB (prT q)) = B.filter (preB (prT q)) := Classical.byContradiction hu
    have : ndB A q = ndB B q := by rw [← nd_same, ← nd_same (A := B), e]
    simp [this]
theorem first_lt (x : ByteArray) : ((kyL x).getD 0 0).toNat < 256 := UInt8.toNat_lt _
/-- The leaf of a digest. -/
def lfB (x : ByteArray) : Nat × Nat := (2, ((kyL x).getD 0 0).toNat)
theorem lfB_gd (x : ByteArray) : gdB (lfB x) := ⟨Nat.le_refl _, by show ((kyL x).getD 0 0).toNat < 16 ^ 2; exact first_lt x⟩
theorem lf_pre {x : ByteArray} (hx : digB x = true) {q : Nat × Nat} (hq : gdB q) (h2 : q.1 = 2) : preB (prT q) x = decide (q = lfB x) := by
  rw [← hold_pre (prT_ok hq) hx, prT_size hq, prT_br hq]
  unfold hoB lfB
  rw [h2]
  obtain ⟨n, v⟩ := q
  simp only at h2
  subst h2
  simp [eq_comm]
theorem mem_more {A B : List ByteArray} (hA : setB A = true) (h : noCl A B) {x : ByteArray} (hx : x ∈ A) : x ∈ (unlB (dfB A B)).flatMap (lsB A B) ↔ x ∉ B := by
  have hdx := (setB_all hA).2.1 x hx
  rw [unlB_like (df_ud h), List.mem_flatMap]
  constructor
  · rintro ⟨q, hq, hl⟩
    unfold lsB at hl
    obtain ⟨h1, h2⟩ := List.mem_filter.1 hl
    intro hb
    rw [(anyB_mem _ x).2 (List.mem_filter.2 ⟨hb, (List.mem_filter.1 h1).2⟩)] at h2
    simp at h2
  · intro hb
    have hg := lfB_gd x
    have hp : preB (prT (lfB x)) x = true := by rw [lf_pre hdx hg rfl]; simp
    have hu : udB A B (lfB x) = true := by
      unfold udB
      rw [decide_eq_true_eq]
      intro e
      have : x ∈ B.filter (preB (prT (lfB x))) := by rw [← e]; exact List.mem_filter.2 ⟨hx, hp⟩
      exact hb (List.mem_filter.1 this).1
    refine ⟨lfB x, (ask_step (reach hg hu) hu).1 rfl, ?_⟩
    unfold lsB
    refine List.mem_filter.2 ⟨List.mem_filter.2 ⟨hx, hp⟩, ?_⟩
    have : anyB (B.filter (preB (prT (lfB x)))) x = false := by
      rw [Bool.eq_false_iff]
      intro q
      exact hb (List.mem_filter.1 ((anyB_mem _ x).1 q)).1
    rw [this]
    rfl
def lt2 (q r : Nat × Nat) : Prop := q.1 < r.1 ∨ q.1 = r.1 ∧ q.2 < r.2
structure OrdB (s : List (Nat × Nat) × List (Nat × Nat)) (i : Nat) : Prop where
  pw : s.1.Pairwise lt2
  par : ∀ x ∈ s.1, x = (0, 0) ∨ ∃ j, j < i ∧ ∃ q, s.1[j]? = some q ∧ ∃ c, c < 16 ∧ x = (q.1 + 1, q.2 * 16 + c)
  sub : s.2.Sublist (s.1.take i)
theorem take_sub {α : Type} (l : List α) (i : Nat) : (l.take i).Sublist (l.take (i + 1)) := by
  rw [List.take_add_one]
  exact List.sublist_append_left _ _
theorem stB_ord (d : Nat × Nat → Bool) : ∀ i, OrdB (stB d i) i
  | 0 => ⟨by simp [stB], fun x hx => by simp [stB] at hx; exact .inl hx, by simp [stB]⟩
  | i + 1 => by
    have ih := stB_ord d i
    have wk : OrdB (stB d i) (i + 1) := ⟨ih.pw, fun x hx => by
      rcases ih.par x hx with e | ⟨j, hj, r⟩
      · exact .inl e
      · exact .inr ⟨j, by omega, r⟩, ih.sub.trans (take_sub _ _)⟩
    cases hq : (stB d i).1[i]? with
    | none =>
      have e : stB d (i + 1) = stB d i := by rw [stB, hq]
      rw [e]
      exact wk
    | some q =>
      obtain ⟨hi, hiq⟩ := List.getElem?_eq_some_iff.1 hq
      cases hd : d q with
      | false => rw [stB_same d i q hq hd]; exact wk
      | true =>
        by_cases hl : q.1 = 2
        · rw [stB_leaf d i q hq hd hl]
          refine ⟨wk.pw, wk.par, ?_⟩
          simp only
          rw [List.take_succ_eq_append_getElem hi, hiq]
          exact List.Sublist.append ih.sub (List.Sublist.refl _)
        · rw [stB_more d i q hq hd hl]
          refine ⟨?_, fun x hx => ?_, ?_⟩
          · simp only
            rw [List.pairwise_append]
            refine ⟨ih.pw, ?_, fun x hx y hy => ?_⟩
            · unfold sxB
              rw [List.pairwise_map]
              refine List.Pairwise.imp (fun {a b} h => .inr ⟨rfl, ?_⟩) List.pairwise_lt_range
              simp only
              omega
            · obtain ⟨c, hc, rfl⟩ := List.mem_map.1 hy
              rcases ih.par x hx with e | ⟨j, hj, r, hr, c', hc', rfl⟩
              · subst e
                exact .inl (by simp)
              · obtain ⟨hjl, hjr⟩ := List.getElem?_eq_some_iff.1 hr
                have := List.pairwise_iff_getElem.1 ih.pw j i hjl hi hj
                rw [hjr, hiq] at this
                rcases this with h | ⟨h, h'⟩
                · exact .inl (by simp only; omega)
                · exact .inr ⟨by simp only; omega, by simp only; omega⟩
          · rcases List.mem_append.1 hx with e | e
            · rcases ih.par x e with e | ⟨j, hj, r, hr, c', hc', rfl⟩
              · exact .inl e
              · obtain ⟨hjl, _⟩ := List.getElem?_eq_some_iff.1 hr
                exact .inr ⟨j, by omega, r, by simp only; rw [List.getElem?_append_left hjl]; exact hr, c', hc', rfl⟩
            · obtain ⟨c, hc, rfl⟩ := List.mem_map.1 e
              exact .inr ⟨i, by omega, q, by simp only; rw [List.getElem?_append_left hi]; exact hq, c, List.mem_range.1 hc, rfl⟩
          · simp only
            rw [List.take_append_of_le_length (by omega)]
            exact ih.sub.trans (take_sub _ _)
theorem unl_pw (d : Nat × Nat → Bool) : (unlB d).Pairwise (· ≠ ·) := by
  have h := stB_ord d 273
  have : (unlB d).Pairwise lt2 := List.Pairwise.sublist (h.sub.trans (List.take_sublist _ _)) h.pw
  refine this.imp fun {a b} h e => ?_
  subst e
  unfold lt2 at h
  omega
theorem part_len {α : Type} (p : α → Bool) : ∀ l : List α, (l.filter p).length + (l.filter fun x => !p x).length = l.length
  | [] => rfl
  | x :: l => by
    have := part_len p l
    cases h : p x
    · rw [List.filter_cons_of_neg (by simp [h]), List.filter_cons_of_pos (by simp [h]), List.length_cons, List.length_cons]
      omega
    · rw [List.filter_cons_of_pos (by simp [h]), List.filter_cons_of_neg (by simp [h]), List.length_cons, List.length_cons]
      omega
theorem flat_few : ∀ (u : List (Nat × Nat)) (A B : List ByteArray), (∀ s ∈ A, digB s = true) → (∀ q ∈ u, gdB q ∧ q.1 = 2) → u.Pairwise (· ≠ ·) → (u.flatMap (lsB A B)).length ≤ A.length
  | [], A, B, _, _, _ => by simp
  | q :: u, A, B, hA, hu, hp => by
    rw [List.pairwise_cons] at hp
    have hq := hu q (by simp)
    have e : ∀ r ∈ u, lsB A B r = lsB (A.filter fun x => !preB (prT q) x) B r := by
      intro r hr
      have hrg := hu r (List.mem_cons_of_mem _ hr)
      unfold lsB
      congr 1
      rw [List.filter_filter]
      apply List.filter_congr
      intro x hx
      rw [lf_pre (hA x hx) hrg.1 hrg.2, lf_pre (hA x hx) hq.1 hq.2]
      by_cases h1 : r = lfB x
      · have : ¬ q = lfB x := fun h2 => hp.1 r hr (h2.trans h1.symm)
        simp [h1, this]
      · simp [h1]
    have e2 : u.flatMap (lsB A B) = u.flatMap (lsB (A.filter fun x => !preB (prT q) x) B) := by
      have : ∀ (v : List (Nat × Nat)), (∀ r ∈ v, r ∈ u) → v.flatMap (lsB A B) = v.flatMap (lsB (A.filter fun x => !preB (prT q) x) B) := by
        intro v
        induction v with
        | nil => intro _; rfl
        | cons r v ih => intro h; rw [List.flatMap_cons, List.flatMap_cons, e r (h r (by simp)), ih fun x hx => h x (List.mem_cons_of_mem _ hx)]
      exact this u fun r hr => hr
    have ih := flat_few u (A.filter fun x => !preB (prT q) x) B (fun s hs => hA s (List.mem_filter.1 hs).1) (fun r hr => hu r (List.mem_cons_of_mem _ hr)) hp.2
    rw [List.flatMap_cons, List.length_append, e2]
    have h1 : (lsB A B q).length ≤ (A.filter (preB (prT q))).length := List.length_filter_le _ _
    have h2 := part_len (preB (prT q)) A
    omega
theorem more_few {A B : List ByteArray} (hA : setB A = true) (d : Nat × Nat → Bool) : ((unlB d).flatMap (lsB A B)).length ≤ A.length := by
  refine flat_few _ A B (setB_all hA).2.1 (fun q hq => ⟨(ask_facts d).2.2.2 q hq, (unl_sound d 273 q hq).2⟩) (unl_pw d)
theorem pre_root (s : ByteArray) : preB (prT (0, 0)) s = true := by
  unfold preB prT
  simp
theorem und_root (A : List ByteArray) : A.filter (preB (prT (0, 0))) = A := List.filter_eq_self.2 fun s _ => pre_root s
theorem root_same {A B : List ByteArray} (h : noCl A B) : ndB A (0, 0) = ndB B (0, 0) ↔ A = B := by
  constructor
  · intro e
    apply Classical.byContradiction
    intro hne
    refine h (0, 0) ⟨by simp, by simp⟩ ?_ e
    unfold udB
    rw [decide_eq_true_eq, und_root, und_root]
    exact hne
  · intro e
    rw [e]
theorem ask_one (A B : List ByteArray) : (askB (dfB A B)).length = 1 ↔ ndB A (0, 0) = ndB B (0, 0) := by
  constructor
  · intro e
    apply Classical.byContradiction
    intro hne
    have hd : dfB A B (0, 0) = true := by unfold dfB; simp [hne]
    have h2 : ¬ ((0, 0) : Nat × Nat).1 = 2 := by decide
    have hm := (ask_step (d := dfB A B) (q := (0, 0)) (root_ask _) hd).2 h2 (0 + 1, 0 * 16 + 1) (mem_sx (0, 0) (by omega))
    have hr := root_ask (dfB A B)
    obtain ⟨y, hy⟩ := List.length_eq_one_iff.1 e
    rw [hy, List.mem_singleton] at hm hr
    rw [← hm] at hr
    exact absurd (congrArg Prod.fst hr) (by decide)
  · intro e
    have hd : dfB A B (0, 0) = false := by unfold dfB; simp [e]
    have h1 : stB (dfB A B) 1 = stB (dfB A B) 0 := stB_same (dfB A B) 0 (0, 0) rfl hd
    have h2 : (stB (dfB A B) 1).1.length = 1 := by rw [h1]; rfl
    have := stB_fin (dfB A B) 1 h2
    have h3 := congrArg (fun s => s.1.length) this
    simp only at h3
    rw [← h3]
    exact h2
theorem ndT_root {A : List ByteArray} (hA : setB A = true) : ndT A ByteArray.empty = ndB A (0, 0) ∧ (setB A && prB ByteArray.empty) = true := by
  have hp : prB ByteArray.empty = true := by decide +kernel
  have h2 : (setB A && prB ByteArray.empty) = true := by rw [hA, hp]; rfl
  refine ⟨?_, h2⟩
  unfold ndT
  rw [h2]
  rfl
end Plain
end Go.Proofs.YtldgkpnlplfopaaGreatDoor
