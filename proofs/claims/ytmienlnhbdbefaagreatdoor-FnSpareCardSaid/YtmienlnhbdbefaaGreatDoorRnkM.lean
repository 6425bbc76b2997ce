/- Ranks as plain mathematics: nodes by falling weights, of the same ones the lesser ahead. -/
import Derived.Test.YtmienlnhbdbefaaGreatDoorPlain
namespace Go.Proofs.YtmienlnhbdbefaaGreatDoor.Plain
open Go
set_option linter.unusedVariables false

/-- a stands ahead of b. -/
def ahd (f : Int → Int) (a b : Int) : Prop := f b < f a ∨ (f a = f b ∧ a < b)
theorem ahd_asymm {f : Int → Int} {a b : Int} (h : ahd f a b) : ¬ ahd f b a := by unfold ahd at *; omega
theorem ahd_total {f : Int → Int} {a b : Int} (h1 : ¬ ahd f a b) (h2 : ¬ ahd f b a) : a = b := by unfold ahd at *; omega
/-- Where a node comes in among the first k. -/
def posK (f : Int → Int) (x : Int) (o : List Int) : Nat → Nat
  | 0 => 0
  | k + 1 => if f (o.getD k 0) < f x then posK f x o k else k + 1
theorem posK_zero (f : Int → Int) (x : Int) (o : List Int) : posK f x o 0 = 0 := rfl
theorem posK_yes {f : Int → Int} {x : Int} {o : List Int} {k : Nat} (h : f (o.getD k 0) < f x) : posK f x o (k + 1) = posK f x o k := by rw [posK, if_pos h]
theorem posK_no {f : Int → Int} {x : Int} {o : List Int} {k : Nat} (h : ¬ f (o.getD k 0) < f x) : posK f x o (k + 1) = k + 1 := by rw [posK, if_neg h]
theorem posK_le (f : Int → Int) (x : Int) (o : List Int) : ∀ k, posK f x o k ≤ k
  | 0 => Nat.le_refl _
  | k + 1 => by
    rw [posK]
    split
    · have := posK_le f x o k; omega
    · exact Nat.le_refl _
theorem posK_hi (f : Int → Int) (x : Int) (o : List Int) : ∀ k j, posK f x o k ≤ j → j < k → f (o.getD j 0) < f x
  | 0, j, _, h => by omega
  | k + 1, j, h, h2 => by
    rw [posK] at h
    split at h
    · rename_i h3
      rcases Nat.lt_or_ge j k with h4 | h4
      · exact posK_hi f x o k j h h4
      · have : j = k := by omega
        rw [this]; exact h3
    · omega
theorem posK_lo (f : Int → Int) (x : Int) (o : List Int) : ∀ k p, posK f x o k = p + 1 → ¬ f (o.getD p 0) < f x
  | 0, p, h => by cases h
  | k + 1, p, h => by
    rw [posK] at h
    split at h
    · exact posK_lo f x o k p h
    · rename_i h3
      have : p = k := by omega
      rw [this]; exact h3
def insAt (x : Int) (o : List Int) (k : Nat) : List Int := o.take k ++ x :: o.drop k
def insK (f : Int → Int) (x : Int) (o : List Int) : List Int := insAt x o (posK f x o o.length)
theorem insAt_length (x : Int) (o : List Int) (k : Nat) : (insAt x o k).length = o.length + 1 := by
  unfold insAt
  rw [List.length_append, List.length_cons, List.length_take, List.length_drop]
  omega
theorem insK_perm (f : Int → Int) (x : Int) (o : List Int) : (insK f x o).Perm (x :: o) := by
  unfold insK insAt
  refine List.perm_middle.trans ?_
  rw [List.take_append_drop]
theorem insK_sorted {f : Int → Int} {x : Int} {o : List Int} (h : o.Pairwise (ahd f)) (hx : ∀ y ∈ o, y < x) : (insK f x o).Pairwise (ahd f) := by
  unfold insK insAt
  obtain ⟨p, hp⟩ : ∃ p, posK f x o o.length = p := ⟨_, rfl⟩
  rw [hp]
  have hle := posK_le f x o o.length
  rw [hp] at hle
  have h2 := h
  rw [← List.take_append_drop p o, List.pairwise_append] at h2
  obtain ⟨ha, hb, hab⟩ := h2
  have hdrop : ∀ y ∈ o.drop p, f y < f x := by
    intro y hy
    obtain ⟨j, hj, rfl⟩ := List.mem_iff_getElem.1 hy
    rw [List.length_drop] at hj
    have := posK_hi f x o o.length (p + j) (by omega) (by omega)
    rw [List.getD_eq_getElem?_getD, List.getElem?_eq_getElem (by omega)] at this
    simpa using this
  have htake : ∀ y ∈ o.take p, ahd f y x := by
    intro y hy
    have hyo := List.mem_of_mem_take hy
    obtain ⟨j, hj, hjy⟩ := List.mem_iff_getElem.1 hy
    rw [List.length_take] at hj
    rw [List.getElem_take] at hjy
    obtain ⟨q, rfl⟩ : ∃ q, p = q + 1 := ⟨p - 1, by omega⟩
    have hlo := posK_lo f x o o.length q hp
    have hq : q < o.length := by omega
    rw [List.getD_eq_getElem?_getD, List.getElem?_eq_getElem hq] at hlo
    simp only [Option.getD_some] at hlo
    have hyx := hx y hyo
    have : f o[q] ≤ f y := by
      rcases Nat.lt_or_ge j q with hjq | hjq
      · have := List.pairwise_iff_getElem.1 h j q (by omega) hq hjq
        rw [hjy] at this
        unfold ahd at this
        omega
      · have e : j = q := by omega
        subst e
        rw [← hjy]
        exact Int.le_refl _
    unfold ahd
    omega
  rw [List.pairwise_append]
  refine ⟨ha, ?_, ?_⟩
  · rw [List.pairwise_cons]
    exact ⟨fun y hy => .inl (hdrop y hy), hb⟩
  · intro a ha1 b hb1
    rcases List.mem_cons.1 hb1 with rfl | hb1
    · exact htake a ha1
    · exact hab a ha1 b hb1

/-- The nodes by their ranks. -/
def rk (f : Int → Int) (l : List Int) : List Int := l.foldl (fun o x => insK f x o) []
theorem rk_take (f : Int → Int) (l : List Int) (k : Nat) (h : k < l.length) : rk f (l.take (k + 1)) = insK f l[k] (rk f (l.take k)) := by
  unfold rk
  rw [List.take_succ_eq_append_getElem h, List.foldl_append]
  rfl
theorem fold_ranks (f : Int → Int) : ∀ (l o : List Int), o.Pairwise (ahd f) → (∀ a ∈ o, ∀ b ∈ l, a < b) → l.Pairwise (· < ·) →
    (l.foldl (fun o x => insK f x o) o).Pairwise (ahd f) ∧ (l.foldl (fun o x => insK f x o) o).Perm (l ++ o)
  | [], o, h1, _, _ => ⟨h1, List.Perm.refl _⟩
  | x :: l, o, h1, h2, h3 => by
    rw [List.pairwise_cons] at h3
    have hi := insK_perm f x o
    obtain ⟨r1, r2⟩ := fold_ranks f l (insK f x o) (insK_sorted h1 fun y hy => h2 y hy x (by simp)) (fun a ha b hb => by
      rcases List.mem_cons.1 (hi.mem_iff.1 ha) with rfl | ha
      · exact h3.1 b hb
      · exact h2 a ha b (by simp [hb])) h3.2
    refine ⟨r1, r2.trans ?_⟩
    refine (List.Perm.append_left l hi).trans ?_
    exact List.perm_middle
theorem rk_sorted (f : Int → Int) (l : List Int) (h : l.Pairwise (· < ·)) : (rk f l).Pairwise (ahd f) := (fold_ranks f l [] List.Pairwise.nil (fun a ha => by cases ha) h).1
theorem rk_perm (f : Int → Int) (l : List Int) (h : l.Pairwise (· < ·)) : (rk f l).Perm l := by
  have := (fold_ranks f l [] List.Pairwise.nil (fun a ha => by cases ha) h).2
  rwa [List.append_nil] at this
/-- There is one such order. -/
theorem rk_unique (f : Int → Int) (l s : List Int) (h : l.Pairwise (· < ·)) (h1 : s.Perm l) (h2 : s.Pairwise fun a b => ¬ ahd f b a) : s = rk f l := by
  refine List.Perm.eq_of_pairwise (le := fun a b => ¬ ahd f b a) (fun a b _ _ x y => ahd_total y x) h2 ?_ (h1.trans (rk_perm f l h).symm)
  exact (rk_sorted f l h).imp fun h => ahd_asymm h
theorem rk_length (f : Int → Int) (l : List Int) (h : l.Pairwise (· < ·)) : (rk f l).length = l.length := (rk_perm f l h).length_eq
theorem insK_length (f : Int → Int) (x : Int) (o : List Int) : (insK f x o).length = o.length + 1 := insAt_length _ _ _
theorem fold_length (f : Int → Int) : ∀ (l o : List Int), (l.foldl (fun o x => insK f x o) o).length = l.length + o.length
  | [], o => by simp
  | x :: l, o => by rw [List.foldl_cons, fold_length f l, insK_length, List.length_cons]; omega
theorem rk_len (f : Int → Int) (l : List Int) : (rk f l).length = l.length := by unfold rk; rw [fold_length]; simp
theorem fold_mem (f : Int → Int) : ∀ (l o : List Int) (y : Int), y ∈ l.foldl (fun o x => insK f x o) o ↔ y ∈ l ∨ y ∈ o
  | [], o, y => by simp
  | x :: l, o, y => by
    rw [List.foldl_cons, fold_mem f l, (insK_perm f x o).mem_iff, List.mem_cons, List.mem_cons]
    exact ⟨fun h => h.elim (fun a => .inl (.inr a)) fun a => a.elim (fun b => .inl (.inl b)) .inr, fun h => h.elim (fun a => a.elim (fun b => .inr (.inl b)) .inl) fun a => .inr (.inr a)⟩
theorem rk_mem (f : Int → Int) (l : List Int) (y : Int) : y ∈ rk f l ↔ y ∈ l := by unfold rk; rw [fold_mem]; simp

/-! One step of the exchange, and the last store. -/
theorem ins_shift (o : List Int) (s : Int) (k : Nat) (h : k < o.length) : (insAt s o (k + 1)).set (k + 1) o[k] = insAt o[k] o k := by
  unfold insAt
  have h1 : (o.take (k + 1)).length = k + 1 := by rw [List.length_take]; omega
  rw [List.set_append_right _ _ (by omega), h1, Nat.sub_self, List.set_cons_zero, List.take_succ_eq_append_getElem h, List.append_assoc, ← List.drop_eq_getElem_cons h]
  rfl
theorem ins_set (o : List Int) (s x : Int) (k : Nat) (h : k ≤ o.length) : (insAt s o k).set k x = insAt x o k := by
  unfold insAt
  have h1 : (o.take k).length = k := by rw [List.length_take]; omega
  rw [List.set_append_right _ _ (by omega), h1, Nat.sub_self, List.set_cons_zero]
theorem ins_get (o : List Int) (s : Int) (k : Nat) (h : k < o.length) : (insAt s o (k + 1))[k]? = some o[k] := by
  unfold insAt
  rw [List.getElem?_append_left (by rw [List.length_take]; omega), List.getElem?_take_of_lt (by omega), List.getElem?_eq_getElem h]
theorem ins_end (o : List Int) (s : Int) : insAt s o o.length = o ++ [s] := by unfold insAt; rw [List.take_length, List.drop_length]
theorem ins_map (f : Int → Int) (o : List Int) (s : Int) (k : Nat) : (insAt s o k).map f = insAt (f s) (o.map f) k := by
  unfold insAt
  rw [List.map_append, List.map_cons, List.map_take, List.map_drop]
end Go.Proofs.YtmienlnhbdbefaaGreatDoor.Plain
