/- Members read out of texts: the mathematics. -/
import Derived.Test.YtfjldlmdhemajaaDoorCtxM
import Derived.Test.YtfjldlmdhemajaaDoorCut
namespace Go.Proofs.YtfjldlmdhemajaaDoor.Plain
open Go
set_option linter.unusedVariables false

def no32 (h : List UInt8) : Prop := ∀ x ∈ h, x.toNat ≠ 32
theorem dec_no32 : ∀ n : Nat, no32 (Lib.decDigits n) := by
  intro n
  induction n using Nat.strongRecOn with
  | _ n ih =>
    rw [Lib.decDigits]
    have hd : ∀ k : Nat, (UInt8.ofNat (48 + k % 10)).toNat ≠ 32 := fun k => by simp; omega
    have hd2 : ∀ k : Nat, k < 10 → (UInt8.ofNat (48 + k)).toNat ≠ 32 := fun k hk => by simp; omega
    split
    · intro x hx
      simp only [List.mem_singleton] at hx
      subst hx
      exact hd2 _ (by assumption)
    · intro x hx
      rw [List.mem_append] at hx
      rcases hx with hx | hx
      · exact ih (n / 10) (by omega) x hx
      · simp only [List.mem_singleton] at hx
        subst hx
        exact hd _
/-- The words of numbers, and of what follows. -/
theorem splt_num (tl : List UInt8) (W : List (List UInt8)) (ht : ∀ h, no32 h → splt 32 (h ++ tl) = h :: W) (ls : List Int) : ∀ h, no32 h → splt 32 (h ++ (numL ls ++ tl)) = h :: (ls.map (fun n => Lib.decDigits n.toNat) ++ W) := by
  induction ls with
  | nil => intro h hh; simpa [numL] using ht h hh
  | cons a ls ih =>
    intro h hh
    have e : numL (a :: ls) ++ tl = 32 :: (Lib.decDigits a.toNat ++ (numL ls ++ tl)) := by simp [numL]
    rw [e, splt_at 32 h _ 32 (by decide) hh, ih _ (dec_no32 _)]
    simp
theorem splt_conf (v l : List Int) (h : confB v l = true) : splt 32 (confL v l) = [118] :: (v.map (fun n => Lib.decDigits n.toNat) ++ (if l.length = 0 then [] else [108] :: l.map (fun n => Lib.decDigits n.toNat))) := by
  unfold confL
  rw [if_pos h]
  by_cases hl : l.length = 0
  · rw [if_pos hl, if_pos hl]
    exact splt_num [] [] (fun h hh => by rw [List.append_nil]; exact splt_end 32 h hh) v [118] (by intro x hx; simp only [List.mem_singleton] at hx; subst hx; decide)
  · rw [if_neg hl, if_neg hl]
    refine splt_num (32 :: 108 :: numL l) ([108] :: l.map (fun n => Lib.decDigits n.toNat)) (fun h hh => ?_) v [118] (by intro x hx; simp only [List.mem_singleton] at hx; subst hx; decide)
    rw [splt_at 32 h _ 32 (by decide) hh]
    have := splt_num [] [] (fun h hh => by rw [List.append_nil]; exact splt_end 32 h hh) l [108] (by intro x hx; simp only [List.mem_singleton] at hx; subst hx; decide)
    rw [List.append_nil, List.append_nil] at this
    exact congrArg _ this
/-- What is read of words: a number by N; the word l turns to the learners, once. -/
def rdW (N : List UInt8 → Int) : List (List UInt8) → Bool → List Int → List Int → List Int × List Int
  | [], _, v, l => (v, l)
  | x :: r, d, v, l => if x = [108] ∧ d = false then rdW N r true v l else if d = true then rdW N r d v (l ++ [N x]) else rdW N r d (v ++ [N x]) l
theorem dec_not (a : Int) (h1 : 1 ≤ a) (h50 : a ≤ 50) : Lib.decDigits a.toNat ≠ [108] := by
  intro q
  have hd : ∀ n : Fin 51, Lib.decDigits n.val ≠ [108] := by
    intro n q
    rw [Lib.decDigits] at q
    split at q
    · have := congrArg (fun l => l.map UInt8.toNat) q
      simp at this
      omega
    · have := congrArg List.length q
      rw [Lib.decDigits, dif_pos (by omega)] at this
      simp at this
  exact hd ⟨a.toNat, by omega⟩ q
theorem rdW_l (N : List UInt8 → Int) (hN : ∀ a : Int, 1 ≤ a → a ≤ 50 → N (Lib.decDigits a.toNat) = a) (ls : List Int) : (∀ a ∈ ls, 1 ≤ a ∧ a ≤ 50) → ∀ v l, rdW N (ls.map (fun n => Lib.decDigits n.toNat)) true v l = (v, l ++ ls) := by
  induction ls with
  | nil => intro _ v l; simp [rdW]
  | cons a ls ih =>
    intro h v l
    have ha := h a (by simp)
    rw [List.map_cons, rdW, if_neg (by simp), if_pos rfl, ih (fun b hb => h b (by simp [hb])), hN a ha.1 ha.2]
    simp
theorem rdW_v (N : List UInt8 → Int) (hN : ∀ a : Int, 1 ≤ a → a ≤ 50 → N (Lib.decDigits a.toNat) = a) (r : List (List UInt8)) (ls : List Int) : (∀ a ∈ ls, 1 ≤ a ∧ a ≤ 50) → ∀ v l, rdW N (ls.map (fun n => Lib.decDigits n.toNat) ++ r) false v l = rdW N r false (v ++ ls) l := by
  induction ls with
  | nil => intro _ v l; simp
  | cons a ls ih =>
    intro h v l
    have ha := h a (by simp)
    rw [List.map_cons, List.cons_append, rdW, if_neg (fun q => dec_not a ha.1 ha.2 q.1), if_neg (by decide), ih (fun b hb => h b (by simp [hb])), hN a ha.1 ha.2]
    simp
/-- The text of right members reads as them. -/
theorem rdW_conf (N : List UInt8 → Int) (hN : ∀ a : Int, 1 ≤ a → a ≤ 50 → N (Lib.decDigits a.toNat) = a) (v l : List Int) (h : confB v l = true) : rdW N ((splt 32 (confL v l)).drop 1) false [] [] = (v, l) := by
  obtain ⟨h1, h2, -⟩ := confB_l h
  rw [splt_conf v l h, List.drop_succ_cons, List.drop_zero, rdW_v N hN _ v h1]
  by_cases hl : l.length = 0
  · rw [if_pos hl, List.length_eq_zero_iff.1 hl]
    simp [rdW]
  · rw [if_neg hl, rdW, if_pos ⟨rfl, rfl⟩, rdW_l N hN l h2]
    simp
/-- What ReadConf answers, by the bytes: members whose text is the text, or nothing. -/
def rdC (N : List UInt8 → Int) (t : List UInt8) : List Int × List Int × Bool :=
  if confL (rdW N ((splt 32 t).drop 1) false [] []).1 (rdW N ((splt 32 t).drop 1) false [] []).2 = t ∧ t ≠ [] then ((rdW N ((splt 32 t).drop 1) false [] []).1, (rdW N ((splt 32 t).drop 1) false [] []).2, true) else ([], [], false)
theorem confL_ok {v l : List Int} {t : List UInt8} (h : confL v l = t) (ht : t ≠ []) : confB v l = true := by
  cases hc : confB v l with
  | true => rfl
  | false =>
    unfold confL at h
    rw [if_neg (by rw [hc]; decide)] at h
    exact absurd h.symm ht
/-- Which reader of numbers it is does not matter. -/
theorem rdC_any (N M : List UInt8 → Int) (hN : ∀ a : Int, 1 ≤ a → a ≤ 50 → N (Lib.decDigits a.toNat) = a) (hM : ∀ a : Int, 1 ≤ a → a ≤ 50 → M (Lib.decDigits a.toNat) = a) (t : List UInt8) : rdC N t = rdC M t := by
  have one : ∀ (A B : List UInt8 → Int), (∀ a : Int, 1 ≤ a → a ≤ 50 → A (Lib.decDigits a.toNat) = a) → (∀ a : Int, 1 ≤ a → a ≤ 50 → B (Lib.decDigits a.toNat) = a) → confL (rdW A ((splt 32 t).drop 1) false [] []).1 (rdW A ((splt 32 t).drop 1) false [] []).2 = t ∧ t ≠ [] → rdW A ((splt 32 t).drop 1) false [] [] = rdW B ((splt 32 t).drop 1) false [] [] := by
    intro A B hA hB h
    obtain ⟨h1, h2⟩ := h
    have hc := confL_ok h1 h2
    have e1 := rdW_conf A hA _ _ hc
    have e2 := rdW_conf B hB _ _ hc
    rw [h1] at e1 e2
    rw [e1, e2]
  unfold rdC
  by_cases h : confL (rdW N ((splt 32 t).drop 1) false [] []).1 (rdW N ((splt 32 t).drop 1) false [] []).2 = t ∧ t ≠ []
  · have e := one N M hN hM h
    rw [e]
  · by_cases h2 : confL (rdW M ((splt 32 t).drop 1) false [] []).1 (rdW M ((splt 32 t).drop 1) false [] []).2 = t ∧ t ≠ []
    · have e := one M N hM hN h2
      rw [e]
    · rw [if_neg h, if_neg h2]
/-- A text of more than 200 bytes is none of right members. -/
theorem confL_len (v l : List Int) : (confL v l).length ≤ 200 := by
  unfold confL
  split
  · rename_i h
    obtain ⟨h1, h2, h3⟩ := confB_l h
    have n1 := numL_len v h1
    have n2 := numL_len l h2
    have hv : v.length ≤ 7 := by
      unfold confB at h
      simp only [Bool.and_eq_true, decide_eq_true_iff] at h
      exact h.2.2.1
    split <;> simp <;> omega
  · simp
end Go.Proofs.YtfjldlmdhemajaaDoor.Plain
