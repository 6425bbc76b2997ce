/- Members read out of texts, as the program reads them: the mathematics. -/
import Derived.Test.YtfjldlmdhemajaaDoorRdcL
import Derived.Test.YtfjldlmdhemajaaDoorRdcS
namespace Go.Proofs.YtfjldlmdhemajaaDoor.Plain
open Go
set_option linter.unusedVariables false

def prsI (x : List UInt8) : Option Int := match Lib.parseIntB 64 x with
  | .ok v => some v
  | _ => none
theorem prsI_ok {x : List UInt8} {v : Int} (h : Lib.parseIntB 64 x = .ok v) : prsI x = some v := by unfold prsI; rw [h]
theorem prsI_no {x : List UInt8} (h : ∀ v, Lib.parseIntB 64 x ≠ .ok v) : prsI x = none := by
  unfold prsI
  cases hp : Lib.parseIntB 64 x with
  | ok v => exact absurd hp (h v)
  | «syntax» => rfl
  | range => rfl
/-- What is read of words: every word l turns to the learners; a word that is no number ends it. -/
def rdP : List (List UInt8) → Bool → List Int → List Int → Option (List Int × List Int)
  | [], _, v, l => some (v, l)
  | x :: r, d, v, l => if x = [108] then rdP r true v l else match prsI x with
    | none => none
    | some n => if d = true then rdP r d v (l ++ [n]) else rdP r d (v ++ [n]) l
theorem rdP_l (ls : List Int) : (∀ a ∈ ls, 1 ≤ a ∧ a ≤ 50) → ∀ v l, rdP (ls.map (fun n => Lib.decDigits n.toNat)) true v l = some (v, l ++ ls) := by
  induction ls with
  | nil => intro _ v l; simp [rdP]
  | cons a ls ih =>
    intro h v l
    have ha := h a (by simp)
    rw [List.map_cons, rdP, if_neg (dec_not a ha.1 ha.2), prsI_ok (parse_dec a ha.1 ha.2)]
    show (if true = true then _ else _) = _
    rw [if_pos rfl, ih (fun b hb => h b (by simp [hb]))]
    simp
theorem rdP_v (r : List (List UInt8)) (ls : List Int) : (∀ a ∈ ls, 1 ≤ a ∧ a ≤ 50) → ∀ v l, rdP (ls.map (fun n => Lib.decDigits n.toNat) ++ r) false v l = rdP r false (v ++ ls) l := by
  induction ls with
  | nil => intro _ v l; simp
  | cons a ls ih =>
    intro h v l
    have ha := h a (by simp)
    rw [List.map_cons, List.cons_append, rdP, if_neg (dec_not a ha.1 ha.2), prsI_ok (parse_dec a ha.1 ha.2)]
    show (if false = true then _ else _) = _
    rw [if_neg (by decide), ih (fun b hb => h b (by simp [hb]))]
    simp
theorem rdP_conf (v l : List Int) (h : confB v l = true) : rdP ((splt 32 (confL v l)).drop 1) false [] [] = some (v, l) := by
  obtain ⟨h1, h2, -⟩ := confB_l h
  rw [splt_conf v l h, List.drop_succ_cons, List.drop_zero, rdP_v _ v h1]
  by_cases hl : l.length = 0
  · rw [if_pos hl, List.length_eq_zero_iff.1 hl]
    simp [rdP]
  · rw [if_neg hl, rdP, if_pos rfl, rdP_l l h2]
    simp
theorem confL_ne {v l : List Int} (h : confB v l = true) : confL v l ≠ [] := by
  intro q
  have := splt_conf v l h
  rw [q] at this
  simp [splt] at this
/-- What ReadConf of the program answers, by the bytes. -/
def rdQ (t : List UInt8) : List Int × List Int × Bool := match rdP ((splt 32 t).drop 1) false [] [] with
  | none => ([], [], false)
  | some (v, l) => if confB v l = true ∧ confL v l = t then (v, l, true) else ([], [], false)
theorem rdQ_none {t : List UInt8} (h : rdP ((splt 32 t).drop 1) false [] [] = none) : rdQ t = ([], [], false) := by unfold rdQ; rw [h]
theorem rdQ_some {t : List UInt8} {v l : List Int} (h : rdP ((splt 32 t).drop 1) false [] [] = some (v, l)) : rdQ t = if confB v l = true ∧ confL v l = t then (v, l, true) else ([], [], false) := by unfold rdQ; rw [h]
theorem rdQ_rdC (t : List UInt8) : rdQ t = rdC numF t := by
  by_cases h : ∃ v l, confB v l = true ∧ confL v l = t
  · obtain ⟨v, l, hc, rfl⟩ := h
    rw [rdQ_some (rdP_conf v l hc), if_pos ⟨hc, rfl⟩]
    unfold rdC
    rw [rdW_conf numF numF_dec v l hc, if_pos ⟨rfl, confL_ne hc⟩]
  · have e1 : rdQ t = ([], [], false) := by
      cases hp : rdP ((splt 32 t).drop 1) false [] [] with
      | none => exact rdQ_none hp
      | some y =>
        obtain ⟨v, l⟩ := y
        rw [rdQ_some hp, if_neg (fun q => h ⟨v, l, q⟩)]
    rw [e1]
    unfold rdC
    rw [if_neg]
    rintro ⟨q1, q2⟩
    exact h ⟨_, _, confL_ok q1 q2, q1⟩
end Go.Proofs.YtfjldlmdhemajaaDoor.Plain
