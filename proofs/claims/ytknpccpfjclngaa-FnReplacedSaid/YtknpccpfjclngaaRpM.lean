/- A file that is replaced is the old one or the new one: the mathematics of FnReplaced. -/
import Derived.Test.YtknpccpfjclngaaGAK
import Derived.Test.YtknpccpfjclngaaGAG
namespace Go.Proofs.Ytknpccpfjclngaa
open Go.RowKit Plain
set_option linter.unusedVariables false

namespace Plain
theorem okF_sameQ : ∀ (fs gs : List Fl) (p : Option ByteArray) (_ : fs.map (·.1) = gs.map (·.1)), okF p fs = okF p gs
  | [], [], p, _ => rfl
  | [], g :: t, p, h => by simp at h
  | f :: s, [], p, h => by simp at h
  | f :: s, g :: t, p, h => by
    simp only [List.map_cons, List.cons.injEq] at h
    cases p with
    | none => rw [okF, okF, h.1, okF_sameQ s t _ h.2]
    | some q => rw [okF, okF, h.1, okF_sameQ s t _ h.2]
theorem sumF_catQ : ∀ (a b : List Fl), sumF (a ++ b) = sumF a + sumF b
  | [], b => by rw [List.nil_append]; show sumF b = 0 + sumF b; omega
  | f :: a, b => by rw [List.cons_append, sumF, sumF, sumF_catQ a b]; omega
theorem putG_namesQ (n d d' : ByteArray) : ∀ (fs : List Fl) (b : Bool), (putG n d' b fs).map (·.1) = (putG n d b fs).map (·.1)
  | [], true => rfl
  | [], false => rfl
  | f :: t, b => by
    cases b
    all_goals
      rw [putG, putG]
      simp only [List.map_append, putG_namesQ n d d' t]
      first | rfl | done | (congr 1; split <;> rfl)
theorem putG_sumQ (n d d' : ByteArray) (h : d'.size ≤ d.size) : ∀ (fs : List Fl) (b : Bool), sumF (putG n d' b fs) ≤ sumF (putG n d b fs)
  | [], true => Nat.le_refl _
  | [], false => by show d'.size + 0 ≤ d.size + 0; omega
  | f :: t, b => by
    have ih := putG_sumQ n d d' h t (b || !lessN f.1 n)
    have e : ∀ x : ByteArray, putG n x b (f :: t) = (if !b && !lessN f.1 n then [(n, x)] else []) ++ ((if eqN f.1 n then [] else [f]) ++ putG n x (b || !lessN f.1 n) t) := fun x => by cases b <;> rw [putG]
    rw [e, e]
    simp only [sumF_catQ]
    have : sumF (if !b && !lessN f.1 n then [(n, d')] else []) ≤ sumF (if !b && !lessN f.1 n then [(n, d)] else []) := by
      split
      · show d'.size + 0 ≤ d.size + 0; omega
      · exact Nat.le_refl _
    omega
theorem put_smallQ {fs : List Fl} {n d d' : ByteArray} (h : filesB (putF fs n d) = true) (hd : d'.size ≤ d.size) : filesB (putF fs n d') = true := by
  have e := putG_namesQ n d d' fs false
  have hs := putG_sumQ n d d' hd fs false
  have hl : (putF fs n d').length = (putF fs n d).length := by
    have := congrArg List.length e
    rw [List.length_map, List.length_map] at this
    exact this
  unfold filesB at h ⊢
  simp only [Bool.and_eq_true, decide_eq_true_eq] at h ⊢
  rw [hl, okF_sameQ (putF fs n d') (putF fs n d) none e]
  exact ⟨h.1, h.2.1, Nat.le_trans hs h.2.2⟩
theorem do_smallQ {fs : List Fl} {n d d' : ByteArray} (h : filesB (doF fs ⟨1, n, ⟨#[]⟩, d⟩).1 = true) (hd : d'.size ≤ d.size) : filesB (doF fs ⟨1, n, ⟨#[]⟩, d'⟩).1 = true := by
  unfold doF at h ⊢
  simp only [if_true] at h ⊢
  refine put_smallQ h ?_
  split
  · rw [ByteArray.size_append, ByteArray.size_append]; omega
  · exact hd
theorem run_stepQ {fs r : List Fl} {o : Dop} {t : List Dop} (h : runF fs (o :: t) = some r) : ((doF fs o).2 = true ∧ formB o = true ∧ filesB (doF fs o).1 = true) ∧ runF (doF fs o).1 t = some r := by
  rw [runF] at h
  split at h
  · rename_i c
    simp only [Bool.and_eq_true] at c
    exact ⟨c, h⟩
  · cases h
/-- The two ops of a replacing. -/
def repW (fr nm dt : ByteArray) : List Dop := [⟨1, fr, ⟨#[]⟩, dt⟩, ⟨2, fr, nm, ⟨#[]⟩⟩]
theorem rep_kind {L : List Fl} {fr nm dt : ByteArray} (hL : filesB L = true) (h : tabF L fr = none) : repX L L [] fr nm dt = repW fr nm dt := by
  unfold repX fileF
  rw [if_pos (disk_synced hL), h]
  rfl
/-- What the plan may be. -/
def keepM : List (List Int) := [[], [0], [1], [0, 1]]
/-- A part of the first op's data leaves the named file alone. -/
theorem rep_first {L : List Fl} {fr nm dt dx : ByteArray} (hL : filesB L = true) (h : tabF L fr = none) (hne : nm ≠ fr) (hf : filesB (doF L ⟨1, fr, ⟨#[]⟩, dt⟩).1 = true) (hx : dx.size ≤ dt.size) : filesB (doF L ⟨1, fr, ⟨#[]⟩, dx⟩).1 = true ∧ tabF (doF L ⟨1, fr, ⟨#[]⟩, dx⟩).1 nm = tabF L nm := by
  refine ⟨do_smallQ hf hx, ?_⟩
  rw [(do_app (files_ok hL).2 ⟨1, fr, ⟨#[]⟩, dx⟩ rfl).2]
  show updT (tabF L) fr _ nm = _
  unfold updT
  rw [if_neg hne]
/-- Behind any loss of power the file is the old one or the new one. -/
theorem rep_law {L : List Fl} {fr nm dt : ByteArray} {t : Int} (hL : filesB L = true) (h : tabF L fr = none) (hne : nm ≠ fr) (ht : 0 ≤ t) (hc : actC L L [] (repW fr nm dt) = 0) :
    actS L L [] = L ∧ actO L L [] (repW fr nm dt) = repW fr nm dt ∧ diskB (actL L L [] (repW fr nm dt)) L (repW fr nm dt) = true ∧ filesB (actL L L [] (repW fr nm dt)) = true ∧ tabF (actL L L [] (repW fr nm dt)) nm = some dt ∧
    ∀ ks ∈ keepM, crOk (actL L L [] (repW fr nm dt)) L (repW fr nm dt) ks t = true ∧ filesB (crL (actL L L [] (repW fr nm dt)) L (repW fr nm dt) ks t) = true ∧ (tabF (crL (actL L L [] (repW fr nm dt)) L (repW fr nm dt) ks t) nm = tabF L nm ∨ tabF (crL (actL L L [] (repW fr nm dt)) L (repW fr nm dt) ks t) nm = some dt) := by
  have hd := disk_synced hL
  obtain ⟨h1, h2⟩ := act_runR hd hc
  have e1 : actS L L [] = L := by unfold actS; rw [if_pos hd]
  have e2 : actO L L [] (repW fr nm dt) = repW fr nm dt := by
    unfold actC at hc
    rw [if_pos hd] at hc
    unfold actO
    rw [if_pos hd, if_pos hc, List.nil_append]
  rw [e1, e2] at h1
  have hr := (disk_run h1).2
  have hris := (files_ok hL).2
  obtain ⟨⟨-, a2, a3⟩, hr2⟩ := run_stepQ (show runF L (⟨1, fr, ⟨#[]⟩, dt⟩ :: [⟨2, fr, nm, ⟨#[]⟩⟩]) = some _ from hr)
  obtain ⟨⟨b1, b2, b3⟩, hr3⟩ := run_stepQ hr2
  rw [runF] at hr3
  have e3 : (doF (doF L ⟨1, fr, ⟨#[]⟩, dt⟩).1 ⟨2, fr, nm, ⟨#[]⟩⟩).1 = actL L L [] (repW fr nm dt) := by injection hr3
  have hris1 := (files_ok a3).2
  have t1 : tabF (doF L ⟨1, fr, ⟨#[]⟩, dt⟩).1 fr = some dt := by
    rw [(do_app hris ⟨1, fr, ⟨#[]⟩, dt⟩ rfl).2]
    show updT (tabF L) fr (some ((tabF L fr).getD ⟨#[]⟩ ++ dt)) fr = _
    unfold updT
    rw [if_pos rfl, h]
    exact congrArg some ByteArray.empty_append
  have t2 : tabF (actL L L [] (repW fr nm dt)) nm = some dt := by
    rw [← e3, (do_ren hris1 ⟨2, fr, nm, ⟨#[]⟩⟩ rfl).2]
    show (match tabF (doF L ⟨1, fr, ⟨#[]⟩, dt⟩).1 fr with | none => _ | some d => updT (updT _ fr none) nm (some d)) nm = _
    rw [t1]
    show updT _ nm (some dt) nm = _
    unfold updT
    rw [if_pos rfl]
  have b0 : doF L ⟨2, fr, nm, ⟨#[]⟩⟩ = (L, false) := by
    have q : (doF L ⟨2, fr, nm, ⟨#[]⟩⟩).2 = false := by
      rw [(do_ren hris ⟨2, fr, nm, ⟨#[]⟩⟩ rfl).1]
      show (tabF L fr).isSome = false
      rw [h]
      rfl
    unfold doF at q ⊢
    rw [if_neg (show ¬ (2 : Int) = 1 by decide)] at q ⊢
    cases ha : atF fr L with
    | none => rfl
    | some i =>
      have ha2 : atF (Dop.name ⟨2, fr, nm, ⟨#[]⟩⟩) L = some i := ha
      rw [ha2] at q
      exact absurd q (by simp)
  refine ⟨e1, e2, h1, h2, t2, fun ks hks => ?_⟩
  have hfin : ∀ X : List Fl, PlOk ((repW fr nm dt).length : Int) ks → crF L (kcs (repW fr nm dt) ks t) = X → filesB X = true → (tabF X nm = tabF L nm ∨ tabF X nm = some dt) → crOk (actL L L [] (repW fr nm dt)) L (repW fr nm dt) ks t = true ∧ filesB (crL (actL L L [] (repW fr nm dt)) L (repW fr nm dt) ks t) = true ∧ (tabF (crL (actL L L [] (repW fr nm dt)) L (repW fr nm dt) ks t) nm = tabF L nm ∨ tabF (crL (actL L L [] (repW fr nm dt)) L (repW fr nm dt) ks t) nm = some dt) := fun X hp hX hf ho => by
    have hok : crOk (actL L L [] (repW fr nm dt)) L (repW fr nm dt) ks t = true := by
      unfold crOk
      rw [h1, plB_yes hp, decide_eq_true ht, hX, hf]
      rfl
    unfold crL
    rw [hok, if_pos rfl, hX]
    exact ⟨rfl, hf, ho⟩
  unfold keepM at hks
  simp only [List.mem_cons, List.not_mem_nil, or_false] at hks
  rcases hks with rfl | rfl | rfl | rfl
  · refine hfin L (none_ok _) ?_ hL (.inl rfl)
    rw [kcs_none]; rfl
  · have hp : PlOk ((repW fr nm dt).length : Int) [0] := by
      intro k hk
      obtain rfl : k = 0 := by simpa using hk
      exact ⟨show (0 : Int) ≤ 0 ∧ (0 : Int) < 2 by decide, fun q => absurd q (by omega)⟩
    by_cases hc2 : t < (dt.size : Int)
    · obtain ⟨f1, f2⟩ := rep_first (dx := dt.extract 0 t.toNat) hL h hne a3 (by rw [ByteArray.size_extract]; omega)
      refine hfin _ hp ?_ f1 (.inl f2)
      show crF L [tornC t ⟨1, fr, ⟨#[]⟩, dt⟩] = _
      unfold tornC
      rw [if_pos ⟨rfl, hc2⟩]
      rfl
    · obtain ⟨f1, f2⟩ := rep_first (dx := dt) hL h hne a3 (Nat.le_refl _)
      refine hfin _ hp ?_ f1 (.inl f2)
      show crF L [tornC t ⟨1, fr, ⟨#[]⟩, dt⟩] = _
      unfold tornC
      rw [if_neg (fun q => hc2 q.2)]
      rfl
  · have hp : PlOk ((repW fr nm dt).length : Int) [1] := by
      intro k hk
      obtain rfl : k = 0 := by simpa using hk
      exact ⟨show (0 : Int) ≤ 1 ∧ (1 : Int) < 2 by decide, fun q => absurd q (by omega)⟩
    refine hfin L hp ?_ hL (.inl rfl)
    show crF L [tornC t ⟨2, fr, nm, ⟨#[]⟩⟩] = _
    unfold tornC
    rw [if_neg (fun q => absurd q.1 (show ¬ (2 : Int) = 1 by decide))]
    show (doF L ⟨2, fr, nm, ⟨#[]⟩⟩).1 = L
    rw [b0]
  · have hp : PlOk ((repW fr nm dt).length : Int) [0, 1] := by
      intro k hk
      have hk2 : k < 2 := hk
      rcases k with _ | _ | k
      · exact ⟨show (0 : Int) ≤ 0 ∧ (0 : Int) < 2 by decide, fun q => absurd q (by omega)⟩
      · exact ⟨show (0 : Int) ≤ 1 ∧ (1 : Int) < 2 by decide, fun q => show (0 : Int) < 1 by decide⟩
      · omega
    refine hfin _ hp ?_ h2 (.inr t2)
    show crF L [Chg.op ⟨1, fr, ⟨#[]⟩, dt⟩, tornC t ⟨2, fr, nm, ⟨#[]⟩⟩] = _
    unfold tornC
    rw [if_neg (fun q => absurd q.1 (show ¬ (2 : Int) = 1 by decide))]
    exact e3
end Plain
end Go.Proofs.Ytknpccpfjclngaa
