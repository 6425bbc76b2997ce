/- What is left of a log whose last ops are lost in part: the mathematics of FnTorn. -/
import Derived.Test.YtakalfckhailjaaGreatGBF
import Derived.Test.YtakalfckhailjaaGreatGBE
namespace Go.Proofs.YtakalfckhailjaaGreat
open Go.RowKit Plain
set_option linter.unusedVariables false

namespace Plain
theorem okF_same : ∀ (fs gs : List Fl) (p : Option ByteArray) (_ : fs.map (·.1) = gs.map (·.1)), okF p fs = okF p gs
  | [], [], p, _ => rfl
  | [], g :: t, p, h => by simp at h
  | f :: s, [], p, h => by simp at h
  | f :: s, g :: t, p, h => by
    simp only [List.map_cons, List.cons.injEq] at h
    cases p with
    | none => rw [okF, okF, h.1, okF_same s t _ h.2]
    | some q => rw [okF, okF, h.1, okF_same s t _ h.2]
theorem sumF_cat : ∀ (a b : List Fl), sumF (a ++ b) = sumF a + sumF b
  | [], b => by rw [List.nil_append]; show sumF b = 0 + sumF b; omega
  | f :: a, b => by rw [List.cons_append, sumF, sumF, sumF_cat a b]; omega
theorem putG_names (n d d' : ByteArray) : ∀ (fs : List Fl) (b : Bool), (putG n d' b fs).map (·.1) = (putG n d b fs).map (·.1)
  | [], true => rfl
  | [], false => rfl
  | f :: t, b => by
    cases b
    all_goals
      rw [putG, putG]
      simp only [List.map_append, putG_names n d d' t]
      first | rfl | done | (congr 1; split <;> rfl)
theorem putG_sum (n d d' : ByteArray) (h : d'.size ≤ d.size) : ∀ (fs : List Fl) (b : Bool), sumF (putG n d' b fs) ≤ sumF (putG n d b fs)
  | [], true => Nat.le_refl _
  | [], false => by show d'.size + 0 ≤ d.size + 0; omega
  | f :: t, b => by
    have ih := putG_sum n d d' h t (b || !lessN f.1 n)
    have e : ∀ x : ByteArray, putG n x b (f :: t) = (if !b && !lessN f.1 n then [(n, x)] else []) ++ ((if eqN f.1 n then [] else [f]) ++ putG n x (b || !lessN f.1 n) t) := fun x => by cases b <;> rw [putG]
    rw [e, e]
    simp only [sumF_cat]
    have : sumF (if !b && !lessN f.1 n then [(n, d')] else []) ≤ sumF (if !b && !lessN f.1 n then [(n, d)] else []) := by
      split
      · show d'.size + 0 ≤ d.size + 0; omega
      · exact Nat.le_refl _
    omega
theorem put_small {fs : List Fl} {n d d' : ByteArray} (h : filesB (putF fs n d) = true) (hd : d'.size ≤ d.size) : filesB (putF fs n d') = true := by
  have e := putG_names n d d' fs false
  have hs := putG_sum n d d' hd fs false
  have hl : (putF fs n d').length = (putF fs n d).length := by
    have := congrArg List.length e
    rw [List.length_map, List.length_map] at this
    exact this
  unfold filesB at h ⊢
  simp only [Bool.and_eq_true, decide_eq_true_eq] at h ⊢
  rw [hl, okF_same (putF fs n d') (putF fs n d) none e]
  exact ⟨h.1, h.2.1, Nat.le_trans hs h.2.2⟩
theorem do_small {fs : List Fl} {n d d' : ByteArray} (h : filesB (doF fs ⟨1, n, ⟨#[]⟩, d⟩).1 = true) (hd : d'.size ≤ d.size) : filesB (doF fs ⟨1, n, ⟨#[]⟩, d'⟩).1 = true := by
  unfold doF at h ⊢
  simp only [if_true] at h ⊢
  refine put_small h ?_
  split
  · rw [ByteArray.size_append, ByteArray.size_append]; omega
  · exact hd
theorem run_step {fs r : List Fl} {o : Dop} {t : List Dop} (h : runF fs (o :: t) = some r) : ((doF fs o).2 = true ∧ formB o = true ∧ filesB (doF fs o).1 = true) ∧ runF (doF fs o).1 t = some r := by
  rw [runF] at h
  split at h
  · rename_i c
    simp only [Bool.and_eq_true] at c
    exact ⟨c, h⟩
  · cases h
theorem run_tab : ∀ (xs : List Dop) (fs r : List Fl), Risen fs → runF fs xs = some r → tabF r = xs.foldl stepT (tabF fs)
  | [], fs, r, _, h => by rw [runF] at h; cases h; rfl
  | o :: t, fs, r, hr, h => by
    obtain ⟨⟨-, h2, -⟩, h4⟩ := run_step h
    rw [run_tab t _ r (risen_do hr o) h4, do_tab hr h2]
    rfl
theorem run_files : ∀ (xs : List Dop) (fs r : List Fl), filesB fs = true → runF fs xs = some r → filesB r = true
  | [], fs, r, hf, h => by rw [runF] at h; cases h; exact hf
  | o :: t, fs, r, hf, h => by
    obtain ⟨⟨-, -, h3⟩, h4⟩ := run_step h
    exact run_files t _ r h3 h4
theorem run_split : ∀ (xs ys : List Dop) (fs r : List Fl), runF fs (xs ++ ys) = some r → ∃ m, runF fs xs = some m ∧ runF m ys = some r
  | [], ys, fs, r, h => ⟨fs, by rw [runF], h⟩
  | o :: t, ys, fs, r, h => by
    rw [List.cons_append] at h
    obtain ⟨⟨h1, h2, h3⟩, h4⟩ := run_step h
    obtain ⟨m, e1, e2⟩ := run_split t ys _ r h4
    refine ⟨m, ?_, e2⟩
    rw [runF, h1, h2, h3]
    exact e1
theorem kc0_pre (ops : List Dop) : ∀ k, k ≤ ops.length → kc0 ops (allK k) = (ops.take k).map Chg.op
  | 0, _ => by simp [allK, kc0]
  | k + 1, h => by
    rw [allK_succ, kc0, List.map_append, List.take_succ_eq_append_getElem (by omega), List.map_append]
    have := kc0_pre ops k (by omega)
    rw [kc0] at this
    rw [this]
    show _ ++ [Chg.op (opAt ops (k : Int))] = _ ++ [Chg.op ops[k]]
    rw [opAt_at ops k (by omega)]
theorem kcs_take (ops : List Dop) (t : Int) (m : Nat) (h : m < ops.length) : kcs ops (allK (m + 1)) t = (ops.take m).map Chg.op ++ [tornC t ops[m]] := by
  have hl : ((ops.take m).map Chg.op).length = m := by rw [List.length_map, List.length_take]; omega
  unfold kcs
  rw [kc0_pre ops (m + 1) (by omega), allK_len, Nat.add_sub_cancel, allK_at (m + 1) m (by omega), opAt_at ops m h, List.take_succ_eq_append_getElem h, List.map_append]
  rw [List.set_append_right _ _ (by omega), hl, Nat.sub_self]
  rfl
theorem okE_part (term : Int) : ∀ (l r : List Ent) (p : Int), okE term p (l ++ r) = true → okE term p l = true
  | [], r, p, _ => rfl
  | e :: l, r, p, h => by
    rw [List.cons_append, okE, Bool.and_eq_true] at h
    rw [okE, h.1, okE_part term l r _ h.2]
    rfl
theorem jou_part {t v : Int} {l r : List Ent} (h : jouB t v (l ++ r) = true) : jouB t v l = true := by
  unfold jouB at h ⊢
  simp only [Bool.and_eq_true, decide_eq_true_eq] at h ⊢
  obtain ⟨⟨h1, h2⟩, h3, h4⟩ := h
  rw [List.length_append] at h3
  exact ⟨⟨h1, h2⟩, by omega, okE_part t l r 0 h4⟩
theorem cat_cancel {a b c : ByteArray} (h : a ++ c = b ++ c) : a = b := by
  apply ByteArray.ext
  have := congrArg ByteArray.data h
  rw [ByteArray.data_append, ByteArray.data_append] at this
  exact (Array.append_left_inj c.data).1 this
theorem crF_app (fs : List Fl) (cs : List Chg) (c : Chg) : crF fs (cs ++ [c]) = (doF (crF fs cs) c.asOp).1 := by unfold crF; rw [List.foldl_append]; rfl
/-- What is recovered behind a loss of power, the first ops kept and the last of them torn. -/
theorem torn_rec {L live : List Fl} {E es : List Ent} {T V t : Int} {k : Nat} (hL : filesB L = true) (hd : diskB live L (es.map entO) = true) (hv : votD L = some (T, V)) (hj : jouB T V (E ++ es) = true) (hw : (tabF live logN).getD ⟨#[]⟩ = catQ (E ++ es)) (hk : k ≤ es.length) (ht : 0 ≤ t) :
    crOk live L (es.map entO) (allK k) t = true ∧ filesB (crL live L (es.map entO) (allK k) t) = true ∧ ∃ m, m ≤ es.length ∧ recT (crL live L (es.map entO) (allK k) t) (crL live L (es.map entO) (allK k) t) [] = (true, T, V, E ++ es.take m) := by
  have hr := (disk_run hd).2
  have hris := (files_ok hL).2
  have hlog : (tabF L logN).getD ⟨#[]⟩ = catQ E := by
    have h1 := run_tab _ _ _ hris hr
    have h2 := (apps_tab es (tabF L)).1
    rw [← h1, hw, catQ_app] at h2
    exact (cat_cancel h2).symm
  suffices hs : ∃ m, m ≤ es.length ∧ filesB (crF L (kcs (es.map entO) (allK k) t)) = true ∧ recT (crF L (kcs (es.map entO) (allK k) t)) (crF L (kcs (es.map entO) (allK k) t)) [] = (true, T, V, E ++ es.take m) by
    obtain ⟨m, h1, h2, h3⟩ := hs
    have hp : PlOk ((es.map entO).length : Int) (allK k) := by
      intro i hi
      rw [allK_len] at hi
      refine ⟨?_, fun h0 => ?_⟩
      · rw [allK_at k i hi, List.length_map]; omega
      · rw [allK_at k i hi, allK_at k (i - 1) (by omega)]; omega
    have hc : crOk live L (es.map entO) (allK k) t = true := by
      unfold crOk
      rw [hd, plB_yes hp, decide_eq_true ht, h2]
      rfl
    unfold crL
    rw [hc, if_pos rfl]
    exact ⟨rfl, h2, m, h1, h3⟩
  have fin : ∀ (X : List Fl) (m : Nat), filesB X = true → m ≤ es.length → tabF X voteN = tabF L voteN → logF ((tabF X logN).getD ⟨#[]⟩) T = E ++ es.take m → ∃ m, m ≤ es.length ∧ filesB X = true ∧ recT X X [] = (true, T, V, E ++ es.take m) := fun X m hX hm h1 h2 => by
    refine ⟨m, hm, hX, ?_⟩
    have hv2 : votD X = some (T, V) := by unfold votD at hv ⊢; rw [h1]; exact hv
    rw [rec_disk hX, hv2]
    show (true, T, V, logD X T) = _
    unfold logD
    rw [h2]
  have hpre : ∀ m, jouB T V (E ++ es.take m) = true := fun m => by
    have := hj
    rw [← List.take_append_drop m es, ← List.append_assoc] at this
    exact jou_part this
  cases k with
  | zero =>
    have e : crF L (kcs (es.map entO) (allK 0) t) = L := by rw [show allK 0 = [] from by simp [allK], kcs_none]; rfl
    rw [e]
    refine fin L 0 hL (Nat.zero_le _) rfl ?_
    have := hpre 0
    rw [List.take_zero, List.append_nil] at this ⊢
    rw [hlog, log_whole this]
  | succ m =>
    have hm : m < es.length := hk
    have hmo : m < (es.map entO).length := by rw [List.length_map]; exact hm
    obtain ⟨F, r1, r2⟩ := run_split ((es.map entO).take m) ((es.map entO).drop m) L live (by rw [List.take_append_drop]; exact hr)
    have hF := run_files _ _ _ hL r1
    have hFt := run_tab _ _ _ hris r1
    rw [← List.map_take] at hFt
    obtain ⟨a1, a2⟩ := apps_tab (es.take m) (tabF L)
    rw [← hFt] at a1 a2
    rw [hlog] at a1
    rw [List.drop_eq_getElem_cons hmo] at r2
    obtain ⟨⟨-, f1, f2⟩, -⟩ := run_step r2
    have e0 : (es.map entO)[m] = ⟨1, logN, ⟨#[]⟩, entT es[m].term es[m].kind es[m].body⟩ := by rw [List.getElem_map]; rfl
    rw [e0] at f1 f2
    rw [kcs_take _ t m hmo, crF_app, crF_run _ _ _ r1, e0]
    have hent : entB es[m].term es[m].kind es[m].body = true := okE_ent T (E ++ es) 0 (jou_parts hj).2 es[m] (List.mem_append.2 (.inr (List.getElem_mem hm)))
    have hFr := (files_ok hF).2
    have step : ∀ d : ByteArray, tabF (doF F ⟨1, logN, ⟨#[]⟩, d⟩).1 voteN = tabF L voteN ∧ (tabF (doF F ⟨1, logN, ⟨#[]⟩, d⟩).1 logN).getD ⟨#[]⟩ = catQ (E ++ es.take m) ++ d := fun d => by
      have hd1 := do_tab hFr (o := ⟨1, logN, ⟨#[]⟩, d⟩) (by have := f1; unfold formB at this ⊢; exact this)
      rw [hd1]
      unfold stepT
      simp only [if_true]
      unfold updT
      rw [if_neg (show voteN ≠ logN by decide), if_pos rfl, a2 voteN (by decide)]
      refine ⟨rfl, ?_⟩
      show (tabF F logN).getD ⟨#[]⟩ ++ d = _
      rw [a1, catQ_app]
    unfold tornC
    by_cases hc : t < ((entT es[m].term es[m].kind es[m].body).size : Int)
    · rw [if_pos ⟨rfl, hc⟩]
      show ∃ n, n ≤ es.length ∧ filesB (doF F ⟨1, logN, ⟨#[]⟩, (entT es[m].term es[m].kind es[m].body).extract 0 t.toNat⟩).1 = true ∧ recT (doF F ⟨1, logN, ⟨#[]⟩, (entT es[m].term es[m].kind es[m].body).extract 0 t.toNat⟩).1 (doF F ⟨1, logN, ⟨#[]⟩, (entT es[m].term es[m].kind es[m].body).extract 0 t.toNat⟩).1 [] = _
      obtain ⟨s1, s2⟩ := step ((entT es[m].term es[m].kind es[m].body).extract 0 t.toNat)
      refine fin _ m (do_small f2 (by rw [ByteArray.size_extract]; omega)) (by omega) s1 ?_
      rw [s2]
      exact log_cutoff (hpre m) hent t.toNat (by omega)
    · rw [if_neg (fun q => hc q.2)]
      show ∃ n, n ≤ es.length ∧ filesB (doF F ⟨1, logN, ⟨#[]⟩, entT es[m].term es[m].kind es[m].body⟩).1 = true ∧ recT (doF F ⟨1, logN, ⟨#[]⟩, entT es[m].term es[m].kind es[m].body⟩).1 (doF F ⟨1, logN, ⟨#[]⟩, entT es[m].term es[m].kind es[m].body⟩).1 [] = _
      obtain ⟨s1, s2⟩ := step (entT es[m].term es[m].kind es[m].body)
      refine fin _ (m + 1) f2 hk s1 ?_
      have hq : catQ (E ++ es.take m) ++ entT es[m].term es[m].kind es[m].body = catQ (E ++ es.take (m + 1)) := by
        rw [List.take_succ_eq_append_getElem hm, ← List.append_assoc, catQ_app (E ++ es.take m) [es[m]], catQ, catQ, app_none]
      rw [s2, hq]
      exact log_whole (hpre (m + 1))
/-- What saving nothing leaves. -/
theorem se_none {live safe : List Fl} {E : List Ent} {T V : Int} (hE : recT live safe [] = (true, T, V, E)) (hc : dnC live safe [] (seB live safe [] (E.length : Int) []) 11 (seX live safe [] (E.length : Int) []) = 0) :
    ∃ L, filesB L = true ∧ dnL live safe [] (seB live safe [] (E.length : Int) []) (seX live safe [] (E.length : Int) []) = L ∧ dnS live safe [] (seB live safe [] (E.length : Int) []) (seX live safe [] (E.length : Int) []) = L ∧ dnO live safe [] (seB live safe [] (E.length : Int) []) (seX live safe [] (E.length : Int) []) = [] ∧ votD L = some (T, V) ∧ jouB T V E = true := by
  obtain ⟨L, h1, h2, h3, h4, h5, -, -, -⟩ := se_zero hc
  have hs : seE live safe [] (E.length : Int) [] = E := by
    unfold seE
    rw [hE]
    simp
  rw [hs, hE] at h5
  have hb : seB live safe [] (E.length : Int) [] = true := by
    unfold dnC at hc
    split at hc
    · split at hc
      · assumption
      · cases hc
    · cases hc
  refine ⟨L, h1, h2, h3, h4, ?_, ?_⟩
  · have := (rec_parts (live := L) (safe := L) (ops := []) (by rw [h5])).2.1
    rw [h5] at this
    exact this
  · unfold seB at hb
    rw [hs, hE] at hb
    simp only [Bool.and_eq_true] at hb
    exact hb.2.2
/-- What a saving leaves fits. -/
theorem dn_ok {live safe : List Fl} {fm : Int} {xs : List Ent} (hl : FitF live) (hs : FitF safe) (b1 : live.length ≤ 1048576) (b2 : safe.length ≤ 1048576) :
    FitF (dnL live safe [] (seB live safe [] fm xs) (seX live safe [] fm xs)) ∧ FitF (dnS live safe [] (seB live safe [] fm xs) (seX live safe [] fm xs)) ∧ (∀ o ∈ dnO live safe [] (seB live safe [] fm xs) (seX live safe [] fm xs), SmO o) ∧ (dnL live safe [] (seB live safe [] fm xs) (seX live safe [] fm xs)).length ≤ 1048576 ∧ (dnS live safe [] (seB live safe [] fm xs) (seX live safe [] fm xs)).length ≤ 1048576 ∧ (dnO live safe [] (seB live safe [] fm xs) (seX live safe [] fm xs)).length ≤ 1048576 := by
  have fn : FitF [] := fun f hf => by cases hf
  have sn : ∀ o ∈ ([] : List Dop), SmO o := fun o ho => by cases ho
  unfold dnL dnS dnO
  by_cases hd : diskB live safe [] = true
  · simp only [if_pos hd]
    by_cases hb : seB live safe [] fm xs = true
    · simp only [if_pos hb]
      obtain ⟨hx, hxl, -, -⟩ := seX_small hb
      obtain ⟨f1, f2, f3, f4, f5, f6⟩ := dn_fit hd sn hx hxl
      have hsy : FitF (synL (actL live safe [] (seX live safe [] fm xs)) (actS live safe []) (actO live safe [] (seX live safe [] fm xs))) := by
        unfold synL
        split
        · exact f1
        · exact fn
      have hsl := syn_bound (actL live safe [] (seX live safe [] fm xs)) (actS live safe []) (actO live safe [] (seX live safe [] fm xs))
      unfold fnL fnS fnO
      by_cases hc : actC live safe [] (seX live safe [] fm xs) = 0
      · simp only [if_pos hc]
        exact ⟨hsy, hsy, sn, Nat.le_trans hsl f4, Nat.le_trans hsl f4, Nat.zero_le _⟩
      · simp only [if_neg hc]
        exact ⟨f1, f2, f3, f4, f5, f6⟩
    · simp only [if_neg hb]
      exact ⟨hl, hs, sn, b1, b2, Nat.zero_le _⟩
  · simp only [if_neg hd]
    exact ⟨fn, fn, sn, Nat.zero_le _, Nat.zero_le _, Nat.zero_le _⟩
/-- The bodies of a right journal's entries are small. -/
theorem jou_fit {t v : Int} {es : List Ent} (h : jouB t v es = true) : ∀ e ∈ es, e.body.size ≤ 4000 := fun e he => (entB_yes (okE_ent t es 0 (jou_parts h).2 e he)).2.2.2.2
/-- One entry more, appended. -/
theorem torn_do {lv S : List Fl} {es : List Ent} {i : Nat} (hi : i < es.length) (hd : diskB lv S ((es.take i).map entO) = true) (hc : actC lv S ((es.take i).map entO) [entO es[i]] = 0) :
    actS lv S ((es.take i).map entO) = S ∧ actO lv S ((es.take i).map entO) [entO es[i]] = (es.take (i + 1)).map entO ∧ diskB (actL lv S ((es.take i).map entO) [entO es[i]]) S ((es.take (i + 1)).map entO) = true ∧ FitF (actL lv S ((es.take i).map entO) [entO es[i]]) ∧ (actL lv S ((es.take i).map entO) [entO es[i]]).length ≤ 1048576 ∧ ((es.take (i + 1)).map entO).length ≤ 1048576 ∧ ∀ o ∈ (es.take (i + 1)).map entO, SmO o := by
  obtain ⟨h1, h2⟩ := act_run hd hc
  have e1 : actS lv S ((es.take i).map entO) = S := by unfold actS; rw [if_pos hd]
  have e2 : actO lv S ((es.take i).map entO) [entO es[i]] = (es.take (i + 1)).map entO := by
    unfold actC at hc
    rw [if_pos hd] at hc
    unfold actO
    rw [if_pos hd, if_pos hc, List.take_succ_eq_append_getElem hi, List.map_append]
    rfl
  rw [e1, e2] at h1
  have hn := (disk_parts h1).2.1
  have hs := (files_small h2).1
  exact ⟨e1, e2, h1, small_fit h2, by omega, by omega, fun o ho => entO_sm _ o ho⟩
end Plain
end Go.Proofs.YtakalfckhailjaaGreat
