/- Texts of one kind, put together. -/
import Derived.Test.YtldgkpnlplfopaaKzA
import Derived.Test.YtldgkpnlplfopaaUzA

/- The texts that another list has not, by the specification. -/
namespace Go.Proofs.Ytldgkpnlplfopaa
open Go.RowKit Go.Maps Plain
set_option linter.unusedVariables false

end Go.Proofs.Ytldgkpnlplfopaa

/- CutFrom by both. -/
namespace Go.Proofs.Ytldgkpnlplfopaa
open Go.RowKit Go.Maps Plain
set_option linter.unusedVariables false

namespace Plain
open Classical in
/-- A digest cut out of a list. -/
noncomputable def delB (d : ByteArray) (ls : List ByteArray) : List ByteArray := ls.filter (fun x => decide (x ≠ d))
theorem delB_mem {d : ByteArray} {ls : List ByteArray} (x : ByteArray) : x ∈ delB d ls ↔ x ∈ ls ∧ x ≠ d := by
  unfold delB
  simp only [List.mem_filter, decide_eq_true_eq]
theorem delB_strict {d : ByteArray} {ls : List ByteArray} (h : Strict ls) : Strict (delB d ls) := List.Pairwise.filter _ h
theorem delB_len {d : ByteArray} {ls : List ByteArray} (h : Strict ls) (hd : d ∈ ls) : (delB d ls).length + 1 = ls.length := by
  have : ls.Perm (d :: delB d ls) := (List.perm_ext_iff_of_nodup (nodupK h) (List.nodup_cons.2 ⟨fun q => ((delB_mem d).1 q).2 rfl, nodupK (delB_strict h)⟩)).2 fun x => by
    rw [List.mem_cons, delB_mem]
    by_cases e : x = d
    · subst e; simp [hd]
    · simp [e]
  rw [this.length_eq]
  simp
theorem delB_any (d : ByteArray) (ls : List ByteArray) : (ls.filter fun x => !anyB [d] x) = delB d ls := by
  unfold delB
  apply List.filter_congr
  intro x _
  by_cases e : x = d
  · subst e
    rw [(anyB_mem [x] x).2 (by simp)]
    simp
  · have : anyB [d] x = false := by
      rw [Bool.eq_false_iff]
      exact fun q => e (by simpa using (anyB_mem [d] x).1 q)
    rw [this]
    simp [e]
def cutOk (ls : List ByteArray) (d : ByteArray) : Prop := setB ls = true ∧ d ∈ ls
def CutP (ls : List ByteArray) (d : ByteArray) (ok : Bool) (out : List ByteArray) : Prop := (ok = true ∧ cutOk ls d ∧ out = delB d ls) ∨ (ok = false ∧ ¬ cutOk ls d ∧ out = [])
theorem cut_len {ls : List ByteArray} {d : ByteArray} {ok : Bool} {out : List ByteArray} (h : CutP ls d ok out) : out.length ≤ 200 := by
  rcases h with ⟨_, q, rfl⟩ | ⟨_, _, rfl⟩
  · have := (setB_all q.1).1
    have h2 : (delB d ls).length ≤ ls.length := List.length_filter_le _ _
    omega
  · simp
theorem cut_one {ls : List ByteArray} {d : ByteArray} {ok ok' : Bool} {out out' : List ByteArray} (h : CutP ls d ok out) (h' : CutP ls d ok' out') : ok = ok' ∧ out = out' := by
  rcases h with ⟨rfl, q, rfl⟩ | ⟨rfl, q, rfl⟩ <;> rcases h' with ⟨rfl, q', rfl⟩ | ⟨rfl, q', rfl⟩
  · exact ⟨rfl, rfl⟩
  · exact absurd q q'
  · exact absurd q' q
  · exact ⟨rfl, rfl⟩
end Plain
/-- 'delete(s, k)'. -/
theorem Plain.KSet.del {w w' : World} {b nn mm : Nat} {ls : List ByteArray} {D : DataW Unit} (hown : w.ownsMap Try.prog 48 anyR b nn D) (hD : Maps.size D = ls.length ∧ ∀ x : List UInt8, x.length = 32 → (Maps.has D (keyLK x) = true ↔ x ∈ ls.map kyL)) (h1 : ∀ s ∈ ls, digB s = true) (hst : Strict ls) {d : ByteArray} (hd : d ∈ ls)
    (hown2 : w'.ownsMap Try.prog 48 anyR b mm (D.del (keyLK (kyL d)))) : KSet w' b mm ((delB d ls).map kyL) := by
  have hh : Maps.has D (keyLK (kyL d)) = true := (hD.2 _ (kyL_len d)).2 ((mem_kyL h1 (h1 d hd)).2 hd)
  refine ⟨_, hown2, ?_, fun x hx => ?_⟩
  · have h3 := size_del (k := keyLK (kyL d)) (hown.tidy keyedK)
    rw [hh, if_pos rfl, hD.1] at h3
    have := delB_len hst hd
    rw [List.length_map]
    omega
  · by_cases e : x = kyL d
    · subst e
      have : kyL d ∉ (delB d ls).map kyL := fun q => by
        obtain ⟨y, hy, e⟩ := List.mem_map.1 q
        have h4 := (delB_mem y).1 hy
        exact h4.2 (kyL_inj (h1 y h4.1) (h1 d hd) e)
      simp [has_del_same, this]
    · rw [has_del_other (fun q => e (keyLK_inj hx (kyL_len d) q)), hD.2 x hx, List.mem_map, List.mem_map]
      constructor
      · rintro ⟨y, hy, rfl⟩
        exact ⟨y, (delB_mem y).2 ⟨hy, fun q => e (by rw [q])⟩, rfl⟩
      · rintro ⟨y, hy, rfl⟩
        exact ⟨y, ((delB_mem y).1 hy).1, rfl⟩

end Go.Proofs.Ytldgkpnlplfopaa

/- CutFrom by the program. -/
namespace Go.Proofs.Ytldgkpnlplfopaa
open Go.RowKit Go.Maps Plain
set_option linter.unusedVariables false

set_option maxRecDepth 100000 in
set_option maxHeartbeats 2000000 in
theorem impl_CutFrom (a : Option Addr) (n c : Nat) (ls : List ByteArray) (d : ByteArray) (w : World) (h : TxtsAt w a n ls) (hd : d.size ≤ 1000000000) :
    Calls Try.prog 9 #[.slice a n c, .string d] w fun e w' => ∃ v ok out, e = .returned (.tuple #[v, .bool ok]) ∧ OwnR strE w' w.heap.size v out ∧ Hid ((ok = true ∧ cutOk ls d ∧ out = delB d ls) ∨ (ok = false ∧ ¬ cutOk ls d ∧ out = [])) ∧ Below w.heap.size w w' := by
  cases hs : setB ls with
  | false =>
    have HX := hide (show ¬ cutOk ls d from fun q => by rw [q.1] at hs; cases hs)
    have HR := hide (readSet_calls a n c ls w h)
    rw [hs] at HR
    have HK := hide (fun W => keyX_calls d W (by omega))
    clear h
    go_enter Try.func9, Try.ntmps9
    go_wp2_with fail
    refine (unhide HR).mono ?_
    rintro e w1 ⟨m, rfl, hb1⟩
    go_wp2_with fail
    refine (unhide HK _).mono ?_
    rintro e w2 ⟨xs, rfl, hk, -, hb2⟩
    have HI := hide (show (Try.prog.info? 48).map (·.size) = some (keyC xs).size from by rw [keyC_size hk]; exact infoK)
    have HS32 := hide (show (32 : Nat) = (keyC xs).size from (keyC_size hk).symm)
    have HB2 := hide (hb1.trans (hb2.mono hb1.size))
    have hz2 := (unhide HB2).size
    clear hb1 hb2 hk
    generalize digB d = dg
    go_wp2_with (refine wpList_store_any rfl 48 (.tmp 8) (.tmp 20) rfl w2.heap.size (keyC xs) rfl rfl 48 _ (heap_alloc_new w2 _) (unhide HI) (unhide HS32) (keyC_one _) ?_; intro w3 hrow3 hgr3 hsz3)
    have HB3 := hide ((unhide HB2).trans (((Below.refl _ _).alloc hz2 _).trans ((Below.refl _ _).grown hgr3 (by simp; omega) (fun i hi => by simp at hi; omega))))
    clear hgr3 hsz3 hrow3
    go_wp2_with fail
    exact bodyPost_ret (v := .tuple #[.slice none 0 0, .bool false]) (by simp [results, Try.results9, go_sem]) rfl ⟨_, _, [], rfl, ownR_nil _ _ _, hide (.inr ⟨rfl, unhide HX, rfl⟩), unhide HB3⟩
  | true =>
    obtain ⟨s1, s2, s3⟩ := setB_all hs
    have HR := hide (readY_calls a n c ls w h hs)
    cases hdg : digB d with
    | false =>
      have HX := hide (show ¬ cutOk ls d from fun q => by rw [s2 d q.2] at hdg; cases hdg)
      have HK := hide (fun W => keyX_calls d W (by omega))
      rw [hdg] at HK
      clear h hs hdg s1 s2 s3
      go_enter Try.func9, Try.ntmps9
      go_wp2_with fail
      refine (unhide HR).mono ?_
      rintro e w1 ⟨b, rfl, hbb, -, hb1⟩
      go_wp2_with fail
      refine (unhide HK _).mono ?_
      rintro e w2 ⟨xs, rfl, hk, -, hb2⟩
      have HI := hide (show (Try.prog.info? 48).map (·.size) = some (keyC xs).size from by rw [keyC_size hk]; exact infoK)
      have HS32 := hide (show (32 : Nat) = (keyC xs).size from (keyC_size hk).symm)
      have HB2 := hide (hb1.trans (hb2.mono hb1.size))
      have hz2 := (unhide HB2).size
      clear hb1 hb2 hk
      go_wp2_with (refine wpList_store_any rfl 48 (.tmp 8) (.tmp 20) rfl w2.heap.size (keyC xs) rfl rfl 48 _ (heap_alloc_new w2 _) (unhide HI) (unhide HS32) (keyC_one _) ?_; intro w3 hrow3 hgr3 hsz3)
      have HB3 := hide ((unhide HB2).trans (((Below.refl _ _).alloc hz2 _).trans ((Below.refl _ _).grown hgr3 (by simp; omega) (fun i hi => by simp at hi; omega))))
      clear hgr3 hsz3 hrow3
      go_wp2_with fail
      exact bodyPost_ret (v := .tuple #[.slice none 0 0, .bool false]) (by simp [results, Try.results9, go_sem]) rfl ⟨_, _, [], rfl, ownR_nil _ _ _, hide (.inr ⟨rfl, unhide HX, rfl⟩), unhide HB3⟩
    | true =>
      have HK := hide (fun W => keyY_calls d W hdg)
      have hI1 : ∀ s ∈ delB d ls, digB s = true := fun s q => s2 s ((delB_mem s).1 q).1
      have hI2 := delB_strict (d := d) s3
      have hI3 : (delB d ls).length ≤ 200 := Nat.le_trans (List.length_filter_le _ _) s1
      have HKS := hide (fun (W : World) (b nn : Nat) (q : KSet W b nn ((delB d ls).map kyL)) => keys_calls b nn _ (risK_map hI1 hI2) (fun x hx => by obtain ⟨y, _, rfl⟩ := List.mem_map.1 hx; exact kyL_len y) (by rw [List.length_map]; omega) W q)
      have HTX := hide (fun (W : World) (a : Option Addr) (n c : Nat) (q : RowAt keyE W a ((delB d ls).map kyL)) (hn : ((delB d ls).map kyL).length = n) => textsOf_calls a n c _ W q hn (by rw [List.length_map] at hn; omega) (fun x hx => by obtain ⟨y, _, rfl⟩ := List.mem_map.1 hx; exact kyL_len y))
      have HMB := hide (map_back hI1)
      have HU := hide (show ∀ (W W' : World) (b nn mm : Nat) (D : DataW Unit), d ∈ ls → W.ownsMap Try.prog 48 anyR b nn D → (Maps.size D = ls.length ∧ ∀ x : List UInt8, x.length = 32 → (Maps.has D (keyLK x) = true ↔ x ∈ ls.map kyL)) → W'.ownsMap Try.prog 48 anyR b mm (D.del (keyLK (kyL d))) → KSet W' b mm ((delB d ls).map kyL) from fun W W' b nn mm D p0 p1 p2 p3 => KSet.del p1 p2 s2 s3 p0 p3)
      have HHA := hide (show ∀ (D : DataW Unit), (Maps.size D = ls.length ∧ ∀ x : List UInt8, x.length = 32 → (Maps.has D (keyLK x) = true ↔ x ∈ ls.map kyL)) → (Maps.has D (keyLK (kyL d)) = true ↔ d ∈ ls) from fun D p => by rw [p.2 _ (kyL_len d), mem_kyL s2 hdg])
      have HAO := hide (show d ∈ ls → cutOk ls d from fun q => ⟨hs, q⟩)
      have HAN := hide (show ¬ d ∈ ls → ¬ cutOk ls d from fun q p => q p.2)
      have hz0 : ∀ W : World, (zeroValue 51).run Try.prog W = .ok (.agg #[]) W := fun W => by kernel_rfl
      have HZ0 := hide hz0
      clear h hs s2 s3 hI1 hI2 hdg hz0
      go_enter Try.func9, Try.ntmps9
      go_wp2_with fail
      refine (unhide HR).mono ?_
      rintro e w1 ⟨b, rfl, hbb, hks, hb1⟩
      go_wp2_with fail
      refine (unhide HK _).mono ?_
      rintro e w2 ⟨rfl, hb2⟩
      have HI := hide (infX (kyL d))
      have HS32 := hide (s32X (kyL d))
      have hzb := hks.lt
      have hks2 := hks.below hb2 hzb
      obtain ⟨D, hown, hsz, hDD⟩ := hks2
      have HM2 := hide hown
      have HDD := hide (And.intro (show Maps.size D = ls.length by rw [hsz]; simp) hDD)
      have HB2 := hide (hb1.trans (hb2.mono hb1.size))
      have hz2 := (unhide HB2).size
      have hzb2 : b < w2.heap.size := Nat.lt_of_lt_of_le hzb hb2.size
      have hhas := unhide HHA D (unhide HDD)
      clear hb1 hb2 hks hown hsz hDD HHA
      generalize kyL d = x at HI HS32 HU hhas
      obtain ⟨L, hL⟩ : ∃ L, (delB d ls).length = L := ⟨_, rfl⟩
      have HL := hide hL
      rw [hL] at hI3
      clear hL
      by_cases hin : d ∈ ls
      · have hh : Maps.has D (keyLK x) = true := hhas.2 hin
        have HX := hide (unhide HAO hin)
        have HIN := hide hin
        clear hhas hin
        go_wp2_with (first
          | (refine wpList_store_any rfl 48 (.tmp 8) (.tmp 20) rfl w2.heap.size (encK x).toArray rfl rfl 48 _ (heap_alloc_new w2 _) (unhide HI) (unhide HS32) (oneX x) ?_; intro w3 hrow3 hgr3 hsz3; have HG3 := hide (And.intro hgr3 hsz3); have HM3 := hide (((unhide HM2).alloc (.cells _ 48)).kept hgr3 (by simp; omega)))
          | (refine wpList_load_row rfl 48 (.tmp 8) rfl w2.heap.size rfl 48 (encK x).toArray (0, 0) _ hrow3 Try.underlying48 rfl (unhide HI) ?_)
          | (at_lookup; refine wpList_lookup_own_unit _ rfl _ _ 44 rfl 48 51 keyedK Try.underlying44 (unhide HZ0 _) b ls.length D rfl (unhide HM3) _ _ rfl (keyK_of x) ?_; rw [hh])
          | (refine wpList_load_row rfl 48 (.tmp 8) rfl w2.heap.size rfl 48 (encK x).toArray (0, 0) _ ((heap_alloc_old _ _ (Array.getElem?_eq_some_iff.1 hrow3).1).trans hrow3) Try.underlying48 rfl (unhide HI) ?_)
          | (at_delete; refine wpList_delete_own _ rfl _ _ 44 48 rfl 51 keyedK Try.underlying44 anyR b ls.length D rfl ((unhide HM3).alloc _) _ _ rfl (keyK_of x) ?_; intro w5 hown5 hturn5))
        have hg5 := hturn5.grown
        have hz3 := (unhide HG3).2
        have HB3 := hide ((unhide HB2).trans (((Below.refl _ _).alloc hz2 _).trans ((Below.refl _ _).grown (unhide HG3).1 (by simp; omega) (fun i hi => by simp at hi; omega))))
        have hz4 := (unhide HB3).size
        have HB4 := hide (((unhide HB3).alloc hz4 (.cells #[] 51)).trans ((Below.refl _ _).grown hg5 (by simp; omega) (fun i hi => by simp at hi; omega)))
        have HK5 := hide (unhide HU _ _ _ _ _ _ (unhide HIN) ((unhide HM3).alloc (.cells #[] 51)) (unhide HDD) hown5)
        have hz5 := (unhide HB4).size
        clear hrow3 hsz3 hgr3 HU hown5 hturn5 hg5
        refine (unhide HKS _ _ _ (unhide HK5)).mono ?_
        rintro e w6 ⟨v6, rfl, ho6, hb6⟩
        obtain ⟨a6, c6, hv6⟩ := ho6.form
        rw [List.length_map, unhide HL] at hv6
        subst hv6
        have HT6 := hide (unhide HTX w6 a6 L c6 ho6.at (by rw [List.length_map]; exact unhide HL))
        have HB6 := hide ((unhide HB4).trans (hb6.mono hz5))
        have hz6 := (unhide HB6).size
        clear ho6 hb6
        go_wp2_with fail
        refine (unhide HT6).mono ?_
        rintro e w7 ⟨v7, rfl, ho7, hb7⟩
        rw [unhide HMB] at ho7
        obtain ⟨a7, c7, hv7⟩ := ho7.form
        rw [unhide HL] at hv7
        subst hv7
        have HO7 := hide (OwnR.le ho7 hz6)
        have HB7 := hide ((unhide HB6).trans (hb7.mono hz6))
        clear ho7 hb7
        go_wp2_with fail
        exact bodyPost_ret (v := .tuple #[.slice a7 L c7, .bool true]) (by simp [results, Try.results9, go_sem]) rfl ⟨_, _, _, rfl, unhide HO7, hide (.inl ⟨rfl, unhide HX, rfl⟩), unhide HB7⟩
      · have hh : Maps.has D (keyLK x) = false := by
          rw [Bool.eq_false_iff]
          exact fun q => hin (hhas.1 q)
        have HX := hide (unhide HAN hin)
        clear hhas hin HU
        go_wp2_with (first
          | (refine wpList_store_any rfl 48 (.tmp 8) (.tmp 20) rfl w2.heap.size (encK x).toArray rfl rfl 48 _ (heap_alloc_new w2 _) (unhide HI) (unhide HS32) (oneX x) ?_; intro w3 hrow3 hgr3 hsz3; have HG3 := hide (And.intro hgr3 hsz3); have HM3 := hide (((unhide HM2).alloc (.cells _ 48)).kept hgr3 (by simp; omega)))
          | (refine wpList_load_row rfl 48 (.tmp 8) rfl w2.heap.size rfl 48 (encK x).toArray (0, 0) _ hrow3 Try.underlying48 rfl (unhide HI) ?_)
          | (at_lookup; refine wpList_lookup_own_unit _ rfl _ _ 44 rfl 48 51 keyedK Try.underlying44 (unhide HZ0 _) b ls.length D rfl (unhide HM3) _ _ rfl (keyK_of x) ?_; rw [hh]))
        have hz3 := (unhide HG3).2
        have HB3 := hide ((unhide HB2).trans (((Below.refl _ _).alloc hz2 _).trans ((Below.refl _ _).grown (unhide HG3).1 (by simp; omega) (fun i hi => by simp at hi; omega))))
        have hz4 := (unhide HB3).size
        exact bodyPost_ret (v := .tuple #[.slice none 0 0, .bool false]) (by simp [results, Try.results9, go_sem]) rfl ⟨_, _, [], rfl, ownR_nil _ _ _, hide (.inr ⟨rfl, unhide HX, rfl⟩), (unhide HB3).alloc hz4 _⟩
end Go.Proofs.Ytldgkpnlplfopaa


/- What is put into a set lies under its prefixes and leaves it again: the mathematics. -/
namespace Go.Proofs.Ytldgkpnlplfopaa
open Go.RowKit Go.Maps Plain
set_option linter.unusedVariables false

namespace Plain
theorem okS_of : ∀ (ls : List ByteArray) (p : Option ByteArray), (∀ s ∈ ls, digB s = true) → Strict ls → (∀ q, p = some q → ∀ s ∈ ls, ltB q s) → okS p ls = true
  | [], _, _, _, _ => rfl
  | s :: r, p, h1, h2, h3 => by
    have h2' := List.pairwise_cons.1 h2
    have hp : ltO p s = true := by
      cases p with
      | none => rfl
      | some q => exact (less_ltB q s).2 (h3 q rfl s (by simp))
    rw [okS, h1 s (by simp), hp, okS_of r (some s) (fun x hx => h1 x (List.mem_cons_of_mem _ hx)) h2'.2 (fun q e x hx => by
      have e2 : s = q := by simpa using e
      subst e2
      exact h2'.1 x hx)]
    rfl
theorem setB_of {ls : List ByteArray} (h0 : ls.length ≤ 200) (h1 : ∀ s ∈ ls, digB s = true) (h2 : Strict ls) : setB ls = true := by
  unfold setB
  rw [okS_of ls none h1 h2 (fun q e => by cases e), decide_eq_true h0]
  rfl
theorem ins_set {ls : List ByteArray} {d : ByteArray} (h : addOk ls d) : setB (insB d ls) = true := by
  obtain ⟨h1, h2, h3⟩ := h
  obtain ⟨a1, a2, a3⟩ := setB_all h1
  refine setB_of h3 (fun s hs => ?_) (insB_strict a3)
  rcases (insB_mem s).1 hs with q | q
  · exact a2 s q
  · rw [q]; exact h2
theorem cut_ins {ls : List ByteArray} {d : ByteArray} (h : addOk ls d) : cutOk (insB d ls) d := ⟨ins_set h, (insB_mem d).2 (.inr rfl)⟩
theorem del_not {ls : List ByteArray} {d : ByteArray} : d ∉ delB d ls := fun q => ((delB_mem d).1 q).2 rfl
theorem del_ins {ls : List ByteArray} {d : ByteArray} (h : addOk ls d) (hn : d ∉ ls) : delB d (insB d ls) = ls := by
  have hs := (setB_all h.1).2.2
  refine strict_ext (delB_strict (insB_strict hs)) hs fun x => ?_
  rw [delB_mem, insB_mem]
  constructor
  · rintro ⟨q | q, e⟩
    · exact q
    · exact absurd q e
  · intro q
    exact ⟨.inl q, fun e => hn (e ▸ q)⟩
theorem pre_size {d : ByteArray} (hd : digB d = true) {k : Nat} (hk : k ≤ 2) : (d.extract 7 (7 + k)).size = k := by
  have := (digB_form hd).1
  rw [ByteArray.size_extract]
  omega
theorem pre_self {d : ByteArray} (hd : digB d = true) {k : Nat} (hk : k ≤ 2) : preB (d.extract 7 (7 + k)) d = true := by
  unfold preB
  rw [pre_size hd hk]
  simp
theorem pre_ok {d : ByteArray} (hd : digB d = true) {k : Nat} (hk : k ≤ 2) : prB (d.extract 7 (7 + k)) = true := by
  unfold prB
  rw [pre_size hd hk, Bool.and_eq_true]
  refine ⟨?_, by simp; omega⟩
  unfold hexFrom
  rw [List.drop_zero, List.all_eq_true]
  intro c hc
  refine decide_eq_true ((digB_form hd).2.2.2 c ?_)
  have e : (d.extract 7 (7 + k)).data.toList = (d.data.toList.drop 7).take k := by simp [List.extract_eq_take_drop]
  rw [e] at hc
  exact List.mem_of_mem_take hc
theorem und_has {ls : List ByteArray} {d : ByteArray} (h : addOk ls d) {k : Nat} (hk : k ≤ 2) : d ∈ undL (insB d ls) (d.extract 7 (7 + k)) := by
  unfold undL
  rw [ins_set h, pre_ok h.2.1 hk]
  simp only [Bool.and_self, if_true, List.mem_filter]
  exact ⟨(insB_mem d).2 (.inr rfl), pre_self h.2.1 hk⟩
theorem und_len {ls : List ByteArray} (h : setB ls = true) (p : ByteArray) : (undL ls p).length ≤ 200 := by
  have := (setB_all h).1
  unfold undL
  split
  · have := List.length_filter_le (preB p) ls
    omega
  · simp
theorem und_sub {ls : List ByteArray} (p : ByteArray) : ∀ s ∈ undL ls p, s ∈ ls := by
  unfold undL
  split
  · exact fun s hs => (List.mem_filter.1 hs).1
  · intro s hs; cases hs
end Plain
end Go.Proofs.Ytldgkpnlplfopaa

