/- Texts of one kind, put together. -/
import Derived.Test.YtldgkpnlplfopaaKyT
import Derived.Test.YtldgkpnlplfopaaSetI
import Derived.Deep.QuietTactic
import Derived.BigQuiet

/- AddTo by the program. -/
namespace Go.Proofs.Ytldgkpnlplfopaa
open Go.RowKit Go.Maps Plain
set_option linter.unusedVariables false

namespace Plain
open Classical in
/-- A digest put into a rising list. -/
noncomputable def insB (d : ByteArray) (ls : List ByteArray) : List ByteArray := ls.filter (fun x => decide (ltB x d)) ++ d :: ls.filter (fun x => decide (ltB d x))
theorem insB_mem {d : ByteArray} {ls : List ByteArray} (x : ByteArray) : x ∈ insB d ls ↔ x ∈ ls ∨ x = d := by
  unfold insB
  simp only [List.mem_append, List.mem_cons, List.mem_filter, decide_eq_true_eq]
  constructor
  · rintro (h | h | h)
    · exact .inl h.1
    · exact .inr h
    · exact .inl h.1
  · rintro (h | h)
    · by_cases e : x = d
      · exact .inr (.inl e)
      · by_cases q : ltB x d
        · exact .inl ⟨h, q⟩
        · exact .inr (.inr ⟨h, ltB_tri q e⟩)
    · exact .inr (.inl h)
theorem insB_strict {d : ByteArray} {ls : List ByteArray} (h : Strict ls) : Strict (insB d ls) := by
  unfold insB Strict
  rw [List.pairwise_append, List.pairwise_cons]
  refine ⟨List.Pairwise.filter _ h, ⟨fun y hy => ?_, List.Pairwise.filter _ h⟩, fun y hy z hz => ?_⟩
  · simpa using (List.mem_filter.1 hy).2
  · have h1 : ltB y d := by simpa using (List.mem_filter.1 hy).2
    rcases List.mem_cons.1 hz with e | e
    · rw [e]; exact h1
    · exact ltB_trans h1 (by simpa using (List.mem_filter.1 e).2)
theorem nodupK {ls : List ByteArray} (h : Strict ls) : ls.Nodup := h.imp (fun {a b} q e => by rw [e] at q; exact ltB_irrefl _ q)
open Classical in
theorem insB_len {d : ByteArray} {ls : List ByteArray} (h : Strict ls) : (insB d ls).length = if d ∈ ls then ls.length else ls.length + 1 := by
  by_cases q : d ∈ ls
  · rw [if_pos q, strict_ext (insB_strict h) h (fun x => by rw [insB_mem]; exact ⟨fun e => e.elim id (fun e => e ▸ q), .inl⟩)]
  · rw [if_neg q]
    have : (insB d ls).Perm (d :: ls) := (List.perm_ext_iff_of_nodup (nodupK (insB_strict h)) (List.nodup_cons.2 ⟨q, nodupK h⟩)).2 fun x => by rw [insB_mem, List.mem_cons, or_comm]
    rw [this.length_eq]
    simp
theorem map_back {ls : List ByteArray} (h : ∀ s ∈ ls, digB s = true) : (ls.map kyL).map dgT = ls := by
  rw [List.map_map]
  conv => rhs; rw [← List.map_id ls]
  apply List.map_congr_left
  intro x hx
  exact dgT_kyL (h x hx)
theorem mem_kyL {ls : List ByteArray} (h : ∀ s ∈ ls, digB s = true) {d : ByteArray} (hd : digB d = true) : kyL d ∈ ls.map kyL ↔ d ∈ ls := by
  rw [List.mem_map]
  exact ⟨fun ⟨y, hy, e⟩ => kyL_inj (h y hy) hd e ▸ hy, fun q => ⟨d, q, rfl⟩⟩
def addOk (ls : List ByteArray) (d : ByteArray) : Prop := setB ls = true ∧ digB d = true ∧ (insB d ls).length ≤ 200
end Plain
/-- 's[k] = struct{}{}'. -/
theorem Plain.KSet.upd {w w' : World} {b nn : Nat} {ls : List ByteArray} {D : DataW Unit} (hown : w.ownsMap Try.prog 48 anyR b nn D) (hD : Maps.size D = ls.length ∧ ∀ x : List UInt8, x.length = 32 → (Maps.has D (keyLK x) = true ↔ x ∈ ls.map kyL)) (h1 : ∀ s ∈ ls, digB s = true) (hst : Strict ls) {d : ByteArray} (hd : digB d = true) {u : DataW Unit}
    (hown2 : w'.ownsMap Try.prog 48 anyR b (nn + 1) (D.put (keyLK (kyL d)) u)) : KSet w' b (nn + 1) ((insB d ls).map kyL) := by
  refine ⟨_, hown2, ?_, fun x hx => ?_⟩
  · rw [size_put (hown.tidy keyedK), List.length_map, insB_len hst, hD.1]
    by_cases q : d ∈ ls
    · rw [if_pos q, if_pos ((hD.2 _ (kyL_len d)).2 ((mem_kyL h1 hd).2 q))]
    · rw [if_neg q, if_neg (fun e => q ((mem_kyL h1 hd).1 ((hD.2 _ (kyL_len d)).1 e)))]
  · by_cases e : x = kyL d
    · subst e
      have : kyL d ∈ (insB d ls).map kyL := List.mem_map.2 ⟨d, (insB_mem d).2 (.inr rfl), rfl⟩
      simp [has_put_same hown.isMap (keyLK_ok _), this]
    · rw [has_put_other (fun q => e (keyLK_inj hx (kyL_len d) q)), hD.2 x hx, List.mem_map, List.mem_map]
      constructor
      · rintro ⟨y, hy, rfl⟩
        exact ⟨y, (insB_mem y).2 (.inl hy), rfl⟩
      · rintro ⟨y, hy, rfl⟩
        rcases (insB_mem y).1 hy with q | q
        · exact ⟨y, q, rfl⟩
        · subst q; exact absurd rfl e

set_option maxRecDepth 100000 in
set_option maxHeartbeats 2000000 in
theorem impl_AddTo (a : Option Addr) (n c : Nat) (ls : List ByteArray) (d : ByteArray) (w : World) (h : TxtsAt w a n ls) (hd : d.size ≤ 1000000000) :
    Calls Try.prog 7 #[.slice a n c, .string d] w fun e w' => ∃ v ok out, e = .returned (.tuple #[v, .bool ok]) ∧ OwnR strE w' w.heap.size v out ∧ Hid ((ok = true ∧ addOk ls d ∧ out = insB d ls) ∨ (ok = false ∧ ¬ addOk ls d ∧ out = [])) ∧ Below w.heap.size w w' := by
  cases hs : setB ls with
  | false =>
    have HX := hide (show ¬ addOk ls d from fun q => by rw [q.1] at hs; cases hs)
    have HR := hide (readSet_calls a n c ls w h)
    rw [hs] at HR
    have HK := hide (fun W => keyX_calls d W (by omega))
    clear h
    go_enter Try.func7, Try.ntmps7
    go_wp2_with fail
    refine (unhide HR).mono ?_
    rintro e w1 ⟨m, rfl, hb1⟩
    go_wp2_with fail
    refine (unhide HK _).mono ?_
    rintro e w2 ⟨xs, rfl, hk, -, hb2⟩
    have HI := hide (show (Try.prog.info? 48).map (·.size) = some (keyC xs).size from by rw [keyC_size hk]; exact infoK)
    have HS32 := hide (show (32 : Nat) = (keyC xs).size from (keyC_size hk).symm)
    have HB2 := hide (hb1.trans (hb2.mono hb1.size))
    have hz2 := (unhide HB2).size
    clear hb1 hb2 hk
    generalize digB d = dg
    go_wp2_with (refine wpList_store_any rfl 48 (.tmp 8) (.tmp 18) rfl w2.heap.size (keyC xs) rfl rfl 48 _ (heap_alloc_new w2 _) (unhide HI) (unhide HS32) (keyC_one _) ?_; intro w3 hrow3 hgr3 hsz3)
    have HB3 := hide ((unhide HB2).trans (((Below.refl _ _).alloc hz2 _).trans ((Below.refl _ _).grown hgr3 (by simp; omega) (fun i hi => by simp at hi; omega))))
    clear hgr3 hsz3 hrow3
    go_wp2_with fail
    exact bodyPost_ret (v := .tuple #[.slice none 0 0, .bool false]) (by simp [results, Try.results7, go_sem]) rfl ⟨_, _, [], rfl, ownR_nil _ _ _, hide (.inr ⟨rfl, unhide HX, rfl⟩), unhide HB3⟩
  | true =>
    obtain ⟨s1, s2, s3⟩ := setB_all hs
    have HR := hide (readY_calls a n c ls w h hs)
    cases hdg : digB d with
    | false =>
      have HX := hide (show ¬ addOk ls d from fun q => by rw [q.2.1] at hdg; cases hdg)
      have HK := hide (fun W => keyX_calls d W (by omega))
      rw [hdg] at HK
      clear h hs hdg s1 s2 s3
      go_enter Try.func7, Try.ntmps7
      go_wp2_with fail
      refine (unhide HR).mono ?_
      rintro e w1 ⟨b, rfl, hbb, -, hb1⟩
      go_wp2_with fail
      refine (unhide HK _).mono ?_
      rintro e w2 ⟨xs, rfl, hk, -, hb2⟩
      have HI := hide (show (Try.prog.info? 48).map (·.size) = some (keyC xs).size from by rw [keyC_size hk]; exact infoK)
      have HS32 := hide (show (32 : Nat) = (keyC xs).size from (keyC_size hk).symm)
      have HB2 := hide (hb1.trans (hb2.mono hb1.size))
      have hz2 := (unhide HB2).size
      clear hb1 hb2 hk
      go_wp2_with (refine wpList_store_any rfl 48 (.tmp 8) (.tmp 18) rfl w2.heap.size (keyC xs) rfl rfl 48 _ (heap_alloc_new w2 _) (unhide HI) (unhide HS32) (keyC_one _) ?_; intro w3 hrow3 hgr3 hsz3)
      have HB3 := hide ((unhide HB2).trans (((Below.refl _ _).alloc hz2 _).trans ((Below.refl _ _).grown hgr3 (by simp; omega) (fun i hi => by simp at hi; omega))))
      clear hgr3 hsz3 hrow3
      go_wp2_with fail
      exact bodyPost_ret (v := .tuple #[.slice none 0 0, .bool false]) (by simp [results, Try.results7, go_sem]) rfl ⟨_, _, [], rfl, ownR_nil _ _ _, hide (.inr ⟨rfl, unhide HX, rfl⟩), unhide HB3⟩
    | true =>
      have HK := hide (fun W => keyY_calls d W hdg)
      have hI1 : ∀ s ∈ insB d ls, digB s = true := fun s q => ((insB_mem s).1 q).elim (s2 s) (fun e => e ▸ hdg)
      have hI2 := insB_strict (d := d) s3
      have hI3 : (insB d ls).length ≤ 201 := by
        have h9 := insB_len (d := d) s3
        split at h9 <;> omega
      have HKS := hide (fun (W : World) (b nn : Nat) (q : KSet W b nn ((insB d ls).map kyL)) => keys_calls b nn _ (risK_map hI1 hI2) (fun x hx => by obtain ⟨y, _, rfl⟩ := List.mem_map.1 hx; exact kyL_len y) (by rw [List.length_map]; omega) W q)
      have HTX := hide (fun (W : World) (a : Option Addr) (n c : Nat) (q : RowAt keyE W a ((insB d ls).map kyL)) (hn : ((insB d ls).map kyL).length = n) => textsOf_calls a n c _ W q hn (by rw [List.length_map] at hn; omega) (fun x hx => by obtain ⟨y, _, rfl⟩ := List.mem_map.1 hx; exact kyL_len y))
      have HMB := hide (map_back hI1)
      have HU := hide (show ∀ (W W' : World) (b nn : Nat) (D u : DataW Unit), W.ownsMap Try.prog 48 anyR b nn D → (Maps.size D = ls.length ∧ ∀ x : List UInt8, x.length = 32 → (Maps.has D (keyLK x) = true ↔ x ∈ ls.map kyL)) → W'.ownsMap Try.prog 48 anyR b (nn + 1) (D.put (keyLK (kyL d)) u) → KSet W' b (nn + 1) ((insB d ls).map kyL) from fun W W' b nn D u p1 p2 p3 => KSet.upd p1 p2 s2 s3 hdg p3)
      have HAO := hide (show (insB d ls).length ≤ 200 → addOk ls d from fun q => ⟨hs, hdg, q⟩)
      have HAN := hide (show 200 < (insB d ls).length → ¬ addOk ls d from fun q p => by have := p.2.2; omega)
      clear h hs s2 s3 hI1 hI2 hdg
      go_enter Try.func7, Try.ntmps7
      go_wp2_with fail
      refine (unhide HR).mono ?_
      rintro e w1 ⟨b, rfl, hbb, hks, hb1⟩
      go_wp2_with fail
      refine (unhide HK _).mono ?_
      rintro e w2 ⟨rfl, hb2⟩
      have HI := hide (infX (kyL d))
      have HS32 := hide (s32X (kyL d))
      have hzb := hks.lt
      have hks2 := hks.below hb2 hzb
      obtain ⟨D, hown, hsz, hDD⟩ := hks2
      have HM2 := hide hown
      have HDD := hide (And.intro (show Maps.size D = ls.length by rw [hsz]; simp) hDD)
      have HB2 := hide (hb1.trans (hb2.mono hb1.size))
      have hz2 := (unhide HB2).size
      have hzb2 : b < w2.heap.size := Nat.lt_of_lt_of_le hzb hb2.size
      clear hb1 hb2 hks hown hsz hDD
      generalize kyL d = x at HI HS32 HU
      obtain ⟨L, hL⟩ : ∃ L, (insB d ls).length = L := ⟨_, rfl⟩
      have HL := hide hL
      rw [hL] at hI3 HAO HAN
      clear hL
      by_cases hbig : (200 : Int) < (L : Int)
      · have HX := hide (unhide HAN (by omega))
        go_wp2_with (first
          | (refine wpList_store_any rfl 48 (.tmp 8) (.tmp 18) rfl w2.heap.size (encK x).toArray rfl rfl 48 _ (heap_alloc_new w2 _) (unhide HI) (unhide HS32) (oneX x) ?_; intro w3 hrow3 hgr3 hsz3; have HG3 := hide (And.intro hgr3 hsz3); have HM3 := hide (((unhide HM2).alloc (.cells _ 48)).kept hgr3 (by simp; omega)))
          | (refine wpList_load_row rfl 48 (.tmp 8) rfl w2.heap.size rfl 48 (encK x).toArray (0, 0) _ hrow3 Try.underlying48 rfl (unhide HI) ?_)
          | (at_mapUpdate; refine wpList_mapUpdate_own _ rfl _ _ _ 44 rfl 48 51 keyedK Try.underlying44 anyR b ls.length D rfl (unhide HM3) (by unfold maxLen; omega) _ _ (keyLK x) rfl rfl (keyK_of x) (.agg []) [] rfl ?_; intro w4 hown4 hgr4; obtain ⟨D4, hown5, hsz5, hD5⟩ := unhide HU _ _ _ _ _ _ (unhide HM3) (unhide HDD) hown4; have hlen := hown5.len Try.underlying44 3; rw [hsz5, List.length_map, unhide HL] at hlen; have HK5 := hide (show KSet w4 b (ls.length + 1) ((insB d ls).map kyL) from ⟨D4, hown5, hsz5, hD5⟩); clear hown5 hsz5 hD5 hown4))
        have HB4 := hide (((unhide HB2).trans ((((Below.refl _ _).alloc hz2 _)).trans ((Below.refl _ _).grown (unhide HG3).1 (by simp; omega) (fun i hi => by simp at hi; omega)))).trans ((Below.refl _ _).grown hgr4 (by have := (unhide HG3).2; simp at this; omega) (fun i hi => by simp at hi; omega)))
        clear hgr4 hrow3 hsz3 hgr3 HU
        go_wp2_with fail
        exact bodyPost_ret (v := .tuple #[.slice none 0 0, .bool false]) (by simp [results, Try.results7, go_sem]) rfl ⟨_, _, [], rfl, ownR_nil _ _ _, hide (.inr ⟨rfl, unhide HX, rfl⟩), unhide HB4⟩
      · have HX := hide (unhide HAO (by omega))
        go_wp2_with (first
          | (refine wpList_store_any rfl 48 (.tmp 8) (.tmp 18) rfl w2.heap.size (encK x).toArray rfl rfl 48 _ (heap_alloc_new w2 _) (unhide HI) (unhide HS32) (oneX x) ?_; intro w3 hrow3 hgr3 hsz3; have HG3 := hide (And.intro hgr3 hsz3); have HM3 := hide (((unhide HM2).alloc (.cells _ 48)).kept hgr3 (by simp; omega)))
          | (refine wpList_load_row rfl 48 (.tmp 8) rfl w2.heap.size rfl 48 (encK x).toArray (0, 0) _ hrow3 Try.underlying48 rfl (unhide HI) ?_)
          | (at_mapUpdate; refine wpList_mapUpdate_own _ rfl _ _ _ 44 rfl 48 51 keyedK Try.underlying44 anyR b ls.length D rfl (unhide HM3) (by unfold maxLen; omega) _ _ (keyLK x) rfl rfl (keyK_of x) (.agg []) [] rfl ?_; intro w4 hown4 hgr4; obtain ⟨D4, hown5, hsz5, hD5⟩ := unhide HU _ _ _ _ _ _ (unhide HM3) (unhide HDD) hown4; have hlen := hown5.len Try.underlying44 3; rw [hsz5, List.length_map, unhide HL] at hlen; have HK5 := hide (show KSet w4 b (ls.length + 1) ((insB d ls).map kyL) from ⟨D4, hown5, hsz5, hD5⟩); clear hown5 hsz5 hD5 hown4))
        have HB4 := hide (((unhide HB2).trans ((((Below.refl _ _).alloc hz2 _)).trans ((Below.refl _ _).grown (unhide HG3).1 (by simp; omega) (fun i hi => by simp at hi; omega)))).trans ((Below.refl _ _).grown hgr4 (by have := (unhide HG3).2; simp at this; omega) (fun i hi => by simp at hi; omega)))
        have hz4 := (unhide HB4).size
        clear hgr4 hrow3 hsz3 hgr3 HU hlen
        refine (unhide HKS _ _ _ (unhide HK5)).mono ?_
        rintro e w6 ⟨v6, rfl, ho6, hb6⟩
        obtain ⟨a6, c6, hv6⟩ := ho6.form
        rw [List.length_map, unhide HL] at hv6
        subst hv6
        have HT6 := hide (unhide HTX w6 a6 L c6 ho6.at (by rw [List.length_map]; exact unhide HL))
        have HB6 := hide ((unhide HB4).trans (hb6.mono hz4))
        have hz6 := (unhide HB6).size
        clear ho6 hb6
        go_wp2_with fail
        refine (unhide HT6).mono ?_
        rintro e w7 ⟨v7, rfl, ho7, hb7⟩
        rw [unhide HMB] at ho7
        obtain ⟨a7, c7, hv7⟩ := ho7.form
        rw [unhide HL] at hv7
        subst hv7
        have HO7 := hide (OwnR.le ho7 hz6)
        have HB7 := hide ((unhide HB6).trans (hb7.mono hz6))
        clear ho7 hb7
        go_wp2_with fail
        exact bodyPost_ret (v := .tuple #[.slice a7 L c7, .bool true]) (by simp [results, Try.results7, go_sem]) rfl ⟨_, _, _, rfl, unhide HO7, hide (.inl ⟨rfl, unhide HX, rfl⟩), unhide HB7⟩
end Go.Proofs.Ytldgkpnlplfopaa


/- Sets of digests: when they are right, by the specification. -/
namespace Go.Proofs.Ytldgkpnlplfopaa
open Go.RowKit Plain
set_option linter.unusedVariables false

namespace Plain
def risS : Option ByteArray → List ByteArray → Bool
  | _, [] => true
  | p, s :: r => ltO p s && risS (some s) r
theorem risS_step (ls : List ByteArray) (k : Nat) (h : k < ls.length) : risS (prevS ls k) (ls.drop k) = (ltO (prevS ls k) ls[k] && risS (prevS ls (k + 1)) (ls.drop (k + 1))) := by
  rw [List.drop_eq_getElem_cons h, risS, prevS, List.getElem?_eq_getElem h]
theorem okS_split : ∀ (l : List ByteArray) (p : Option ByteArray), okS p l = (risS p l && l.all digB)
  | [], _ => rfl
  | s :: r, p => by
    rw [okS, okS_split r, risS, List.all_cons]
    cases digB s <;> cases ltO p s <;> simp
theorem belQS {B : Nat} {w w' : World} (h : Below B w w') (k : Nat) : Below B w (w'.drewN k) := ⟨h.os, h.tape, h.output, h.size, h.block⟩
end Plain

set_option maxRecDepth 10000 in
set_option maxHeartbeats 2000000 in
theorem l1Rises_calls (a : Option Addr) (n c : Nat) (ls : List ByteArray) (w : World) (h : TxtsAt w a n ls) :
    Calls Try.prog 34 #[.slice a n c] w fun e w' => e = .returned (.bool (risS none ls)) ∧ Below w.heap.size w w' := by
  have HLN := hide h.len
  have hbn := h.bn
  have HD := hide (fun (W : World) (hW : Below w.heap.size w W) => h.below hW)
  obtain ⟨R, hR⟩ : ∃ R, risS none ls = R := ⟨_, rfl⟩
  have HR := hide (show (if n = 0 then true else risS (prevS ls 1) (ls.drop 1)) = R from by
    rw [← hR]
    cases ls with
    | nil => rw [if_pos (by have := h.len; simp at this; omega)]; rfl
    | cons s r => rw [if_neg (by have := h.len; simp at this; omega)]; simp [risS, ltO, prevS])
  rw [hR]
  clear h hR
  go_enter Try.func34, Try.ntmps34
  go_wp2_with fail
  by_cases hn0 : n = 0
  · subst hn0
    have hr := unhide HR
    rw [if_pos rfl] at hr
    have HX := hide hr.symm
    clear hr HR
    refine wp_loop_rounds 1 ?_
    rw [rounds_succ]
    go_wp2_with fail
    go_ret
    exact ⟨by rw [unhide HX]; rfl, Below.refl _ _⟩
  have hr := unhide HR
  rw [if_neg hn0] at hr
  have HR2 := hide hr
  clear hr HR
  go_loopw [3] (fun s3 wr => ∃ (k : Nat), s3 = .int .i64 ((k + 1 : Nat) : Int) ∧ k + 1 ≤ n ∧ Hid (risS (prevS ls (k + 1)) (ls.drop (k + 1)) = R) ∧ Hid (Below w.heap.size w wr)) (fun s3 _ => n - (intOf s3).toNat)
  case atStart => exact ⟨0, rfl, by omega, HR2, hide (Below.refl _ _)⟩
  case round =>
    clear HR2
    obtain ⟨k, rfl, hk, HO, HB⟩ := hrel
    by_cases hkn : k + 1 < n
    · have hkl : k + 1 < ls.length := by rw [unhide HLN]; exact hkn
      have hkl0 : k < ls.length := by omega
      obtain ⟨g, e1, l1, p1, -⟩ := (unhide HD wr (unhide HB)).row.str (k + 1) hkl
      obtain ⟨g', e2, l2, p0, -⟩ := (unhide HD wr (unhide HB)).row.str k hkl0
      have hst := risS_step ls (k + 1) hkl
      rw [unhide HO, show prevS ls (k + 1) = some ls[k] from by rw [prevS, List.getElem?_eq_getElem hkl0]] at hst
      generalize ls[k + 1] = s at p1 hst
      generalize ls[k] = q at p0 hst
      subst e1
      cases e2
      change R = (Op.bytesLess q.toList s.toList && _) at hst
      obtain ⟨lt, hlt⟩ : ∃ lt, Op.bytesLess q.toList s.toList = lt := ⟨_, rfl⟩
      rw [hlt] at hst
      have hle := le_not s q lt hlt
      have HST := hide hst
      have j0 : (0 : Int) ≤ (k : Int) := by omega
      have j1 : (k : Int) < (n : Int) := by omega
      have i0 : (0 : Int) ≤ ((k + 1 : Nat) : Int) := by omega
      have i1 : ((k + 1 : Nat) : Int) < (n : Int) := by omega
      clear hst hlt HO
      cases lt with
      | true =>
        rw [Bool.not_true] at hle
        have HX := hide (show risS (prevS ls (k + 1 + 1)) (ls.drop (k + 1 + 1)) = R from by rw [unhide HST, Bool.true_and])
        go_wp2_with fail
        go_quiet (fail)
        go_wp2_with fail
        go_roundw
        case rel => exact ⟨k + 1, by go_num, by omega, HX, hide (belQS (unhide HB) _)⟩
        case measure => simp [intOf]; omega
      | false =>
        rw [Bool.not_false] at hle
        have HX := hide (show R = false from by rw [unhide HST]; rfl)
        go_wp2_with fail
        go_quiet (fail)
        go_wp2_with fail
        go_ret
        exact ⟨by rw [unhide HX]; rfl, belQS (unhide HB) _⟩
    · obtain rfl : k + 1 = n := by omega
      have hO := unhide HO
      rw [List.drop_of_length_le (by rw [unhide HLN]; exact Nat.le_refl _)] at hO
      have HX := hide (show R = true from hO.symm)
      clear hO HO
      go_wp2_with fail
      go_ret
      exact ⟨by rw [unhide HX]; rfl, unhide HB⟩

set_option maxRecDepth 10000 in
set_option maxHeartbeats 2000000 in
theorem l7Set_calls (a : Option Addr) (n c : Nat) (ls : List ByteArray) (w : World) (h : TxtsAt w a n ls) :
    Calls Try.prog 20 #[.slice a n c] w fun e w' => e = .returned (.bool (setB ls)) ∧ Below w.heap.size w w' := by
  have HLN := hide h.len
  have hbn := h.bn
  have HD := hide (fun (W : World) (hW : Below w.heap.size w W) => h.below hW)
  have HFIT := hide h.fit
  have HRI := hide (l1Rises_calls a n c ls w h)
  by_cases hbig : (200 : Int) < (n : Int)
  · have HX := hide (show setB ls = false from by unfold setB; rw [decide_eq_false (by have := h.len; omega)]; rfl)
    clear h
    go_enter Try.func20, Try.ntmps20
    go_wp2_with fail
    go_ret
    exact ⟨by rw [unhide HX]; rfl, Below.refl _ _⟩
  have hsb : setB ls = (risS none ls && ls.all digB) := by unfold setB; rw [decide_eq_true (by have := h.len; omega), okS_split]; rfl
  rw [hsb]
  clear h hsb
  cases hr : risS none ls with
  | false =>
    rw [hr] at HRI
    clear hr
    go_enter Try.func20, Try.ntmps20
    go_wp2_with fail
    refine (unhide HRI).mono ?_
    rintro e w1 ⟨rfl, hb1⟩
    have HB := hide hb1
    clear hb1
    go_wp2_with fail
    go_ret
    exact ⟨rfl, unhide HB⟩
  | true =>
    rw [hr] at HRI
    rw [Bool.true_and]
    obtain ⟨R, hR⟩ : ∃ R, ls.all digB = R := ⟨_, rfl⟩
    have HR := hide hR
    rw [hR]
    clear hr hR
    go_enter Try.func20, Try.ntmps20
    go_wp2_with fail
    refine (unhide HRI).mono ?_
    rintro e w1 ⟨rfl, hb1⟩
    have HB1 := hide hb1
    clear hb1
    go_wp2_with fail
    go_loopw [3] (fun s3 wr => ∃ (k : Nat), s3 = .int .i64 k ∧ k ≤ n ∧ Hid ((ls.drop k).all digB = R) ∧ Hid (Below w.heap.size w wr)) (fun s3 _ => n - (intOf s3).toNat)
    case atStart => exact ⟨0, rfl, by omega, HR, HB1⟩
    case round =>
      clear HR HB1
      obtain ⟨k, rfl, hk, HO, HB⟩ := hrel
      by_cases hkn : k < n
      · have hkl : k < ls.length := by rw [unhide HLN]; exact hkn
        obtain ⟨g, e1, l1, p0, -⟩ := (unhide HD wr (unhide HB)).row.str k hkl
        have hst := unhide HO
        rw [List.drop_eq_getElem_cons hkl, List.all_cons] at hst
        have hsz := unhide HFIT ls[k] (by simp)
        generalize ls[k] = s at p0 hst hsz
        have HDG := hide (spec_DigestOk s wr (by omega))
        subst e1
        have i0 : (0 : Int) ≤ (k : Int) := by omega
        have i1 : (k : Int) < (n : Int) := by omega
        have HST := hide hst
        clear hst HO
        cases hd : digB s with
        | false =>
          rw [hd] at HDG
          have HX := hide (show R = false from by rw [← unhide HST, hd]; rfl)
          clear hd
          go_wp2_with fail
          refine (unhide HDG).mono ?_
          rintro e w2 ⟨rfl, rfl⟩
          go_wp2_with fail
          go_ret
          exact ⟨by rw [unhide HX]; rfl, unhide HB⟩
        | true =>
          rw [hd] at HDG
          have HX := hide (show (ls.drop (k + 1)).all digB = R from by rw [← unhide HST, hd]; rfl)
          clear hd
          go_wp2_with fail
          refine (unhide HDG).mono ?_
          rintro e w2 ⟨rfl, rfl⟩
          go_wp2_with fail
          go_roundw
          case rel => exact ⟨k + 1, by go_num, by omega, HX, HB⟩
          case measure => simp [intOf]; omega
      · obtain rfl : k = n := by omega
        have hO := unhide HO
        rw [List.drop_of_length_le (by rw [unhide HLN]; exact Nat.le_refl _)] at hO
        have HX := hide (show R = true from hO.symm)
        clear hO HO
        go_wp2_with fail
        go_ret
        exact ⟨by rw [unhide HX]; rfl, unhide HB⟩
end Go.Proofs.Ytldgkpnlplfopaa


/- AddTo by the specification. -/
namespace Go.Proofs.Ytldgkpnlplfopaa
open Go.RowKit Go.Maps Plain
set_option linter.unusedVariables false

theorem Plain.StrsAt.onlyRowK {w w' : World} {a b : Option Addr} {ls : List ByteArray} (h : StrsAt w a ls) (ho : OnlyRow b w w') (hne : ∀ g o, a = some ⟨g, o, none⟩ → ∀ o', b ≠ some ⟨g, o', none⟩) : StrsAt w' a ls := fun i hi => by
  obtain ⟨g, o, e, hl, hc⟩ := h i hi
  exact ⟨g, o, e, Nat.lt_of_lt_of_le hl ho.size, (ho.cell hl (hne g o e)).trans hc⟩
theorem RowAt.onlyRowK {w w' : World} {a b : Option Addr} {ls : List ByteArray} (h : RowAt strE w a ls) (ho : OnlyRow b w w') (hne : ∀ g o, a = some ⟨g, o, none⟩ → ∀ o', b ≠ some ⟨g, o', none⟩) : RowAt strE w' a ls := by
  apply RowAt.ofS
  intro i hi
  obtain ⟨g, e, hl, hc, hf⟩ := h.str i hi
  exact ⟨g, e, Nat.lt_of_lt_of_le hl ho.size, (ho.cell hl (hne g 0 e)).trans hc, (ho.frozen hl (hne g 0 e)).trans hf⟩
theorem OwnR.blkK {w : World} {B n c : Nat} {a : Option Addr} {ls : List ByteArray} (h : OwnR strE w B (.slice a n c) ls) : ∀ g o, a = some ⟨g, o, none⟩ → B ≤ g ∧ g < w.heap.size := by
  intro g o e
  subst e
  exact World.ownsRow.lt h g rfl
theorem belOnK {w W W' : World} (h0 : Below w.heap.size w W) (h1 : Below W.heap.size W W') : Below w.heap.size w W' := h0.trans (h1.mono h0.size)
namespace Plain
def AddP (ls : List ByteArray) (d : ByteArray) (ok : Bool) (out : List ByteArray) : Prop := (ok = true ∧ addOk ls d ∧ out = insB d ls) ∨ (ok = false ∧ ¬ addOk ls d ∧ out = [])
theorem add_len {ls : List ByteArray} {d : ByteArray} {ok : Bool} {out : List ByteArray} (h : AddP ls d ok out) : out.length ≤ 200 := by
  rcases h with ⟨_, q, rfl⟩ | ⟨_, _, rfl⟩
  · exact q.2.2
  · simp
theorem add_one {ls : List ByteArray} {d : ByteArray} {ok ok' : Bool} {out out' : List ByteArray} (h : AddP ls d ok out) (h' : AddP ls d ok' out') : ok = ok' ∧ out = out' := by
  rcases h with ⟨rfl, q, rfl⟩ | ⟨rfl, q, rfl⟩ <;> rcases h' with ⟨rfl, q', rfl⟩ | ⟨rfl, q', rfl⟩
  · exact ⟨rfl, rfl⟩
  · exact absurd q q'
  · exact absurd q' q
  · exact ⟨rfl, rfl⟩
end Plain

set_option maxRecDepth 100000 in
set_option maxHeartbeats 2000000 in
theorem spec_AddTo (a : Option Addr) (n c : Nat) (ls : List ByteArray) (d : ByteArray) (w : World) (h : TxtsAt w a n ls) (had : AdG a c) (hd : d.size ≤ 1000000000) :
    Calls Try.prog 6 #[.slice a n c, .string d] w fun e w' => ∃ v ok out, e = .returned (.tuple #[v, .bool ok]) ∧ OwnR strE w' w.heap.size v out ∧ Hid ((ok = true ∧ addOk ls d ∧ out = insB d ls) ∨ (ok = false ∧ ¬ addOk ls d ∧ out = [])) ∧ Below w.heap.size w w' := by
  have HS := hide (l7Set_calls a n c ls w h)
  have HDG := hide (fun W => spec_DigestOk d W (by omega))
  cases hs : setB ls with
  | false =>
    have HX := hide (show ¬ addOk ls d from fun q => by rw [q.1] at hs; cases hs)
    rw [hs] at HS
    clear h had
    go_enter Try.func6, Try.ntmps6
    go_wp2_with fail
    refine (unhide HS).mono ?_
    rintro e w1 ⟨rfl, hb1⟩
    have hz := hb1.size
    go_wp2_with fail
    exact bodyPost_ret (v := .tuple #[.slice (some ⟨w1.heap.size, 0, none⟩) 0 0, .bool false]) (by simp [results, Try.results6, go_sem]) rfl ⟨_, _, [], rfl, ownR_empty strE w1 w.heap.size hz, hide (.inr ⟨rfl, unhide HX, rfl⟩), hb1.alloc hz _⟩
  | true =>
    obtain ⟨s1, s2, s3⟩ := setB_all hs
    rw [hs] at HS
    cases hdg : digB d with
    | false =>
      have HX := hide (show ¬ addOk ls d from fun q => by rw [q.2.1] at hdg; cases hdg)
      rw [hdg] at HDG
      clear h had
      go_enter Try.func6, Try.ntmps6
      go_wp2_with fail
      refine (unhide HS).mono ?_
      rintro e w1 ⟨rfl, hb1⟩
      have hz := hb1.size
      go_wp2_with fail
      refine (unhide HDG _).mono ?_
      rintro e w2 ⟨rfl, rfl⟩
      go_wp2_with fail
      exact bodyPost_ret (v := .tuple #[.slice (some ⟨w1.heap.size, 0, none⟩) 0 0, .bool false]) (by simp [results, Try.results6, go_sem]) rfl ⟨_, _, [], rfl, ownR_empty strE w1 w.heap.size hz, hide (.inr ⟨rfl, unhide HX, rfl⟩), hb1.alloc hz _⟩
    | true =>
      rw [hdg] at HDG
      have hn := h.len
      have HRW := hide (fun (W : World) (hW : Below w.heap.size w W) => (h.below hW).row)
      have HRI := hide (fun (W : World) (a : Option Addr) (m c : Nat) (q : OwnR strE W w.heap.size (.slice a m c) (ls ++ [d])) (hm : (ls ++ [d]).length = m) => l1Rising_calls a m c (ls ++ [d]) W hm (by simp at hm; omega) q.at.strs)
      have HEX := hide (fun (out : List ByteArray) (q : Strict out) (p : ∀ x, x ∈ out ↔ x ∈ ls ++ [d]) => strict_ext q (insB_strict (d := d) s3) (fun x => by rw [p, insB_mem]; simp))
      have hI3 : (insB d ls).length ≤ 201 := by
        have h9 := insB_len (d := d) s3
        split at h9 <;> omega
      have HAO := hide (show (insB d ls).length ≤ 200 → addOk ls d from fun q => ⟨hs, hdg, q⟩)
      have HAN := hide (show 200 < (insB d ls).length → ¬ addOk ls d from fun q p => by have := p.2.2; omega)
      have HAD := hide had
      clear h had hs hdg s2 s3
      obtain ⟨L, hL⟩ : ∃ L, (insB d ls).length = L := ⟨_, rfl⟩
      have HL := hide hL
      rw [hL] at hI3 HAO HAN
      clear hL
      go_enter Try.func6, Try.ntmps6
      go_wp2_with fail
      refine (unhide HS).mono ?_
      rintro e w1 ⟨rfl, hb1⟩
      have hz := hb1.size
      go_wp2_with fail
      refine (unhide HDG _).mono ?_
      rintro e w2 ⟨rfl, rfl⟩
      have hba := hb1.alloc hz (.cells #[] 9)
      have HB1 := hide hba
      have hzb := hba.size
      have HR1 := hide (unhide HRW _ hba)
      clear hb1 hba
      go_wp2_with (first
        | (at_builtin; refine appGG (e := strE) rfl (.tmp 16) (.tmp 17) rfl (ownR_empty strE w1 w.heap.size hz) rfl a n c rfl hn (unhide HR1) (unhide HAD) (by simp; omega) hzb ?_; intro v3 w3 hO3 hb3; obtain ⟨a3, c3, hv3⟩ := hO3.form; rw [List.nil_append] at hO3; rw [List.nil_append, hn] at hv3; subst hv3; have HB3 := hide ((unhide HB1).trans hb3); have hz3 := (unhide HB3).size)
        | (at_builtin; refine appR rfl (.tmp 18) (.tmp 20) rfl hO3 rfl d rfl _ rfl rfl (by omega) hz3 ?_; intro v4 w4 hO4 hb4 _; obtain ⟨a4, c4, hv4⟩ := hO4.form; rw [List.length_append, hn] at hv4; simp only [List.length_cons, List.length_nil, Nat.zero_add] at hv4; subst hv4; have HB4 := hide ((unhide HB3).trans hb4); have hz4 := (unhide HB4).size))
      have HR4 := hide (unhide HRI w4 a4 (n + 1) c4 hO4 (by simp; omega))
      clear hO4 hb4 hO3 hb3
      refine (unhide HR4).mono ?_
      rintro e w5 ⟨v5, out, rfl, hO5, HST, hb5⟩
      obtain rfl := unhide HEX out (unhide HST).1 (unhide HST).2
      obtain ⟨a5, c5, hv5⟩ := hO5.form
      rw [unhide HL] at hv5
      subst hv5
      have HO5 := hide (OwnR.le hO5 hz4)
      have HB5 := hide ((unhide HB4).trans (hb5.mono hz4))
      have hz5 := (unhide HB5).size
      clear hO5 hb5 HST HEX
      by_cases hbig : (200 : Int) < (L : Int)
      · have HX := hide (unhide HAN (by omega))
        go_wp2_with fail
        exact bodyPost_ret (v := .tuple #[.slice (some ⟨w5.heap.size, 0, none⟩) 0 0, .bool false]) (by simp [results, Try.results6, go_sem]) rfl ⟨_, _, [], rfl, ownR_empty strE w5 w.heap.size hz5, hide (.inr ⟨rfl, unhide HX, rfl⟩), (unhide HB5).alloc hz5 _⟩
      · have HX := hide (unhide HAO (by omega))
        go_wp2_with fail
        exact bodyPost_ret (v := .tuple #[.slice a5 L c5, .bool true]) (by simp [results, Try.results6, go_sem]) rfl ⟨_, _, _, rfl, unhide HO5, hide (.inl ⟨rfl, unhide HX, rfl⟩), unhide HB5⟩
end Go.Proofs.Ytldgkpnlplfopaa


/- What lies under a prefix, by the specification. -/
namespace Go.Proofs.Ytldgkpnlplfopaa
open Go.RowKit Go.Maps Plain
set_option linter.unusedVariables false

namespace Plain
def prB (p : ByteArray) : Bool := hexFrom p 0 && decide ((p.size : Int) ≤ 2)
/-- The digest's digits begin so. -/
def preB (p s : ByteArray) : Bool := (s.extract 7 (7 + p.size)).toList == p.toList
end Plain



end Go.Proofs.Ytldgkpnlplfopaa

/- Under by the specification. -/
namespace Go.Proofs.Ytldgkpnlplfopaa
open Go.RowKit Go.Maps Plain
set_option linter.unusedVariables false

namespace Plain
/-- What Under answers. -/
def undL (ls : List ByteArray) (p : ByteArray) : List ByteArray := if setB ls && prB p then ls.filter (preB p) else []
end Plain

end Go.Proofs.Ytldgkpnlplfopaa
