/- AddTo by the program. -/
import Derived.Test.YtnokbnoncdebmaaKyT
namespace Go.Proofs.Ytnokbnoncdebmaa
open Go.RowKit Go.Maps Plain
set_option linter.unusedVariables false

namespace Plain
open Classical in
/-- A digest put into a rising list. -/
noncomputable def insB (d : ByteArray) (ls : List ByteArray) : List ByteArray := ls.filter (fun x => decide (ltB x d)) ++ d :: ls.filter (fun x => decide (ltB d x))
theorem insB_mem {d : ByteArray} {ls : List ByteArray} (x : ByteArray) : x ∈ insB d ls ↔ x ∈ ls ∨ x = d := by
  unfold insB
  simp only [List.mem_append, List.mem_cons, List.mem_filter, decide_eq_true_eq]
  constructor
  · rintro (h | h | h)
    · exact .inl h.1
    · exact .inr h
    · exact .inl h.1
  · rintro (h | h)
    · by_cases e : x = d
      · exact .inr (.inl e)
      · by_cases q : ltB x d
        · exact .inl ⟨h, q⟩
        · exact .inr (.inr ⟨h, ltB_tri q e⟩)
    · exact .inr (.inl h)
theorem insB_strict {d : ByteArray} {ls : List ByteArray} (h : Strict ls) : Strict (insB d ls) := by
  unfold insB Strict
  rw [List.pairwise_append, List.pairwise_cons]
  refine ⟨List.Pairwise.filter _ h, ⟨fun y hy => ?_, List.Pairwise.filter _ h⟩, fun y hy z hz => ?_⟩
  · simpa using (List.mem_filter.1 hy).2
  · have h1 : ltB y d := by simpa using (List.mem_filter.1 hy).2
    rcases List.mem_cons.1 hz with e | e
    · rw [e]; exact h1
    · exact ltB_trans h1 (by simpa using (List.mem_filter.1 e).2)
theorem strict_nodup {ls : List ByteArray} (h : Strict ls) : ls.Nodup := h.imp (fun {a b} q e => by rw [e] at q; exact ltB_irrefl _ q)
open Classical in
theorem insB_len {d : ByteArray} {ls : List ByteArray} (h : Strict ls) : (insB d ls).length = if d ∈ ls then ls.length else ls.length + 1 := by
  by_cases q : d ∈ ls
  · rw [if_pos q, strict_ext (insB_strict h) h (fun x => by rw [insB_mem]; exact ⟨fun e => e.elim id (fun e => e ▸ q), .inl⟩)]
  · rw [if_neg q]
    have : (insB d ls).Perm (d :: ls) := (List.perm_ext_iff_of_nodup (strict_nodup (insB_strict h)) (List.nodup_cons.2 ⟨q, strict_nodup h⟩)).2 fun x => by rw [insB_mem, List.mem_cons, or_comm]
    rw [this.length_eq]
    simp
theorem map_back {ls : List ByteArray} (h : ∀ s ∈ ls, digB s = true) : (ls.map kyL).map dgT = ls := by
  rw [List.map_map]
  conv => rhs; rw [← List.map_id ls]
  apply List.map_congr_left
  intro x hx
  exact dgT_kyL (h x hx)
theorem mem_kyL {ls : List ByteArray} (h : ∀ s ∈ ls, digB s = true) {d : ByteArray} (hd : digB d = true) : kyL d ∈ ls.map kyL ↔ d ∈ ls := by
  rw [List.mem_map]
  exact ⟨fun ⟨y, hy, e⟩ => kyL_inj (h y hy) hd e ▸ hy, fun q => ⟨d, q, rfl⟩⟩
def addOk (ls : List ByteArray) (d : ByteArray) : Prop := setB ls = true ∧ digB d = true ∧ (insB d ls).length ≤ 200
end Plain
/-- 's[k] = struct{}{}'. -/
theorem Plain.KSet.upd {w w' : World} {b nn : Nat} {ls : List ByteArray} {D : DataW Unit} (hown : w.ownsMap Try.prog 46 anyR b nn D) (hD : Maps.size D = ls.length ∧ ∀ x : List UInt8, x.length = 32 → (Maps.has D (keyLK x) = true ↔ x ∈ ls.map kyL)) (h1 : ∀ s ∈ ls, digB s = true) (hst : Strict ls) {d : ByteArray} (hd : digB d = true) {u : DataW Unit}
    (hown2 : w'.ownsMap Try.prog 46 anyR b (nn + 1) (D.put (keyLK (kyL d)) u)) : KSet w' b (nn + 1) ((insB d ls).map kyL) := by
  refine ⟨_, hown2, ?_, fun x hx => ?_⟩
  · rw [size_put (hown.tidy keyedK), List.length_map, insB_len hst, hD.1]
    by_cases q : d ∈ ls
    · rw [if_pos q, if_pos ((hD.2 _ (kyL_len d)).2 ((mem_kyL h1 hd).2 q))]
    · rw [if_neg q, if_neg (fun e => q ((mem_kyL h1 hd).1 ((hD.2 _ (kyL_len d)).1 e)))]
  · by_cases e : x = kyL d
    · subst e
      have : kyL d ∈ (insB d ls).map kyL := List.mem_map.2 ⟨d, (insB_mem d).2 (.inr rfl), rfl⟩
      simp [has_put_same hown.isMap (keyLK_ok _), this]
    · rw [has_put_other (fun q => e (keyLK_inj hx (kyL_len d) q)), hD.2 x hx, List.mem_map, List.mem_map]
      constructor
      · rintro ⟨y, hy, rfl⟩
        exact ⟨y, (insB_mem y).2 (.inl hy), rfl⟩
      · rintro ⟨y, hy, rfl⟩
        rcases (insB_mem y).1 hy with q | q
        · exact ⟨y, q, rfl⟩
        · subst q; exact absurd rfl e

set_option maxRecDepth 100000 in
set_option maxHeartbeats 2000000 in
theorem impl_AddTo (a : Option Addr) (n c : Nat) (ls : List ByteArray) (d : ByteArray) (w : World) (h : TxtsAt w a n ls) (hd : d.size ≤ 1000000000) :
    Calls Try.prog 14 #[.slice a n c, .string d] w fun e w' => ∃ v ok out, e = .returned (.tuple #[v, .bool ok]) ∧ OwnR strE w' w.heap.size v out ∧ Hid ((ok = true ∧ addOk ls d ∧ out = insB d ls) ∨ (ok = false ∧ ¬ addOk ls d ∧ out = [])) ∧ Below w.heap.size w w' := by
  cases hs : setB ls with
  | false =>
    have HX := hide (show ¬ addOk ls d from fun q => by rw [q.1] at hs; cases hs)
    have HR := hide (readSet_calls a n c ls w h)
    rw [hs] at HR
    have HK := hide (fun W => keyX_calls d W (by omega))
    clear h
    go_enter Try.func14, Try.ntmps14
    go_wp2_with fail
    refine (unhide HR).mono ?_
    rintro e w1 ⟨m, rfl, hb1⟩
    go_wp2_with fail
    refine (unhide HK _).mono ?_
    rintro e w2 ⟨xs, rfl, hk, -, hb2⟩
    have HI := hide (show (Try.prog.info? 46).map (·.size) = some (keyC xs).size from by rw [keyC_size hk]; exact infoK)
    have HS32 := hide (show (32 : Nat) = (keyC xs).size from (keyC_size hk).symm)
    have HB2 := hide (hb1.trans (hb2.mono hb1.size))
    have hz2 := (unhide HB2).size
    clear hb1 hb2 hk
    generalize digB d = dg
    go_wp2_with (refine wpList_store_any rfl 46 (.tmp 8) (.tmp 18) rfl w2.heap.size (keyC xs) rfl rfl 46 _ (heap_alloc_new w2 _) (unhide HI) (unhide HS32) (keyC_one _) ?_; intro w3 hrow3 hgr3 hsz3)
    have HB3 := hide ((unhide HB2).trans (((Below.refl _ _).alloc hz2 _).trans ((Below.refl _ _).grown hgr3 (by simp; omega) (fun i hi => by simp at hi; omega))))
    clear hgr3 hsz3 hrow3
    go_wp2_with fail
    exact bodyPost_ret (v := .tuple #[.slice none 0 0, .bool false]) (by simp [results, Try.results14, go_sem]) rfl ⟨_, _, [], rfl, ownR_nil _ _ _, hide (.inr ⟨rfl, unhide HX, rfl⟩), unhide HB3⟩
  | true =>
    obtain ⟨s1, s2, s3⟩ := setB_all hs
    have HR := hide (readY_calls a n c ls w h hs)
    cases hdg : digB d with
    | false =>
      have HX := hide (show ¬ addOk ls d from fun q => by rw [q.2.1] at hdg; cases hdg)
      have HK := hide (fun W => keyX_calls d W (by omega))
      rw [hdg] at HK
      clear h hs hdg s1 s2 s3
      go_enter Try.func14, Try.ntmps14
      go_wp2_with fail
      refine (unhide HR).mono ?_
      rintro e w1 ⟨b, rfl, hbb, -, hb1⟩
      go_wp2_with fail
      refine (unhide HK _).mono ?_
      rintro e w2 ⟨xs, rfl, hk, -, hb2⟩
      have HI := hide (show (Try.prog.info? 46).map (·.size) = some (keyC xs).size from by rw [keyC_size hk]; exact infoK)
      have HS32 := hide (show (32 : Nat) = (keyC xs).size from (keyC_size hk).symm)
      have HB2 := hide (hb1.trans (hb2.mono hb1.size))
      have hz2 := (unhide HB2).size
      clear hb1 hb2 hk
      go_wp2_with (refine wpList_store_any rfl 46 (.tmp 8) (.tmp 18) rfl w2.heap.size (keyC xs) rfl rfl 46 _ (heap_alloc_new w2 _) (unhide HI) (unhide HS32) (keyC_one _) ?_; intro w3 hrow3 hgr3 hsz3)
      have HB3 := hide ((unhide HB2).trans (((Below.refl _ _).alloc hz2 _).trans ((Below.refl _ _).grown hgr3 (by simp; omega) (fun i hi => by simp at hi; omega))))
      clear hgr3 hsz3 hrow3
      go_wp2_with fail
      exact bodyPost_ret (v := .tuple #[.slice none 0 0, .bool false]) (by simp [results, Try.results14, go_sem]) rfl ⟨_, _, [], rfl, ownR_nil _ _ _, hide (.inr ⟨rfl, unhide HX, rfl⟩), unhide HB3⟩
    | true =>
      have HK := hide (fun W => keyY_calls d W hdg)
      have hI1 : ∀ s ∈ insB d ls, digB s = true := fun s q => ((insB_mem s).1 q).elim (s2 s) (fun e => e ▸ hdg)
      have hI2 := insB_strict (d := d) s3
      have hI3 : (insB d ls).length ≤ 201 := by
        have h9 := insB_len (d := d) s3
        split at h9 <;> omega
      have HKS := hide (fun (W : World) (b nn : Nat) (q : KSet W b nn ((insB d ls).map kyL)) => keys_calls b nn _ (risK_map hI1 hI2) (fun x hx => by obtain ⟨y, _, rfl⟩ := List.mem_map.1 hx; exact kyL_len y) (by rw [List.length_map]; omega) W q)
      have HTX := hide (fun (W : World) (a : Option Addr) (n c : Nat) (q : RowAt keyE W a ((insB d ls).map kyL)) (hn : ((insB d ls).map kyL).length = n) => textsOf_calls a n c _ W q hn (by rw [List.length_map] at hn; omega) (fun x hx => by obtain ⟨y, _, rfl⟩ := List.mem_map.1 hx; exact kyL_len y))
      have HMB := hide (map_back hI1)
      have HU := hide (show ∀ (W W' : World) (b nn : Nat) (D u : DataW Unit), W.ownsMap Try.prog 46 anyR b nn D → (Maps.size D = ls.length ∧ ∀ x : List UInt8, x.length = 32 → (Maps.has D (keyLK x) = true ↔ x ∈ ls.map kyL)) → W'.ownsMap Try.prog 46 anyR b (nn + 1) (D.put (keyLK (kyL d)) u) → KSet W' b (nn + 1) ((insB d ls).map kyL) from fun W W' b nn D u p1 p2 p3 => KSet.upd p1 p2 s2 s3 hdg p3)
      have HAO := hide (show (insB d ls).length ≤ 200 → addOk ls d from fun q => ⟨hs, hdg, q⟩)
      have HAN := hide (show 200 < (insB d ls).length → ¬ addOk ls d from fun q p => by have := p.2.2; omega)
      clear h hs s2 s3 hI1 hI2 hdg
      go_enter Try.func14, Try.ntmps14
      go_wp2_with fail
      refine (unhide HR).mono ?_
      rintro e w1 ⟨b, rfl, hbb, hks, hb1⟩
      go_wp2_with fail
      refine (unhide HK _).mono ?_
      rintro e w2 ⟨rfl, hb2⟩
      have HI := hide (infX (kyL d))
      have HS32 := hide (s32X (kyL d))
      have hzb := hks.lt
      have hks2 := hks.below hb2 hzb
      obtain ⟨D, hown, hsz, hDD⟩ := hks2
      have HM2 := hide hown
      have HDD := hide (And.intro (show Maps.size D = ls.length by rw [hsz]; simp) hDD)
      have HB2 := hide (hb1.trans (hb2.mono hb1.size))
      have hz2 := (unhide HB2).size
      have hzb2 : b < w2.heap.size := Nat.lt_of_lt_of_le hzb hb2.size
      clear hb1 hb2 hks hown hsz hDD
      generalize kyL d = x at HI HS32 HU
      obtain ⟨L, hL⟩ : ∃ L, (insB d ls).length = L := ⟨_, rfl⟩
      have HL := hide hL
      rw [hL] at hI3 HAO HAN
      clear hL
      by_cases hbig : (200 : Int) < (L : Int)
      · have HX := hide (unhide HAN (by omega))
        go_wp2_with (first
          | (refine wpList_store_any rfl 46 (.tmp 8) (.tmp 18) rfl w2.heap.size (encK x).toArray rfl rfl 46 _ (heap_alloc_new w2 _) (unhide HI) (unhide HS32) (oneX x) ?_; intro w3 hrow3 hgr3 hsz3; have HG3 := hide (And.intro hgr3 hsz3); have HM3 := hide (((unhide HM2).alloc (.cells _ 46)).kept hgr3 (by simp; omega)))
          | (refine wpList_load_row rfl 46 (.tmp 8) rfl w2.heap.size rfl 46 (encK x).toArray (0, 0) _ hrow3 Try.underlying46 rfl (unhide HI) ?_)
          | (at_mapUpdate; refine wpList_mapUpdate_own _ rfl _ _ _ 33 rfl 46 49 keyedK Try.underlying33 anyR b ls.length D rfl (unhide HM3) (by unfold maxLen; omega) _ _ (keyLK x) rfl rfl (keyK_of x) (.agg []) [] rfl ?_; intro w4 hown4 hgr4; obtain ⟨D4, hown5, hsz5, hD5⟩ := unhide HU _ _ _ _ _ _ (unhide HM3) (unhide HDD) hown4; have hlen := hown5.len Try.underlying33 3; rw [hsz5, List.length_map, unhide HL] at hlen; have HK5 := hide (show KSet w4 b (ls.length + 1) ((insB d ls).map kyL) from ⟨D4, hown5, hsz5, hD5⟩); clear hown5 hsz5 hD5 hown4))
        have HB4 := hide (((unhide HB2).trans ((((Below.refl _ _).alloc hz2 _)).trans ((Below.refl _ _).grown (unhide HG3).1 (by simp; omega) (fun i hi => by simp at hi; omega)))).trans ((Below.refl _ _).grown hgr4 (by have := (unhide HG3).2; simp at this; omega) (fun i hi => by simp at hi; omega)))
        clear hgr4 hrow3 hsz3 hgr3 HU
        go_wp2_with fail
        exact bodyPost_ret (v := .tuple #[.slice none 0 0, .bool false]) (by simp [results, Try.results14, go_sem]) rfl ⟨_, _, [], rfl, ownR_nil _ _ _, hide (.inr ⟨rfl, unhide HX, rfl⟩), unhide HB4⟩
      · have HX := hide (unhide HAO (by omega))
        go_wp2_with (first
          | (refine wpList_store_any rfl 46 (.tmp 8) (.tmp 18) rfl w2.heap.size (encK x).toArray rfl rfl 46 _ (heap_alloc_new w2 _) (unhide HI) (unhide HS32) (oneX x) ?_; intro w3 hrow3 hgr3 hsz3; have HG3 := hide (And.intro hgr3 hsz3); have HM3 := hide (((unhide HM2).alloc (.cells _ 46)).kept hgr3 (by simp; omega)))
          | (refine wpList_load_row rfl 46 (.tmp 8) rfl w2.heap.size rfl 46 (encK x).toArray (0, 0) _ hrow3 Try.underlying46 rfl (unhide HI) ?_)
          | (at_mapUpdate; refine wpList_mapUpdate_own _ rfl _ _ _ 33 rfl 46 49 keyedK Try.underlying33 anyR b ls.length D rfl (unhide HM3) (by unfold maxLen; omega) _ _ (keyLK x) rfl rfl (keyK_of x) (.agg []) [] rfl ?_; intro w4 hown4 hgr4; obtain ⟨D4, hown5, hsz5, hD5⟩ := unhide HU _ _ _ _ _ _ (unhide HM3) (unhide HDD) hown4; have hlen := hown5.len Try.underlying33 3; rw [hsz5, List.length_map, unhide HL] at hlen; have HK5 := hide (show KSet w4 b (ls.length + 1) ((insB d ls).map kyL) from ⟨D4, hown5, hsz5, hD5⟩); clear hown5 hsz5 hD5 hown4))
        have HB4 := hide (((unhide HB2).trans ((((Below.refl _ _).alloc hz2 _)).trans ((Below.refl _ _).grown (unhide HG3).1 (by simp; omega) (fun i hi => by simp at hi; omega)))).trans ((Below.refl _ _).grown hgr4 (by have := (unhide HG3).2; simp at this; omega) (fun i hi => by simp at hi; omega)))
        have hz4 := (unhide HB4).size
        clear hgr4 hrow3 hsz3 hgr3 HU hlen
        refine (unhide HKS _ _ _ (unhide HK5)).mono ?_
        rintro e w6 ⟨v6, rfl, ho6, hb6⟩
        obtain ⟨a6, c6, hv6⟩ := ho6.form
        rw [List.length_map, unhide HL] at hv6
        subst hv6
        have HT6 := hide (unhide HTX w6 a6 L c6 ho6.at (by rw [List.length_map]; exact unhide HL))
        have HB6 := hide ((unhide HB4).trans (hb6.mono hz4))
        have hz6 := (unhide HB6).size
        clear ho6 hb6
        go_wp2_with fail
        refine (unhide HT6).mono ?_
        rintro e w7 ⟨v7, rfl, ho7, hb7⟩
        rw [unhide HMB] at ho7
        obtain ⟨a7, c7, hv7⟩ := ho7.form
        rw [unhide HL] at hv7
        subst hv7
        have HO7 := hide (OwnR.le ho7 hz6)
        have HB7 := hide ((unhide HB6).trans (hb7.mono hz6))
        clear ho7 hb7
        go_wp2_with fail
        exact bodyPost_ret (v := .tuple #[.slice a7 L c7, .bool true]) (by simp [results, Try.results14, go_sem]) rfl ⟨_, _, _, rfl, unhide HO7, hide (.inl ⟨rfl, unhide HX, rfl⟩), unhide HB7⟩
end Go.Proofs.Ytnokbnoncdebmaa
