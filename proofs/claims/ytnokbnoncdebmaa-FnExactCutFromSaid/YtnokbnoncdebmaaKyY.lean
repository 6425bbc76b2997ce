/- CutFrom by the program. -/
import Derived.Test.YtnokbnoncdebmaaKyZ
namespace Go.Proofs.Ytnokbnoncdebmaa
open Go.RowKit Go.Maps Plain
set_option linter.unusedVariables false

set_option maxRecDepth 100000 in
set_option maxHeartbeats 2000000 in
theorem impl_CutFrom (a : Option Addr) (n c : Nat) (ls : List ByteArray) (d : ByteArray) (w : World) (h : TxtsAt w a n ls) (hd : d.size ≤ 1000000000) :
    Calls Try.prog 16 #[.slice a n c, .string d] w fun e w' => ∃ v ok out, e = .returned (.tuple #[v, .bool ok]) ∧ OwnR strE w' w.heap.size v out ∧ Hid ((ok = true ∧ cutOk ls d ∧ out = delB d ls) ∨ (ok = false ∧ ¬ cutOk ls d ∧ out = [])) ∧ Below w.heap.size w w' := by
  cases hs : setB ls with
  | false =>
    have HX := hide (show ¬ cutOk ls d from fun q => by rw [q.1] at hs; cases hs)
    have HR := hide (readSet_calls a n c ls w h)
    rw [hs] at HR
    have HK := hide (fun W => keyX_calls d W (by omega))
    clear h
    go_enter Try.func16, Try.ntmps16
    go_wp2_with fail
    refine (unhide HR).mono ?_
    rintro e w1 ⟨m, rfl, hb1⟩
    go_wp2_with fail
    refine (unhide HK _).mono ?_
    rintro e w2 ⟨xs, rfl, hk, -, hb2⟩
    have HI := hide (show (Try.prog.info? 46).map (·.size) = some (keyC xs).size from by rw [keyC_size hk]; exact infoK)
    have HS32 := hide (show (32 : Nat) = (keyC xs).size from (keyC_size hk).symm)
    have HB2 := hide (hb1.trans (hb2.mono hb1.size))
    have hz2 := (unhide HB2).size
    clear hb1 hb2 hk
    generalize digB d = dg
    go_wp2_with (refine wpList_store_any rfl 46 (.tmp 8) (.tmp 20) rfl w2.heap.size (keyC xs) rfl rfl 46 _ (heap_alloc_new w2 _) (unhide HI) (unhide HS32) (keyC_one _) ?_; intro w3 hrow3 hgr3 hsz3)
    have HB3 := hide ((unhide HB2).trans (((Below.refl _ _).alloc hz2 _).trans ((Below.refl _ _).grown hgr3 (by simp; omega) (fun i hi => by simp at hi; omega))))
    clear hgr3 hsz3 hrow3
    go_wp2_with fail
    exact bodyPost_ret (v := .tuple #[.slice none 0 0, .bool false]) (by simp [results, Try.results16, go_sem]) rfl ⟨_, _, [], rfl, ownR_nil _ _ _, hide (.inr ⟨rfl, unhide HX, rfl⟩), unhide HB3⟩
  | true =>
    obtain ⟨s1, s2, s3⟩ := setB_all hs
    have HR := hide (readY_calls a n c ls w h hs)
    cases hdg : digB d with
    | false =>
      have HX := hide (show ¬ cutOk ls d from fun q => by rw [s2 d q.2] at hdg; cases hdg)
      have HK := hide (fun W => keyX_calls d W (by omega))
      rw [hdg] at HK
      clear h hs hdg s1 s2 s3
      go_enter Try.func16, Try.ntmps16
      go_wp2_with fail
      refine (unhide HR).mono ?_
      rintro e w1 ⟨b, rfl, hbb, -, hb1⟩
      go_wp2_with fail
      refine (unhide HK _).mono ?_
      rintro e w2 ⟨xs, rfl, hk, -, hb2⟩
      have HI := hide (show (Try.prog.info? 46).map (·.size) = some (keyC xs).size from by rw [keyC_size hk]; exact infoK)
      have HS32 := hide (show (32 : Nat) = (keyC xs).size from (keyC_size hk).symm)
      have HB2 := hide (hb1.trans (hb2.mono hb1.size))
      have hz2 := (unhide HB2).size
      clear hb1 hb2 hk
      go_wp2_with (refine wpList_store_any rfl 46 (.tmp 8) (.tmp 20) rfl w2.heap.size (keyC xs) rfl rfl 46 _ (heap_alloc_new w2 _) (unhide HI) (unhide HS32) (keyC_one _) ?_; intro w3 hrow3 hgr3 hsz3)
      have HB3 := hide ((unhide HB2).trans (((Below.refl _ _).alloc hz2 _).trans ((Below.refl _ _).grown hgr3 (by simp; omega) (fun i hi => by simp at hi; omega))))
      clear hgr3 hsz3 hrow3
      go_wp2_with fail
      exact bodyPost_ret (v := .tuple #[.slice none 0 0, .bool false]) (by simp [results, Try.results16, go_sem]) rfl ⟨_, _, [], rfl, ownR_nil _ _ _, hide (.inr ⟨rfl, unhide HX, rfl⟩), unhide HB3⟩
    | true =>
      have HK := hide (fun W => keyY_calls d W hdg)
      have hI1 : ∀ s ∈ delB d ls, digB s = true := fun s q => s2 s ((delB_mem s).1 q).1
      have hI2 := delB_strict (d := d) s3
      have hI3 : (delB d ls).length ≤ 200 := Nat.le_trans (List.length_filter_le _ _) s1
      have HKS := hide (fun (W : World) (b nn : Nat) (q : KSet W b nn ((delB d ls).map kyL)) => keys_calls b nn _ (risK_map hI1 hI2) (fun x hx => by obtain ⟨y, _, rfl⟩ := List.mem_map.1 hx; exact kyL_len y) (by rw [List.length_map]; omega) W q)
      have HTX := hide (fun (W : World) (a : Option Addr) (n c : Nat) (q : RowAt keyE W a ((delB d ls).map kyL)) (hn : ((delB d ls).map kyL).length = n) => textsOf_calls a n c _ W q hn (by rw [List.length_map] at hn; omega) (fun x hx => by obtain ⟨y, _, rfl⟩ := List.mem_map.1 hx; exact kyL_len y))
      have HMB := hide (map_back hI1)
      have HU := hide (show ∀ (W W' : World) (b nn mm : Nat) (D : DataW Unit), d ∈ ls → W.ownsMap Try.prog 46 anyR b nn D → (Maps.size D = ls.length ∧ ∀ x : List UInt8, x.length = 32 → (Maps.has D (keyLK x) = true ↔ x ∈ ls.map kyL)) → W'.ownsMap Try.prog 46 anyR b mm (D.del (keyLK (kyL d))) → KSet W' b mm ((delB d ls).map kyL) from fun W W' b nn mm D p0 p1 p2 p3 => KSet.del p1 p2 s2 s3 p0 p3)
      have HHA := hide (show ∀ (D : DataW Unit), (Maps.size D = ls.length ∧ ∀ x : List UInt8, x.length = 32 → (Maps.has D (keyLK x) = true ↔ x ∈ ls.map kyL)) → (Maps.has D (keyLK (kyL d)) = true ↔ d ∈ ls) from fun D p => by rw [p.2 _ (kyL_len d), mem_kyL s2 hdg])
      have HAO := hide (show d ∈ ls → cutOk ls d from fun q => ⟨hs, q⟩)
      have HAN := hide (show ¬ d ∈ ls → ¬ cutOk ls d from fun q p => q p.2)
      have hz0 : ∀ W : World, (zeroValue 49).run Try.prog W = .ok (.agg #[]) W := fun W => by kernel_rfl
      have HZ0 := hide hz0
      clear h hs s2 s3 hI1 hI2 hdg hz0
      go_enter Try.func16, Try.ntmps16
      go_wp2_with fail
      refine (unhide HR).mono ?_
      rintro e w1 ⟨b, rfl, hbb, hks, hb1⟩
      go_wp2_with fail
      refine (unhide HK _).mono ?_
      rintro e w2 ⟨rfl, hb2⟩
      have HI := hide (infX (kyL d))
      have HS32 := hide (s32X (kyL d))
      have hzb := hks.lt
      have hks2 := hks.below hb2 hzb
      obtain ⟨D, hown, hsz, hDD⟩ := hks2
      have HM2 := hide hown
      have HDD := hide (And.intro (show Maps.size D = ls.length by rw [hsz]; simp) hDD)
      have HB2 := hide (hb1.trans (hb2.mono hb1.size))
      have hz2 := (unhide HB2).size
      have hzb2 : b < w2.heap.size := Nat.lt_of_lt_of_le hzb hb2.size
      have hhas := unhide HHA D (unhide HDD)
      clear hb1 hb2 hks hown hsz hDD HHA
      generalize kyL d = x at HI HS32 HU hhas
      obtain ⟨L, hL⟩ : ∃ L, (delB d ls).length = L := ⟨_, rfl⟩
      have HL := hide hL
      rw [hL] at hI3
      clear hL
      by_cases hin : d ∈ ls
      · have hh : Maps.has D (keyLK x) = true := hhas.2 hin
        have HX := hide (unhide HAO hin)
        have HIN := hide hin
        clear hhas hin
        go_wp2_with (first
          | (refine wpList_store_any rfl 46 (.tmp 8) (.tmp 20) rfl w2.heap.size (encK x).toArray rfl rfl 46 _ (heap_alloc_new w2 _) (unhide HI) (unhide HS32) (oneX x) ?_; intro w3 hrow3 hgr3 hsz3; have HG3 := hide (And.intro hgr3 hsz3); have HM3 := hide (((unhide HM2).alloc (.cells _ 46)).kept hgr3 (by simp; omega)))
          | (refine wpList_load_row rfl 46 (.tmp 8) rfl w2.heap.size rfl 46 (encK x).toArray (0, 0) _ hrow3 Try.underlying46 rfl (unhide HI) ?_)
          | (at_lookup; refine wpList_lookup_own_unit _ rfl _ _ 33 rfl 46 49 keyedK Try.underlying33 (unhide HZ0 _) b ls.length D rfl (unhide HM3) _ _ rfl (keyK_of x) ?_; rw [hh])
          | (refine wpList_load_row rfl 46 (.tmp 8) rfl w2.heap.size rfl 46 (encK x).toArray (0, 0) _ ((heap_alloc_old _ _ (Array.getElem?_eq_some_iff.1 hrow3).1).trans hrow3) Try.underlying46 rfl (unhide HI) ?_)
          | (at_delete; refine wpList_delete_own _ rfl _ _ 33 46 rfl 49 keyedK Try.underlying33 anyR b ls.length D rfl ((unhide HM3).alloc _) _ _ rfl (keyK_of x) ?_; intro w5 hown5 hturn5))
        have hg5 := hturn5.grown
        have hz3 := (unhide HG3).2
        have HB3 := hide ((unhide HB2).trans (((Below.refl _ _).alloc hz2 _).trans ((Below.refl _ _).grown (unhide HG3).1 (by simp; omega) (fun i hi => by simp at hi; omega))))
        have hz4 := (unhide HB3).size
        have HB4 := hide (((unhide HB3).alloc hz4 (.cells #[] 49)).trans ((Below.refl _ _).grown hg5 (by simp; omega) (fun i hi => by simp at hi; omega)))
        have HK5 := hide (unhide HU _ _ _ _ _ _ (unhide HIN) ((unhide HM3).alloc (.cells #[] 49)) (unhide HDD) hown5)
        have hz5 := (unhide HB4).size
        clear hrow3 hsz3 hgr3 HU hown5 hturn5 hg5
        refine (unhide HKS _ _ _ (unhide HK5)).mono ?_
        rintro e w6 ⟨v6, rfl, ho6, hb6⟩
        obtain ⟨a6, c6, hv6⟩ := ho6.form
        rw [List.length_map, unhide HL] at hv6
        subst hv6
        have HT6 := hide (unhide HTX w6 a6 L c6 ho6.at (by rw [List.length_map]; exact unhide HL))
        have HB6 := hide ((unhide HB4).trans (hb6.mono hz5))
        have hz6 := (unhide HB6).size
        clear ho6 hb6
        go_wp2_with fail
        refine (unhide HT6).mono ?_
        rintro e w7 ⟨v7, rfl, ho7, hb7⟩
        rw [unhide HMB] at ho7
        obtain ⟨a7, c7, hv7⟩ := ho7.form
        rw [unhide HL] at hv7
        subst hv7
        have HO7 := hide (OwnR.le ho7 hz6)
        have HB7 := hide ((unhide HB6).trans (hb7.mono hz6))
        clear ho7 hb7
        go_wp2_with fail
        exact bodyPost_ret (v := .tuple #[.slice a7 L c7, .bool true]) (by simp [results, Try.results16, go_sem]) rfl ⟨_, _, _, rfl, unhide HO7, hide (.inl ⟨rfl, unhide HX, rfl⟩), unhide HB7⟩
      · have hh : Maps.has D (keyLK x) = false := by
          rw [Bool.eq_false_iff]
          exact fun q => hin (hhas.1 q)
        have HX := hide (unhide HAN hin)
        clear hhas hin HU
        go_wp2_with (first
          | (refine wpList_store_any rfl 46 (.tmp 8) (.tmp 20) rfl w2.heap.size (encK x).toArray rfl rfl 46 _ (heap_alloc_new w2 _) (unhide HI) (unhide HS32) (oneX x) ?_; intro w3 hrow3 hgr3 hsz3; have HG3 := hide (And.intro hgr3 hsz3); have HM3 := hide (((unhide HM2).alloc (.cells _ 46)).kept hgr3 (by simp; omega)))
          | (refine wpList_load_row rfl 46 (.tmp 8) rfl w2.heap.size rfl 46 (encK x).toArray (0, 0) _ hrow3 Try.underlying46 rfl (unhide HI) ?_)
          | (at_lookup; refine wpList_lookup_own_unit _ rfl _ _ 33 rfl 46 49 keyedK Try.underlying33 (unhide HZ0 _) b ls.length D rfl (unhide HM3) _ _ rfl (keyK_of x) ?_; rw [hh]))
        have hz3 := (unhide HG3).2
        have HB3 := hide ((unhide HB2).trans (((Below.refl _ _).alloc hz2 _).trans ((Below.refl _ _).grown (unhide HG3).1 (by simp; omega) (fun i hi => by simp at hi; omega))))
        have hz4 := (unhide HB3).size
        exact bodyPost_ret (v := .tuple #[.slice none 0 0, .bool false]) (by simp [results, Try.results16, go_sem]) rfl ⟨_, _, [], rfl, ownR_nil _ _ _, hide (.inr ⟨rfl, unhide HX, rfl⟩), (unhide HB3).alloc hz4 _⟩
end Go.Proofs.Ytnokbnoncdebmaa
