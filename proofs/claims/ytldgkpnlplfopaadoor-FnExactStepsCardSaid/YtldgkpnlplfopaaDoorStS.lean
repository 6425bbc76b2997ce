/- Steps by the specification. -/
import Derived.Test.YtldgkpnlplfopaaDoorTriR
import Derived.Test.YtldgkpnlplfopaaDoorLzA
namespace Go.Proofs.YtldgkpnlplfopaaDoor
open Go.RowKit Go.Maps Plain
set_option linter.unusedVariables false

theorem Plain.undTx {A : List ByteArray} (h : setB A = true) (p : ByteArray) {W : World} {a1 : Option Addr} {n1 : Nat} (r : RowAt strE W a1 (A.filter (preB p))) (hl : (A.filter (preB p)).length = n1) : TxtsAt W a1 n1 (A.filter (preB p)) := by
  obtain ⟨s1, s2, s3⟩ := setB_all h
  have := List.length_filter_le (preB p) A
  exact ⟨r, hl, by omega, fun s hm => by have := (digB_form (s2 s (List.mem_filter.1 hm).1)).1; omega⟩
theorem Plain.und71 {A : List ByteArray} (h : setB A = true) (p : ByteArray) : ∀ s ∈ A.filter (preB p), s.size = 71 := fun s hm => (digB_form ((setB_all h).2.1 s (List.mem_filter.1 hm).1)).1
theorem Plain.und200 {A : List ByteArray} (h : setB A = true) (p : ByteArray) : (A.filter (preB p)).length ≤ 200 := Nat.le_trans (List.length_filter_le _ _) (setB_all h).1

/-- What the specification's Steps answers. -/
def Plain.StpQ (A B : List ByteArray) (w : World) (e : Ending) (w' : World) : Prop := ∃ v1 v2 v3, e = .returned (.tuple #[v1, v2, v3, .bool (stOk A B)]) ∧ OwnR strE w' w.heap.size v1 (asL A B) ∧ OwnR strE w' w.heap.size v2 (mrL A B) ∧ OwnR strE w' w.heap.size v3 (leL A B) ∧ Below w.heap.size w w'

set_option maxRecDepth 10000 in
set_option maxHeartbeats 2000000 in
theorem spec_StepsNo (a : Option Addr) (n c : Nat) (A : List ByteArray) (a' : Option Addr) (n' c' : Nat) (B : List ByteArray) (w : World) (h : TxtsAt w a n A) (h' : TxtsAt w a' n' B) (hno : stOk A B = false) :
    Calls Tryd.prog 10 #[.slice a n c, .slice a' n' c'] w (StpQ A B w) := by
  unfold StpQ asL mrL leL
  rw [hno]
  simp only [Bool.false_eq_true, if_false]
  obtain ⟨W3, hW3⟩ : ∃ W3, ((w.alloc (.cells #[] 9)).alloc (.cells #[] 9)).alloc (.cells #[] 9) = W3 := ⟨_, rfl⟩
  have hT := tri_made w
  have hb3 : Below w.heap.size w W3 := by rw [← hW3]; exact (((Below.refl _ _).alloc (Nat.le_refl _) _).alloc (by simp) _).alloc (by simp; omega) _
  rw [hW3] at hT
  have HT := hide hT
  have HW := hide hW3
  have HB3 := hide hb3
  have HSA := hide (l7Set_calls a n c A W3 (h.below hb3))
  have HSB := hide (fun (W : World) (hW : Below w.heap.size w W) => l7Set_calls a' n' c' B W (h'.below hW))
  unfold stOk at hno
  clear h h' hT hW3 hb3
  cases hA : setB A with
  | false =>
    rw [hA] at HSA
    clear hno
    go_enter Tryd.func10, Tryd.ntmps10
    go_wp2_with fail
    rw [unhide HW]
    refine (unhide HSA).mono ?_
    rintro e w1 ⟨rfl, hb1⟩
    have HT1 := hide ((unhide HT).keep hb1)
    have HB1 := hide ((unhide HB3).trans (hb1.mono (unhide HB3).size))
    clear hb1
    go_wp2_with fail
    exact bodyPost_ret (v := .tuple #[_, _, _, .bool false]) (by simp [results, Tryd.results10, go_sem]) rfl ⟨_, _, _, rfl, (unhide HT1).o1, (unhide HT1).o2, (unhide HT1).o3, unhide HB1⟩
  | true =>
    rw [hA] at HSA hno
    rw [Bool.true_and] at hno
    rw [hno] at HSB
    go_enter Tryd.func10, Tryd.ntmps10
    go_wp2_with fail
    rw [unhide HW]
    refine (unhide HSA).mono ?_
    rintro e w1 ⟨rfl, hb1⟩
    have HT1 := hide ((unhide HT).keep hb1)
    have HB1 := hide ((unhide HB3).trans (hb1.mono (unhide HB3).size))
    clear hb1
    go_wp2_with fail
    refine (unhide HSB _ (unhide HB1)).mono ?_
    rintro e w2 ⟨rfl, hb2⟩
    have HT2 := hide ((unhide HT1).keep hb2)
    have HB2 := hide (belOnT (unhide HB1) hb2)
    clear hb2
    go_wp2_with fail
    exact bodyPost_ret (v := .tuple #[_, _, _, .bool false]) (by simp [results, Tryd.results10, go_sem]) rfl ⟨_, _, _, rfl, (unhide HT2).o1, (unhide HT2).o2, (unhide HT2).o3, unhide HB2⟩

set_option maxRecDepth 10000 in
set_option maxHeartbeats 8000000 in
theorem spec_StepsYes (a : Option Addr) (n c : Nat) (A : List ByteArray) (a' : Option Addr) (n' c' : Nat) (B : List ByteArray) (w : World) (h : TxtsAt w a n A) (h' : TxtsAt w a' n' B) (hA : setB A = true) (hB : setB B = true) :
    Calls Tryd.prog 10 #[.slice a n c, .slice a' n' c'] w (StpQ A B w) := by
  have hyes : stOk A B = true := by unfold stOk; rw [hA, hB]; rfl
  unfold StpQ asL mrL leL
  rw [hyes]
  simp only [if_true]
  obtain ⟨W3, hW3⟩ : ∃ W3, ((w.alloc (.cells #[] 9)).alloc (.cells #[] 9)).alloc (.cells #[] 9) = W3 := ⟨_, rfl⟩
  have hT := tri_made w
  have hb3 : Below w.heap.size w W3 := by rw [← hW3]; exact (((Below.refl _ _).alloc (Nat.le_refl _) _).alloc (by simp) _).alloc (by simp; omega) _
  rw [hW3] at hT
  have HT := hide hT
  have HW := hide hW3
  have HB3 := hide hb3
  have HSA := hide (l7Set_calls a n c A W3 (h.below hb3))
  rw [hA] at HSA
  have HSB := hide (fun (W : World) (hW : Below w.heap.size w W) => l7Set_calls a' n' c' B W (h'.below hW))
  rw [hB] at HSB
  have a71 : ∀ s ∈ A, s.size = 71 := fun s hm => (digB_form ((setB_all hA).2.1 s hm)).1
  have b71 : ∀ s ∈ B, s.size = 71 := fun s hm => (digB_form ((setB_all hB).2.1 s hm)).1
  have HUA := hide (fun (W : World) (hW : Below w.heap.size w W) (p : ByteArray) (hp : p.size ≤ 2) => l7Under_calls a n c A p W (h.below hW) a71 hp)
  have HUB := hide (fun (W : World) (hW : Below w.heap.size w W) (p : ByteArray) (hp : p.size ≤ 2) => l7Under_calls a' n' c' B p W (h'.below hW) b71 hp)
  have HNA := hide (fun (W : World) (q : Nat × Nat) (hq : gdB q) (a1 : Option Addr) (n1 c1 : Nat) (r : RowAt strE W a1 (A.filter (preB (prT q)))) (hl : (A.filter (preB (prT q))).length = n1) => (show Calls Tryd.prog 16 #[.slice a1 n1 c1, .string (prT q)] W fun e w' => e = .returned (.string (ndB A q)) ∧ Below W.heap.size W w' from by
    rw [← nd_same]
    exact l7Node_calls (2 - q.1) (prT q) (by rw [prT_size hq]; have := hq.1; omega) a1 n1 c1 _ W (undTx hA _ r hl) (und71 hA _) (by have := und200 hA (prT q); omega)))
  have HNB := hide (fun (W : World) (q : Nat × Nat) (hq : gdB q) (a1 : Option Addr) (n1 c1 : Nat) (r : RowAt strE W a1 (B.filter (preB (prT q)))) (hl : (B.filter (preB (prT q))).length = n1) => (show Calls Tryd.prog 16 #[.slice a1 n1 c1, .string (prT q)] W fun e w' => e = .returned (.string (ndB B q)) ∧ Below W.heap.size W w' from by
    rw [← nd_same]
    exact l7Node_calls (2 - q.1) (prT q) (by rw [prT_size hq]; have := hq.1; omega) a1 n1 c1 _ W (undTx hB _ r hl) (und71 hB _) (by have := und200 hB (prT q); omega)))
  have HFA := hide (fun p => und200 hA p)
  have HFB := hide (fun p => und200 hB p)
  have HLA := hide (setB_all hA).1
  have HLB := hide (setB_all hB).1
  clear h h' hT hW3 hb3 a71 b71 hyes
  go_enter Tryd.func10, Tryd.ntmps10
  go_wp2_with fail
  rw [unhide HW]
  refine (unhide HSA).mono ?_
  rintro e w1 ⟨rfl, hb1⟩
  have HT1 := hide ((unhide HT).keep hb1)
  have HB1 := hide ((unhide HB3).trans (hb1.mono (unhide HB3).size))
  clear hb1 HT HB3 HSA HW
  go_wp2_with fail
  refine (unhide HSB _ (unhide HB1)).mono ?_
  rintro e w2 ⟨rfl, hb2⟩
  have HT2 := hide ((unhide HT1).keep hb2)
  have HB2 := hide (belOnT (unhide HB1) hb2)
  have hz2 := (unhide HB2).size
  have HA2 := hide (show Below w2.heap.size w2 (w2.alloc (.cells #[.string ByteArray.empty] 9)) from (Below.refl _ _).alloc (Nat.le_refl _) _)
  clear hb2 HT1 HB1 HSB
  go_wp2_with (at_builtin; refine appRAt (e := strE) rfl _ _ rfl (unhide HT2).o1 rfl ByteArray.empty rfl _ rfl rfl (by decide) hz2 ?_; intro v4 w4 hO4 hb4 hg4 hw4)
  obtain ⟨a4, c4, hv4⟩ := hO4.form
  have hT4 := ((unhide HT2).keep (unhide HA2)).app hO4 hg4 (by simpa using hw4)
  rw [show ([] ++ [ByteArray.empty] : List ByteArray).length = 1 from rfl] at hv4
  subst hv4
  have HT4 := hide hT4
  have HB4 := hide ((unhide HB2).trans hb4)
  clear hO4 hb4 hg4 hw4 hT4 HT2 HB2 HA2 hz2
  go_wp2_with fail
  go_loopw [8, 9, 10, 11, 12, 13, 14] (fun s8 s9 s10 s11 _ _ _ wr => ∃ (i m : Nat) (b1 b2 b3 : Option Addr) (d1 d2 d3 m2 m3 : Nat), s11 = .int .i64 i ∧ s8 = .slice b1 m d1 ∧ s9 = .slice b2 m2 d2 ∧ s10 = .slice b3 m3 d3 ∧ i ≤ m ∧ m ≤ 273 ∧ Hid ((stB (dfB A B) i).1.length = m) ∧ Hid (Tri wr w.heap.size (.slice b1 m d1) (.slice b2 m2 d2) (.slice b3 m3 d3) ((stB (dfB A B) i).1.map prT) ((stB (dfB A B) i).2.flatMap (lsB A B)) ((stB (dfB A B) i).2.flatMap (lsB B A))) ∧ Hid (Below w.heap.size w wr)) (fun _ _ _ s11 _ _ _ _ => 273 - (intOf s11).toNat)
  case atStart => exact ⟨0, 1, _, _, _, _, _, _, _, _, rfl, rfl, rfl, rfl, by omega, by omega, hide rfl, HT4, HB4⟩
  case round =>
    clear HT4 HB4
    obtain ⟨i, m, b1, b2, b3, d1, d2, d3, m2, m3, rfl, rfl, rfl, rfl, him, hm, HM, HT, HBw⟩ := hrel
    by_cases hlt : i < m
    · have hil : i < (stB (dfB A B) i).1.length := by rw [unhide HM]; exact hlt
      have hinv := stB_inv (dfB A B) i (by omega)
      obtain ⟨q, hq⟩ : ∃ q, (stB (dfB A B) i).1[i] = q := ⟨_, rfl⟩
      have hqi : (stB (dfB A B) i).1[i]? = some q := by rw [List.getElem?_eq_getElem hil, hq]
      have hgd : gdB q := hinv.good q (by rw [← hq]; exact List.getElem_mem _)
      obtain ⟨g, e1, hgl, hc, -⟩ := (unhide HT).o1.at.str i (by rw [List.length_map]; exact hil)
      rw [List.getElem_map, hq] at hc
      subst e1
      have hps := prT_size hgd
      have hq2 := hgd.1
      have HSM := hide (fun hd => stB_same (dfB A B) i q hqi hd)
      have HLF := hide (fun hd h2 => stB_leaf (dfB A B) i q hqi hd h2)
      have HMO := hide (fun hd h2 => stB_more (dfB A B) i q hqi hd h2)
      have HIN := hide (fun (hx : i + 1 ≤ (stB (dfB A B) (i + 1)).1.length) => (stB_inv (dfB A B) (i + 1) hx).len hx)
      have hfw := hinv.few
      have g2 : ((stB (dfB A B) i).2.flatMap (lsB A B)).length = m2 := by
        obtain ⟨x2, y2, f2⟩ := (unhide HT).o2.form
        injection f2 with f2a f2b f2c
        exact f2b.symm
      have g3 : ((stB (dfB A B) i).2.flatMap (lsB B A)).length = m3 := by
        obtain ⟨x3, y3, f3⟩ := (unhide HT).o3.form
        injection f3 with f3a f3b f3c
        exact f3b.symm
      have hml : m2 ≤ 200 * 273 ∧ m3 ≤ 200 * 273 := by
        have k2 := flat_le A B (unhide HLA) (stB (dfB A B) i).2
        have k3 := flat_le B A (unhide HLB) (stB (dfB A B) i).2
        rw [g2] at k2
        rw [g3] at k3
        omega
      have HL2 := hide g2
      have HL3 := hide g3
      clear g2 g3
      have HP1 := hide (unhide HUA wr (unhide HBw) (prT q) (by omega))
      have HP2 := hide (fun (W : World) (hW : Below wr.heap.size wr W) => unhide HUB W (belOnT (unhide HBw) hW) (prT q) (by omega))
      have HQA := hide (fun (W : World) (a1 : Option Addr) (n1 c1 : Nat) (r : RowAt strE W a1 (A.filter (preB (prT q)))) (hl : (A.filter (preB (prT q))).length = n1) => unhide HNA W q hgd a1 n1 c1 r hl)
      have HQB := hide (fun (W : World) (a1 : Option Addr) (n1 c1 : Nat) (r : RowAt strE W a1 (B.filter (preB (prT q)))) (hl : (B.filter (preB (prT q))).length = n1) => unhide HNB W q hgd a1 n1 c1 r hl)
      have HBE := hide (fun W => l7Below_calls (prT q) W (by omega))
      have HBX := hide (fun h1 => blw_sx hgd h1)
      have hfa := unhide HFA (prT q)
      have hfb := unhide HFB (prT q)
      have HLS := hide (show lsB A B q = (A.filter (preB (prT q))).filter fun x => !anyB (B.filter (preB (prT q))) x from rfl)
      have HLT := hide (show lsB B A q = (B.filter (preB (prT q))).filter fun x => !anyB (A.filter (preB (prT q))) x from rfl)
      have hdf : dfB A B q = decide (ndB A q ≠ ndB B q) := rfl
      have hl200 := lsB_len A B q (unhide HLA)
      have hr200 := lsB_len B A q (unhide HLB)
      generalize A.filter (preB (prT q)) = FA at HP1 HQA hfa HLS HLT
      generalize B.filter (preB (prT q)) = FB at HP2 HQB hfb HLS HLT
      generalize prT q = p at hc hps HP1 HP2 HQA HQB HBE HBX
      obtain ⟨ma, hma⟩ : ∃ ma, FA.length = ma := ⟨_, rfl⟩
      obtain ⟨mb, hmb⟩ : ∃ mb, FB.length = mb := ⟨_, rfl⟩
      rw [hma] at hfa
      rw [hmb] at hfb
      have HMA := hide hma
      have HMB := hide hmb
      have i0 : (0 : Int) ≤ (i : Int) := by omega
      have i1 : (i : Int) < (m : Int) := by omega
      clear hq hqi hil hinv hma hmb HUA HUB HNA HNB
      go_wp2_with fail
      refine (unhide HP1).mono ?_
      rintro e w1 ⟨v1, rfl, o1, hb1⟩
      obtain ⟨a1, c1, hv1⟩ := o1.form
      rw [unhide HMA] at hv1
      subst hv1
      have HR1 := hide o1
      have HX1 := hide hb1
      have HAP1 := hide (ApT.new (unhide HT).o2 o1 (Nat.le_refl _))
      clear o1 hb1 HP1 hc
      go_wp2_with fail
      refine (unhide HP2 _ (unhide HX1)).mono ?_
      rintro e w2 ⟨v2, rfl, o2, hb2⟩
      obtain ⟨a2, c2, hv2⟩ := o2.form
      rw [unhide HMB] at hv2
      subst hv2
      have HR2 := hide o2
      have HAP2 := hide (ApT.new (unhide HT).o2 o2 (unhide HX1).size)
      have HR12 := hide ((unhide HR1).keep hb2)
      have HX2 := hide (belOnT (unhide HX1) hb2)
      have HN1 := hide (unhide HQA w2 a1 ma c1 (unhide HR12).at (unhide HMA))
      clear o2 hb2 HP2 HR1 HX1 HQA
      go_wp2_with fail
      refine (unhide HN1).mono ?_
      rintro e w3 ⟨rfl, hb3⟩
      have HR13 := hide ((unhide HR12).keep hb3)
      have HR23 := hide ((unhide HR2).keep hb3)
      have HX3 := hide (belOnT (unhide HX2) hb3)
      have HN2 := hide (unhide HQB w3 a2 mb c2 (unhide HR23).at (unhide HMB))
      clear hb3 HR12 HR2 HX2 HQB HN1
      go_wp2_with fail
      refine (unhide HN2).mono ?_
      rintro e w4 ⟨rfl, hb4⟩
      have HR14 := hide ((unhide HR13).keep hb4)
      have HR24 := hide ((unhide HR23).keep hb4)
      have HX4 := hide (belOnT (unhide HX3) hb4)
      have HT4 := hide ((unhide HT).keep (unhide HX4))
      have HB4 := hide (belOnT (unhide HBw) (unhide HX4))
      have hz4 := (unhide HB4).size
      clear hb4 HR13 HR23 HX3 HN2 HT HX4
      by_cases heq : ndB A q = ndB B q
      · have hst := unhide HSM (by rw [hdf]; simp [heq])
        rw [heq]
        generalize ndB B q = Z
        have HST := hide hst
        have HML := hide (show (stB (dfB A B) (i + 1)).1.length = m from by rw [hst]; exact unhide HM)
        clear hst hdf heq HSM HLF HMO HIN
        go_wp2_with fail
        go_roundw
        case rel => exact ⟨i + 1, m, _, _, _, _, _, _, _, _, by go_num, rfl, rfl, rfl, by omega, by omega, HML, hide (by rw [unhide HST]; exact unhide HT4), HB4⟩
        case measure => simp [intOf]; omega
      · have hdt : dfB A B q = true := by rw [hdf]; simp [heq]
        have hne : ((ndB A q).toList == (ndB B q).toList) = false := by
          rw [beq_eq_false_iff_ne, ByteArray.toList_eq, ByteArray.toList_eq]
          intro e
          exact heq (ByteArray.ext (Array.toList_inj.1 e))
        generalize ndB A q = Z1 at hne ⊢
        generalize ndB B q = Z2 at hne ⊢
        by_cases h2 : q.1 = 2
        · have hst := unhide HLF hdt h2
          have HST := hide hst
          have HML := hide (show (stB (dfB A B) (i + 1)).1.length = m from by rw [hst]; exact unhide HM)
          have hp2 : ¬ ((p.size : Int) < 2) := by omega
          have HG1 := hide (l7Less_calls a1 ma c1 FA a2 mb c2 FB w4 (unhide HR14).at (unhide HMA) (by omega) (unhide HR24).at.strs (unhide HMB) (by omega))
          rw [← unhide HLS] at HG1
          clear hst hdf heq HSM HLF HMO HIN
          go_wp2_with fail
          refine (unhide HG1).mono ?_
          rintro e w5 ⟨v5, rfl, o5, hb5⟩
          obtain ⟨a5, c5, hv5⟩ := o5.form
          obtain ⟨m5, hm5⟩ : ∃ m5, (lsB A B q).length = m5 := ⟨_, rfl⟩
          rw [hm5] at hv5 hl200
          subst hv5
          have HT5 := hide ((unhide HT4).keep hb5)
          have HB5 := hide (belOnT (unhide HB4) hb5)
          have HR15 := hide ((unhide HR14).keep hb5)
          have HR25 := hide ((unhide HR24).keep hb5)
          have HO5 := hide o5
          have hz5 := (unhide HB5).size
          have HM5 := hide hm5
          have hlb : ((stB (dfB A B) i).2.flatMap (lsB A B)).length + m5 < 100000000 := by rw [unhide HL2]; omega
          clear o5 hb5 HT4 HB4 HR14 HR24 HG1 hm5
          go_wp2_with (at_builtin; refine appAt (e := strE) rfl _ _ rfl (unhide HT5).o2 rfl a5 m5 c5 rfl (unhide HM5) (unhide HO5).at (unhide HO5).adG hlb hz5 ?_; intro v6 w6 hO6 hb6 hg6 hw6)
          obtain ⟨a6, c6, hv6⟩ := hO6.form
          have hT6 := ((unhide HT5).rot.app hO6 hg6 hw6).rot.rot
          rw [List.length_append, unhide HL2, unhide HM5] at hv6
          subst hv6
          have HT6 := hide hT6
          have HB6 := hide ((unhide HB5).trans hb6)
          have hz6 := (unhide HB6).size
          have HR16 := hide (keptT (unhide HR15) (unhide HAP1) hg6)
          have HR26 := hide (keptT (unhide HR25) (unhide HAP2) hg6)
          have HG2 := hide (l7Less_calls a2 mb c2 FB a1 ma c1 FA w6 (unhide HR26).at (unhide HMB) (by omega) (unhide HR16).at.strs (unhide HMA) (by omega))
          rw [← unhide HLT] at HG2
          clear hO6 hb6 hg6 hw6 hT6 HT5 HB5 HR15 HR25 HR16 HR26 HO5
          go_wp2_with fail
          refine (unhide HG2).mono ?_
          rintro e w7 ⟨v7, rfl, o7, hb7⟩
          obtain ⟨a7, c7, hv7⟩ := o7.form
          obtain ⟨m7, hm7⟩ : ∃ m7, (lsB B A q).length = m7 := ⟨_, rfl⟩
          rw [hm7] at hv7 hr200
          subst hv7
          have HT7 := hide ((unhide HT6).keep hb7)
          have HB7 := hide (belOnT (unhide HB6) hb7)
          have HO7 := hide o7
          have hz7 := (unhide HB7).size
          have HM7 := hide hm7
          have hlc : ((stB (dfB A B) i).2.flatMap (lsB B A)).length + m7 < 100000000 := by rw [unhide HL3]; omega
          clear o7 hb7 HT6 HB6 HG2 hm7
          go_wp2_with (at_builtin; refine appAt (e := strE) rfl _ _ rfl (unhide HT7).o3 rfl a7 m7 c7 rfl (unhide HM7) (unhide HO7).at (unhide HO7).adG hlc hz7 ?_; intro v8 w8 hO8 hb8 hg8 hw8)
          obtain ⟨a8, c8, hv8⟩ := hO8.form
          have hT8 := ((unhide HT7).rot.rot.app hO8 hg8 hw8).rot
          rw [List.length_append, unhide HL3, unhide HM7] at hv8
          subst hv8
          have HT8 := hide hT8
          have HB8 := hide ((unhide HB7).trans hb8)
          clear hO8 hb8 hg8 hw8 hT8 HT7 HB7 HO7
          go_wp2_with fail
          go_roundw
          case rel => exact ⟨i + 1, m, _, _, _, _, _, _, _, _, by go_num, rfl, rfl, rfl, by omega, by omega, HML, hide (by rw [unhide HST]; simp only [List.flatMap_append, List.flatMap_cons, List.flatMap_nil, List.append_nil]; exact unhide HT8), HB8⟩
          case measure => simp [intOf]; omega
        · have hlt2 : q.1 < 2 := by omega
          have hst := unhide HMO hdt h2
          have HST := hide hst
          have hml2 : (stB (dfB A B) (i + 1)).1.length = m + 16 := by rw [hst]; simp only [List.length_append, sxB_len]; rw [unhide HM]
          have hm16 : m + 16 ≤ 273 := by
            have := unhide HIN (by rw [hml2]; omega)
            omega
          have HML := hide hml2
          have hp2 : ((p.size : Int) < 2) := by omega
          have hbx := unhide HBX hlt2
          rw [hbx] at HBE
          have HLA1 := hide (show ((stB (dfB A B) i).1.map prT).length = m from by rw [List.length_map]; exact unhide HM)
          have HL16 := hide (show ((sxB q).map prT).length = 16 from by rw [List.length_map, sxB_len])
          clear hst hdf heq HSM HLF HMO HIN hbx HBX hml2
          go_wp2_with fail
          refine (unhide HBE _).mono ?_
          rintro e w5 ⟨v5, rfl, o5, hb5⟩
          obtain ⟨a5, c5, hv5⟩ := o5.form
          rw [unhide HL16] at hv5
          subst hv5
          have HT5 := hide ((unhide HT4).keep hb5)
          have HB5 := hide (belOnT (unhide HB4) hb5)
          have HO5 := hide o5
          have hz5 := (unhide HB5).size
          have hlb : ((stB (dfB A B) i).1.map prT).length + 16 < 100000000 := by rw [unhide HLA1]; omega
          clear o5 hb5 HT4 HB4 HR14 HR24 HBE
          go_wp2_with (at_builtin; refine appAt (e := strE) rfl _ _ rfl (unhide HT5).o1 rfl a5 16 c5 rfl (unhide HL16) (unhide HO5).at (unhide HO5).adG hlb hz5 ?_; intro v6 w6 hO6 hb6 hg6 hw6)
          obtain ⟨a6, c6, hv6⟩ := hO6.form
          have hT6 := (unhide HT5).app hO6 hg6 hw6
          rw [List.length_append, unhide HLA1, unhide HL16] at hv6
          subst hv6
          have HT6 := hide hT6
          have HB6 := hide ((unhide HB5).trans hb6)
          clear hO6 hb6 hg6 hw6 hT6 HT5 HB5 HO5
          go_wp2_with fail
          go_roundw
          case rel => exact ⟨i + 1, m + 16, _, _, _, _, _, _, _, _, by go_num, rfl, rfl, rfl, by omega, by omega, HML, hide (by rw [unhide HST]; simp only [List.map_append]; exact unhide HT6), HB6⟩
          case measure => simp [intOf]; omega
    · obtain rfl : i = m := by omega
      have hfin := stB_fin (dfB A B) i (unhide HM)
      have hT := unhide HT
      rw [hfin] at hT
      have HTF := hide hT
      clear hT hfin HT
      go_wp2_with fail
      exact bodyPost_ret (v := .tuple #[_, _, _, .bool true]) (by simp [results, Tryd.results10, go_sem]) rfl ⟨_, _, _, rfl, (unhide HTF).o1, (unhide HTF).o2, (unhide HTF).o3, unhide HBw⟩
end Go.Proofs.YtldgkpnlplfopaaDoor
