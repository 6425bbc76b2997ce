/- Two unlike sets with one node: whether there are such, as the laws ask it. -/
import Derived.Test.YtldgkpnlplfopaaGreatDoorFdM
import Derived.Test.YtldgkpnlplfopaaGreatDoorDzA
import Derived.Test.YtldgkpnlplfopaaGreatDoorKzA
namespace Go.Proofs.YtldgkpnlplfopaaGreatDoor
open Go.RowKit Go.Maps Plain
open Classical
set_option linter.unusedVariables false

theorem ne_beq {x y : ByteArray} (h : x ≠ y) : (x.toList == y.toList) = false := by
  rw [beq_eq_false_iff_ne, ByteArray.toList_eq, ByteArray.toList_eq]
  intro e
  exact h (ByteArray.ext (Array.toList_inj.1 e))

set_option maxRecDepth 10000 in
set_option maxHeartbeats 2000000 in
theorem sameT_calls (a1 a2 : Option Addr) (c1 c2 n m : Nat) (ls ms : List ByteArray) (w : World) (hn : ls.length = n) (hm : ms.length = m) (hn2 : n ≤ 100000000) (hm2 : m ≤ 100000000) (h1 : StrsAt w a1 ls) (h2 : StrsAt w a2 ms) :
    Calls Tryz.prog 11 #[.slice a1 n c1, .slice a2 m c2] w fun e w' => e = .returned (.bool (decide (ls = ms))) ∧ Below w.heap.size w w' := by
  by_cases hnm : n = m
  case neg =>
    have hne : ((n : Int) == (m : Int)) = false := by rw [beq_eq_false_iff_ne]; omega
    have hd : decide (ls = ms) = false := decide_eq_false (fun e => hnm (by rw [← hn, ← hm, e]))
    rw [hd]
    clear h1 h2 hn hm
    go_enter Tryz.func11, Tryz.ntmps11
    go_wp2_with fail
    go_ret
    exact ⟨rfl, Below.refl _ _⟩
  case pos =>
    subst hnm
    have H1 := hide h1
    have H2 := hide h2
    have HN := hide hn
    have HM := hide hm
    clear h1 h2 hn hm
    obtain ⟨r, hr⟩ : ∃ r, decide (ls = ms) = r := ⟨_, rfl⟩
    have HR := hide hr
    rw [hr]
    clear hr
    go_enter Tryz.func11, Tryz.ntmps11
    go_wp2_with fail
    go_loopw [5] (fun i wr => ∃ (k : Nat), i = .int .i64 k ∧ k ≤ n ∧ Hid (ls.take k = ms.take k) ∧ Hid (Below w.heap.size w wr)) (fun i _ => n - (intOf i).toNat)
    case atStart => exact ⟨0, rfl, by omega, hide rfl, hide (Below.refl _ _)⟩
    case round =>
      obtain ⟨k, rfl, hk, HE, HB⟩ := hrel
      by_cases hlt : k < n
      · have k1 : k < ls.length := by rw [unhide HN]; exact hlt
        have k2 : k < ms.length := by rw [unhide HM]; exact hlt
        obtain ⟨g1, o1, e1, l1, p1⟩ := (unhide H1).below (unhide HB) k k1
        obtain ⟨g2, o2, e2, l2, p2⟩ := (unhide H2).below (unhide HB) k k2
        have HX := hide (fun (e : ls[k] = ms[k]) => (show ls.take (k + 1) = ms.take (k + 1) from by rw [List.take_succ_eq_append_getElem k1, List.take_succ_eq_append_getElem k2, unhide HE, e]))
        have HY := hide (fun (e : ls[k] ≠ ms[k]) => (show r = false from by
          rw [← unhide HR]
          refine decide_eq_false fun q => e ?_
          subst q
          rfl))
        generalize ls[k] = x at p1 HX HY
        generalize ms[k] = y at p2 HX HY
        subst e1 e2
        have i0 : (0 : Int) ≤ (k : Int) := by omega
        have i1 : (k : Int) < (n : Int) := by omega
        by_cases hxy : x = y
        · subst hxy
          have HX1 := hide (unhide HX rfl)
          clear HX HY
          go_wp2_with fail
          go_region
          all_goals (try go_wp2_with fail)
          all_goals exact ⟨⟨k + 1, by go_num, by omega, HX1, hide (belDrew (unhide HB))⟩, by simp [intOf]; omega⟩
        · have hb := ne_beq hxy
          have hrf := unhide HY hxy
          subst hrf
          clear HX HY HR
          go_wp2_with fail
          go_region
          all_goals (try go_wp2_with fail)
          all_goals go_ret
          all_goals exact ⟨rfl, belDrew (unhide HB)⟩
      · obtain rfl : k = n := by omega
        have hE := unhide HE
        rw [List.take_of_length_le (by rw [unhide HN]; exact Nat.le_refl _), List.take_of_length_le (by rw [unhide HM]; exact Nat.le_refl _)] at hE
        obtain rfl : r = true := by rw [← unhide HR]; exact decide_eq_true hE
        clear hE HE HR
        go_wp2_with fail
        go_ret
        exact ⟨rfl, unhide HB⟩

namespace Plain
theorem und_at {A : List ByteArray} (hA : setB A = true) {q : Nat × Nat} (hq : gdB q) : undL A (prT q) = A.filter (preB (prT q)) := by
  unfold undL
  rw [hA, prT_ok hq]
  simp
theorem ndT_at {A : List ByteArray} (hA : setB A = true) {q : Nat × Nat} (hq : gdB q) : ndT A (prT q) = ndB A q ∧ (setB A && prB (prT q)) = true := by
  have h2 : (setB A && prB (prT q)) = true := by rw [hA, prT_ok hq]; rfl
  refine ⟨?_, h2⟩
  unfold ndT
  rw [h2, prT_size hq]
  rfl
theorem noCl_of {A B : List ByteArray} (h : ∀ q ∈ askB (udB A B), udB A B q = true → ndB A q ≠ ndB B q) : noCl A B := fun q hq hu => h q (reach hq hu) hu
end Plain

set_option maxRecDepth 10000 in
set_option maxHeartbeats 8000000 in
theorem clash_calls (a : Option Addr) (n c : Nat) (A : List ByteArray) (a' : Option Addr) (n' c' : Nat) (B : List ByteArray) (w : World) (h : TxtsAt w a n A) (h' : TxtsAt w a' n' B) (hA : setB A = true) (hB : setB B = true) :
    Calls Tryz.prog 8 #[.slice a n c, .slice a' n' c'] w fun e w' => ∃ r, e = .returned (.bool r) ∧ (r = false → noCl A B) ∧ Below w.heap.size w w' := by
  have HUA := hide (fun (W : World) (hW : Below w.heap.size w W) (q : Nat × Nat) (hq : gdB q) => (show Calls Tryz.prog 28 #[.slice a n c, .string (prT q)] W fun e w' => ∃ v, e = .returned v ∧ OwnR strE w' W.heap.size v (A.filter (preB (prT q))) ∧ Below W.heap.size W w' from by
    have := spec_Under a n c A (prT q) W (h.below hW) (by rw [prT_size hq]; have := hq.1; omega)
    rw [und_at hA hq] at this
    exact this))
  have HUB := hide (fun (W : World) (hW : Below w.heap.size w W) (q : Nat × Nat) (hq : gdB q) => (show Calls Tryz.prog 28 #[.slice a' n' c', .string (prT q)] W fun e w' => ∃ v, e = .returned v ∧ OwnR strE w' W.heap.size v (B.filter (preB (prT q))) ∧ Below W.heap.size W w' from by
    have := spec_Under a' n' c' B (prT q) W (h'.below hW) (by rw [prT_size hq]; have := hq.1; omega)
    rw [und_at hB hq] at this
    exact this))
  have HNA := hide (fun (W : World) (hW : Below w.heap.size w W) (q : Nat × Nat) (hq : gdB q) => (show Calls Tryz.prog 29 #[.slice a n c, .string (prT q)] W fun e w' => e = .returned (.tuple #[.string (ndB A q), .bool true]) ∧ Below W.heap.size W w' from by
    have := spec_NodeOf a n c A (prT q) W (h.below hW) (by rw [prT_size hq]; have := hq.1; omega)
    rw [(ndT_at hA hq).1, (ndT_at hA hq).2] at this
    exact this))
  have HNB := hide (fun (W : World) (hW : Below w.heap.size w W) (q : Nat × Nat) (hq : gdB q) => (show Calls Tryz.prog 29 #[.slice a' n' c', .string (prT q)] W fun e w' => e = .returned (.tuple #[.string (ndB B q), .bool true]) ∧ Below W.heap.size W w' from by
    have := spec_NodeOf a' n' c' B (prT q) W (h'.below hW) (by rw [prT_size hq]; have := hq.1; omega)
    rw [(ndT_at hB hq).1, (ndT_at hB hq).2] at this
    exact this))
  have HFA := hide (fun q => (show (A.filter (preB (prT q))).length ≤ 200 from Nat.le_trans (List.length_filter_le _ _) (setB_all hA).1))
  have HFB := hide (fun q => (show (B.filter (preB (prT q))).length ≤ 200 from Nat.le_trans (List.length_filter_le _ _) (setB_all hB).1))
  obtain ⟨d, hd⟩ : ∃ d, udB A B = d := ⟨_, rfl⟩
  have HD := hide (fun q => (show d q = decide (A.filter (preB (prT q)) ≠ B.filter (preB (prT q))) from by rw [← hd]; rfl))
  have HEN := hide (fun (hx : ∀ q ∈ askB d, d q = true → ndB A q ≠ ndB B q) => noCl_of (A := A) (B := B) (by rw [hd]; exact hx))
  have hO0 : OwnR strE (w.alloc (.cells #[.string ByteArray.empty] 9)) w.heap.size (.slice (some ⟨w.heap.size, 0, none⟩) 1 1) ((stB d 0).1.map prT) := by
    refine ⟨by simp [stB, strE], .inr ⟨w.heap.size, 1, #[.string ByteArray.empty], rfl, Nat.le_refl _, heap_alloc_new _ _, by simp [stB], by unfold maxLen; omega, by simp [strE], ?_⟩⟩
    simp [stB, strE, prT]
  have HO0 := hide hO0
  have HB0 := hide (show Below w.heap.size w (w.alloc (.cells #[.string ByteArray.empty] 9)) from (Below.refl _ _).alloc (Nat.le_refl _) _)
  clear h h' hA hB hd hO0
  go_enter Tryz.func8, Tryz.ntmps8
  go_wp2_with fail
  go_loopw [5, 6, 7, 8, 9, 10, 11, 12] (fun s5 s6 _ _ _ _ _ _ wr => ∃ (i m : Nat) (b1 : Option Addr) (d1 : Nat), s6 = .int .i64 i ∧ s5 = .slice b1 m d1 ∧ i ≤ m ∧ m ≤ 273 ∧ Hid ((stB d i).1.length = m) ∧ Hid (∀ j, j < i → ∀ q, (stB d i).1[j]? = some q → d q = true → ndB A q ≠ ndB B q) ∧ Hid (OwnR strE wr w.heap.size (.slice b1 m d1) ((stB d i).1.map prT)) ∧ Hid (Below w.heap.size w wr)) (fun _ s6 _ _ _ _ _ _ _ => 273 - (intOf s6).toNat)
  case atStart => exact ⟨0, 1, _, _, rfl, rfl, by omega, by omega, hide rfl, hide (fun j hj => by omega), HO0, HB0⟩
  case round =>
    clear HO0 HB0
    obtain ⟨i, m, b1, d1, rfl, rfl, him, hm, HM, HC, HO, HBw⟩ := hrel
    by_cases hlt : i < m
    · have hil : i < (stB d i).1.length := by rw [unhide HM]; exact hlt
      have hinv := stB_inv d i (by omega)
      obtain ⟨q, hq⟩ : ∃ q, (stB d i).1[i] = q := ⟨_, rfl⟩
      have hqi : (stB d i).1[i]? = some q := by rw [List.getElem?_eq_getElem hil, hq]
      have hgd : gdB q := hinv.good q (by rw [← hq]; exact List.getElem_mem _)
      obtain ⟨g, e1, hgl, hc, -⟩ := (unhide HO).at.str i (by rw [List.length_map]; exact hil)
      rw [List.getElem_map, hq] at hc
      subst e1
      have hps := prT_size hgd
      have HSM := hide (fun hd => stB_same d i q hqi hd)
      have HLF := hide (fun hd h2 => stB_leaf d i q hqi hd h2)
      have HMO := hide (fun hd h2 => stB_more d i q hqi hd h2)
      have HIN := hide (fun (hx : i + 1 ≤ (stB d (i + 1)).1.length) => (stB_inv d (i + 1) hx).len hx)
      have HCN := hide (fun (hs : ∃ t, (stB d (i + 1)).1 = (stB d i).1 ++ t) (hn : d q = true → ndB A q ≠ ndB B q) => (show ∀ j, j < i + 1 → ∀ x, (stB d (i + 1)).1[j]? = some x → d x = true → ndB A x ≠ ndB B x from by
        obtain ⟨t, ht⟩ := hs
        intro j hj x hx hdx
        rw [ht, List.getElem?_append_left (by omega)] at hx
        by_cases e : j = i
        · subst e
          rw [hqi] at hx
          cases hx
          exact hn hdx
        · exact unhide HC j (by omega) x hx hdx))
      have HDQ := hide (unhide HD q)
      have HP1 := hide (unhide HUA wr (unhide HBw) q hgd)
      have HP2 := hide (fun (W : World) (hW : Below wr.heap.size wr W) => unhide HUB W (belOnT (unhide HBw) hW) q hgd)
      have HQ1 := hide (fun (W : World) (hW : Below wr.heap.size wr W) => unhide HNA W (belOnT (unhide HBw) hW) q hgd)
      have HQ2 := hide (fun (W : World) (hW : Below wr.heap.size wr W) => unhide HNB W (belOnT (unhide HBw) hW) q hgd)
      have hfa := unhide HFA q
      have hfb := unhide HFB q
      have HBX := hide (fun h1 => blw_sx hgd h1)
      have hq2 := hgd.1
      generalize A.filter (preB (prT q)) = FA at HP1 HDQ hfa
      generalize B.filter (preB (prT q)) = FB at HP2 HDQ hfb
      obtain ⟨p, hp⟩ : ∃ p, prT q = p := ⟨_, rfl⟩
      rw [hp] at hc hps HP1 HP2 HQ1 HQ2 HBX
      obtain ⟨ma, hma⟩ : ∃ ma, FA.length = ma := ⟨_, rfl⟩
      obtain ⟨mb, hmb⟩ : ∃ mb, FB.length = mb := ⟨_, rfl⟩
      rw [hma] at hfa
      rw [hmb] at hfb
      have HMA := hide hma
      have HMB := hide hmb
      have i0 : (0 : Int) ≤ (i : Int) := by omega
      have i1 : (i : Int) < (m : Int) := by omega
      clear hq hqi hil hinv hma hmb hgd hp
      go_wp2_with fail
      refine (unhide HP1).mono ?_
      rintro e w1 ⟨v1, rfl, o1, hb1⟩
      obtain ⟨a1, c1, hv1⟩ := o1.form
      rw [unhide HMA] at hv1
      subst hv1
      have HR1 := hide o1.at
      have HX1 := hide hb1
      clear o1 hb1 HP1 hc
      go_wp2_with fail
      refine (unhide HP2 _ (unhide HX1)).mono ?_
      rintro e w2 ⟨v2, rfl, o2, hb2⟩
      obtain ⟨a2, c2, hv2⟩ := o2.form
      rw [unhide HMB] at hv2
      subst hv2
      have HX2 := hide (belOnT (unhide HX1) hb2)
      have HST := hide (sameT_calls a1 a2 c1 c2 ma mb FA FB w2 (unhide HMA) (unhide HMB) (by omega) (by omega) ((unhide HR1).below hb2).strs o2.at.strs)
      clear o2 hb2 HP2 HR1 HX1
      go_wp2_with fail
      refine (unhide HST).mono ?_
      rintro e w3 ⟨rfl, hb3⟩
      have HX3 := hide (belOnT (unhide HX2) hb3)
      clear hb3 HST HX2
      by_cases hab : FA = FB
      · have hdq : d q = false := by rw [unhide HDQ]; simp [hab]
        have hst := unhide HSM hdq
        have HML := hide (show (stB d (i + 1)).1.length = m from by rw [hst]; exact unhide HM)
        have HC1 := hide (unhide HCN ⟨[], by rw [hst, List.append_nil]⟩ (fun h => by rw [hdq] at h; cases h))
        have HO1 := hide (show OwnR strE w3 w.heap.size (.slice (some ⟨g, 0, none⟩) m d1) ((stB d (i + 1)).1.map prT) from by rw [hst]; exact (unhide HO).keep (unhide HX3))
        have HB3 := hide (belOnT (unhide HBw) (unhide HX3))
        rw [decide_eq_true hab]
        clear hst hdq HSM HLF HMO HIN HCN HC HO hab
        go_wp2_with fail
        go_roundw
        case rel => exact ⟨i + 1, m, _, _, by go_num, rfl, by omega, by omega, HML, HC1, HO1, HB3⟩
        case measure => simp [intOf]; omega
      · have hdq : d q = true := by rw [unhide HDQ]; simp [hab]
        rw [decide_eq_false hab]
        have HN1 := hide (unhide HQ1 w3 (unhide HX3))
        go_wp2_with fail
        refine (unhide HN1).mono ?_
        rintro e w4 ⟨rfl, hb4⟩
        have HX4 := hide (belOnT (unhide HX3) hb4)
        have HN2 := hide (unhide HQ2 w4 (unhide HX4))
        clear hb4 HX3 HN1 HQ1 HQ2
        go_wp2_with fail
        refine (unhide HN2).mono ?_
        rintro e w5 ⟨rfl, hb5⟩
        have HX5 := hide (belOnT (unhide HX4) hb5)
        have HB5 := hide (belOnT (unhide HBw) (unhide HX5))
        clear hb5 HX4 HN2
        by_cases heq : ndB A q = ndB B q
        · rw [heq]
          generalize ndB B q = Z
          go_wp2_with fail
          go_ret
          exact ⟨true, rfl, (fun h => by cases h), unhide HB5⟩
        · have hne := ne_beq heq
          have HO5 := hide ((unhide HO).keep (unhide HX5))
          have HC1 := hide (fun hs => unhide HCN hs (fun _ => heq))
          have HLM := hide (show ((stB d i).1.map prT).length = m from by rw [List.length_map]; exact unhide HM)
          generalize ndB A q = Z1 at hne ⊢
          generalize ndB B q = Z2 at hne ⊢
          clear heq HC HCN HO HSM HX5
          go_wp2_with fail
          go_loopw [5, 12] (fun s5 s12 wq => ∃ (k : Nat) (ta : Option Addr) (tc mk : Nat), s12 = .int .i64 k ∧ s5 = .slice ta mk tc ∧ k ≤ 16 ∧ (q.1 = 2 → k = 0) ∧ Hid (mk = m + k) ∧ Hid (OwnR strE wq w.heap.size (.slice ta mk tc) ((stB d i).1.map prT ++ blwL p k)) ∧ Hid (Below w.heap.size w wq)) (fun _ s12 _ => 16 - (intOf s12).toNat)
          case atStart => exact ⟨0, _, _, _, rfl, rfl, by omega, fun _ => rfl, hide rfl, hide (by simpa [blwL] using unhide HO5), HB5⟩
          case round =>
            clear HO5 HB5 hne
            obtain ⟨k, ta, tc, mk, rfl, rfl, hk, hk0, HMK, HO, HB⟩ := hrel
            by_cases h2 : q.1 = 2
            · have hk00 := hk0 h2
              subst hk00
              have hst := unhide HLF hdq h2
              obtain rfl : mk = m := by have := unhide HMK; omega
              have HML := hide (show (stB d (i + 1)).1.length = mk from by rw [hst]; exact unhide HM)
              have HC2 := hide (unhide HC1 ⟨[], by rw [hst, List.append_nil]⟩)
              have hO1 := unhide HO
              rw [show (stB d i).1.map prT ++ blwL p 0 = (stB d (i + 1)).1.map prT from by rw [hst]; simp [blwL]] at hO1
              have HO1 := hide hO1
              clear hO1
              have hp2 : ¬ ((p.size : Int) < 2) := by omega
              clear hst HLF HMO HIN HC1 HO hk0 HMK
              go_wp2_with fail
              go_roundw
              case rel => exact ⟨i + 1, mk, _, _, by go_num, rfl, by omega, by omega, HML, HC2, HO1, HB⟩
              case measure => simp [intOf]; omega
            · have hlt2 : q.1 < 2 := by omega
              have hp2 : ((p.size : Int) < 2) := by omega
              by_cases hk16 : k < 16
              · have HNX := hide (blwL_next p k)
                have HLE := hide (show ((stB d i).1.map prT ++ blwL p k).length = mk from by rw [List.length_append, unhide HLM, blwL_len]; exact (unhide HMK).symm)
                have hex := hx_ext ⟨k, hk16⟩
                simp only at hex
                have j0 : (0 : Int) ≤ (k : Int) := by omega
                have j1 : (k : Int) < 16 := by omega
                have hBz := (unhide HB).size
                obtain ⟨j, hj⟩ : ∃ j : Nat, k + 1 = j := ⟨_, rfl⟩
                have e1 : (k : Int) + 1 = (j : Int) := by omega
                rw [hj] at hex HNX
                have hds := dgC_size k
                generalize dgC k = D at hex HNX hds
                obtain ⟨T, hT⟩ : ∃ T, p ++ D = T := ⟨_, rfl⟩
                rw [hT] at HNX
                have j2 : (k : Int) ≤ (j : Int) := by omega
                have j3 : (j : Int) ≤ 16 := by omega
                have hmkb : mk ≤ 300 := by have := unhide HMK; omega
                go_wp2_with (at_builtin; refine appR (e := strE) rfl _ _ rfl (unhide HO) rfl T rfl _ rfl rfl (by rw [unhide HLE]; omega) hBz ?_; intro v5 w6 hO6 hb6 _; obtain ⟨a6, c6, hv6⟩ := hO6.form; rw [List.length_append, unhide HLE, List.length_singleton] at hv6; subst hv6; have HO6 := hide hO6; have HB6 := hide ((unhide HB).trans hb6); clear hO6 hb6)
                go_roundw
                case rel => exact ⟨j, a6, c6, mk + 1, by first | rfl | go_num, rfl, by omega, (fun h => absurd h h2), hide (by rw [unhide HMK]; omega), hide (by rw [unhide HNX, ← List.append_assoc]; exact unhide HO6), HB6⟩
                case measure => simp [intOf]; omega
              · obtain rfl : k = 16 := by omega
                have hst := unhide HMO hdq h2
                have hml2 : (stB d (i + 1)).1.length = m + 16 := by rw [hst]; simp only [List.length_append, sxB_len]; rw [unhide HM]
                have hm16 : m + 16 ≤ 273 := by
                  have := unhide HIN (by rw [hml2]; omega)
                  omega
                obtain rfl : mk = m + 16 := unhide HMK
                have HML := hide hml2
                have HC2 := hide (unhide HC1 ⟨sxB q, by rw [hst]⟩)
                have hO1 := unhide HO
                rw [show (stB d i).1.map prT ++ blwL p 16 = (stB d (i + 1)).1.map prT from by rw [hst]; simp only [List.map_append]; rw [← unhide HBX hlt2]] at hO1
                have HO1 := hide hO1
                clear hO1
                clear hst hml2 HLF HMO HIN HC1 HO hk0 HMK
                go_wp2_with fail
                go_roundw
                case rel => exact ⟨i + 1, m + 16, _, _, by go_num, rfl, by omega, by omega, HML, HC2, HO1, HB⟩
                case measure => simp [intOf]; omega
    · obtain rfl : i = m := by omega
      have hfin := stB_fin d i (unhide HM)
      have HX := hide (unhide HEN (fun q hq hdq => by
        have e : (stB d i).1 = askB d := by rw [hfin]
        rw [← e] at hq
        obtain ⟨j, hj, hjq⟩ := List.mem_iff_getElem.1 hq
        exact unhide HC j (by rw [unhide HM] at hj; exact hj) q (by rw [List.getElem?_eq_getElem hj, hjq]) hdq))
      clear hfin HC HO
      go_wp2_with fail
      go_ret
      exact ⟨false, rfl, fun _ => unhide HX, unhide HBw⟩
end Go.Proofs.YtldgkpnlplfopaaGreatDoor
