/- What was saved is recovered: the walk. -/
import Derived.Test.YtakalfckhailjaaGreatGBI
import Derived.Test.YtakalfckhailjaaGreatGBE
import Derived.Test.YtakalfckhailjaaGreatGBF
import Derived.Test.YtakalfckhailjaaGreatSeT
import Derived.Test.YtakalfckhailjaaGreatSeY
import Derived.Test.YtakalfckhailjaaGreatSvvI
import Derived.Test.YtakalfckhailjaaGreatSvvS
import Derived.Test.YtakalfckhailjaaGreatRecI
import Derived.Test.YtakalfckhailjaaGreatGAB
import Derived.Test.YtakalfckhailjaaGreatGAV
import Derived.Test.YtakalfckhailjaaGreatGAE
import Derived.Test.YtakalfckhailjaaGreatSeJ
import Derived.Deep.DeepCutAuto
namespace Go.Proofs.YtakalfckhailjaaGreat
open Go.RowKit Plain
set_option linter.unusedVariables false

theorem Plain.rowFrom {W : World} {g K : Nat} {xs ys : List Ent} (h : RowAt entE W (some ⟨g, 0, none⟩) (xs ++ ys)) (hx : xs.length = K) : RowO entE W (some ⟨g, K * 3, none⟩) ys := fun i hi => by
  obtain ⟨g', e1, hl, h1⟩ := h (K + i) (by rw [List.length_append]; omega)
  cases e1
  refine ⟨g, K * 3, rfl, hl, fun j hj => ?_⟩
  have q := h1 j hj
  have e : (K + i) * entE.n + j = K * 3 + i * entE.n + j := by show (K + i) * 3 + j = K * 3 + i * 3 + j; omega
  have e3 : (xs ++ ys)[K + i]'(by rw [List.length_append]; omega) = ys[i] := by
    rw [List.getElem_append_right (by omega)]
    congr 1
    omega
  rw [e, e3] at q
  exact q

set_option maxRecDepth 10000 in
set_option maxHeartbeats 8000000 in
theorem rcv_walk (a0 : Option Addr) (len0 cap0 : Nat) (z0 : List Int) (a1 : Option Addr) (len1 cap1 : Nat) (z1 : List Int) (w : World) (h0 : IsRow .u8 w a0 len0 cap0 z0) (h1 : IsRow .u8 w a1 len1 cap1 z1) (hl0 : len0 ≤ 1048576) (hl1 : len1 ≤ 1048576) :
    Calls Tryz.prog 3 #[.slice a0 len0 cap0, .slice a1 len1 cap1] w fun e w' => e = .returned (.bool true) ∧ Below w.heap.size w w' := by
  have H0 := hide h0
  have H1 := hide h1
  have d0 : decide (1048576 < (len0 : Int)) = false := by simp; omega
  have d1 : decide (1048576 < (len1 : Int)) = false := by simp; omega
  have m0 := h0.len
  have m1 := h1.len
  clear h0 h1
  go_enter Tryz.func3, Tryz.ntmps3
  go_wp2_with fail
  refine (big_calls a0 len0 cap0 _ m0).mono ?_
  rintro e w1 ⟨rfl, rfl⟩
  rw [d0]
  go_wp2_with fail
  refine (big_calls a1 len1 cap1 _ m1).mono ?_
  rintro e w1 ⟨rfl, rfl⟩
  rw [d1]
  go_wp2_with fail
  refine (DrawSaveEntries_calls a0 len0 cap0 z0 _ (unhide H0) hl0).mono ?_
  rintro e w1 ⟨aL, cL, L, aS, cS, S, aO, cO, f, ae, ce, es, rfl, ⟨r1, r2, r3⟩, ⟨ad1, ad2, ad3, adE⟩, hF, ⟨hel, heb⟩, ⟨n1, n2, n3⟩, hb1⟩
  have HB1 := hide hb1
  have hz1 : w.heap.size ≤ w1.heap.size := hb1.size
  have HQ := hide (fun (W : World) (hW : Below w1.heap.size w1 W) => And.intro (show DiskAt W aL L.length cL L aS S.length cS S aO 0 cO [] from ⟨r1.below hW, r2.below hW, fun i hi => absurd hi (by simp), rfl, rfl, rfl, ad1, ad2, ad3, hF.1, hF.2.1, fun o ho => (by cases ho), hF.2.2.1, hF.2.2.2, Nat.zero_le _⟩) (r3.below hW))
  have HSP := hide (fun (W : World) (hW : Below w1.heap.size w1 W) => spec_SaveEntriesQ aL L.length cL L aS S.length cS S aO 0 cO [] f ae es.length ce es W (unhide HQ W hW).1 (unhide HQ W hW).2 rfl (by omega) (fun x hx => Nat.le_trans (heb x hx) (by decide)) adE)
  have HIP := hide (fun (W : World) (hW : Below w1.heap.size w1 W) => impl_SaveEntries aL L.length cL L aS S.length cS S aO 0 cO [] f ae es.length ce es W (unhide HQ W hW).1 (unhide HQ W hW).2 rfl (by omega) (fun x hx => Nat.le_trans (heb x hx) (by decide)) adE)
  unfold SpcQ at HSP
  unfold DskPost at HIP
  have hZ := se_zero (live := L) (safe := S) (ops := []) (fm := f) (xs := es)
  generalize dnC L S [] (seB L S [] f es) 11 (seX L S [] f es) = C at HSP HIP hZ
  generalize dnL L S [] (seB L S [] f es) (seX L S [] f es) = L1 at HSP HIP hZ
  generalize dnS L S [] (seB L S [] f es) (seX L S [] f es) = S1 at HSP HIP hZ
  generalize dnO L S [] (seB L S [] f es) (seX L S [] f es) = O1 at HSP HIP hZ
  have HZ := hide hZ
  have HEB := hide heb
  clear r1 r2 r3 ad1 ad2 ad3 adE hF heb n1 n2 n3 hb1 hZ
  obtain ⟨W2, hW2⟩ : ∃ W2, W2 = w1.alloc (.cells #[.slice aL L.length cL, .slice aS S.length cS, .slice aO 0 cO] 27) := ⟨_, rfl⟩
  have HK2 := hide (show DC w1.heap.size (.slice aL L.length cL) (.slice aS S.length cS) (.slice aO 0 cO) W2 from by rw [hW2]; exact DC.new _ _ _ _ _ _ _ _ _ _)
  have HB2 := hide (show Below w1.heap.size w1 W2 from by rw [hW2]; exact bel1 _ _)
  have HW2 := hide hW2.symm
  clear hW2
  go_wp2_with fail
  rw [unhide HW2]
  refine (unhide HSP W2 (unhide HB2)).mono ?_
  rintro e w' ⟨xL, kL, xS, kS, xO, kO, rfl, -, -, -, -, -, -, -, hb2⟩
  obtain ⟨w3, hw3⟩ : ∃ w3, w3 = w'.alloc (.cells #[.slice xL L1.length kL, .slice xS S1.length kS, .slice xO O1.length kO] 27) := ⟨_, rfl⟩
  have hb3 : Below W2.heap.size W2 w3 := by rw [hw3]; exact belOn hb2 (bel1 _ _)
  have HB3 := hide (belOn (unhide HB2) hb3)
  have HK3 := hide ((unhide HK2).below hb3)
  have HW3 := hide hw3.symm
  clear hb2 hb3 hw3 HK2 HB2
  go_upto_region 5 with fail
  rw [unhide HW3]
  obtain ⟨-, c0, c1, c2⟩ := unhide HK3
  go_wp2_with fail
  refine (unhide HIP w3 (unhide HB3)).mono ?_
  rintro e w4 ⟨bL, dL, bS, dS, bO, dO, rfl, o1, o2, o3, -, hb4⟩
  have hzw : w1.heap.size < w4.heap.size := by have := (unhide HK3).lt; have := hb4.size; omega
  obtain ⟨W5, hW5⟩ : ∃ W5, W5 = w4.alloc (.cells #[.slice bL L1.length dL, .slice bS S1.length dS, .slice bO O1.length dO] 27) := ⟨_, rfl⟩
  have hb5 : Below w3.heap.size w3 W5 := by rw [hW5]; exact belOn hb4 (bel1 _ _)
  have HO5 := hide (show (RowAt fileE W5 bL L1 ∧ RowAt fileE W5 bS S1 ∧ RowAt dopE W5 bO O1) ∧ AdOk bL dL ∧ AdOk bS dS ∧ AdOk bO dO from by rw [hW5]; exact ⟨⟨o1.at.below (bel1 _ _), o2.at.below (bel1 _ _), o3.at.below (bel1 _ _)⟩, o1.ad, o2.ad, o3.ad⟩)
  have HE5 := hide (show DC w4.heap.size (.slice bL L1.length dL) (.slice bS S1.length dS) (.slice bO O1.length dO) W5 from by rw [hW5]; exact DC.new _ _ _ _ _ _ _ _ _ _)
  have HB5 := hide (belOn (unhide HB3) hb5)
  have HK5 := hide ((unhide HK3).below hb5)
  have HW5 := hide hW5.symm
  clear o1 o2 o3 hb4 hb5 hW5 c0 c1 c2 HK3 HB3
  go_upto_region 6 with fail
  rw [unhide HW5]
  have hcc : (C == C) = true := by simp
  have hcn : (C != C) = false := by simp
  go_upto_region 8 with fail
  go_upto_if 59 with fail
  go_cut [] (fun wx => Hid (Below w.heap.size w wx))
  case first =>
    by_cases hc : C = 0
    · obtain ⟨L3, hfl, rfl, rfl, rfl, hrec, hr1, hf0, hf1⟩ := unhide HZ hc
      subst hc
      have HFL := hide hfl
      have hRS := spec_Recover aL L.length cL L aS S.length cS S aO 0 cO [] W5 (unhide HQ W5 (unhide HB5)).1
      rw [hr1] at hRS
      unfold seE at hrec
      generalize (recT L S []).2.1 = T at hRS hrec
      generalize (recT L S []).2.2.1 = V at hRS hrec
      have hE5 := (rec_small L S []).1
      generalize (recT L S []).2.2.2 = E at hRS hrec hf1 hE5
      have HREC := hide hrec
      have HR := hide (And.intro hf0 hf1)
      have HRS := hide hRS
      clear hfl hrec hr1 hf0 hf1 hRS HZ
      obtain ⟨K, rfl⟩ : ∃ K : Nat, f = (K : Int) := ⟨f.toNat, by have := (unhide HR).1; omega⟩
      rw [Int.toNat_natCast] at HREC
      obtain ⟨-, c0, c1, c2⟩ := unhide HK5
      go_wp2_with fail
      refine (unhide HRS).mono ?_
      rintro e w6 ⟨sl, rfl, oj, hb6⟩
      obtain ⟨aw, cw, rfl⟩ := oj.form
      obtain ⟨W7, hW7⟩ : ∃ W7, W7 = w6.alloc (.cells #[.int .i64 T, .int .i64 V, .slice aw E.length cw] 34) := ⟨_, rfl⟩
      have hb7 : Below W5.heap.size W5 W7 := by rw [hW7]; exact belOn hb6 (bel1 _ _)
      have HJ7 := hide (show DC w6.heap.size (.int .i64 T) (.int .i64 V) (.slice aw E.length cw) W7 from by rw [hW7]; exact ⟨by simp, by simp [go_sem], by simp [go_sem], by simp [go_sem]⟩)
      have HE7 := hide ((unhide HE5).below hb7)
      have HW := hide (show RowAt entE W7 aw E ∧ AdG aw cw ∧ E.length ≤ cw from by rw [hW7]; exact ⟨oj.at.below (bel1 _ _), oj.adG, own_cap oj⟩)
      have HB7 := hide (belOn (unhide HB5) hb7)
      obtain ⟨⟨p1, p2, p3⟩, q1, q2, q3⟩ := unhide HO5
      have hfit : FitF S1 := small_fit (unhide HFL)
      have hlen := (files_small (unhide HFL)).1
      obtain ⟨k1, k2⟩ := crash_none (t := 0) (disk_synced (unhide HFL)) (Int.le_refl 0)
      have hCR := impl_CrashO bL S1.length dL S1 bS S1.length dS S1 bO 0 dO [] none 0 0 [] 0 W7 (DiskAt.toO ⟨p1.below hb7, p2.below hb7, p3.below hb7, rfl, rfl, rfl, q1, q2, q3, hfit, hfit, fun o ho => (by cases ho), by omega, by omega, Nat.zero_le _⟩) rfl (Nat.zero_le _) (fun i hi => absurd hi (by simp))
      unfold DskPost at hCR
      rw [k1, k2] at hCR
      have HCR := hide hCR
      have HFT := hide hfit
      have HW7 := hide hW7.symm
      clear p1 p2 p3 q1 q2 q3 hCR k1 k2 hfit hb6 hb7 oj hW7 c0 c1 c2 HRS
      go_upto_region 10 with fail
      rw [unhide HW7]
      obtain ⟨-, e0, e1, e2⟩ := unhide HE7
      go_wp2_with fail
      refine (unhide HCR).mono ?_
      rintro e w12 ⟨mL, nL, mS, nS, mO, nO, rfl, o1, o2, o3, -, hb12⟩
      obtain ⟨W13, hW13⟩ : ∃ W13, W13 = w12.alloc (.cells #[.slice mL S1.length nL, .slice mS S1.length nS, .slice mO 0 nO] 27) := ⟨_, rfl⟩
      have hb13 : Below W7.heap.size W7 W13 := by rw [hW13]; exact belOn hb12 (bel1 _ _)
      have hRC := impl_Recover mL S1.length nL S1 mS S1.length nS S1 mO 0 nO [] W13 (by rw [hW13]; exact ⟨o1.at.below (bel1 _ _), o2.at.below (bel1 _ _), o3.at.below (bel1 _ _), rfl, rfl, rfl, o1.ad, o2.ad, o3.ad, unhide HFT, unhide HFT, fun o ho => (by cases ho), by omega, by omega, Nat.zero_le _⟩)
      rw [unhide HREC] at hRC
      have HRC := hide hRC
      have HB13 := hide (belOn (unhide HB7) hb13)
      have HJ13 := hide ((unhide HJ7).below hb13)
      have HV13 := hide (And.intro ((unhide HW).1.below hb13) (unhide HW).2)
      have HW13 := hide hW13.symm
      clear o1 o2 o3 hb12 hb13 hW13 hRC HCR e0 e1 e2 HJ7 HW HB7
      go_wp2_with fail
      rw [unhide HW13]
      refine (unhide HRC).mono ?_
      rintro e w14 ⟨sl, rfl, oj, hb14⟩
      have hKE : K ≤ E.length := by have := (unhide HR).2; omega
      have hnj : (E.take K ++ es).length = K + es.length := by rw [List.length_append, List.length_take]; omega
      obtain ⟨aj, cj, hsl⟩ := oj.form
      rw [hnj] at hsl
      subst hsl
      obtain ⟨W15, hW15⟩ : ∃ W15, W15 = w14.alloc (.cells #[.int .i64 T, .int .i64 V, .slice aj (K + es.length) cj] 34) := ⟨_, rfl⟩
      have hb15 : Below W13.heap.size W13 W15 := by rw [hW15]; exact belOn hb14 (bel1 _ _)
      have HK15 := hide (show DC w14.heap.size (.int .i64 T) (.int .i64 V) (.slice aj (K + es.length) cj) W15 from by rw [hW15]; exact ⟨by simp, by simp [go_sem], by simp [go_sem], by simp [go_sem]⟩)
      have HR15 := hide (show RowAt entE W15 aj (E.take K ++ es) ∧ AdG aj cj ∧ K + es.length ≤ cj from by rw [hW15]; exact ⟨oj.at.below (bel1 _ _), oj.adG, own_cap oj⟩)
      have HJ15 := hide ((unhide HJ13).below hb15)
      have HV15 := hide (And.intro ((unhide HV13).1.below hb15) (unhide HV13).2)
      have HB15 := hide (belOn (unhide HB13) hb15)
      have HW15 := hide hW15.symm
      clear oj hb14 hb15 hW15 HRC HJ13 HV13 HB13
      go_upto_region 12 with fail
      rw [unhide HW15]
      obtain ⟨hl1, e0, e1, e2⟩ := unhide HK15
      obtain ⟨hl2, f0, f1, f2⟩ := unhide HJ15
      have E0 := Grown.cell e0 hl1
      have E1 := Grown.cell e1 hl1
      have E2 := Grown.cell e2 hl1
      have F0 := Grown.cell f0 hl2
      have F1 := Grown.cell f1 hl2
      have F2 := Grown.cell f2 hl2
      obtain ⟨hrj, hadj, hcj⟩ := unhide HR15
      obtain ⟨hrw, hadw, hcw⟩ := unhide HV15
      have ht : (T != T) = false := by simp
      have hv : (V != V) = false := by simp
      have hws : IntKind.i64.wrap ((K : Int) + (es.length : Int)) = ((K + es.length : Nat) : Int) := by rw [IntKind.wrap_i64]; omega
      have hww : (((K + es.length : Nat) : Int) != ((K + es.length : Nat) : Int)) = false := by simp
      have HS1 := hide (fun (W : World) (hW : Below W15.heap.size W15 W) => sameEnts_calls aj aw K cj cw (E.take K) W (by rw [List.length_take]; omega) (by omega) (by have := (hrj.below hW).pre K; rw [List.take_append_of_le_length (by rw [List.length_take]; omega), List.take_take, Nat.min_self] at this; exact this.toO) ((hrw.below hW).pre K).toO)
      clear e0 e1 e2 f0 f1 f2 HK15 HJ15
      rcases hadj with ⟨rfl, rfl⟩ | ⟨gj, rfl⟩
      · have hK0 : K = 0 := by omega
        have hen : es = [] := List.eq_nil_of_length_eq_zero (by omega)
        subst hK0
        subst hen
        simp only [List.length_nil, Nat.add_zero] at E2 hws hww
        have HS1b := hide (fun (W : World) => sameEnts_calls none aw 0 0 cw [] W rfl (by omega) (fun i hi => absurd hi (by simp)) (fun i hi => absurd hi (by simp)))
        have HS2b := hide (fun (W : World) => sameEnts_calls none ae 0 0 ce [] W rfl (by omega) (fun i hi => absurd hi (by simp)) (fun i hi => absurd hi (by simp)))
        clear HS1
        refine region_grown (by kernel_rfl) (by kernel_rfl) W15 (Below.refl _ _) ?_
        iterate 40 (go_big_quiet_step (first | (go_at_call 12; rename_i xg; exact calls_grown xg (unhide HS1b xg.w)) | exact rfl))
        repeat (go_big_quiet_step (first | (go_at_call 12; rename_i xg; exact calls_grown xg (unhide HS2b xg.w)) | exact rfl))
        refine wpQuiet_nil ?_
        rintro _ ⟨y, rfl⟩
        all_goals (try go_wp2_with fail)
        all_goals go_meet
        all_goals exact hide ((unhide HB1).trans ((belOn (unhide HB15) y.ok).mono hz1))
      · have HS2 := hide (fun (W : World) (hW : Below W15.heap.size W15 W) => sameEnts_calls (if cj = K then some ⟨gj, 0, none⟩ else some ⟨gj, K * 3, none⟩) ae es.length (cj - K) ce es W rfl (by omega) (by
          split
          · exact fun i hi => absurd hi (by omega)
          · exact rowFrom (hrj.below hW) (by rw [List.length_take]; omega)) (unhide HQ W (belOn (unhide HB15) hW)).2.toO)
        refine region_grown (by kernel_rfl) (by kernel_rfl) W15 (Below.refl _ _) ?_
        iterate 40 (go_big_quiet_step (first | (go_at_call 12; rename_i xg; exact calls_grown xg (unhide HS1 xg.w xg.ok)) | exact rfl))
        repeat (go_big_quiet_step (first | (go_at_call 12; rename_i xg; exact calls_grown xg (unhide HS2 xg.w xg.ok)) | exact rfl))
        refine wpQuiet_nil ?_
        rintro _ ⟨y, rfl⟩
        all_goals (try go_wp2_with fail)
        all_goals go_meet
        all_goals exact hide ((unhide HB1).trans ((belOn (unhide HB15) y.ok).mono hz1))
    · have hb : (C == 0) = false := by simpa using hc
      go_wp2_with fail
      go_meet
      exact hide ((unhide HB1).trans ((unhide HB5).mono hz1))
  case rest =>
  obtain ⟨w6, rfl⟩ : ∃ w6, w6 = wc := ⟨_, rfl⟩
  have HB6 := hcut
  clear hcut HO5 HE5 HB5 HK5 HZ HSP HIP HQ hcc hcn
  go_wp2_with fail
  refine (DrawSaveVote_calls a1 len1 cap1 z1 _ (isRow_belV (unhide H1) (unhide HB6)) hl1).mono ?_
  rintro e w7 ⟨gL, iL, M, gS, iS, N, gO, iO, t, v, rfl, ⟨r1, r2⟩, ⟨ad1, ad2, ad3⟩, hF, -, hb7⟩
  have HB7 := hide (belOn (unhide HB6) hb7)
  have HQ := hide (fun (W : World) (hW : Below w7.heap.size w7 W) => (show DiskAt W gL M.length iL M gS N.length iS N gO 0 iO [] from ⟨r1.below hW, r2.below hW, fun i hi => absurd hi (by simp), rfl, rfl, rfl, ad1, ad2, ad3, hF.1, hF.2.1, fun o ho => (by cases ho), hF.2.2.1, hF.2.2.2, Nat.zero_le _⟩))
  have HSP := hide (fun (W : World) (hW : Below w7.heap.size w7 W) => spec_SaveVoteQ gL M.length iL M gS N.length iS N gO 0 iO [] t v W (unhide HQ W hW))
  have HIP := hide (fun (W : World) (hW : Below w7.heap.size w7 W) => impl_SaveVote gL M.length iL M gS N.length iS N gO 0 iO [] t v W (unhide HQ W hW))
  unfold SpcQ at HSP
  unfold DskPost at HIP
  have hZ := sv_zero (live := M) (safe := N) (ops := []) (t := t) (v := v)
  generalize svC M N [] t v = C2 at HSP HIP hZ
  generalize svL M N [] t v = L2 at HSP HIP hZ
  generalize svS M N [] t v = S2 at HSP HIP hZ
  generalize svO M N [] t v = O2 at HSP HIP hZ
  have HZ := hide hZ
  clear r1 r2 ad1 ad2 ad3 hF hb7 hZ HQ HB6
  obtain ⟨W8, hW8⟩ : ∃ W8, W8 = w7.alloc (.cells #[.slice gL M.length iL, .slice gS N.length iS, .slice gO 0 iO] 27) := ⟨_, rfl⟩
  have HK8 := hide (show DC w7.heap.size (.slice gL M.length iL) (.slice gS N.length iS) (.slice gO 0 iO) W8 from by rw [hW8]; exact DC.new _ _ _ _ _ _ _ _ _ _)
  have HB8 := hide (show Below w7.heap.size w7 W8 from by rw [hW8]; exact bel1 _ _)
  have HW8 := hide hW8.symm
  clear hW8
  go_wp2_with fail
  rw [unhide HW8]
  refine (unhide HSP W8 (unhide HB8)).mono ?_
  rintro e v' ⟨xL, kL, xS, kS, xO, kO, rfl, -, -, -, -, -, -, -, hb2⟩
  obtain ⟨w9, hw9⟩ : ∃ w9, w9 = v'.alloc (.cells #[.slice xL L2.length kL, .slice xS S2.length kS, .slice xO O2.length kO] 27) := ⟨_, rfl⟩
  have hb9 : Below W8.heap.size W8 w9 := by rw [hw9]; exact belOn hb2 (bel1 _ _)
  have HB9 := hide (belOn (unhide HB8) hb9)
  have HK9 := hide ((unhide HK8).below hb9)
  have HW9 := hide hw9.symm
  clear hb2 hb9 hw9 HK8 HB8
  go_upto_region 16 with fail
  rw [unhide HW9]
  obtain ⟨-, c0, c1, c2⟩ := unhide HK9
  go_wp2_with fail
  refine (unhide HIP w9 (unhide HB9)).mono ?_
  rintro e w10 ⟨hL, jL, hS, jS, hO, jO, rfl, o1, o2, o3, -, hb10⟩
  obtain ⟨W11, hW11⟩ : ∃ W11, W11 = w10.alloc (.cells #[.slice hL L2.length jL, .slice hS S2.length jS, .slice hO O2.length jO] 27) := ⟨_, rfl⟩
  have hb11 : Below w9.heap.size w9 W11 := by rw [hW11]; exact belOn hb10 (bel1 _ _)
  have HO11 := hide (show (RowAt fileE W11 hL L2 ∧ RowAt fileE W11 hS S2 ∧ RowAt dopE W11 hO O2) ∧ AdOk hL jL ∧ AdOk hS jS ∧ AdOk hO jO from by rw [hW11]; exact ⟨⟨o1.at.below (bel1 _ _), o2.at.below (bel1 _ _), o3.at.below (bel1 _ _)⟩, o1.ad, o2.ad, o3.ad⟩)
  have HE11 := hide (show DC w10.heap.size (.slice hL L2.length jL) (.slice hS S2.length jS) (.slice hO O2.length jO) W11 from by rw [hW11]; exact DC.new _ _ _ _ _ _ _ _ _ _)
  have HB11 := hide (belOn (unhide HB7) (belOn (unhide HB9) hb11))
  have HW11 := hide hW11.symm
  clear o1 o2 o3 hb10 hb11 hW11 c0 c1 c2 HK9 HB9 HSP HIP HB7
  go_upto_region 17 with fail
  rw [unhide HW11]
  have hcc : (C2 == C2) = true := by simp
  have hcn : (C2 != C2) = false := by simp
  by_cases hc : C2 = 0
  · obtain ⟨L3, es3, hfl, rfl, rfl, rfl, hrec⟩ := unhide HZ hc
    subst hc
    have HREC := hide hrec
    have HFL := hide hfl
    clear hfl hrec HZ
    obtain ⟨-, e0, e1, e2⟩ := unhide HE11
    obtain ⟨⟨p1, p2, p3⟩, q1, q2, q3⟩ := unhide HO11
    have hfit : FitF S2 := small_fit (unhide HFL)
    have hlen := (files_small (unhide HFL)).1
    obtain ⟨k1, k2⟩ := crash_none (t := 0) (disk_synced (unhide HFL)) (Int.le_refl 0)
    have hCR := impl_CrashO hL S2.length jL S2 hS S2.length jS S2 hO 0 jO [] none 0 0 [] 0 W11 (DiskAt.toO ⟨p1, p2, p3, rfl, rfl, rfl, q1, q2, q3, hfit, hfit, fun o ho => (by cases ho), by omega, by omega, Nat.zero_le _⟩) rfl (Nat.zero_le _) (fun i hi => absurd hi (by simp))
    unfold DskPost at hCR
    rw [k1, k2] at hCR
    have HCR := hide hCR
    have HFT := hide hfit
    clear p1 p2 p3 q1 q2 q3 hCR k1 k2 hfit
    go_wp2_with fail
    refine (unhide HCR).mono ?_
    rintro e w12 ⟨mL, nL, mS, nS, mO, nO, rfl, o1, o2, o3, -, hb12⟩
    obtain ⟨W13, hW13⟩ : ∃ W13, W13 = w12.alloc (.cells #[.slice mL S2.length nL, .slice mS S2.length nS, .slice mO 0 nO] 27) := ⟨_, rfl⟩
    have hb13 : Below W11.heap.size W11 W13 := by rw [hW13]; exact belOn hb12 (bel1 _ _)
    have hRC := impl_Recover mL S2.length nL S2 mS S2.length nS S2 mO 0 nO [] W13 (by rw [hW13]; exact ⟨o1.at.below (bel1 _ _), o2.at.below (bel1 _ _), o3.at.below (bel1 _ _), rfl, rfl, rfl, o1.ad, o2.ad, o3.ad, unhide HFT, unhide HFT, fun o ho => (by cases ho), by omega, by omega, Nat.zero_le _⟩)
    rw [unhide HREC] at hRC
    have HRC := hide hRC
    have HB13 := hide (belOn (unhide HB11) hb13)
    have HW13 := hide hW13.symm
    clear o1 o2 o3 hb12 hb13 hW13 hRC HCR e0 e1 e2
    go_wp2_with fail
    rw [unhide HW13]
    refine (unhide HRC).mono ?_
    rintro e w14 ⟨sl, rfl, oj, hb14⟩
    obtain ⟨aj, cj, rfl⟩ := oj.form
    have HB14 := hide (belOn (unhide HB13) hb14)
    have ht : (t == t) = true := by simp
    have hv : (v == v) = true := by simp
    clear oj hb14 HRC
    go_wp2_with fail
    go_ret
    exact ⟨rfl, belOn (unhide HB14) (bel1 _ _)⟩
  · have hb : (C2 == 0) = false := by simpa using hc
    have hb2 : (C2 != 0) = true := by simp [bne, hb]
    go_wp2_with fail
    go_ret
    exact ⟨rfl, unhide HB11⟩
end Go.Proofs.YtakalfckhailjaaGreat
