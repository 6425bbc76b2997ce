/- A loss of power on a drawn disk: the walk. -/
import Derived.Test.YtknpccpfjclngaaCraD
import Derived.Test.YtknpccpfjclngaaGAM
import Derived.Test.YtknpccpfjclngaaCrsS
import Derived.Test.YtknpccpfjclngaaGAL
import Derived.Test.YtknpccpfjclngaaSynI
import Derived.Test.YtknpccpfjclngaaDskI
import Derived.Test.YtknpccpfjclngaaGAE
import Derived.Deep.DeepCutAuto
namespace Go.Proofs.Ytknpccpfjclngaa
open Go.RowKit Plain
set_option linter.unusedVariables false

set_option maxRecDepth 10000 in
set_option maxHeartbeats 8000000 in
theorem crd_walk (a0 : Option Addr) (len0 cap0 : Nat) (z0 : List Int) (w : World) (h0 : IsRow .u8 w a0 len0 cap0 z0) (hl0 : len0 ≤ 1048576) :
    Calls Try.prog 3 #[.slice a0 len0 cap0] w fun e w' => e = .returned (.bool true) ∧ Below w.heap.size w w' := by
  have H0 := hide h0
  have d0 : decide (1048576 < (len0 : Int)) = false := by simp; omega
  have m0 := h0.len
  clear h0
  go_enter Try.func3, Try.ntmps3
  go_wp2_with fail
  refine (big_calls a0 len0 cap0 _ m0).mono ?_
  rintro e w1 ⟨rfl, rfl⟩
  rw [d0]
  go_wp2_with fail
  refine (DrawCrash_calls a0 len0 cap0 z0 _ (unhide H0) hl0).mono ?_
  rintro e w1 ⟨aL, cL, live, aS, cS, safe, aO, cO, ops, ak, ck, ks, t, rfl, ⟨r1, r2, r3⟩, ⟨ad1, ad2⟩, hfit, rk, hkn, hnn, hb1⟩
  obtain ⟨W2, hW2⟩ : ∃ W2, W2 = w1.alloc (.cells #[.slice aL live.length cL, .slice aS safe.length cS, .slice aO ops.length cO] 27) := ⟨_, rfl⟩
  have hb2 : Below w1.heap.size w1 W2 := by rw [hW2]; exact bel1 _ _
  have HC := hide (fun (W : World) (hW : Below W2.heap.size W2 W) => NwK.below (show NwK w1.heap.size (.slice aL live.length cL) (.slice aS safe.length cS) (.slice aO ops.length cO) W2 from by rw [hW2]; exact NwK.new w1 _ _ _) hW)
  have HD := hide (fun (W : World) (hW : Below W2.heap.size W2 W) => (show DiskO W aL live.length cL live aS safe.length cS safe aO ops.length cO ops from ⟨(r1.below hb2).below hW, (r2.below hb2).below hW, (r3.below hb2).below hW, rfl, rfl, rfl, ad1, ad2, hfit.1, hfit.2.1, hfit.2.2.1, by have := hfit.2.2.2.1; omega, by have := hfit.2.2.2.2.1; omega, by have := hfit.2.2.2.2.2; omega⟩))
  have HK := hide (fun (W : World) (hW : Below W2.heap.size W2 W) => (rk.below hb2).below hW)
  have HFT := hide hfit
  have HB2 := hide (belOn hb1 hb2)
  have hol : ops.length ≤ 200 := hfit.2.2.2.2.2
  have hll : live.length ≤ 1000 := hfit.2.2.2.1
  have hsl : safe.length ≤ 1000 := hfit.2.2.2.2.1
  have HSP := hide (fun (W : World) (hW : Below W2.heap.size W2 W) => spec_CrashO aL live.length cL live aS safe.length cS safe aO ops.length cO ops ak ks.length ck ks t W (unhide HD W hW) rfl (by omega) (unhide HK W hW))
  have HIP := hide (fun (W : World) (hW : Below W2.heap.size W2 W) => impl_CrashO aL live.length cL live aS safe.length cS safe aO ops.length cO ops ak ks.length ck ks t W (unhide HD W hW) rfl (by omega) (unhide HK W hW))
  have hgood := fun (h : crOk live safe ops ks t = true) => crash_disk h
  have hbad := fun (h : diskB live safe ops = false) => crash_bad (ks := ks) (t := t) h
  unfold SpcPost at HSP
  unfold DskPost at HIP
  generalize crOk live safe ops ks t = K at HSP HIP hgood hbad
  generalize crL live safe ops ks t = X at HSP HIP hgood
  have HGD := hide (And.intro hgood hbad)
  have HW2 := hide hW2.symm
  clear r1 r2 r3 ad1 ad2 hfit rk hkn hnn hb1 hb2 hW2 hgood hbad
  have c0 := (unhide HC W2 (Below.refl _ _)).c0
  have c1 := (unhide HC W2 (Below.refl _ _)).c1
  have c2 := (unhide HC W2 (Below.refl _ _)).c2
  go_upto_region 4 with fail
  rw [unhide HW2]
  go_wp2_with fail
  refine (unhide HSP W2 (Below.refl _ _)).mono ?_
  rintro e w3 ⟨xL, kL, xS, kS, xO, kO, rfl, -, -, -, hb3⟩
  obtain ⟨W4, hW4⟩ : ∃ W4, W4 = w3.alloc (.cells #[.slice xL X.length kL, .slice xS X.length kS, .slice xO 0 kO] 27) := ⟨_, rfl⟩
  have hb4 : Below W2.heap.size W2 W4 := by rw [hW4]; exact belOn hb3 (bel1 _ _)
  have HB4 := hide hb4
  have HW4 := hide hW4.symm
  clear hb3 hb4 hW4 c0 c1 c2
  have c0 := (unhide HC W4 (unhide HB4)).c0
  have c1 := (unhide HC W4 (unhide HB4)).c1
  have c2 := (unhide HC W4 (unhide HB4)).c2
  go_upto_region 5 with fail
  rw [unhide HW4]
  go_wp2_with fail
  refine (unhide HIP W4 (unhide HB4)).mono ?_
  rintro e w5 ⟨eL, jL, eS, jS, eO, jO, rfl, o1, o2, o3, -, hb5⟩
  obtain ⟨W6, hW6⟩ : ∃ W6, W6 = w5.alloc (.cells #[.slice eL X.length jL, .slice eS X.length jS, .slice eO 0 jO] 27) := ⟨_, rfl⟩
  have hb6 : Below W4.heap.size W4 W6 := by rw [hW6]; exact belOn hb5 (bel1 _ _)
  have HB6 := hide (belOn (unhide HB4) hb6)
  have HC6 := hide (show NwK w5.heap.size (.slice eL X.length jL) (.slice eS X.length jS) (.slice eO 0 jO) W6 from by rw [hW6]; exact NwK.new w5 _ _ _)
  have HE6 := hide (show (RowAt fileE W6 eL X ∧ RowAt fileE W6 eS X) ∧ AdOk eL jL ∧ AdOk eS jS from by rw [hW6]; exact ⟨⟨o1.at.below (bel1 _ _), o2.at.below (bel1 _ _)⟩, o1.ad, o2.ad⟩)
  have HW6 := hide hW6.symm
  clear o1 o2 o3 hb5 hb6 hW6 c0 c1 c2
  go_upto_region 6 with fail
  rw [unhide HW6]
  have hKK : (K == K) = true := by simp
  have hKn : (K != K) = false := by simp
  have c0 := (unhide HC W6 (unhide HB6)).c0
  have c1 := (unhide HC W6 (unhide HB6)).c1
  have c2 := (unhide HC W6 (unhide HB6)).c2
  have HOK := hide (spec_DiskOkO aL live.length cL live aS safe.length cS safe aO ops.length cO ops W6 (unhide HD W6 (unhide HB6)))
  obtain ⟨DB, hDB⟩ : ∃ x, diskB live safe ops = x := ⟨_, rfl⟩
  rw [hDB] at HOK
  have HDB := hide hDB
  clear hDB
  go_wp2_with fail
  refine (unhide HOK).mono ?_
  rintro e w7 ⟨rfl, hb7⟩
  have HB7 := hide (belOn (unhide HB6) hb7)
  have HC7 := hide ((unhide HC6).below hb7)
  have HE7 := hide (And.intro (And.intro ((unhide HE6).1.1.below hb7) ((unhide HE6).1.2.below hb7)) (unhide HE6).2)
  clear hb7 HC6 HE6 HOK c0 c1 c2
  cases DB with
  | false =>
    have hk := (unhide HGD).2 (unhide HDB)
    subst hk
    go_wp2_with fail
    go_ret
    exact ⟨rfl, belOn (unhide HB2) (unhide HB7)⟩
  | true =>
    have hdb := unhide HDB
    have hlf := (disk_run hdb).1
    have c2 := (unhide HC w7 (unhide HB7)).c2
    have HO8 := hide (show OwnR i64E (w7.alloc (.cells #[] 2)) w7.heap.size (.slice (some ⟨w7.heap.size, 0, none⟩) 0 0) (allK 0) from ownR_empty i64E w7 w7.heap.size (Nat.le_refl _))
    go_wp2_with fail
    go_loopw [10, 11] (fun s10 s11 wr => ∃ (k : Nat) (bk : Option Addr) (ek : Nat), s10 = .slice bk k ek ∧ s11 = .int .i64 k ∧ k ≤ ops.length ∧ Hid (OwnR i64E wr w7.heap.size (.slice bk k ek) (allK k)) ∧ Hid (Below w7.heap.size w7 wr)) (fun _ s11 _ => ops.length - (intOf s11).toNat)
    case atStart => exact ⟨0, _, _, rfl, rfl, by omega, HO8, hide (bel1 _ _)⟩
    case round =>
      clear HO8 c2
      obtain ⟨k, bk, ek, rfl, rfl, hk, HO, HB⟩ := hrel
      have HBr := hide (belOn (unhide HB7) (unhide HB))
      have c0 := (unhide HC wr (unhide HBr)).c0
      have c1 := (unhide HC wr (unhide HBr)).c1
      have c2 := (unhide HC wr (unhide HBr)).c2
      by_cases hk1 : k < ops.length
      · have hlk : (allK k).length < 100000000 := by rw [allK_len]; omega
        have hBk := (unhide HB).size
        go_wp2_with (at_builtin; refine appR (e := i64E) rfl _ _ rfl (unhide HO) rfl (k : Int) rfl _ rfl rfl hlk hBk ?_; intro v5 w5 hO5 hb5 _; rw [← allK_succ] at hO5; obtain ⟨a5, c5, hv5⟩ := hO5.form; rw [allK_len] at hv5; subst hv5)
        go_roundw
        case rel => exact ⟨k + 1, a5, c5, rfl, by go_num, by omega, hide hO5, hide ((unhide HB).trans hb5)⟩
        case measure => simp [intOf]; omega
      · obtain rfl : k = ops.length := by omega
        have hCA := impl_CrashO aL live.length cL live aS safe.length cS safe aO ops.length cO ops bk ops.length ek (allK ops.length) 1099511627776 wr (unhide HD wr (unhide HBr)) (allK_len _) (by omega) (unhide HO).at
        unfold DskPost at hCA
        obtain ⟨e1, e2⟩ := crash_all (t := 1099511627776) hdb (fun o ho => by have := ((unhide HFT).2.2.1 o ho).2.2; omega) (by omega)
        rw [e1, e2] at hCA
        have HCA := hide hCA
        clear hCA e1 e2
        go_wp2_with fail
        refine (unhide HCA).mono ?_
        rintro e w8 ⟨pL, qL, pS, qS, pO, qO, rfl, o1, o2, o3, -, hb8⟩
        obtain ⟨W9, hW9⟩ : ∃ W9, W9 = w8.alloc (.cells #[.slice pL live.length qL, .slice pS live.length qS, .slice pO 0 qO] 27) := ⟨_, rfl⟩
        have hb9 : Below wr.heap.size wr W9 := by rw [hW9]; exact belOn hb8 (bel1 _ _)
        have HB9 := hide (belOn (unhide HBr) hb9)
        have HX9 := hide (show NwK w8.heap.size (.slice pL live.length qL) (.slice pS live.length qS) (.slice pO 0 qO) W9 from by rw [hW9]; exact NwK.new w8 _ _ _)
        have HP9 := hide (show RowAt fileE W9 pL live from by rw [hW9]; exact o1.at.below (bel1 _ _))
        have HE9 := hide (show NwK w5.heap.size (.slice eL X.length jL) (.slice eS X.length jS) (.slice eO 0 jO) W9 ∧ (RowAt fileE W9 eL X ∧ RowAt fileE W9 eS X) from ⟨(unhide HC7).below (belOn (unhide HB) hb9), ((unhide HE7).1.1.below (belOn (unhide HB) hb9)), ((unhide HE7).1.2.below (belOn (unhide HB) hb9))⟩)
        have HW9 := hide hW9.symm
        clear o1 o2 o3 hb8 hb9 hW9 HCA c0 c1 c2 HO HB
        have c0 := (unhide HC W9 (unhide HB9)).c0
        have c1 := (unhide HC W9 (unhide HB9)).c1
        have c2 := (unhide HC W9 (unhide HB9)).c2
        have hCN := impl_CrashO aL live.length cL live aS safe.length cS safe aO ops.length cO ops none 0 0 [] 0 W9 (unhide HD W9 (unhide HB9)) rfl (Nat.zero_le _) (fun i hi => absurd hi (by simp))
        unfold DskPost at hCN
        obtain ⟨e1, e2⟩ := crash_none (t := 0) hdb (Int.le_refl 0)
        rw [e1, e2] at hCN
        have HCN := hide hCN
        clear hCN e1 e2
        go_upto_region 16 with fail
        rw [unhide HW9]
        go_wp2_with fail
        refine (unhide HCN).mono ?_
        rintro e w10 ⟨yL, uL, yS, uS, yO, uO, rfl, o1, o2, o3, -, hb10⟩
        obtain ⟨V1, hV1⟩ : ∃ V1, V1 = w10.alloc (.cells #[.slice yL safe.length uL, .slice yS safe.length uS, .slice yO 0 uO] 27) := ⟨_, rfl⟩
        have hb11 : Below W9.heap.size W9 V1 := by rw [hV1]; exact belOn hb10 (bel1 _ _)
        have HV1 := hide (belOn (unhide HB9) hb11)
        have HXV := hide (fun (W : World) (hW : Below V1.heap.size V1 W) => ((unhide HX9).below hb11).below hW)
        have HYV := hide (fun (W : World) (hW : Below V1.heap.size V1 W) => NwK.below (show NwK w10.heap.size (.slice yL safe.length uL) (.slice yS safe.length uS) (.slice yO 0 uO) V1 from by rw [hV1]; exact NwK.new w10 _ _ _) hW)
        have HPV := hide (And.intro ((unhide HP9).below hb11) (show RowAt fileE V1 yL safe from by rw [hV1]; exact o1.at.below (bel1 _ _)))
        have HEV := hide (And.intro ((unhide HE9).1.below hb11) (And.intro ((unhide HE9).2.1.below hb11) ((unhide HE9).2.2.below hb11)))
        have HVW := hide hV1.symm
        clear o1 o2 o3 hb10 hb11 hV1 HCN c0 c1 c2 HX9 HP9 HE9
        go_upto_region 17 with fail
        rw [unhide HVW]
        have hS1 := sameFiles_calls pL aL live.length live.length qL cL live live V1 rfl rfl (by omega) (by omega) (unhide HPV).1 (unhide HD V1 (unhide HV1)).rl
        rw [same_self] at hS1
        have HS1 := hide hS1
        have HS2 := hide (fun (W : World) (hW : Below V1.heap.size V1 W) => sameFiles_calls yL aS safe.length safe.length uL cS safe safe W rfl rfl (by omega) (by omega) ((unhide HPV).2.below hW) (unhide HD W (belOn (unhide HV1) hW)).rs)
        clear hS1
        have x0 := (unhide HXV V1 (Below.refl _ _)).c0
        have y0 := (unhide HYV V1 (Below.refl _ _)).c0
        have c0 := (unhide HC V1 (unhide HV1)).c0
        go_wp2_with fail
        refine (unhide HS1).mono ?_
        rintro e w12 ⟨rfl, hb12⟩
        have HV12 := hide hb12
        clear hb12 x0 y0 c0 HS1
        have hS2 := unhide HS2 w12 (unhide HV12)
        rw [same_self] at hS2
        have HS3 := hide hS2
        have y0 := (unhide HYV w12 (unhide HV12)).c0
        have c1 := (unhide HC w12 (belOn (unhide HV1) (unhide HV12))).c1
        clear hS2 HS2
        go_wp2_with fail
        refine (unhide HS3).mono ?_
        rintro e w13 ⟨rfl, hb13⟩
        have HV13 := hide (belOn (unhide HV12) hb13)
        have HB13 := hide (belOn (unhide HV1) (unhide HV13))
        clear hb13 y0 c1 HS3
        have x2 := (unhide HXV w13 (unhide HV13)).c2
        have c0 := (unhide HC w13 (unhide HB13)).c0
        have c1 := (unhide HC w13 (unhide HB13)).c1
        have c2 := (unhide HC w13 (unhide HB13)).c2
        have hSY := impl_SyncO aL live.length cL live aS safe.length cS safe aO ops.length cO ops w13 (unhide HD w13 (unhide HB13))
        have hsl2 : synL live safe ops = live := by unfold synL; rw [hdb]; rfl
        rw [hsl2] at hSY
        unfold DskPost at hSY
        have HSY := hide hSY
        clear hSY hsl2
        go_wp2_with fail
        refine (unhide HSY).mono ?_
        rintro e w14 ⟨sL, tL, sS, tS, sO, tO, rfl, o1, o2, o3, -, hb14⟩
        obtain ⟨W15, hW15⟩ : ∃ W15, W15 = w14.alloc (.cells #[.slice sL live.length tL, .slice sS live.length tS, .slice sO 0 tO] 27) := ⟨_, rfl⟩
        have hb15 : Below w13.heap.size w13 W15 := by rw [hW15]; exact belOn hb14 (bel1 _ _)
        have hfl := (unhide HFT).1
        have hCZ := impl_CrashO sL live.length tL live sS live.length tS live sO 0 tO [] none 0 0 [] 0 W15 (by rw [hW15]; exact ⟨o1.at.below (bel1 _ _), o2.at.below (bel1 _ _), fun i hi => absurd hi (by simp), rfl, rfl, rfl, o1.ad, o2.ad, hfl, hfl, fun o ho => (by cases ho), by omega, by omega, Nat.zero_le _⟩) rfl (Nat.zero_le _) (fun i hi => absurd hi (by simp))
        unfold DskPost at hCZ
        obtain ⟨e1, e2⟩ := crash_none (t := 0) (disk_synced hlf) (Int.le_refl 0)
        rw [e1, e2] at hCZ
        have HCZ := hide hCZ
        have HV15 := hide (belOn (unhide HV13) hb15)
        have HW15 := hide hW15.symm
        clear o1 o2 o3 hb14 hb15 hW15 hCZ e1 e2 HSY c0 c1 c2 x2
        go_wp2_with fail
        rw [unhide HW15]
        refine (unhide HCZ).mono ?_
        rintro e w16 ⟨zL, vL, zS, vS, zO, vO, rfl, o1, o2, o3, -, hb16⟩
        obtain ⟨W17, hW17⟩ : ∃ W17, W17 = w16.alloc (.cells #[.slice zL live.length vL, .slice zS live.length vS, .slice zO 0 vO] 27) := ⟨_, rfl⟩
        have hb17 : Below W15.heap.size W15 W17 := by rw [hW17]; exact belOn hb16 (bel1 _ _)
        have HV17 := hide (belOn (unhide HV15) hb17)
        have HB17 := hide (belOn (unhide HV1) (unhide HV17))
        have hS4 := sameFiles_calls zL aL live.length live.length vL cL live live W17 rfl rfl (by omega) (by omega) (by rw [hW17]; exact o1.at.below (bel1 _ _)) (unhide HD W17 (unhide HB17)).rl
        rw [same_self] at hS4
        have HS4 := hide hS4
        have z0 := (show NwK w16.heap.size (.slice zL live.length vL) (.slice zS live.length vS) (.slice zO 0 vO) W17 from by rw [hW17]; exact NwK.new w16 _ _ _).c0
        have c0 := (unhide HC W17 (unhide HB17)).c0
        have HW17 := hide hW17.symm
        clear o1 o2 o3 hb16 hb17 hW17 hS4 HCZ
        go_upto_region 21 with fail
        rw [unhide HW17]
        go_wp2_with fail
        refine (unhide HS4).mono ?_
        rintro e w18 ⟨rfl, hb18⟩
        have HV18 := hide (belOn (unhide HV17) hb18)
        have HB18 := hide (belOn (unhide HV1) (unhide HV18))
        clear hb18 z0 c0 HS4
        cases K with
        | false =>
          go_wp2_with fail
          go_ret
          exact ⟨rfl, belOn (unhide HB2) (unhide HB18)⟩
        | true =>
          have hXd := (unhide HGD).1 rfl
          have hXf := (disk_run hXd).1
          have hX1 := small_fit hXf
          have hX2 := (files_small hXf).1
          have hE := (unhide HEV).1.below (unhide HV18)
          have e0 := hE.c0
          have e1 := hE.c1
          have e2 := hE.c2
          have hOE := impl_DiskOkO eL X.length jL X eS X.length jS X eO 0 jO [] w18 ⟨(unhide HEV).2.1.below (unhide HV18), (unhide HEV).2.2.below (unhide HV18), fun i hi => absurd hi (by simp), rfl, rfl, rfl, (unhide HE7).2.1, (unhide HE7).2.2, hX1, hX1, fun o ho => (by cases ho), by omega, by omega, Nat.zero_le _⟩
          rw [hXd] at hOE
          have HOE := hide hOE
          clear hXd hXf hX1 hX2 hOE hE
          go_wp2_with fail
          refine (unhide HOE).mono ?_
          rintro e w19 ⟨rfl, hb19⟩
          have hE := (unhide HEV).1.below (belOn (unhide HV18) hb19)
          have g2 := hE.c2
          have HB19 := hide (belOn (unhide HB18) hb19)
          clear e0 e1 e2 hE hb19
          go_wp2_with fail
          go_ret
          exact ⟨rfl, belOn (unhide HB2) (unhide HB19)⟩
end Go.Proofs.Ytknpccpfjclngaa
