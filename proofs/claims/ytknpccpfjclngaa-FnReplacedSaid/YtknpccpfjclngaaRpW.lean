/- A drawn file is replaced: the walk. -/
import Derived.Test.YtknpccpfjclngaaRpD
import Derived.Test.YtknpccpfjclngaaRpM
import Derived.Test.YtknpccpfjclngaaRplS
import Derived.Test.YtknpccpfjclngaaRplO
import Derived.Test.YtknpccpfjclngaaCrsE
import Derived.Test.YtknpccpfjclngaaSynI
import Derived.Test.YtknpccpfjclngaaDskF
import Derived.Test.YtknpccpfjclngaaGAE
import Derived.Deep.DeepCutAuto
import Derived.Deep.CutBlock
namespace Go.Proofs.Ytknpccpfjclngaa
open Go.RowKit Plain
set_option linter.unusedVariables false

/-- The places that are kept once i ops have been looked at. -/
def KeepI (i : Nat) (ks : List Int) : Prop := (i = 0 ∧ ks = []) ∨ (i = 1 ∧ (ks = [] ∨ ks = [0])) ∨ (i = 2 ∧ ks ∈ keepM)
theorem KeepI.no {i : Nat} {ks : List Int} (h : KeepI i ks) (hi : i < 2) : KeepI (i + 1) ks := by
  rcases h with ⟨rfl, rfl⟩ | ⟨rfl, h⟩ | ⟨rfl, _⟩
  · exact .inr (.inl ⟨rfl, .inl rfl⟩)
  · refine .inr (.inr ⟨rfl, ?_⟩)
    rcases h with rfl | rfl <;> simp [keepM]
  · omega
theorem KeepI.yes {i : Nat} {ks : List Int} (h : KeepI i ks) (hi : i < 2) : KeepI (i + 1) (ks ++ [(i : Int)]) := by
  rcases h with ⟨rfl, rfl⟩ | ⟨rfl, h⟩ | ⟨rfl, _⟩
  · exact .inr (.inl ⟨rfl, .inr rfl⟩)
  · refine .inr (.inr ⟨rfl, ?_⟩)
    rcases h with rfl | rfl <;> simp [keepM]
  · omega
theorem KeepI.len {i : Nat} {ks : List Int} (h : KeepI i ks) : ks.length ≤ i := by
  rcases h with ⟨rfl, rfl⟩ | ⟨rfl, rfl | rfl⟩ | ⟨rfl, h⟩
  · simp
  · simp
  · simp
  · unfold keepM at h
    simp only [List.mem_cons, List.not_mem_nil, or_false] at h
    rcases h with rfl | rfl | rfl | rfl <;> simp

set_option maxRecDepth 10000 in
set_option maxHeartbeats 8000000 in
theorem rpl_walk (a0 : Option Addr) (len0 cap0 : Nat) (z0 : List Int) (w : World) (h0 : IsRow .u8 w a0 len0 cap0 z0) (hl0 : len0 ≤ 1048576) :
    Calls Try.prog 4 #[.slice a0 len0 cap0] w fun e w' => e = .returned (.bool true) ∧ Below w.heap.size w w' := by
  have H0 := hide h0
  have d0 : decide (1048576 < (len0 : Int)) = false := by simp; omega
  have m0 := h0.len
  clear h0
  go_enter Try.func4, Try.ntmps4
  go_wp2_with fail
  refine (big_calls a0 len0 cap0 _ m0).mono ?_
  rintro e w1 ⟨rfl, rfl⟩
  rw [d0]
  go_wp2_with fail
  refine (DrawReplace_calls a0 len0 cap0 z0 _ (unhide H0) hl0).mono ?_
  rintro e w1 ⟨aL, cL, live, aS, cS, safe, aO, cO, ops, nm, dt, rfl, ⟨r1, r2, r3⟩, ⟨ad1, ad2, ad3⟩, hfit, ⟨hnm, hdt⟩, hb1⟩
  obtain ⟨fr, hfr⟩ : ∃ fr, nm ++ ⟨#[46, 110, 101, 119]⟩ = fr := ⟨_, rfl⟩
  have hne : nm ≠ fr := fun q => by
    have := congrArg ByteArray.size (q.trans hfr.symm)
    rw [ByteArray.size_append] at this
    have h4 : (⟨#[46, 110, 101, 119]⟩ : ByteArray).size = 4 := rfl
    omega
  obtain ⟨W2, hW2⟩ : ∃ W2, W2 = w1.alloc (.cells #[.slice aL live.length cL, .slice aS safe.length cS, .slice aO ops.length cO] 27) := ⟨_, rfl⟩
  have hb2 : Below w1.heap.size w1 W2 := by rw [hW2]; exact bel1 _ _
  have HC := hide (fun (W : World) (hW : Below W2.heap.size W2 W) => NwK.below (show NwK w1.heap.size (.slice aL live.length cL) (.slice aS safe.length cS) (.slice aO ops.length cO) W2 from by rw [hW2]; exact NwK.new w1 _ _ _) hW)
  have HD := hide (fun (W : World) (hW : Below W2.heap.size W2 W) => (show DiskN W aL live.length cL live aS safe.length cS safe aO ops.length cO ops from ⟨⟨(r1.below hb2).below hW, (r2.below hb2).below hW, (r3.below hb2).below hW, rfl, rfl, rfl, ad1, ad2, hfit.1, hfit.2.1, hfit.2.2.1, by have := hfit.2.2.2.1; omega, by have := hfit.2.2.2.2.1; omega, by have := hfit.2.2.2.2.2; omega⟩, ad3⟩))
  have HFT := hide hfit
  have HB2 := hide (belOn hb1 hb2)
  have hll : live.length ≤ 1000 := hfit.2.2.2.1
  have HSP := hide (fun (W : World) (hW : Below W2.heap.size W2 W) => spec_ReplaceN aL live.length cL live aS safe.length cS safe aO ops.length cO ops nm dt fr W (unhide HD W hW) (by omega) (by omega) hfr)
  have HIP := hide (fun (W : World) (hW : Below W2.heap.size W2 W) => impl_ReplaceN aL live.length cL live aS safe.length cS safe aO ops.length cO ops nm dt fr W (unhide HD W hW) (by omega) (by omega) hfr)
  unfold SpcQ at HSP
  unfold DskPost at HIP
  generalize actC live safe ops (repX live safe ops fr nm dt) = C at HSP HIP
  generalize actL live safe ops (repX live safe ops fr nm dt) = L1 at HSP HIP
  generalize actS live safe ops = S1 at HSP HIP
  generalize actO live safe ops (repX live safe ops fr nm dt) = O1 at HSP HIP
  have HW2 := hide hW2.symm
  have HFR := hide hfr
  have HNE := hide hne
  clear r1 r2 r3 ad1 ad2 ad3 hfit hb1 hb2 hW2 hne hfr
  have c0 := (unhide HC W2 (Below.refl _ _)).c0
  have c1 := (unhide HC W2 (Below.refl _ _)).c1
  have c2 := (unhide HC W2 (Below.refl _ _)).c2
  go_upto_region 4 with fail
  rw [unhide HW2]
  go_wp2_with fail
  refine (unhide HSP W2 (Below.refl _ _)).mono ?_
  rintro e w3 ⟨xL, kL, xS, kS, xO, kO, rfl, -, -, -, -, -, -, -, hb3⟩
  obtain ⟨W4, hW4⟩ : ∃ W4, W4 = w3.alloc (.cells #[.slice xL L1.length kL, .slice xS S1.length kS, .slice xO O1.length kO] 27) := ⟨_, rfl⟩
  have hb4 : Below W2.heap.size W2 W4 := by rw [hW4]; exact belOn hb3 (bel1 _ _)
  have HB4 := hide hb4
  have HW4 := hide hW4.symm
  clear hb3 hb4 hW4 c0 c1 c2
  have c0 := (unhide HC W4 (unhide HB4)).c0
  have c1 := (unhide HC W4 (unhide HB4)).c1
  have c2 := (unhide HC W4 (unhide HB4)).c2
  go_upto_region 5 with fail
  rw [unhide HW4]
  go_wp2_with fail
  refine (unhide HIP W4 (unhide HB4)).mono ?_
  rintro e w5 ⟨eL, jL, eS, jS, eO, jO, rfl, -, -, -, -, hb5⟩
  obtain ⟨W6, hW6⟩ : ∃ W6, W6 = w5.alloc (.cells #[.slice eL L1.length jL, .slice eS S1.length jS, .slice eO O1.length jO] 27) := ⟨_, rfl⟩
  have hb6 : Below W4.heap.size W4 W6 := by rw [hW6]; exact belOn hb5 (bel1 _ _)
  have HB6 := hide (belOn (unhide HB4) hb6)
  have HW6 := hide hW6.symm
  clear hb5 hb6 hW6 c0 c1 c2 HSP HIP
  go_upto_region 6 with fail
  rw [unhide HW6]
  have hKK : (C == C) = true := by simp
  have hKn : (C != C) = false := by simp
  have c0 := (unhide HC W6 (unhide HB6)).c0
  have c1 := (unhide HC W6 (unhide HB6)).c1
  have c2 := (unhide HC W6 (unhide HB6)).c2
  have HOK := hide (spec_DiskOkO aL live.length cL live aS safe.length cS safe aO ops.length cO ops W6 (unhide HD W6 (unhide HB6)).toDiskO)
  obtain ⟨DB, hDB⟩ : ∃ x, diskB live safe ops = x := ⟨_, rfl⟩
  rw [hDB] at HOK
  have HDB := hide hDB
  clear hDB
  go_wp2_with fail
  refine (unhide HOK).mono ?_
  rintro e w7 ⟨rfl, hb7⟩
  have HB7 := hide (belOn (unhide HB6) hb7)
  clear hb7 HOK c0 c1 c2
  cases DB with
  | false =>
    go_wp2_with fail
    go_ret
    exact ⟨rfl, belOn (unhide HB2) (unhide HB7)⟩
  | true =>
    have hdb := unhide HDB
    have hlf := (disk_run hdb).1
    have c0 := (unhide HC w7 (unhide HB7)).c0
    have c1 := (unhide HC w7 (unhide HB7)).c1
    have c2 := (unhide HC w7 (unhide HB7)).c2
    have hSY := impl_SyncO aL live.length cL live aS safe.length cS safe aO ops.length cO ops w7 (unhide HD w7 (unhide HB7)).toDiskO
    have hsl2 : synL live safe ops = live := by unfold synL; rw [hdb]; rfl
    rw [hsl2] at hSY
    unfold DskPost at hSY
    have HSY := hide hSY
    clear hSY hsl2
    go_wp2_with fail
    refine (unhide HSY).mono ?_
    rintro e w8 ⟨sL, tL, sS, tS, sO, tO, rfl, o1, o2, o3, -, hb8⟩
    obtain ⟨W8, hW8⟩ : ∃ W8, W8 = w8.alloc (.cells #[.slice sL live.length tL, .slice sS live.length tS, .slice sO 0 tO] 27) := ⟨_, rfl⟩
    have hb9 : Below w7.heap.size w7 W8 := by rw [hW8]; exact belOn hb8 (bel1 _ _)
    have HBW := hide (belOn (unhide HB2) (belOn (unhide HB7) hb9))
    have hfl := (unhide HFT).1
    have HDS := hide (fun (W : World) (hW : Below W8.heap.size W8 W) => DiskAt.below (show DiskAt W8 sL live.length tL live sS live.length tS live sO 0 tO [] from by rw [hW8]; exact ⟨o1.at.below (bel1 _ _), o2.at.below (bel1 _ _), o3.at.below (bel1 _ _), rfl, rfl, rfl, o1.ad, o2.ad, o3.ad, hfl, hfl, fun o ho => (by cases ho), by omega, by omega, Nat.zero_le _⟩) hW)
    have HCS := hide (fun (W : World) (hW : Below W8.heap.size W8 W) => NwK.below (show NwK w8.heap.size (.slice sL live.length tL) (.slice sS live.length tS) (.slice sO 0 tO) W8 from by rw [hW8]; exact NwK.new w8 _ _ _) hW)
    have HLF := hide hlf
    have HW8 := hide hW8.symm
    clear o1 o2 o3 hb8 hb9 hW8 c0 c1 c2 HSY HC HD HB7 HB6 HB4 HDB hdb hlf hfl
    have c0 := (unhide HCS W8 (Below.refl _ _)).c0
    have c1 := (unhide HCS W8 (Below.refl _ _)).c1
    have c2 := (unhide HCS W8 (Below.refl _ _)).c2
    have e1 := fun W => strAddR (a := nm) (b := ⟨#[46, 110, 101, 119]⟩) W (by show nm.size + 4 ≤ _; omega)
    rw [unhide HFR] at e1
    have hsz : fr.size ≤ 104 := by rw [← unhide HFR, ByteArray.size_append]; show nm.size + 4 ≤ 104; omega
    have hRF := spec_ReadFile sL live.length tL live sS live.length tS live sO 0 tO [] fr W8 (unhide HDS W8 (Below.refl _ _)) (by omega)
    have hff : ∀ n, fileF live live [] n = tabF live n := fun n => by unfold fileF; rw [if_pos (disk_synced (unhide HLF))]
    rw [hff] at hRF
    unfold readV at hRF
    have HRF := hide hRF
    have HFF := hide hff
    clear hRF hff
    go_upto_region 11 with fail
    rw [unhide HW8]
    go_wp2_with fail
    refine (unhide HRF).mono ?_
    rintro e w9 ⟨rfl, hb9⟩
    have HB9 := hide hb9
    clear hb9 HRF c0 c1 c2 e1
    cases hth : tabF live fr with
    | some dx =>
      go_wp2_with fail
      go_ret
      exact ⟨rfl, belOn (unhide HBW) (unhide HB9)⟩
    | none =>
      have HTH := hide hth
      have c0 := (unhide HCS w9 (unhide HB9)).c0
      have c1 := (unhide HCS w9 (unhide HB9)).c1
      have c2 := (unhide HCS w9 (unhide HB9)).c2
      obtain ⟨OLD, hOLD⟩ : ∃ x, tabF live nm = x := ⟨_, rfl⟩
      have hRN := impl_ReadFile sL live.length tL live sS live.length tS live sO 0 tO [] nm w9 (unhide HDS w9 (unhide HB9)) (by omega)
      rw [unhide HFF, hOLD] at hRN
      unfold readV at hRN
      have HRN := hide hRN
      have HOLD := hide hOLD
      clear hRN hOLD hth
      go_wp2_with fail
      refine (unhide HRN).mono ?_
      rintro e w10 ⟨rfl, hb10⟩
      have HB10 := hide (belOn (unhide HB9) hb10)
      clear hb10 HRN c0 c1 c2
      have c0 := (unhide HCS w10 (unhide HB10)).c0
      have c1 := (unhide HCS w10 (unhide HB10)).c1
      have c2 := (unhide HCS w10 (unhide HB10)).c2
      have hRP := impl_ReplaceN sL live.length tL live sS live.length tS live sO 0 tO [] nm dt fr w10 (unhide HDS w10 (unhide HB10)).toN (by omega) (by omega) (unhide HFR)
      rw [rep_kind (unhide HLF) (unhide HTH)] at hRP
      have hlaw := fun (h : actC live live [] (repW fr nm dt) = 0) => rep_law (t := (len0 : Int) % 4) (unhide HLF) (unhide HTH) (unhide HNE) (by omega) h
      unfold DskPost at hRP
      generalize actC live live [] (repW fr nm dt) = C2 at hRP hlaw
      generalize actL live live [] (repW fr nm dt) = L2 at hRP hlaw
      generalize actS live live [] = S2 at hRP hlaw
      generalize actO live live [] (repW fr nm dt) = O2 at hRP hlaw
      have HRP := hide hRP
      have HLAW := hide hlaw
      clear hRP hlaw
      go_wp2_with fail
      refine (unhide HRP).mono ?_
      rintro e w11 ⟨pL, qL, pS, qS, pO, qO, rfl, o1, o2, o3, -, hb11⟩
      obtain ⟨V1, hV1⟩ : ∃ V1, V1 = w11.alloc (.cells #[.slice pL L2.length qL, .slice pS S2.length qS, .slice pO O2.length qO] 27) := ⟨_, rfl⟩
      have hb12 : Below w10.heap.size w10 V1 := by rw [hV1]; exact belOn hb11 (bel1 _ _)
      have HV1 := hide (belOn (unhide HB10) hb12)
      have HCV := hide (fun (W : World) (hW : Below V1.heap.size V1 W) => NwK.below (show NwK w11.heap.size (.slice pL L2.length qL) (.slice pS S2.length qS) (.slice pO O2.length qO) V1 from by rw [hV1]; exact NwK.new w11 _ _ _) hW)
      have HRV := hide (show (RowAt fileE V1 pL L2 ∧ RowAt fileE V1 pS S2 ∧ RowAt dopE V1 pO O2) ∧ AdOk pL qL ∧ AdOk pS qS ∧ AdOk pO qO from by rw [hV1]; exact ⟨⟨o1.at.below (bel1 _ _), o2.at.below (bel1 _ _), o3.at.below (bel1 _ _)⟩, o1.ad, o2.ad, o3.ad⟩)
      have HVW := hide hV1.symm
      clear o1 o2 o3 hb11 hb12 hV1 HRP c0 c1 c2
      go_upto_region 16 with fail
      rw [unhide HVW]
      by_cases hc2 : C2 = 0
      · subst hc2
        obtain ⟨x1, x2, x3, x4, x5, x6⟩ := unhide HLAW rfl
        subst x1
        have HX2 := hide x2
        have hol : O2.length = 2 := by rw [x2]; rfl
        have HDV := hide (fun (W : World) (hW : Below V1.heap.size V1 W) => (show DiskAt W pL L2.length qL L2 pS S2.length qS S2 pO 2 qO O2 from ⟨(unhide HRV).1.1.below hW, (unhide HRV).1.2.1.below hW, (unhide HRV).1.2.2.below hW, rfl, rfl, hol, (unhide HRV).2.1, (unhide HRV).2.2.1, (unhide HRV).2.2.2, small_fit x4, small_fit (unhide HLF), fun o ho => by
          rw [x2] at ho
          unfold repW at ho
          simp only [List.mem_cons, List.not_mem_nil, or_false] at ho
          rcases ho with rfl | rfl
          · exact ⟨show fr.size ≤ _ by omega, show (0 : Nat) ≤ _ by omega, show dt.size ≤ _ by omega⟩
          · exact ⟨show fr.size ≤ _ by omega, show nm.size ≤ _ by omega, show (0 : Nat) ≤ _ by omega⟩, by have := (files_small x4).1; omega, by omega, by omega⟩))
        have hff2 : fileF L2 S2 O2 nm = some dt := by unfold fileF; rw [x2, if_pos x3]; exact x5
        have hRD := impl_ReadFile pL L2.length qL L2 pS S2.length qS S2 pO 2 qO O2 nm V1 (unhide HDV V1 (Below.refl _ _)) (by omega)
        rw [hff2] at hRD
        unfold readV at hRD
        have HRD := hide hRD
        rw [← x2] at x6
        have HX6 := hide x6
        have HOL := hide hol
        have c0 := (unhide HCV V1 (Below.refl _ _)).c0
        have c1 := (unhide HCV V1 (Below.refl _ _)).c1
        have c2 := (unhide HCV V1 (Below.refl _ _)).c2
        rw [hol] at c2
        have hdd : (dt.toList == dt.toList) = true := (beq_bytes dt dt).2 rfl
        have hdn : (dt.toList != dt.toList) = false := by rw [bne, hdd]; rfl
        clear x2 x3 x4 x5 x6 hol hff2 hRD
        go_wp2_with fail
        refine (unhide HRD).mono ?_
        rintro e w12 ⟨rfl, hb12⟩
        have HB12 := hide hb12
        clear hb12 HRD c0 c1 c2
        go_wp2_with fail
        go_loopw [19] (fun s19 wr => ∃ m : Nat, s19 = .int .i64 m ∧ m ≤ 8 ∧ Hid (Below V1.heap.size V1 wr)) (fun s19 _ => 8 - (intOf s19).toNat)
        case atStart => exact ⟨0, rfl, by omega, HB12⟩
        case round =>
          clear HB12
          obtain ⟨m, rfl, hm, HB⟩ := hrel
          obtain ⟨wm, rfl⟩ : ∃ wm, wm = wr := ⟨_, rfl⟩
          by_cases hm8 : m < 8
          · have i0 : (m : Int) < 8 := by omega
            have HK0 := hide (show OwnR i64E (wm.alloc (.cells #[] 2)) wm.heap.size (.slice (some ⟨wm.heap.size, 0, none⟩) 0 0) [] from ownR_empty i64E wm wm.heap.size (Nat.le_refl _))
            go_upto_block 2 with fail
            go_cut [20] (fun s20 wx => ∃ (ks : List Int) (bk : Option Addr) (nk ek : Nat), s20 = .slice bk nk ek ∧ Hid (ks.length = nk ∧ ks ∈ keepM) ∧ Hid (OwnR i64E wx wm.heap.size (.slice bk nk ek) ks) ∧ Hid (Below wm.heap.size wm wx))
            case first =>
              go_wp2_with fail
              go_loopw [20, 21] (fun s20 s21 wq => ∃ (i : Nat) (ks : List Int) (bk : Option Addr) (nk ek : Nat), s20 = .slice bk nk ek ∧ s21 = .int .i64 i ∧ i ≤ 2 ∧ Hid (ks.length = nk ∧ KeepI i ks) ∧ Hid (OwnR i64E wq wm.heap.size (.slice bk nk ek) ks) ∧ Hid (Below wm.heap.size wm wq)) (fun _ s21 _ => 2 - (intOf s21).toNat)
              case atStart => exact ⟨0, [], _, 0, _, rfl, rfl, by omega, hide ⟨rfl, .inl ⟨rfl, rfl⟩⟩, HK0, hide (bel1 _ _)⟩
              case round =>
                clear HK0
                obtain ⟨i, ks, bk, nk, ek, rfl, rfl, hi, HKI, HO, HBq⟩ := hrel
                have c2 := (unhide HCV wr (belOn (unhide HB) (unhide HBq))).c2
                rw [unhide HOL] at c2
                have hBk := (unhide HBq).size
                have hlk : ks.length < 100000000 := by have := (unhide HKI).2.len; omega
                by_cases hi2 : i < 2
                · have j0 : (i : Int) < 2 := by omega
                  have j1 : (0 : Int) ≤ (i : Int) := by omega
                  go_wp2_with (at_builtin; refine appR (e := i64E) rfl _ _ rfl (unhide HO) rfl (i : Int) rfl _ rfl rfl hlk hBk ?_; intro v5 w5 hO5 hb5 _; obtain ⟨a5, c5, hv5⟩ := hO5.form; rw [List.length_append, (unhide HKI).1] at hv5; simp only [List.length_cons, List.length_nil, Nat.zero_add] at hv5; subst hv5)
                  all_goals first
                    | exact ⟨⟨i + 1, ks ++ [(i : Int)], a5, nk + 1, c5, rfl, by go_num, by omega, hide ⟨by rw [List.length_append, (unhide HKI).1]; rfl, (unhide HKI).2.yes hi2⟩, hide hO5, hide ((unhide HBq).trans hb5)⟩, by simp [intOf]; omega⟩
                    | exact ⟨⟨i + 1, ks, bk, nk, ek, rfl, by go_num, by omega, hide ⟨(unhide HKI).1, (unhide HKI).2.no hi2⟩, HO, HBq⟩, by simp [intOf]; omega⟩
                · obtain rfl : i = 2 := by omega
                  go_wp2_with fail
                  go_meet
                  have hk := (unhide HKI).2
                  refine ⟨ks, bk, nk, ek, rfl, hide ⟨(unhide HKI).1, ?_⟩, HO, HBq⟩
                  rcases hk with ⟨q, _⟩ | ⟨q, _⟩ | ⟨_, q⟩
                  · omega
                  · omega
                  · exact q
            case rest =>
            obtain ⟨wx, rfl⟩ : ∃ wx, wx = wc := ⟨_, rfl⟩
            clear HK0
            obtain ⟨ks, bk, nk, ek, rfl, HKS, HO, HBx⟩ := hcut
            have HBV := hide (belOn (unhide HB) (unhide HBx))
            obtain ⟨hkn, hkm⟩ := unhide HKS
            obtain ⟨y1, y2, y3⟩ := unhide HX6 ks hkm
            have hkl : nk ≤ 2 := by
              rw [← hkn]
              unfold keepM at hkm
              simp only [List.mem_cons, List.not_mem_nil, or_false] at hkm
              rcases hkm with rfl | rfl | rfl | rfl <;> simp
            obtain ⟨tt, htt⟩ : ∃ tt : Int, (len0 : Int) % 4 = tt := ⟨_, rfl⟩
            rw [htt] at y1 y2 y3
            have hCR := impl_CrashO pL L2.length qL L2 pS S2.length qS S2 pO 2 qO O2 bk nk ek ks tt wx (unhide HDV wx (unhide HBV)).toO hkn (by omega) (unhide HO).at
            unfold DskPost at hCR
            rw [y1] at hCR
            generalize crL L2 S2 O2 ks tt = X at hCR y2 y3
            have HCR := hide hCR
            have HXF := hide y2
            have HY3 := hide y3
            have c0 := (unhide HCV wx (unhide HBV)).c0
            have c1 := (unhide HCV wx (unhide HBV)).c1
            have c2 := (unhide HCV wx (unhide HBV)).c2
            rw [unhide HOL] at c2
            clear hCR y1 y2 y3 hkm hkn
            go_wp2_with fail
            refine (unhide HCR).mono ?_
            rintro e w13 ⟨mL, nL, mS, nS, mO, nO, rfl, o1, o2, o3, -, hb13⟩
            obtain ⟨V2, hV2⟩ : ∃ V2, V2 = w13.alloc (.cells #[.slice mL X.length nL, .slice mS X.length nS, .slice mO 0 nO] 27) := ⟨_, rfl⟩
            have hb14 : Below wx.heap.size wx V2 := by rw [hV2]; exact belOn hb13 (bel1 _ _)
            have hX1 := small_fit (unhide HXF)
            have hX2 := (files_small (unhide HXF)).1
            have hRD := impl_ReadFile mL X.length nL X mS X.length nS X mO 0 nO [] nm V2 (by rw [hV2]; exact ⟨o1.at.below (bel1 _ _), o2.at.below (bel1 _ _), o3.at.below (bel1 _ _), rfl, rfl, rfl, o1.ad, o2.ad, o3.ad, hX1, hX1, fun o ho => (by cases ho), by omega, by omega, Nat.zero_le _⟩) (by omega)
            have hff3 : fileF X X [] nm = tabF X nm := by unfold fileF; rw [if_pos (disk_synced (unhide HXF))]
            rw [hff3] at hRD
            unfold readV at hRD
            generalize tabF X nm = G at hRD HY3
            have HRD := hide hRD
            have HB14 := hide (belOn (unhide HBV) hb14)
            have HV2 := hide hV2.symm
            clear o1 o2 o3 hb13 hb14 hV2 hRD hX1 hX2 hff3 HCR c0 c1 c2
            go_wp2_with fail
            rw [unhide HV2]
            refine (unhide HRD).mono ?_
            rintro e w15 ⟨rfl, hb15⟩
            have HB15 := hide (belOn (unhide HB14) hb15)
            clear hb15 HRD
            go_upto_region 32 with fail
            go_cut [161] (fun s161 wz => s161 = .bool false ∧ Hid (Below V1.heap.size V1 wz))
            case first =>
              have hy := unhide HY3
              rw [unhide HOLD] at hy
              clear HY3 HOLD HXF HB14 HBV HBx HO HKS HX6 HLAW
              rcases hy with rfl | rfl
              · cases G with
                | none =>
                  go_wp2_with fail
                  go_meet
                  exact ⟨rfl, HB15⟩
                | some x =>
                  have hxx : (x.toList == x.toList) = true := (beq_bytes x x).2 rfl
                  have hxn : (x.toList != x.toList) = false := by rw [bne, hxx]; rfl
                  by_cases hxd : x = dt
                  · subst hxd
                    go_wp2_with fail
                    go_meet
                    exact ⟨rfl, HB15⟩
                  · have hx1 : (x.toList == dt.toList) = false := by
                      cases hq : (x.toList == dt.toList) with
                      | false => rfl
                      | true => exact absurd ((beq_bytes x dt).1 hq) hxd
                    have hx2 : (x.toList != dt.toList) = true := by rw [bne, hx1]; rfl
                    go_wp2_with fail
                    go_meet
                    exact ⟨rfl, HB15⟩
              · cases OLD with
                | none =>
                  go_wp2_with fail
                  go_meet
                  exact ⟨rfl, HB15⟩
                | some x =>
                  go_wp2_with fail
                  go_meet
                  exact ⟨rfl, HB15⟩
            case rest =>
            obtain ⟨wz, rfl⟩ : ∃ wz, wz = wc := ⟨_, rfl⟩
            obtain ⟨rfl, HBz⟩ := hcut
            go_wp2_with fail
            go_roundw
            case rel => exact ⟨m + 1, by go_num, by omega, HBz⟩
            case measure => simp [intOf]; omega
          · obtain rfl : m = 8 := by omega
            go_wp2_with fail
            go_ret
            exact ⟨rfl, belOn (unhide HBW) (belOn (unhide HV1) (unhide HB))⟩
      · have hcb : (C2 != 0) = true := by simp [bne, beq_eq_false_iff_ne.2 hc2]
        go_wp2_with fail
        go_ret
        exact ⟨rfl, belOn (unhide HBW) (unhide HV1)⟩
end Go.Proofs.Ytknpccpfjclngaa
