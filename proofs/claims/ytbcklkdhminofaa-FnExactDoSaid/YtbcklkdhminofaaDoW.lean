/- The walk of the law FnExactDo. -/
import Derived.Test.YtbcklkdhminofaaDskN
import Derived.Test.YtbcklkdhminofaaDskX
import Derived.Test.YtbcklkdhminofaaDoI
import Derived.Test.YtbcklkdhminofaaActS
import Derived.Deep.DeepCutAuto
import Derived.Deep.RegionHeld3
import Derived.WalkKit
import Derived.ProofKit
import Derived.Below
set_option linter.unusedVariables false
namespace Go.Proofs.Ytbcklkdhminofaa.fnExactDo
open Go.RowKit
open Plain

set_option maxRecDepth 10000 in
set_option maxHeartbeats 16000000 in
theorem walk (aL : Option Addr) (nL cL : Nat) (live : List Fl) (aS : Option Addr) (nS cS : Nat) (safe : List Fl) (aO : Option Addr) (nO cO : Nat) (ops : List Dop) (kd : Int) (nm tx dt : ByteArray) (w : World) (hl : ArgRow 2 fileL goodF w aL nL cL live) (hs : ArgRow 2 fileL goodF w aS nS cS safe) (ho : ArgRow 4 dopL goodO w aO nO cO ops) (hkd : (Lit.int .i64 kd).wf = true) (hnm : nm.size ≤ maxLen) (hto : tx.size ≤ maxLen) (hdt : dt.size ≤ maxLen) :
    Calls Try.prog 5 #[.agg #[.slice aL nL cL, .slice aS nS cS, .slice aO nO cO], .agg #[.int .i64 kd, .string nm, .string tx, .string dt]] w fun e w' => e = .returned (.bool true) ∧ Below w.heap.size w w' := by
  have h : DskArg w aL nL cL live aS nS cS safe aO nO cO ops := ⟨hl, hs, ho⟩
  obtain ⟨Wa, hWa⟩ : ∃ Wa, Wa = w.alloc (.cells #[.slice aL nL cL, .slice aS nS cS, .slice aO nO cO] 46) := ⟨_, rfl⟩
  obtain ⟨W0, hW0⟩ : ∃ W0, W0 = Wa.alloc (.cells #[.int .i64 kd, .string nm, .string tx, .string dt] 48) := ⟨_, rfl⟩
  have hba : Below w.heap.size w Wa := by rw [hWa]; exact bel1 _ _
  have hsa : Wa.heap.size = w.heap.size + 1 := by rw [hWa]; simp
  have hbb : Below Wa.heap.size Wa W0 := by rw [hW0]; exact bel1 _ _
  have hs0 : W0.heap.size = w.heap.size + 2 := by rw [hW0]; simp [hsa]
  have hb0 := belOn hba hbb
  have c0 : W0.cell? ⟨w.heap.size, 0, none⟩ = some (.slice aL nL cL) := bcl hbb (by omega) (by rw [hWa]; simp [go_sem])
  have c1 : W0.cell? ⟨w.heap.size, 1, none⟩ = some (.slice aS nS cS) := bcl hbb (by omega) (by rw [hWa]; simp [go_sem])
  have c2 : W0.cell? ⟨w.heap.size, 2, none⟩ = some (.slice aO nO cO) := bcl hbb (by omega) (by rw [hWa]; simp [go_sem])
  have hop : ∀ i, i < 4 → W0.cell? ⟨w.heap.size + 1, i, none⟩ = (#[.int .i64 kd, .string nm, .string tx, .string dt] : Array Value)[i]? := by
    intro i hi
    rw [hW0, ← hsa]
    rcases i with _ | _ | _ | _ | i
    all_goals first | omega | simp [go_sem]
  have HD := hide (fun (W : World) (hW : Below W0.heap.size W0 W) => (h.below hb0).below hW)
  have HC := hide (fun (W : World) (hW : Below W0.heap.size W0 W) => And.intro (bcl hW (show w.heap.size < W0.heap.size by omega) c0) (And.intro (bcl hW (show w.heap.size < W0.heap.size by omega) c1) (bcl hW (show w.heap.size < W0.heap.size by omega) c2)))
  have HP4 := hide (fun (W : World) (hW : Below W0.heap.size W0 W) => And.intro (bcl hW (show w.heap.size + 1 < W0.heap.size by omega) (hop 0 (by decide))) (And.intro (bcl hW (show w.heap.size + 1 < W0.heap.size by omega) (hop 1 (by decide))) (And.intro (bcl hW (show w.heap.size + 1 < W0.heap.size by omega) (hop 2 (by decide))) (bcl hW (show w.heap.size + 1 < W0.heap.size by omega) (hop 3 (by decide))))))
  have HFIN := hide (fun (W : World) (hW : Below W0.heap.size W0 W) => belOn hb0 hW)
  have HW0 := hide (show (w.alloc (.cells #[.slice aL nL cL, .slice aS nS cS, .slice aO nO cO] 46)).alloc (.cells #[.int .i64 kd, .string nm, .string tx, .string dt] 48) = W0 from by rw [hW0, hWa])
  have HSZ := hide (szDisk_calls aL nL cL live aS nS cS safe aO nO cO ops 1048576 W0 (h.below hb0) (by decide))
  obtain ⟨T, hT⟩ : ∃ T, nm.size + tx.size + dt.size = T := ⟨_, rfl⟩
  have HSO := hide (fun (W : World) (r : Nat) (hr : r ≤ 10000000) => szDOp_calls kd nm tx dt r W hr hnm hto hdt)
  rw [hT] at HSO
  by_cases hbig : 1048576 < totD live safe ops
  · rw [purse_no (show ((1048576 : Nat) : Int) < ((totD live safe ops : Nat) : Int) by omega)] at HSZ
    clear h hl hs ho hb0 hba hbb hsa hs0 hWa hW0 hop HSO hT
    go_enter Try.func5, Try.ntmps5
    go_wp2_with fail
    rw [unhide HW0]
    refine (unhide HSZ).mono ?_
    rintro e w1 ⟨rfl, hb1⟩
    have HB1 := hide (unhide HFIN _ hb1)
    clear hb1
    go_wp2_with fail
    go_ret
    exact ⟨rfl, unhide HB1⟩
  · obtain ⟨r, hr⟩ : ∃ r : Nat, ((1048576 : Nat) : Int) - ((totD live safe ops : Nat) : Int) = (r : Int) := ⟨1048576 - totD live safe ops, by omega⟩
    rw [purse_yes (show ¬ ((1048576 : Nat) : Int) < ((totD live safe ops : Nat) : Int) by omega), hr] at HSZ
    have hr2 : r ≤ 1048576 := by omega
    have HSO2 := hide (fun W => unhide HSO W r (by omega))
    by_cases hbig2 : r < T
    · rw [purse_no (show (r : Int) < (T : Int) by omega)] at HSO2
      clear h hl hs ho hb0 hba hbb hsa hs0 hWa hW0 hop HSO hT
      go_enter Try.func5, Try.ntmps5
      go_wp2_with fail
      rw [unhide HW0]
      refine (unhide HSZ).mono ?_
      rintro e w1 ⟨rfl, hb1⟩
      have HB1 := hide hb1
      obtain ⟨p0, p1, p2, p3⟩ := unhide HP4 _ hb1
      clear hb1
      go_wp2_with fail
      refine (unhide HSO2 _).mono ?_
      rintro e w2 ⟨rfl, hb2⟩
      have HB2 := hide (unhide HFIN _ (belOn (unhide HB1) hb2))
      clear hb2
      go_wp2_with fail
      go_ret
      exact ⟨rfl, unhide HB2⟩
    · obtain ⟨r2, hrr⟩ : ∃ r2 : Nat, (r : Int) - (T : Int) = (r2 : Int) := ⟨r - T, by omega⟩
      rw [purse_yes (show ¬ (r : Int) < (T : Int) by omega), hrr] at HSO2
      have HSM := hide (dsk_sm h (by omega))
      have hsm : SmO ⟨kd, nm, tx, dt⟩ := ⟨by show nm.size ≤ _; omega, by show tx.size ≤ _; omega, by show dt.size ≤ _; omega⟩
      have HTO := hide (fun (W : World) (hW : Below W0.heap.size W0 W) => toDisk_calls aL nL cL live aS nS cS safe aO nO cO ops W (unhide HD _ hW) (unhide HSM).bl (unhide HSM).bs (unhide HSM).bo)
      have HTP := hide (fun (W : World) => toDOp_calls kd nm tx dt W)
      have HSP := hide (fun (W : World) (p1 p2 p3 : Nat) (hA : DiskAt W (some ⟨p1, 0, none⟩) nL nL live (some ⟨p2, 0, none⟩) nS nS safe (some ⟨p3, 0, none⟩) nO nO ops) => spec_Do p1 nL nL live p2 nS nS safe p3 nO nO ops kd nm tx dt W hA hsm)
      have HIM := hide (fun (W : World) (p1 p2 p3 : Nat) (hA : DiskAt W (some ⟨p1, 0, none⟩) nL nL live (some ⟨p2, 0, none⟩) nS nS safe (some ⟨p3, 0, none⟩) nO nO ops) => impl_Do p1 nL nL live p2 nS nS safe p3 nO nO ops kd nm tx dt W hA hsm)
      obtain ⟨b1, b2, b3⟩ := act_bound live safe ops ⟨kd, nm, tx, dt⟩ (unhide HSM).ll (unhide HSM).ls (unhide HSM).lo (unhide HSM).bl (unhide HSM).bs (unhide HSM).bo
      generalize actC live safe ops [⟨kd, nm, tx, dt⟩] = PC at HSP HIM
      generalize actL live safe ops [⟨kd, nm, tx, dt⟩] = L1 at HSP HIM b1
      generalize actS live safe ops = S1 at HSP HIM b2
      generalize actO live safe ops [⟨kd, nm, tx, dt⟩] = O1 at HSP HIM b3
      obtain ⟨m1, hm1⟩ : ∃ m, L1.length = m := ⟨_, rfl⟩
      obtain ⟨m2, hm2⟩ : ∃ m, S1.length = m := ⟨_, rfl⟩
      obtain ⟨m3, hm3⟩ : ∃ m, O1.length = m := ⟨_, rfl⟩
      unfold SpcQ at HSP
      unfold DskPost at HIM
      rw [hm1] at b1 HSP HIM
      rw [hm2] at b2 HSP HIM
      rw [hm3] at b3 HSP HIM
      have HM1 := hide hm1
      have HM2 := hide hm2
      have HM3 := hide hm3
      have HS0 := hide hs0
      clear h hl hs ho hb0 hba hbb hsa hs0 hWa hW0 hop HSO hT hm1 hm2 hm3 c0 c1 c2 hbig hbig2 hr hrr hsm hkd hnm hto hdt
      go_enter Try.func5, Try.ntmps5
      go_wp2_with fail
      rw [unhide HW0]
      refine (unhide HSZ).mono ?_
      rintro e w1 ⟨rfl, hb1⟩
      have HB1 := hide hb1
      obtain ⟨p0, p1, p2, p3⟩ := unhide HP4 _ hb1
      clear hb1
      go_wp2_with fail
      refine (unhide HSO2 _).mono ?_
      rintro e w2 ⟨rfl, hb2⟩
      have HB2 := hide (belOn (unhide HB1) hb2)
      clear hb2 p0 p1 p2 p3
      go_wp2_with fail
      go_cut [6, 7] (fun s6 s7 wx => ∃ (bw : Nat) (xL : Option Addr) (kL : Nat) (xS : Option Addr) (kS : Nat) (xO : Option Addr) (kO : Nat), s6 = .pointer (some ⟨bw, 0, none⟩) ∧ s7 = .int .i64 PC ∧ Hid (DC bw (.slice xL m1 kL) (.slice xS m2 kS) (.slice xO m3 kO) wx) ∧ Hid (RowAt fileE wx xL L1 ∧ RowAt fileE wx xS S1 ∧ RowAt dopE wx xO O1) ∧ Hid (Below W0.heap.size W0 wx))
      case first =>
        have X0 := fun (W : World) (hW : Below W0.heap.size W0 W) => (unhide HC W hW).1
        have X1 := fun (W : World) (hW : Below W0.heap.size W0 W) => (unhide HC W hW).2.1
        have X2 := fun (W : World) (hW : Below W0.heap.size W0 W) => (unhide HC W hW).2.2
        have X3 := fun (W : World) (hW : Below W0.heap.size W0 W) => (unhide HP4 W hW).1
        have X4 := fun (W : World) (hW : Below W0.heap.size W0 W) => (unhide HP4 W hW).2.1
        have X5 := fun (W : World) (hW : Below W0.heap.size W0 W) => (unhide HP4 W hW).2.2.1
        have X6 := fun (W : World) (hW : Below W0.heap.size W0 W) => (unhide HP4 W hW).2.2.2
        go_region_held3 (fun w' => Below W0.heap.size W0 w') (first | exact keepD (by assumption) (Nat.le_refl _) | exact keepE (by assumption) (Nat.le_refl _) | exact BB3 | exact BB2 | exact BB1 | exact belDrew (unhide HB2) | exact ((BB3.setCell hbw _).setCell hbw _).setCell hbw _) (first
        | (go_at_call 25; refine (unhide HTO _ (belDrew (belOn (unhide HB2) (bel1 _ _)))).mono ?_; rintro e V1 ⟨g1, g2, g3, rfl, -, -, o1, o2, o3, hb1⟩; have KK1 : Below w2.heap.size w2 V1 := belOn (belDrew (bel1 _ _)) hb1; have BB1 : Below W0.heap.size W0 V1 := belOn (unhide HB2) KK1; have hbw : W0.heap.size ≤ w2.heap.size := (unhide HB2).size; have NZb := (NZ.newD w2).below hb1; have KC := Below.refl V1.heap.size V1)
        | (go_at_call 25; refine (unhide HTO _ (belDrew (unhide HB2))).mono ?_; rintro e V1 ⟨g1, g2, g3, rfl, -, -, o1, o2, o3, hb1⟩; have KK1 : Below w2.heap.size w2 V1 := bOfDrew hb1; have BB1 : Below W0.heap.size W0 V1 := belOn (unhide HB2) KK1; have KC := Below.refl V1.heap.size V1)
        | (go_at_call 26; refine (unhide HTP _).mono ?_; rintro e V2 ⟨rfl, hb2⟩; have KK2 : Below V1.heap.size V1 V2 := belOn (bel1 _ _) hb2; have BB2 : Below W0.heap.size W0 V2 := belOn BB1 KK2; have hbw : W0.heap.size ≤ V1.heap.size := BB1.size; have NZb := (NZ.new V1).below hb2; have KC := KK2)
        | (go_at_call 26; refine (unhide HTP _).mono ?_; rintro e V2 ⟨rfl, hb2⟩; have NZb := NZb.below hb2; have KK2 : Below V1.heap.size V1 V2 := hb2; have BB2 : Below W0.heap.size W0 V2 := belOn BB1 KK2; have KC := KK2)
        | (go_at_call 26; refine (unhide HTP _).mono ?_; rintro e V2 ⟨rfl, hb2⟩; have KK2 : Below V1.heap.size V1 V2 := hb2; have BB2 : Below W0.heap.size W0 V2 := belOn BB1 KK2; have KC := KK2)
        | (go_at_call 24; refine (unhide HSP _ _ _ _ ((dsk_at (unhide HSM) o1 o2 o3).below (belOn KC (bel1 _ _)))).mono ?_; rintro e V3 ⟨xL, kL, xS, kS, xO, kO, rfl, r1, r2, r3, q1, q2, q3, hb3⟩; have KK3 : Below V2.heap.size V2 V3 := belOn (bel1 _ _) hb3; have BB3 : Below W0.heap.size W0 V3 := belOn BB2 KK3; have hbw : W0.heap.size ≤ V2.heap.size := BB2.size; have NZb := (NZ.new V2).below hb3; have nbl : V2.heap.size < (V2.alloc (.cells #[.slice none 0 0, .slice none 0 0, .slice none 0 0] 27)).heap.size := (by simp); obtain ⟨nlt, n0, n1, n2, y0, y1, y2⟩ := NZb)
        | (go_at_call 24; refine (unhide HSP _ _ _ _ ((dsk_at (unhide HSM) o1 o2 o3).below KC)).mono ?_; rintro e V3 ⟨xL, kL, xS, kS, xO, kO, rfl, r1, r2, r3, q1, q2, q3, hb3⟩; have nbl := NZb.lt; have NZb := NZb.below hb3; have KK3 : Below V2.heap.size V2 V3 := hb3; have BB3 : Below W0.heap.size W0 V3 := belOn BB2 KK3; obtain ⟨nlt, n0, n1, n2, y0, y1, y2⟩ := NZb)
        | (go_at_call 24; refine (unhide HSP _ _ _ _ ((dsk_at (unhide HSM) o1 o2 o3).below KC)).mono ?_; rintro e V3 ⟨xL, kL, xS, kS, xO, kO, rfl, r1, r2, r3, q1, q2, q3, hb3⟩; have KK3 : Below V2.heap.size V2 V3 := hb3; have BB3 : Below W0.heap.size W0 V3 := belOn BB2 KK3))
        all_goals (try go_wp2_with fail)
        all_goals go_meet
        all_goals first
          | exact ⟨V3.heap.size, xL, kL, xS, kS, xO, kO, rfl, rfl, hide (DC.new _ _ _ _ _ _ _ _ _ _), hide ⟨r1.below (bel1 _ _), r2.below (bel1 _ _), r3.below (bel1 _ _)⟩, hide (belOn BB3 (bel1 _ _))⟩
          | exact ⟨_, xL, kL, xS, kS, xO, kO, rfl, rfl, hide (DC.set ⟨nlt, n0, n1, n2, y0, y1, y2⟩ _ _ _), hide ⟨r1.set3 (fun k hk => by have := q1 k hk; omega), r2.set3 (fun k hk => by have := q2 k hk; omega), r3.set3 (fun k hk => by have := q3 k hk; omega)⟩, hide (((BB3.setCell hbw _).setCell hbw _).setCell hbw _)⟩
      case rest =>
      obtain ⟨w3, rfl⟩ : ∃ w3, w3 = wc := ⟨_, rfl⟩
      obtain ⟨bw, xL, kL, xS, kS, xO, kO, rfl, rfl, DW, HX, HB3⟩ := hcut
      obtain ⟨q0, q1, q2⟩ := unhide HC _ (unhide HB3)
      go_wp2_with fail
      refine (unhide HTO _ (unhide HB3)).mono ?_
      rintro e w4 ⟨g4, g5, g6, rfl, d1, d2, o1, o2, o3, hb4⟩
      obtain ⟨W5, hW5⟩ : ∃ W5, W5 = w4.alloc (.cells #[.slice (some ⟨g4, 0, none⟩) nL nL, .slice (some ⟨g5, 0, none⟩) nS nS, .slice (some ⟨g6, 0, none⟩) nO nO] 27) := ⟨_, rfl⟩
      have hb5 : Below w4.heap.size w4 W5 := by rw [hW5]; exact bel1 _ _
      have HT5 := hide (belOn hb4 hb5)
      have hlt5 : w4.heap.size < W5.heap.size := by rw [hW5]; simp
      have DX := hide (show DC w4.heap.size (.slice (some ⟨g4, 0, none⟩) nL nL) (.slice (some ⟨g5, 0, none⟩) nS nS) (.slice (some ⟨g6, 0, none⟩) nO nO) W5 from by rw [hW5]; exact DC.new _ _ _ _ _ _ _ _ _ _)
      have DW5 := hide ((unhide DW).below (belOn hb4 hb5))
      have HX5 := hide (show RowAt fileE W5 xL L1 ∧ RowAt fileE W5 xS S1 ∧ RowAt dopE W5 xO O1 from ⟨(unhide HX).1.below (belOn hb4 hb5), (unhide HX).2.1.below (belOn hb4 hb5), (unhide HX).2.2.below (belOn hb4 hb5)⟩)
      have hz4 := hb4.size
      have hbwl := (unhide DW).lt
      have HA5 := hide ((dsk_at (unhide HSM) o1 o2 o3).below hb5)
      have hg4 := o1.bl g4 ⟨0, rfl⟩
      have hg5 := o2.bl g5 ⟨0, rfl⟩
      have hg6 := o3.bl g6 ⟨0, rfl⟩
      have HAP := hide (show Apart (some ⟨g4, 0, none⟩) (some ⟨g5, 0, none⟩) (some ⟨g6, 0, none⟩) from apart3 (by omega) (by omega))
      have HXN := hide (show ¬ inD (some ⟨g4, 0, none⟩) (some ⟨g5, 0, none⟩) (some ⟨g6, 0, none⟩) w4.heap.size from fun hg => by rcases hg with ⟨o, e⟩ | ⟨o, e⟩ | ⟨o, e⟩ <;> cases e <;> omega)
      have HWN := hide (show ¬ inD (some ⟨g4, 0, none⟩) (some ⟨g5, 0, none⟩) (some ⟨g6, 0, none⟩) bw from fun hg => by rcases hg with ⟨o, e⟩ | ⟨o, e⟩ | ⟨o, e⟩ <;> cases e <;> omega)
      have HING := hide (show ∀ g, inD (some ⟨g4, 0, none⟩) (some ⟨g5, 0, none⟩) (some ⟨g6, 0, none⟩) g → w3.heap.size ≤ g ∧ g < W5.heap.size from fun g hg => by rcases hg with ⟨o, e⟩ | ⟨o, e⟩ | ⟨o, e⟩ <;> cases e <;> omega)
      have HB5 := hide (belOn (unhide HB3) (unhide HT5))
      have HW5 := hide hW5.symm
      obtain ⟨-, e0, e1, e2⟩ := unhide DX
      clear hb4 hb5 o1 o2 o3 q0 q1 q2 hW5 hg4 hg5 hg6 d1 d2
      go_wp2_with fail
      rw [unhide HW5]
      clear e0 e1 e2
      go_cut [9, 10] (fun s9 s10 wx => ∃ (bg : Nat) (yL : Option Addr) (jL : Nat) (yS : Option Addr) (jS : Nat) (yO : Option Addr) (jO : Nat), s9 = .pointer (some ⟨bg, 0, none⟩) ∧ s10 = .int .i64 PC ∧ Hid (DC bg (.slice yL m1 jL) (.slice yS m2 jS) (.slice yO m3 jO) wx) ∧ Hid (RowAt fileE wx yL L1 ∧ RowAt fileE wx yS S1 ∧ RowAt dopE wx yO O1 ∧ Apart yL yS yO ∧ (∀ g, inD yL yS yO g → W5.heap.size ≤ g ∧ g ≠ bg ∧ g < wx.heap.size) ∧ W5.heap.size ≤ bg) ∧ Hid (Below W5.heap.size W5 wx))
      case first =>
        have HBR := hide (Below.refl W5.heap.size W5)
        have E0 := fun (W : World) (hW : Below W5.heap.size W5 W) => ((unhide DX).below hW).c0
        have E1 := fun (W : World) (hW : Below W5.heap.size W5 W) => ((unhide DX).below hW).c1
        have E2 := fun (W : World) (hW : Below W5.heap.size W5 W) => ((unhide DX).below hW).c2
        have E3 := fun (W : World) (hW : Below W5.heap.size W5 W) => (unhide HP4 W (belOn (unhide HB5) hW)).1
        have E4 := fun (W : World) (hW : Below W5.heap.size W5 W) => (unhide HP4 W (belOn (unhide HB5) hW)).2.1
        have E5 := fun (W : World) (hW : Below W5.heap.size W5 W) => (unhide HP4 W (belOn (unhide HB5) hW)).2.2.1
        have E6 := fun (W : World) (hW : Below W5.heap.size W5 W) => (unhide HP4 W (belOn (unhide HB5) hW)).2.2.2
        go_region_held3 (fun w' => Below W5.heap.size W5 w') (first | exact keepD (by assumption) (Nat.le_refl _) | exact keepE (by assumption) (Nat.le_refl _) | exact BB2 | exact BB1 | exact belDrew (unhide HBR) | exact ((BB2.setCell hbw _).setCell hbw _).setCell hbw _) (first
        | (go_at_call 26; refine (unhide HTP _).mono ?_; rintro e V1 ⟨rfl, hb1⟩; have KK1 : Below W5.heap.size W5 V1 := belOn (belDrew (bel1 _ _)) hb1; have BB1 : Below W5.heap.size W5 V1 := belOn (unhide HBR) KK1; have hbw : W5.heap.size ≤ W5.heap.size := (unhide HBR).size; have NZb := (NZ.newD W5).below hb1; have KC := BB1)
        | (go_at_call 26; refine (unhide HTP _).mono ?_; rintro e V1 ⟨rfl, hb1⟩; have KK1 : Below W5.heap.size W5 V1 := bOfDrew hb1; have BB1 : Below W5.heap.size W5 V1 := belOn (unhide HBR) KK1; have KC := BB1)
        | (go_at_call 27; refine (unhide HIM _ _ _ _ ((unhide HA5).below (belOn KC (bel1 _ _)))).mono ?_; rintro e V2 ⟨yL, jL, yS, jS, yO, jO, rfl, o1, o2, o3, apy, hb2⟩; have KK2 : Below V1.heap.size V1 V2 := belOn (bel1 _ _) hb2; have BB2 : Below W5.heap.size W5 V2 := belOn BB1 KK2; have hbw : W5.heap.size ≤ V1.heap.size := BB1.size; have NZb := (NZ.new V1).below hb2; have nbl : V1.heap.size < (V1.alloc (.cells #[.slice none 0 0, .slice none 0 0, .slice none 0 0] 27)).heap.size := (by simp); obtain ⟨nlt, n0, n1, n2, y0, y1, y2⟩ := NZb)
        | (go_at_call 27; refine (unhide HIM _ _ _ _ ((unhide HA5).below KC)).mono ?_; rintro e V2 ⟨yL, jL, yS, jS, yO, jO, rfl, o1, o2, o3, apy, hb2⟩; have nbl := NZb.lt; have NZb := NZb.below hb2; have KK2 : Below V1.heap.size V1 V2 := hb2; have BB2 : Below W5.heap.size W5 V2 := belOn BB1 KK2; obtain ⟨nlt, n0, n1, n2, y0, y1, y2⟩ := NZb)
        | (go_at_call 27; refine (unhide HIM _ _ _ _ ((unhide HA5).below KC)).mono ?_; rintro e V2 ⟨yL, jL, yS, jS, yO, jO, rfl, o1, o2, o3, apy, hb2⟩; have KK2 : Below V1.heap.size V1 V2 := hb2; have BB2 : Below W5.heap.size W5 V2 := belOn BB1 KK2))
        all_goals (have OW := own3 o1 o2 o3)
        all_goals (have Z1 := BB1.size)
        all_goals (try go_wp2_with fail)
        all_goals go_meet
        all_goals first
          | exact ⟨V2.heap.size, yL, jL, yS, jS, yO, jO, rfl, rfl, hide (DC.new _ _ _ _ _ _ _ _ _ _), hide ⟨o1.at.below (bel1 _ _), o2.at.below (bel1 _ _), o3.at.below (bel1 _ _), apy, fun g hg => by have := OW g hg; refine ⟨by omega, by omega, by simp; omega⟩, BB2.size⟩, hide (belOn BB2 (bel1 _ _))⟩
          | exact ⟨_, yL, jL, yS, jS, yO, jO, rfl, rfl, hide (DC.set ⟨nlt, n0, n1, n2, y0, y1, y2⟩ _ _ _), hide ⟨o1.at.set3 (fun k hk => by have := OW k (.inl hk); omega), o2.at.set3 (fun k hk => by have := OW k (.inr (.inl hk)); omega), o3.at.set3 (fun k hk => by have := OW k (.inr (.inr hk)); omega), apy, fun g hg => by have := OW g hg; refine ⟨by omega, by omega, by simp; omega⟩, hbw⟩, hide (((BB2.setCell hbw _).setCell hbw _).setCell hbw _)⟩
      case rest =>
      obtain ⟨w6, rfl⟩ : ∃ w6, w6 = wc := ⟨_, rfl⟩
      obtain ⟨bg, yL, jL, yS, jS, yO, jO, rfl, rfl, DG, HY, HB6⟩ := hcut
      have HT6 := hide (belOn (unhide HT5) (unhide HB6))
      have DW6 := hide ((unhide DW5).below (unhide HB6))
      have DX6 := hide ((unhide DX).below (unhide HB6))
      have HA6 := hide ((unhide HA5).below (unhide HB6))
      have HAY := hide (unhide HY).2.2.2.1
      have HVY := hide (unhide HY).2.2.2.2.1
      have hbgW : W5.heap.size ≤ bg := (unhide HY).2.2.2.2.2
      have hz6 := (unhide HB6).size
      have HNX : Hid (¬ inD (some ⟨g4, 0, none⟩) (some ⟨g5, 0, none⟩) (some ⟨g6, 0, none⟩) bg) := hide (fun h => by have := (unhide HING _ h).2; omega)
      obtain ⟨-, e0, e1, e2⟩ := unhide DG
      obtain ⟨-, f0, f1, f2⟩ := unhide DW6
      have hpc : (PC != PC) = false := by simp
      go_wp2_with fail
      clear e0 e1 e2 f0 f1 f2
      refine (eqDisk_calls yL yS yO xL xS xO m1 m2 m3 _ _ _ _ _ _ L1 S1 O1 _ (unhide HM1) (unhide HM2) (unhide HM3) b1 b2 b3 ⟨(unhide HY).1, (unhide HY).2.1, (unhide HY).2.2.1⟩ ⟨(unhide HX).1.below (unhide HT6), (unhide HX).2.1.below (unhide HT6), (unhide HX).2.2.below (unhide HT6)⟩).mono ?_
      rintro e w7 ⟨rfl, hb7⟩
      have HT7 := hide (belOn (unhide HT6) hb7)
      have DG7 := hide ((unhide DG).below hb7)
      have DX7 := hide ((unhide DX6).below hb7)
      have DW7 := hide ((unhide DW6).below hb7)
      have HA7 := hide ((unhide HA6).below hb7)
      have HY7 := hide (show RowAt fileE w7 yL L1 ∧ RowAt fileE w7 yS S1 ∧ RowAt dopE w7 yO O1 from ⟨(unhide HY).1.below hb7, (unhide HY).2.1.below hb7, (unhide HY).2.2.1.below hb7⟩)
      have hz7 := hb7.size
      have HB7 := hide (belOn (unhide HB3) (unhide HT7))
      clear hb7
      go_wp2_with fail
      go_cut [56] (fun s56 wx => s56 = .bool false ∧ Hid (Below w7.heap.size w7 wx))
      case first =>
        obtain ⟨q0, q1, q2⟩ := unhide HC _ (unhide HB7)
        obtain ⟨-, p0, p1, p2⟩ := unhide DX7
        have l1 : w.heap.size < w7.heap.size := lt_of_cell q0
        have l2 : w4.heap.size < w7.heap.size := lt_of_cell p0
        have HT8 := hide (unhide HTO w7.drew (belDrew (unhide HB7)))
        go_region_with (first
          | (go_at_call 25; refine (unhide HT8).mono ?_; rintro e w8 ⟨g7, g8, g9, rfl, -, -, o1, o2, o3, hb8⟩; have s0 := bcl (bOfDrew hb8) l1 q0; have s1 := bcl (bOfDrew hb8) l1 q1; have s2 := bcl (bOfDrew hb8) l1 q2; have t0 := bcl (bOfDrew hb8) l2 p0; have t1 := bcl (bOfDrew hb8) l2 p1; have t2 := bcl (bOfDrew hb8) l2 p2)
          | (go_at_call 28; refine (eqDisk_calls _ _ _ _ _ _ nL nS nO _ _ _ _ _ _ live safe ops _ (unhide HSM).ll (unhide HSM).ls (unhide HSM).lo (Nat.le_trans (unhide HSM).bl (by decide)) (Nat.le_trans (unhide HSM).bs (by decide)) (Nat.le_trans (unhide HSM).bo (by decide)) ⟨(unhide HA7).rl.below (bOfDrew hb8), (unhide HA7).rs.below (bOfDrew hb8), (unhide HA7).ro.below (bOfDrew hb8)⟩ ⟨o1.at, o2.at, o3.at⟩).mono ?_; rintro e w9 ⟨rfl, hb9⟩))
        all_goals (try go_wp2_with fail)
        all_goals go_meet
        all_goals exact ⟨rfl, hide (belOn (bOfDrew hb8) hb9)⟩
      case rest =>
      obtain ⟨w9, rfl⟩ : ∃ w9, w9 = wc := ⟨_, rfl⟩
      obtain ⟨rfl, HD9⟩ := hcut
      have HT9 := hide (belOn (unhide HT7) (unhide HD9))
      have DG9 := hide ((unhide DG7).below (unhide HD9))
      have DX9 := hide ((unhide DX7).below (unhide HD9))
      have DW9 := hide ((unhide DW7).below (unhide HD9))
      have HA9 := hide ((unhide HA7).below (unhide HD9))
      have HY9 := hide (show RowAt fileE w9 yL L1 ∧ RowAt fileE w9 yS S1 ∧ RowAt dopE w9 yO O1 from ⟨(unhide HY7).1.below (unhide HD9), (unhide HY7).2.1.below (unhide HD9), (unhide HY7).2.2.below (unhide HD9)⟩)
      have hz9 := (unhide HD9).size
      obtain ⟨-, p0, p1, p2⟩ := unhide DX9
      go_wp2_with fail
      clear p0 p1 p2
      refine (markDisk_calls _ nL nL live _ nS nS safe _ nO nO ops w9 (unhide HSM).ll (unhide HSM).ls (unhide HSM).lo (Nat.le_trans (unhide HSM).bl (by decide)) (Nat.le_trans (unhide HSM).bs (by decide)) (Nat.le_trans (unhide HSM).bo (by decide)) (unhide HA9).rl (unhide HA9).rs (unhide HA9).ro (unhide HAP) (fun g hg => by have := unhide HING g hg; omega)).mono ?_
      rintro e wa ⟨rfl, -, hoa⟩
      have HTa := hide ((unhide HT9).trans (hoa.below (B := w3.heap.size) (fun g hg => (unhide HING g hg).1) (unhide HT9).size))
      have HYa := hide (show RowAt fileE wa yL L1 ∧ RowAt fileE wa yS S1 ∧ RowAt dopE wa yO O1 from ⟨(unhide HY9).1.offP hoa (fun g h h2 => by have := (unhide HVY g (.inl h)).1; have := (unhide HING g h2).2; omega), (unhide HY9).2.1.offP hoa (fun g h h2 => by have := (unhide HVY g (.inr (.inl h))).1; have := (unhide HING g h2).2; omega), (unhide HY9).2.2.offP hoa (fun g h h2 => by have := (unhide HVY g (.inr (.inr h))).1; have := (unhide HING g h2).2; omega)⟩)
      have hza := hoa.size
      obtain ⟨M, hM⟩ : ∃ M, 1 + nL * 2 + nS * 2 + nO * 4 = M := ⟨_, rfl⟩
      rw [hM]
      have DGa := hide ((unhide DG9).offP hoa (unhide HNX))
      have DWa := hide ((unhide DW9).offP hoa (unhide HWN))
      obtain ⟨-, e0, e1, e2⟩ := unhide DGa
      obtain ⟨-, f0, f1, f2⟩ := unhide DWa
      clear hoa hM HT9 HA9 HY9 DG9 DX9 DW9 DG7 DX7 DW7
      go_wp2_with fail
      clear e0 e1 e2 f0 f1 f2
      refine (eqDisk_calls yL yS yO xL xS xO m1 m2 m3 _ _ _ _ _ _ L1 S1 O1 _ (unhide HM1) (unhide HM2) (unhide HM3) b1 b2 b3 ⟨(unhide HYa).1, (unhide HYa).2.1, (unhide HYa).2.2⟩ ⟨(unhide HX).1.below (unhide HTa), (unhide HX).2.1.below (unhide HTa), (unhide HX).2.2.below (unhide HTa)⟩).mono ?_
      rintro e wb ⟨rfl, hbb⟩
      have HTb := hide (belOn (unhide HTa) hbb)
      have HYb := hide (show RowAt fileE wb yL L1 ∧ RowAt fileE wb yS S1 ∧ RowAt dopE wb yO O1 from ⟨(unhide HYa).1.below hbb, (unhide HYa).2.1.below hbb, (unhide HYa).2.2.below hbb⟩)
      have hzb := hbb.size
      have DGb := hide ((unhide DGa).below hbb)
      have DWb := hide ((unhide DWa).below hbb)
      obtain ⟨-, e0, e1, e2⟩ := unhide DGb
      clear hbb HTa HYa DGa DWa
      go_wp2_with fail
      clear e0 e1 e2
      refine (markDisk_calls yL m1 _ L1 yS m2 _ S1 yO m3 _ O1 wb (unhide HM1) (unhide HM2) (unhide HM3) b1 b2 b3 (unhide HYb).1 (unhide HYb).2.1 (unhide HYb).2.2 (unhide HAY) (fun g hg => by have := (unhide HVY g hg).2.2; omega)).mono ?_
      rintro e wz ⟨rfl, hMc, hoc⟩
      have hW53 : w3.heap.size ≤ W5.heap.size := by omega
      have HTc := hide ((unhide HTb).trans (hoc.below (B := w3.heap.size) (fun g hg => by have := (unhide HVY g hg).1; omega) (unhide HTb).size))
      have HKc := hide hMc
      have hzc := hoc.size
      have DGc := hide ((unhide DGb).offP hoc (fun h2 => (unhide HVY _ h2).2.1 rfl))
      have DWc := hide ((unhide DWb).offP hoc (fun h2 => by have := (unhide HVY _ h2).1; omega))
      obtain ⟨-, e0, e1, e2⟩ := unhide DGc
      clear hoc hMc HTb HYb DGb DWb
      obtain ⟨K, hK⟩ : ∃ K, 1 + m1 * 2 + m2 * 2 + m3 * 4 = K := ⟨_, rfl⟩
      rw [hK]
      have HK := hide hK
      clear hK
      go_wp2_with fail
      clear e0 e1 e2
      refine (heldDisk_calls yL m1 _ yS m2 _ yO m3 _ wz b1 b2 b3 (unhide HKc)).mono ?_
      rintro e wd ⟨rfl, hbd⟩
      rw [unhide HK]
      have HTd := hide (belOn (unhide HTc) hbd)
      have HKd := hide ((unhide HKc).below hbd)
      have DGd := hide ((unhide DGc).below hbd)
      have DWd := hide ((unhide DWc).below hbd)
      have HBd := hide (belOn (unhide HB3) (unhide HTd))
      clear hbd HTc HKc DGc DWc
      go_wp2_with fail
      go_cut [14, 15] (fun s14 s15 wx => ∃ (bh : Nat) (uL : Option Addr) (iL : Nat) (uS : Option Addr) (iS : Nat) (uO : Option Addr) (iO : Nat), s14 = .pointer (some ⟨bh, 0, none⟩) ∧ s15 = .int .i64 PC ∧ Hid (DC bh (.slice uL m1 iL) (.slice uS m2 iS) (.slice uO m3 iO) wx) ∧ Hid (RowAt fileE wx uL L1 ∧ RowAt fileE wx uS S1 ∧ RowAt dopE wx uO O1) ∧ Hid (Below wd.heap.size wd wx))
      case first =>
        have HBR := hide (Below.refl wd.heap.size wd)
        have E0 := fun (W : World) (hW : Below wd.heap.size wd W) => (unhide HC W (belOn (unhide HBd) hW)).1
        have E1 := fun (W : World) (hW : Below wd.heap.size wd W) => (unhide HC W (belOn (unhide HBd) hW)).2.1
        have E2 := fun (W : World) (hW : Below wd.heap.size wd W) => (unhide HC W (belOn (unhide HBd) hW)).2.2
        have E3 := fun (W : World) (hW : Below wd.heap.size wd W) => (unhide HP4 W (belOn (unhide HBd) hW)).1
        have E4 := fun (W : World) (hW : Below wd.heap.size wd W) => (unhide HP4 W (belOn (unhide HBd) hW)).2.1
        have E5 := fun (W : World) (hW : Below wd.heap.size wd W) => (unhide HP4 W (belOn (unhide HBd) hW)).2.2.1
        have E6 := fun (W : World) (hW : Below wd.heap.size wd W) => (unhide HP4 W (belOn (unhide HBd) hW)).2.2.2
        have HTR := hide (fun (W : World) (hW : Below wd.heap.size wd W) => unhide HTO W (belOn (unhide HBd) hW))
        go_region_held3 (fun w' => Below wd.heap.size wd w') (first | exact keepD (by assumption) (Nat.le_refl _) | exact keepE (by assumption) (Nat.le_refl _) | exact BB3 | exact BB2 | exact BB1 | exact belDrew (unhide HBR) | exact ((BB3.setCell hbw _).setCell hbw _).setCell hbw _) (first
        | (go_at_call 25; refine (unhide HTR _ (belDrew (belOn (unhide HBR) (bel1 _ _)))).mono ?_; rintro e V1 ⟨g7, g8, g9, rfl, -, -, o1, o2, o3, hb1⟩; have KK1 : Below wd.heap.size wd V1 := belOn (belDrew (bel1 _ _)) hb1; have BB1 : Below wd.heap.size wd V1 := belOn (unhide HBR) KK1; have hbw : wd.heap.size ≤ wd.heap.size := (unhide HBR).size; have NZb := (NZ.newD wd).below hb1; have KC := Below.refl V1.heap.size V1)
        | (go_at_call 25; refine (unhide HTR _ (belDrew (unhide HBR))).mono ?_; rintro e V1 ⟨g7, g8, g9, rfl, -, -, o1, o2, o3, hb1⟩; have KK1 : Below wd.heap.size wd V1 := bOfDrew hb1; have BB1 : Below wd.heap.size wd V1 := belOn (unhide HBR) KK1; have KC := Below.refl V1.heap.size V1)
        | (go_at_call 26; refine (unhide HTP _).mono ?_; rintro e V2 ⟨rfl, hb2⟩; have KK2 : Below V1.heap.size V1 V2 := belOn (bel1 _ _) hb2; have BB2 : Below wd.heap.size wd V2 := belOn BB1 KK2; have hbw : wd.heap.size ≤ V1.heap.size := BB1.size; have NZb := (NZ.new V1).below hb2; have KC := KK2)
        | (go_at_call 26; refine (unhide HTP _).mono ?_; rintro e V2 ⟨rfl, hb2⟩; have NZb := NZb.below hb2; have KK2 : Below V1.heap.size V1 V2 := hb2; have BB2 : Below wd.heap.size wd V2 := belOn BB1 KK2; have KC := KK2)
        | (go_at_call 26; refine (unhide HTP _).mono ?_; rintro e V2 ⟨rfl, hb2⟩; have KK2 : Below V1.heap.size V1 V2 := hb2; have BB2 : Below wd.heap.size wd V2 := belOn BB1 KK2; have KC := KK2)
        | (go_at_call 27; refine (unhide HIM _ _ _ _ ((dsk_at (unhide HSM) o1 o2 o3).below (belOn KC (bel1 _ _)))).mono ?_; rintro e V3 ⟨uL, iL, uS, iS, uO, iO, rfl, v1, v2, v3, -, hb3⟩; have KK3 : Below V2.heap.size V2 V3 := belOn (bel1 _ _) hb3; have BB3 : Below wd.heap.size wd V3 := belOn BB2 KK3; have hbw : wd.heap.size ≤ V2.heap.size := BB2.size; have NZb := (NZ.new V2).below hb3; have nbl : V2.heap.size < (V2.alloc (.cells #[.slice none 0 0, .slice none 0 0, .slice none 0 0] 27)).heap.size := (by simp); obtain ⟨nlt, n0, n1, n2, y0, y1, y2⟩ := NZb)
        | (go_at_call 27; refine (unhide HIM _ _ _ _ ((dsk_at (unhide HSM) o1 o2 o3).below KC)).mono ?_; rintro e V3 ⟨uL, iL, uS, iS, uO, iO, rfl, v1, v2, v3, -, hb3⟩; have nbl := NZb.lt; have NZb := NZb.below hb3; have KK3 : Below V2.heap.size V2 V3 := hb3; have BB3 : Below wd.heap.size wd V3 := belOn BB2 KK3; obtain ⟨nlt, n0, n1, n2, y0, y1, y2⟩ := NZb)
        | (go_at_call 27; refine (unhide HIM _ _ _ _ ((dsk_at (unhide HSM) o1 o2 o3).below KC)).mono ?_; rintro e V3 ⟨uL, iL, uS, iS, uO, iO, rfl, v1, v2, v3, -, hb3⟩; have KK3 : Below V2.heap.size V2 V3 := hb3; have BB3 : Below wd.heap.size wd V3 := belOn BB2 KK3))
        all_goals (have OW := own3 v1 v2 v3)
        all_goals (try go_wp2_with fail)
        all_goals go_meet
        all_goals first
          | exact ⟨V3.heap.size, uL, iL, uS, iS, uO, iO, rfl, rfl, hide (DC.new _ _ _ _ _ _ _ _ _ _), hide ⟨v1.at.below (bel1 _ _), v2.at.below (bel1 _ _), v3.at.below (bel1 _ _)⟩, hide (belOn BB3 (bel1 _ _))⟩
          | exact ⟨_, uL, iL, uS, iS, uO, iO, rfl, rfl, hide (DC.set ⟨nlt, n0, n1, n2, y0, y1, y2⟩ _ _ _), hide ⟨v1.at.set3 (fun k hk => by have := OW k (.inl hk); omega), v2.at.set3 (fun k hk => by have := OW k (.inr (.inl hk)); omega), v3.at.set3 (fun k hk => by have := OW k (.inr (.inr hk)); omega)⟩, hide (((BB3.setCell hbw _).setCell hbw _).setCell hbw _)⟩
      case rest =>
      obtain ⟨wf, rfl⟩ : ∃ wf, wf = wc := ⟨_, rfl⟩
      obtain ⟨bh, uL, iL, uS, iS, uO, iO, rfl, rfl, DH, HU, HBf⟩ := hcut
      have HTf := hide (belOn (unhide HTd) (unhide HBf))
      have HKf := hide ((unhide HKd).below (unhide HBf))
      have DGf := hide ((unhide DGd).below (unhide HBf))
      have DWf := hide ((unhide DWd).below (unhide HBf))
      obtain ⟨-, e0, e1, e2⟩ := unhide DH
      obtain ⟨-, f0, f1, f2⟩ := unhide DWf
      go_wp2_with fail
      clear e0 e1 e2 f0 f1 f2
      refine (eqDisk_calls uL uS uO xL xS xO m1 m2 m3 _ _ _ _ _ _ L1 S1 O1 _ (unhide HM1) (unhide HM2) (unhide HM3) b1 b2 b3 ⟨(unhide HU).1, (unhide HU).2.1, (unhide HU).2.2⟩ ⟨(unhide HX).1.below (unhide HTf), (unhide HX).2.1.below (unhide HTf), (unhide HX).2.2.below (unhide HTf)⟩).mono ?_
      rintro e wg ⟨rfl, hbg⟩
      have HTg := hide (belOn (unhide HTf) hbg)
      have HKg := hide ((unhide HKf).below hbg)
      have DGg := hide ((unhide DGf).below hbg)
      obtain ⟨-, e0, e1, e2⟩ := unhide DGg
      clear hbg HTf HKf HU DGf DWf
      go_wp2_with fail
      clear e0 e1 e2
      refine (heldDisk_calls yL m1 _ yS m2 _ yO m3 _ wg b1 b2 b3 (unhide HKg)).mono ?_
      rintro e wh ⟨rfl, hbh⟩
      rw [unhide HK]
      have HTh := hide (belOn (unhide HTg) hbh)
      clear hbh HTg HKg
      go_wp2_with fail
      go_ret
      exact ⟨rfl, unhide HFIN _ (belOn (unhide HB3) (unhide HTh))⟩
end Go.Proofs.Ytbcklkdhminofaa.fnExactDo
