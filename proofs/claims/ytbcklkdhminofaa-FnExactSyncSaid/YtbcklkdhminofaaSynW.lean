/- The walk of the law FnExactSync. -/
import Derived.Test.YtbcklkdhminofaaDskD
import Derived.Test.YtbcklkdhminofaaDskX
import Derived.Test.YtbcklkdhminofaaSynI
import Derived.Test.YtbcklkdhminofaaSynS
import Derived.WalkKit
import Derived.ProofKit
import Derived.Below
set_option linter.unusedVariables false
namespace Go.Proofs.Ytbcklkdhminofaa.fnExactSync
open Go.RowKit
open Plain

set_option maxRecDepth 10000 in
set_option maxHeartbeats 8000000 in
theorem walk (aL : Option Addr) (nL cL : Nat) (live : List Fl) (aS : Option Addr) (nS cS : Nat) (safe : List Fl) (aO : Option Addr) (nO cO : Nat) (ops : List Dop) (w : World) (hl : ArgRow 2 fileL goodF w aL nL cL live) (hs : ArgRow 2 fileL goodF w aS nS cS safe) (ho : ArgRow 4 dopL goodO w aO nO cO ops) :
    Calls Try.prog 6 #[.agg #[.slice aL nL cL, .slice aS nS cS, .slice aO nO cO]] w fun e w' => e = .returned (.bool true) ∧ Below w.heap.size w w' := by
  have h : DskArg w aL nL cL live aS nS cS safe aO nO cO ops := ⟨hl, hs, ho⟩
  obtain ⟨W0, hW0⟩ : ∃ W0, W0 = w.alloc (.cells #[.slice aL nL cL, .slice aS nS cS, .slice aO nO cO] 46) := ⟨_, rfl⟩
  have hb0 : Below w.heap.size w W0 := by rw [hW0]; exact bel1 _ _
  have hlt : w.heap.size < W0.heap.size := by rw [hW0]; simp
  have c0 : W0.cell? ⟨w.heap.size, 0, none⟩ = some (.slice aL nL cL) := by rw [hW0]; simp [go_sem]
  have c1 : W0.cell? ⟨w.heap.size, 1, none⟩ = some (.slice aS nS cS) := by rw [hW0]; simp [go_sem]
  have c2 : W0.cell? ⟨w.heap.size, 2, none⟩ = some (.slice aO nO cO) := by rw [hW0]; simp [go_sem]
  have HD := hide (fun (W : World) (hW : Below W0.heap.size W0 W) => (h.below hb0).below hW)
  have HC := hide (fun (W : World) (hW : Below W0.heap.size W0 W) => And.intro (bcl hW hlt c0) (And.intro (bcl hW hlt c1) (bcl hW hlt c2)))
  have HFIN := hide (fun (W : World) (hW : Below W0.heap.size W0 W) => belOn hb0 hW)
  have HW0 := hide hW0.symm
  have HSZ := hide (szDisk_calls aL nL cL live aS nS cS safe aO nO cO ops 1048576 W0 (h.below hb0) (by decide))
  by_cases hbig : 1048576 < totD live safe ops
  · rw [purse_no (show ((1048576 : Nat) : Int) < ((totD live safe ops : Nat) : Int) by omega)] at HSZ
    clear h hl hs ho hb0 hlt hW0
    go_enter Try.func6, Try.ntmps6
    go_wp2_with fail
    rw [unhide HW0]
    refine (unhide HSZ).mono ?_
    rintro e w1 ⟨rfl, hb1⟩
    have HB1 := hide (unhide HFIN _ hb1)
    clear hb1
    go_wp2_with fail
    go_ret
    exact ⟨rfl, unhide HB1⟩
  · obtain ⟨r, hr⟩ : ∃ r : Nat, ((1048576 : Nat) : Int) - ((totD live safe ops : Nat) : Int) = (r : Int) := ⟨1048576 - totD live safe ops, by omega⟩
    rw [purse_yes (show ¬ ((1048576 : Nat) : Int) < ((totD live safe ops : Nat) : Int) by omega), hr] at HSZ
    have HSM := hide (dsk_sm h (by omega))
    have HTO := hide (fun (W : World) (hW : Below W0.heap.size W0 W) => toDisk_calls aL nL cL live aS nS cS safe aO nO cO ops W (unhide HD _ hW) (unhide HSM).bl (unhide HSM).bs (unhide HSM).bo)
    have HSP := hide (fun (W : World) (p1 p2 p3 : Nat) (hA : DiskAt W (some ⟨p1, 0, none⟩) nL nL live (some ⟨p2, 0, none⟩) nS nS safe (some ⟨p3, 0, none⟩) nO nO ops) => spec_Sync p1 nL nL live p2 nS nS safe p3 nO nO ops W hA)
    have HIM := hide (fun (W : World) (p1 p2 p3 : Nat) (hA : DiskAt W (some ⟨p1, 0, none⟩) nL nL live (some ⟨p2, 0, none⟩) nS nS safe (some ⟨p3, 0, none⟩) nO nO ops) => impl_Sync p1 nL nL live p2 nS nS safe p3 nO nO ops W hA)
    have hbd := syn_bound live safe ops
    have hbl := (unhide HSM).bl
    have hll := (unhide HSM).ll
    rw [hll] at hbd
    have z1 : (synL live safe ops).length ≤ 10000000 := by omega
    have z3 : (([] : List Dop)).length ≤ 10000000 := by simp
    generalize synL live safe ops = L1 at HSP HIM z1
    generalize ([] : List Dop) = O1 at HSP HIM z3
    obtain ⟨m1, hm1⟩ : ∃ m, L1.length = m := ⟨_, rfl⟩
    obtain ⟨m3, hm3⟩ : ∃ m, O1.length = m := ⟨_, rfl⟩
    unfold SpcPost at HSP
    unfold DskPost at HIM
    rw [hm1] at z1
    rw [hm3] at z3
    have HM1 := hide hm1
    have HM3 := hide hm3
    clear h hl hs ho hb0 hlt hW0 hbig hr c0 c1 c2 hm1 hm3 hbd hbl hll
    go_enter Try.func6, Try.ntmps6
    go_wp2_with fail
    rw [unhide HW0]
    refine (unhide HSZ).mono ?_
    rintro e w1 ⟨rfl, hb1⟩
    have HB1 := hide hb1
    obtain ⟨q0, q1, q2⟩ := unhide HC _ hb1
    clear hb1
    go_wp2_with fail
    refine (unhide HTO _ (unhide HB1)).mono ?_
    rintro e w2 ⟨g1, g2, g3, rfl, -, -, o1, o2, o3, hb2⟩
    have HB2 := hide (belOn (unhide HB1) hb2)
    have HA2 := hide (dsk_at (unhide HSM) o1 o2 o3)
    clear hb2 o1 o2 o3 q0 q1 q2
    go_wp2_with fail
    refine (unhide HSP w2 _ _ _ (unhide HA2)).mono ?_
    rintro e w3 ⟨xL, kL, xS, kS, xO, kO, rfl, o1, o2, o3, hb3⟩
    rw [unhide HM1, unhide HM3]
    obtain ⟨Wq, hWq⟩ : ∃ Wq, Wq = w3.alloc (.cells #[.slice xL m1 kL, .slice xS m1 kS, .slice xO m3 kO] 27) := ⟨_, rfl⟩
    have hbq : Below w3.heap.size w3 Wq := by rw [hWq]; exact bel1 _ _
    have DW := hide (show DC w3.heap.size (.slice xL m1 kL) (.slice xS m1 kS) (.slice xO m3 kO) Wq from by rw [hWq]; exact DC.new _ _ _ _ _ _ _ _ _ _)
    have HB3 := hide (belOn (belOn (unhide HB2) hb3) hbq)
    have hq3 : w3.heap.size < Wq.heap.size := (unhide DW).lt
    have HX1 := hide (o1.below hbq)
    have HX2 := hide (o2.below hbq)
    have HX3 := hide (o3.below hbq)
    have HWq := hide hWq.symm
    obtain ⟨q0, q1, q2⟩ := unhide HC _ (unhide HB3)
    clear hb3 HA2 o1 o2 o3 hWq hbq
    rw [← unhide HWq] at q0 q1 q2
    go_wp2_with fail
    rw [unhide HWq]
    clear q0 q1 q2
    refine (unhide HTO _ (unhide HB3)).mono ?_
    rintro e w4 ⟨g4, g5, g6, rfl, d1, d2, o1, o2, o3, hb4⟩
    obtain ⟨W5, hW5⟩ : ∃ W5, W5 = w4.alloc (.cells #[.slice (some ⟨g4, 0, none⟩) nL nL, .slice (some ⟨g5, 0, none⟩) nS nS, .slice (some ⟨g6, 0, none⟩) nO nO] 27) := ⟨_, rfl⟩
    have hb5 : Below w4.heap.size w4 W5 := by rw [hW5]; exact bel1 _ _
    have HT5 := hide (belOn hb4 hb5)
    have hz45 := hb4.size
    have hlt5 : w4.heap.size < W5.heap.size := by rw [hW5]; simp
    have DX := hide (show DC w4.heap.size (.slice (some ⟨g4, 0, none⟩) nL nL) (.slice (some ⟨g5, 0, none⟩) nS nS) (.slice (some ⟨g6, 0, none⟩) nO nO) W5 from by rw [hW5]; exact DC.new _ _ _ _ _ _ _ _ _ _)
    have DW5 := hide ((unhide DW).below (belOn hb4 hb5))
    have hz4 := hb4.size
    have HA5 := hide ((dsk_at (unhide HSM) o1 o2 o3).below hb5)
    have hg4 := o1.bl g4 ⟨0, rfl⟩
    have hg5 := o2.bl g5 ⟨0, rfl⟩
    have hg6 := o3.bl g6 ⟨0, rfl⟩
    have HAP := hide (show Apart (some ⟨g4, 0, none⟩) (some ⟨g5, 0, none⟩) (some ⟨g6, 0, none⟩) from apart3 (by omega) (by omega))
    have HXN := hide (show ¬ inD (some ⟨g4, 0, none⟩) (some ⟨g5, 0, none⟩) (some ⟨g6, 0, none⟩) w4.heap.size from fun hg => by rcases hg with ⟨o, e⟩ | ⟨o, e⟩ | ⟨o, e⟩ <;> cases e <;> omega)
    have HWN := hide (show ¬ inD (some ⟨g4, 0, none⟩) (some ⟨g5, 0, none⟩) (some ⟨g6, 0, none⟩) w3.heap.size from fun hg => by have hq := (unhide DW).lt; rcases hg with ⟨o, e⟩ | ⟨o, e⟩ | ⟨o, e⟩ <;> cases e <;> omega)
    have HING := hide (show ∀ g, inD (some ⟨g4, 0, none⟩) (some ⟨g5, 0, none⟩) (some ⟨g6, 0, none⟩) g → Wq.heap.size ≤ g ∧ g < W5.heap.size from fun g hg => by rcases hg with ⟨o, e⟩ | ⟨o, e⟩ | ⟨o, e⟩ <;> cases e <;> omega)
    have HW5 := hide hW5.symm
    clear hb4 hb5 o1 o2 o3 hW5 hg4 hg5 hg6 d1 d2 DW
    obtain ⟨-, e0, e1, e2⟩ := unhide DX
    go_wp2_with fail
    rw [unhide HW5]
    clear e0 e1 e2
    refine (unhide HIM W5 _ _ _ (unhide HA5)).mono ?_
    rintro e w6 ⟨yL, jL, yS, jS, yO, jO, rfl, o1, o2, o3, ap6, hb6⟩
    rw [unhide HM1] at o1 o2 ⊢
    rw [unhide HM3] at o3 ⊢
    obtain ⟨Wg, hWg⟩ : ∃ Wg, Wg = w6.alloc (.cells #[.slice yL m1 jL, .slice yS m1 jS, .slice yO m3 jO] 27) := ⟨_, rfl⟩
    have hbg : Below w6.heap.size w6 Wg := by rw [hWg]; exact bel1 _ _
    have hb6g := belOn hb6 hbg
    have DG := hide (show DC w6.heap.size (.slice yL m1 jL) (.slice yS m1 jS) (.slice yO m3 jO) Wg from by rw [hWg]; exact DC.new _ _ _ _ _ _ _ _ _ _)
    have HT6 := hide (belOn (unhide HT5) hb6g)
    have HV6 := hide (show ∀ g, inD yL yS yO g → W5.heap.size ≤ g ∧ g < w6.heap.size from fun g hg => by
      rcases hg with h | h | h
      · exact o1.bl g h
      · exact o2.bl g h
      · exact o3.bl g h)
    have HY1 := hide (o1.at.below hbg)
    have HY2 := hide (o2.at.below hbg)
    have HY3 := hide (o3.at.below hbg)
    have HAY := hide ap6
    have HA6 := hide ((unhide HA5).below hb6g)
    have DX6 := hide ((unhide DX).below hb6g)
    have DW6 := hide ((unhide DW5).below hb6g)
    have hz6 := hb6g.size
    have hz56 := hb6.size
    have hz6g : w6.heap.size < Wg.heap.size := (unhide DG).lt
    have HWg := hide hWg.symm
    obtain ⟨-, e0, e1, e2⟩ := unhide DG
    obtain ⟨-, f0, f1, f2⟩ := unhide DW6
    clear hb6 hbg hb6g o1 o2 o3 ap6 HT5 HA5 DX DW5 hWg
    rw [← unhide HWg] at e0 e1 e2 f0 f1 f2
    go_wp2_with fail
    rw [unhide HWg]
    clear e0 e1 e2 f0 f1 f2
    refine (eqDisk_calls yL yS yO xL xS xO m1 m1 m3 _ _ _ _ _ _ L1 L1 O1 _ (unhide HM1) (unhide HM1) (unhide HM3) z1 z1 z3 ⟨unhide HY1, unhide HY2, unhide HY3⟩ ⟨(unhide HX1).below (unhide HT6), (unhide HX2).below (unhide HT6), (unhide HX3).below (unhide HT6)⟩).mono ?_
    rintro e w7 ⟨rfl, hb7⟩
    have HT7 := hide (belOn (unhide HT6) hb7)
    have DG7 := hide ((unhide DG).below hb7)
    have DX7 := hide ((unhide DX6).below hb7)
    have DW7 := hide ((unhide DW6).below hb7)
    have HA7 := hide ((unhide HA6).below hb7)
    have HYY := hide (And.intro ((unhide HY1).below hb7) (And.intro ((unhide HY2).below hb7) ((unhide HY3).below hb7)))
    have hz7 := hb7.size
    obtain ⟨q0, q1, q2⟩ := unhide HC _ (belOn (unhide HB3) (unhide HT7))
    obtain ⟨-, p0, p1, p2⟩ := unhide DX7
    have l1 : w.heap.size < w7.heap.size := lt_of_cell q0
    have l2 : w4.heap.size < w7.heap.size := lt_of_cell p0
    have HT8 := hide (unhide HTO w7.drew (belDrew (belOn (unhide HB3) (unhide HT7))))
    clear hb7 HT6 HA6 HY1 HY2 HY3 DG DX6 DW6
    go_wp2_with fail
    go_region_with (first
      | (go_at_call 25; refine (unhide HT8).mono ?_; rintro e w8 ⟨g7, g8, g9, rfl, -, -, o1, o2, o3, hb8⟩; have s0 := bcl (bOfDrew hb8) l1 q0; have s1 := bcl (bOfDrew hb8) l1 q1; have s2 := bcl (bOfDrew hb8) l1 q2; have t0 := bcl (bOfDrew hb8) l2 p0; have t1 := bcl (bOfDrew hb8) l2 p1; have t2 := bcl (bOfDrew hb8) l2 p2)
      | (go_at_call 28; refine (eqDisk_calls _ _ _ _ _ _ nL nS nO _ _ _ _ _ _ live safe ops _ (unhide HSM).ll (unhide HSM).ls (unhide HSM).lo (Nat.le_trans (unhide HSM).bl (by decide)) (Nat.le_trans (unhide HSM).bs (by decide)) (Nat.le_trans (unhide HSM).bo (by decide)) ⟨(unhide HA7).rl.below (bOfDrew hb8), (unhide HA7).rs.below (bOfDrew hb8), (unhide HA7).ro.below (bOfDrew hb8)⟩ ⟨o1.at, o2.at, o3.at⟩).mono ?_; rintro e w9 ⟨rfl, hb9⟩))
    all_goals (have HD9 := hide (belOn (bOfDrew hb8) hb9))
    all_goals clear hb8 hb9 o1 o2 o3 s0 s1 s2 t0 t1 t2 q0 q1 q2 p0 p1 p2
    all_goals
      have HT9 := hide (belOn (unhide HT7) (unhide HD9))
      have DG9 := hide ((unhide DG7).below (unhide HD9))
      have DX9 := hide ((unhide DX7).below (unhide HD9))
      have DW9 := hide ((unhide DW7).below (unhide HD9))
      have HA9 := hide ((unhide HA7).below (unhide HD9))
      obtain ⟨y1, y2, y3⟩ := unhide HYY
      have HY9 := hide (And.intro (y1.below (unhide HD9)) (And.intro (y2.below (unhide HD9)) (y3.below (unhide HD9))))
      have hz9 := (unhide HD9).size
      obtain ⟨-, p0, p1, p2⟩ := unhide DX9
      clear y1 y2 y3 HYY
      go_wp2_with fail
      clear p0 p1 p2
      refine (markDisk_calls _ nL nL live _ nS nS safe _ nO nO ops w9 (unhide HSM).ll (unhide HSM).ls (unhide HSM).lo (Nat.le_trans (unhide HSM).bl (by decide)) (Nat.le_trans (unhide HSM).bs (by decide)) (Nat.le_trans (unhide HSM).bo (by decide)) (unhide HA9).rl (unhide HA9).rs (unhide HA9).ro (unhide HAP) (fun g hg => by have := unhide HING g hg; omega)).mono ?_
      rintro e wa ⟨rfl, -, hoa⟩
      have HTa := hide ((unhide HT9).trans (hoa.below (B := Wq.heap.size) (fun g hg => (unhide HING g hg).1) (unhide HT9).size))
      have HYa := hide (show RowAt fileE wa yL L1 ∧ RowAt fileE wa yS L1 ∧ RowAt dopE wa yO O1 from ⟨(unhide HY9).1.offP hoa (fun g h h2 => by have := (unhide HV6 g (.inl h)).1; have := (unhide HING g h2).2; omega), (unhide HY9).2.1.offP hoa (fun g h h2 => by have := (unhide HV6 g (.inr (.inl h))).1; have := (unhide HING g h2).2; omega), (unhide HY9).2.2.offP hoa (fun g h h2 => by have := (unhide HV6 g (.inr (.inr h))).1; have := (unhide HING g h2).2; omega)⟩)
      have hza := hoa.size
      obtain ⟨M, hM⟩ : ∃ M, 1 + nL * 2 + nS * 2 + nO * 4 = M := ⟨_, rfl⟩
      rw [hM]
      have DGa := hide ((unhide DG9).offP hoa (fun h2 => by have := (unhide HING _ h2).2; omega))
      have DWa := hide ((unhide DW9).offP hoa (unhide HWN))
      obtain ⟨-, e0, e1, e2⟩ := unhide DGa
      obtain ⟨-, f0, f1, f2⟩ := unhide DWa
      clear hoa hM HT9 HA9 HY9 DG9 DX9 DW9 DG7 DX7 DW7
      go_wp2_with fail
      clear e0 e1 e2 f0 f1 f2
      refine (eqDisk_calls yL yS yO xL xS xO m1 m1 m3 _ _ _ _ _ _ L1 L1 O1 _ (unhide HM1) (unhide HM1) (unhide HM3) z1 z1 z3 ⟨(unhide HYa).1, (unhide HYa).2.1, (unhide HYa).2.2⟩ ⟨(unhide HX1).below (unhide HTa), (unhide HX2).below (unhide HTa), (unhide HX3).below (unhide HTa)⟩).mono ?_
      rintro e wb ⟨rfl, hbb⟩
      have HTb := hide (belOn (unhide HTa) hbb)
      have HYb := hide (show RowAt fileE wb yL L1 ∧ RowAt fileE wb yS L1 ∧ RowAt dopE wb yO O1 from ⟨(unhide HYa).1.below hbb, (unhide HYa).2.1.below hbb, (unhide HYa).2.2.below hbb⟩)
      have hzb := hbb.size
      have DGb := hide ((unhide DGa).below hbb)
      have DWb := hide ((unhide DWa).below hbb)
      obtain ⟨-, e0, e1, e2⟩ := unhide DGb
      clear hbb HTa HYa DGa DWa
      go_wp2_with fail
      clear e0 e1 e2
      refine (markDisk_calls yL m1 _ L1 yS m1 _ L1 yO m3 _ O1 wb (unhide HM1) (unhide HM1) (unhide HM3) z1 z1 z3 (unhide HYb).1 (unhide HYb).2.1 (unhide HYb).2.2 (unhide HAY) (fun g hg => by have := unhide HV6 g hg; omega)).mono ?_
      rintro e wc ⟨rfl, hMc, hoc⟩
      have HTc := hide ((unhide HTb).trans (hoc.below (B := Wq.heap.size) (fun g hg => by have := unhide HV6 g hg; omega) (unhide HTb).size))
      have HKc := hide hMc
      have hzc := hoc.size
      have DGc := hide ((unhide DGb).offP hoc (fun h2 => by have := (unhide HV6 _ h2).2; omega))
      have DWc := hide ((unhide DWb).offP hoc (fun h2 => by have := (unhide HV6 _ h2).1; omega))
      obtain ⟨-, e0, e1, e2⟩ := unhide DGc
      clear hoc hMc HTb HYb DGb DWb
      obtain ⟨K, hK⟩ : ∃ K, 1 + m1 * 2 + m1 * 2 + m3 * 4 = K := ⟨_, rfl⟩
      rw [hK]
      have HK := hide hK
      clear hK
      go_wp2_with fail
      clear e0 e1 e2
      refine (heldDisk_calls yL m1 _ yS m1 _ yO m3 _ wc z1 z1 z3 (unhide HKc)).mono ?_
      rintro e wd ⟨rfl, hbd⟩
      rw [unhide HK]
      have HTd := hide (belOn (unhide HTc) hbd)
      have HKd := hide ((unhide HKc).below hbd)
      have DGd := hide ((unhide DGc).below hbd)
      have DWd := hide ((unhide DWc).below hbd)
      clear hbd HTc HKc DGc DWc
      obtain ⟨q0, q1, q2⟩ := unhide HC _ (belOn (unhide HB3) (unhide HTd))
      go_wp2_with fail
      refine (unhide HTO _ (belOn (unhide HB3) (unhide HTd))).mono ?_
      rintro e we ⟨g7, g8, g9, rfl, -, -, o1, o2, o3, hbe⟩
      have HTe := hide (belOn (unhide HTd) hbe)
      have HKe := hide ((unhide HKd).below hbe)
      have HAe := hide (dsk_at (unhide HSM) o1 o2 o3)
      have DGe := hide ((unhide DGd).below hbe)
      have DWe := hide ((unhide DWd).below hbe)
      clear hbe o1 o2 o3 q0 q1 q2 HTd HKd DGd DWd
      go_wp2_with fail
      refine (unhide HIM we _ _ _ (unhide HAe)).mono ?_
      rintro e wf ⟨uL, iL, uS, iS, uO, iO, rfl, o1, o2, o3, -, hbf⟩
      rw [unhide HM1] at o1 o2 ⊢
      rw [unhide HM3] at o3 ⊢
      obtain ⟨Wh, hWh⟩ : ∃ Wh, Wh = wf.alloc (.cells #[.slice uL m1 iL, .slice uS m1 iS, .slice uO m3 iO] 27) := ⟨_, rfl⟩
      have hbh : Below wf.heap.size wf Wh := by rw [hWh]; exact bel1 _ _
      have hbfh := belOn hbf hbh
      have DH := hide (show DC wf.heap.size (.slice uL m1 iL) (.slice uS m1 iS) (.slice uO m3 iO) Wh from by rw [hWh]; exact DC.new _ _ _ _ _ _ _ _ _ _)
      have HTf := hide (belOn (unhide HTe) hbfh)
      have HKf := hide ((unhide HKe).below hbfh)
      have DGf := hide ((unhide DGe).below hbfh)
      have DWf := hide ((unhide DWe).below hbfh)
      have HU := hide (show RowAt fileE Wh uL L1 ∧ RowAt fileE Wh uS L1 ∧ RowAt dopE Wh uO O1 from ⟨o1.at.below hbh, o2.at.below hbh, o3.at.below hbh⟩)
      have HWh := hide hWh.symm
      obtain ⟨-, e0, e1, e2⟩ := unhide DH
      obtain ⟨-, f0, f1, f2⟩ := unhide DWf
      clear hbf hbh hbfh o1 o2 o3 HTe HKe HAe hWh DGe DWe
      rw [← unhide HWh] at e0 e1 e2 f0 f1 f2
      go_wp2_with fail
      rw [unhide HWh]
      clear e0 e1 e2 f0 f1 f2
      refine (eqDisk_calls uL uS uO xL xS xO m1 m1 m3 _ _ _ _ _ _ L1 L1 O1 _ (unhide HM1) (unhide HM1) (unhide HM3) z1 z1 z3 ⟨(unhide HU).1, (unhide HU).2.1, (unhide HU).2.2⟩ ⟨(unhide HX1).below (unhide HTf), (unhide HX2).below (unhide HTf), (unhide HX3).below (unhide HTf)⟩).mono ?_
      rintro e wg ⟨rfl, hbg⟩
      have HTg := hide (belOn (unhide HTf) hbg)
      have HKg := hide ((unhide HKf).below hbg)
      have DGg := hide ((unhide DGf).below hbg)
      obtain ⟨-, e0, e1, e2⟩ := unhide DGg
      clear hbg HTf HKf HU DGf DWf
      go_wp2_with fail
      clear e0 e1 e2
      refine (heldDisk_calls yL m1 _ yS m1 _ yO m3 _ wg z1 z1 z3 (unhide HKg)).mono ?_
      rintro e wh ⟨rfl, hbh⟩
      rw [unhide HK]
      have HTh := hide (belOn (unhide HTg) hbh)
      clear hbh HTg HKg
      go_wp2_with fail
      go_ret
      exact ⟨rfl, unhide HFIN _ (belOn (unhide HB3) (unhide HTh))⟩
end Go.Proofs.Ytbcklkdhminofaa.fnExactSync
