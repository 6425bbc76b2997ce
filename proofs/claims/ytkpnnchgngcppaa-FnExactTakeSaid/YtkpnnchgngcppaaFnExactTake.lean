/- For every net, number and flag, Take of the program answers what Take of the specification answers, and writes into no argument; its answer owns its memory. No condition. -/
import Derived.Test.YtkpnnchgngcppaaRows
import Derived.Test.YtkpnnchgngcppaaNbx
import Derived.Test.YtkpnnchgngcppaaTakI
import Derived.WalkKit
import Derived.ProofKit
import Derived.OpenShut
import Derived.ShutString
import Derived.ChangeOld
import Derived.Below
import Derived.Lib.SmallJoins
namespace Go.Proofs.Ytkpnnchgngcppaa.fnExactTake
open Go.ChangeShapes Go.WideShapes Go.ChangeAt Go.RowKit Go.Joins
open Go.ChangeMaps (open_string shut_string)
open Plain
set_option linter.unusedVariables false

theorem own : ownKnob Try.prog.godebug = none := by kernel_rfl
theorem laidOut : laidOutB Try.prog = true := by kernel_rfl

set_option maxRecDepth 10000 in
set_option maxHeartbeats 8000000 in
theorem walk (t : Int) (a : Option Addr) (n c : Nat) (es : List Pkt) (id : Int) (keep : Bool) (w : World) (ht : (Lit.int .i64 t).wf = true) (h : ArgRow 4 pktL goodP w a n c es) (wid : (Lit.int .i64 id).wf = true) :
    Calls Try.prog 4 #[.agg #[.int .i64 t, .slice a n c], .int .i64 id, .bool keep] w fun e w' => e = .returned (.bool true) ∧ Below w.heap.size w w' := by
  obtain ⟨W0, hW0⟩ : ∃ W0, W0 = w.alloc (.cells #[.int .i64 t, .slice a n c] 24) := ⟨_, rfl⟩
  have hb0 : Below w.heap.size w W0 := by rw [hW0]; exact bel1 _ _
  have hlt : w.heap.size < W0.heap.size := by rw [hW0]; simp
  have c0 : W0.cell? ⟨w.heap.size, 0, none⟩ = some (.int .i64 t) := by rw [hW0]; simp [go_sem]
  have c2 : W0.cell? ⟨w.heap.size, 1, none⟩ = some (.slice a n c) := by rw [hW0]; simp [go_sem]
  have HD := hide (fun (W : World) (hW : Below W0.heap.size W0 W) => (show ArgRow 4 pktL goodP W a n c es from ⟨h.len, h.le, h.good, h.row.below (belOn hb0 hW)⟩))
  have HC := hide (fun (W : World) (hW : Below W0.heap.size W0 W) => And.intro (bcl hW hlt c0) (bcl hW hlt c2))
  have HFIN := hide (fun (W : World) (hW : Below W0.heap.size W0 W) => belOn hb0 hW)
  have HW0 := hide hW0.symm
  have HSZ := hide (szNet_calls t a n c es 1048576 W0 (unhide HD _ (Below.refl _ _)) (by decide))
  obtain ⟨A, hA⟩ : ∃ A, n + totP es = A := ⟨_, rfl⟩
  rw [hA] at HSZ
  by_cases hbig : 1048576 < A
  · rw [purse_no (show ((1048576 : Nat) : Int) < (A : Int) by omega)] at HSZ
    clear h hb0 hlt hW0 hA
    go_enter Try.func4, Try.ntmps4
    go_wp2_with fail
    rw [unhide HW0]
    refine (unhide HSZ).mono ?_
    rintro e w1 ⟨rfl, hb1⟩
    have HB1 := hide (unhide HFIN _ hb1)
    clear hb1
    go_wp2_with fail
    go_ret
    exact ⟨rfl, unhide HB1⟩
  · obtain ⟨r, hr⟩ : ∃ r : Nat, ((1048576 : Nat) : Int) - (A : Int) = (r : Int) := ⟨1048576 - A, by omega⟩
    rw [purse_yes (show ¬ ((1048576 : Nat) : Int) < (A : Int) by omega), hr] at HSZ
    have hn : n ≤ 1048576 := by omega
    have HLEN := hide h.len
    have HFI := hide (show ∀ e ∈ es, e.body.size ≤ 1000000000 from fun e he => by have := totP_mem es e he; omega)
    have HTO := hide (fun (W : World) (hW : Below W0.heap.size W0 W) => toNet_calls t a n c es W (unhide HD _ hW) hn)
    have HNA := hide (fun (W : World) (g : Nat) (hO : RowAt pktE W (some ⟨g, 0, none⟩) es) => (show NetAt W (some ⟨g, 0, none⟩) n n es from ⟨hO, unhide HLEN, hn, unhide HFI⟩))
    have HSP := hide (fun (W : World) (g : Nat) (hO : NetAt W (some ⟨g, 0, none⟩) n n es) => spec_Take t _ n n es id keep W hO (Nat.le_refl _) (.inr ⟨_, rfl⟩))
    have HIM := hide (fun (W : World) (g : Nat) (hO : NetAt W (some ⟨g, 0, none⟩) n n es) => impl_Take t _ n n es id keep W hO (Nat.le_refl _))
    unfold TakPost at HSP HIM
    have HEN := hide (fun (W : World) (g g' : Nat) (h1 : RowAt pktE W (some ⟨g, 0, none⟩) es) (h2 : RowAt pktE W (some ⟨g', 0, none⟩) es) => eqNet_calls t (some ⟨g, 0, none⟩) (some ⟨g', 0, none⟩) n n n es W (unhide HLEN) (by omega) h1 h2)
    have HMN := hide (fun (W : World) (g : Nat) (h1 : RowAt pktE W (some ⟨g, 0, none⟩) es) (hg : g < W.heap.size) => markNet_calls t (some ⟨g, 0, none⟩) n n es W (unhide HLEN) hn h1 (fun k hk => by obtain ⟨o, e⟩ := hk; cases e; exact hg))
    have hRl : (takF t es id keep).es.length ≤ 1048576 := by
      have := unhide HLEN
      unfold takF
      split
      · simp
      · split
        · simp; omega
        · have : (dropI es id).length ≤ es.length := List.length_filter_le _ _
          cases keep <;> simp <;> omega
    generalize takF t es id keep = R at HSP HIM hRl
    obtain ⟨T, X, P, C⟩ := R
    obtain ⟨pi, pf, pt, pb⟩ := P
    simp only [pktV] at HSP HIM hRl
    have HEP := hide (fun (W : World) => eqPacket_calls pi pf pt pb W)
    obtain ⟨m, hm⟩ : ∃ m, X.length = m := ⟨_, rfl⟩
    rw [hm] at hRl HSP HIM
    have HEQ := hide (fun (W : World) (x y : Option Addr) (cx cy : Nat) (h : RowAt pktE W x X) (h' : RowAt pktE W y X) => eqNet_calls T x y m cx cy X W hm (by omega) h h')
    have HMK := hide (fun (W : World) (x : Option Addr) (cx : Nat) (h : RowAt pktE W x X) (hin : ∀ g, inB x g → g < W.heap.size) => markNet_calls T x m cx X W hm (by omega) h hin)
    have HHE := hide (fun (W : World) (x : Option Addr) (cx : Nat) (h : RowAt pktE W x (mkP 1 m)) => heldNet_calls T x m cx W (by omega) h)
    obtain ⟨K, hK⟩ : ∃ K, 1 + m * 4 = K := ⟨_, rfl⟩
    rw [hK] at HMK HHE
    obtain ⟨M0, hM0⟩ : ∃ M0, 1 + n * 4 = M0 := ⟨_, rfl⟩
    rw [hM0] at HMN
    clear h hb0 hlt hW0 hbig hr c0 c2 hA hm hK hM0 ht wid
    go_enter Try.func4, Try.ntmps4
    go_wp2_with fail
    rw [unhide HW0]
    refine (unhide HSZ).mono ?_
    rintro e w1 ⟨rfl, hb1⟩
    have HB1 := hide hb1
    obtain ⟨q0, q2⟩ := unhide HC _ hb1
    clear hb1
    go_wp2_with fail
    refine (unhide HTO _ (unhide HB1)).mono ?_
    rintro e w2 ⟨g1, rfl, o1, hb2⟩
    have HB2 := hide (belOn (unhide HB1) hb2)
    have HA2 := hide (unhide HNA _ _ o1.at)
    clear hb2 o1 q0 q2
    go_wp2_with fail
    refine (unhide HSP w2 _ (unhide HA2)).mono ?_
    rintro e w3 ⟨aS, cS, rfl, oS, hb3⟩
    obtain ⟨Wq, hWq⟩ : ∃ Wq, Wq = (w3.alloc (.cells #[.int .i64 T, .slice aS m cS] 28)).alloc (.cells #[.int .i64 pi, .int .i64 pf, .int .i64 pt, .string pb] 36) := ⟨_, rfl⟩
    have hbq : Below w3.heap.size w3 Wq := by rw [hWq]; exact belOn (bel1 _ _) (bel1 _ _)
    have DW := hide (show NB w3.heap.size (.int .i64 T) (.slice aS m cS) Wq from by rw [hWq]; exact (NB.new _ _ _).below (bel1 _ _) (NB.new _ _ _).lt)
    have PW := hide (show PkAt (w3.heap.size + 1) ⟨pi, pf, pt, pb⟩ Wq from ⟨by rw [hWq]; simp [go_sem], by rw [hWq]; simp [go_sem], by rw [hWq]; simp [go_sem], by rw [hWq]; simp [go_sem]⟩)
    have hzq : Wq.heap.size = w3.heap.size + 2 := by rw [hWq]; simp
    have HB3 := hide (belOn (belOn (unhide HB2) hb3) hbq)
    have HRS := hide (oS.keep hbq).at
    have HBS := hide oS.bl
    have hq3 : w3.heap.size < Wq.heap.size := (unhide DW).lt
    have HWq := hide hWq.symm
    obtain ⟨q0, q2⟩ := unhide HC _ (unhide HB3)
    clear hb3 HA2 oS hWq hbq
    rw [← unhide HWq] at q0 q2
    go_wp2_with fail
    rw [unhide HWq]
    clear q0 q2
    refine (unhide HTO _ (unhide HB3)).mono ?_
    rintro e w4 ⟨g4, rfl, o1, hb4⟩
    obtain ⟨W5, hW5⟩ : ∃ W5, W5 = w4.alloc (.cells #[.int .i64 t, .slice (some ⟨g4, 0, none⟩) n n] 28) := ⟨_, rfl⟩
    have hb5 : Below w4.heap.size w4 W5 := by rw [hW5]; exact bel1 _ _
    have hg4 := o1.bl g4 ⟨0, rfl⟩
    have HB5 := hide (belOn (belOn (unhide HB3) hb4) hb5)
    have DX := hide (show NB w4.heap.size (.int .i64 t) (.slice (some ⟨g4, 0, none⟩) n n) W5 from by rw [hW5]; exact NB.new _ _ _)
    have DW5 := hide ((unhide DW).below (belOn hb4 hb5) (unhide DW).lt)
    have PW5 := hide ((unhide PW).gr ((belOn hb4 hb5).block _ (by omega)))
    have HR5 := hide (o1.keep hb5).at
    have HRS5 := hide ((unhide HRS).below (belOn hb4 hb5))
    have hz5 : W5.heap.size = w4.heap.size + 1 := by rw [hW5]; simp
    have hz4 := hb4.size
    have HW5 := hide hW5.symm
    clear hb4 hb5 o1 hW5 HRS DW
    have e0 := (unhide DX).c0
    have e1 := (unhide DX).c1
    go_wp2_with fail
    rw [unhide HW5]
    clear e0 e1
    refine (unhide HIM W5 _ (unhide HNA _ _ (unhide HR5))).mono ?_
    rintro e w6 ⟨aI, cI, rfl, oI, hb6⟩
    obtain ⟨Wg, hWg⟩ : ∃ Wg, Wg = (w6.alloc (.cells #[.int .i64 T, .slice aI m cI] 28)).alloc (.cells #[.int .i64 pi, .int .i64 pf, .int .i64 pt, .string pb] 36) := ⟨_, rfl⟩
    have hbg : Below w6.heap.size w6 Wg := by rw [hWg]; exact belOn (bel1 _ _) (bel1 _ _)
    have hb6g := belOn hb6 hbg
    have DG := hide (show NB w6.heap.size (.int .i64 T) (.slice aI m cI) Wg from by rw [hWg]; exact (NB.new _ _ _).below (bel1 _ _) (NB.new _ _ _).lt)
    have PG := hide (show PkAt (w6.heap.size + 1) ⟨pi, pf, pt, pb⟩ Wg from ⟨by rw [hWg]; simp [go_sem], by rw [hWg]; simp [go_sem], by rw [hWg]; simp [go_sem], by rw [hWg]; simp [go_sem]⟩)
    have HB6 := hide (belOn (unhide HB5) hb6g)
    have HRI6 := hide (oI.keep hbg).at
    have HBI := hide oI.bl
    have HR6 := hide ((unhide HR5).below hb6g)
    have HRS6 := hide ((unhide HRS5).below hb6g)
    have DX6 := hide ((unhide DX).below hb6g (unhide DX).lt)
    have DW6 := hide ((unhide DW5).below hb6g (unhide DW5).lt)
    have PW6 := hide ((unhide PW5).gr (hb6g.block _ (by omega)))
    have hz6 := hb6.size
    have hz6g : Wg.heap.size = w6.heap.size + 2 := by rw [hWg]; simp
    have HWg := hide hWg.symm
    have e0 := (unhide DG).c0
    have e1 := (unhide DG).c1
    have f0 := (unhide DW6).c0
    have f1 := (unhide DW6).c1
    clear oI hb6 hbg hb6g HRS5 HR5 DX DW5 hWg
    rw [← unhide HWg] at e0 e1 f0 f1
    go_wp2_with fail
    rw [unhide HWg]
    clear e0 e1 f0 f1
    refine (unhide HEQ Wg aI aS cI cS (unhide HRI6) (unhide HRS6)).mono ?_
    rintro e w7 ⟨rfl, hb7⟩
    have HB7 := hide (belOn (unhide HB6) hb7)
    have HR7 := hide ((unhide HR6).below hb7)
    have HRI7 := hide ((unhide HRI6).below hb7)
    have HRS7 := hide ((unhide HRS6).below hb7)
    have DX7 := hide ((unhide DX6).below hb7 (unhide DX6).lt)
    have DG7 := hide ((unhide DG).below hb7 (unhide DG).lt)
    have DW7 := hide ((unhide DW6).below hb7 (unhide DW6).lt)
    have hz7 := hb7.size
    have PG7 := hide ((unhide PG).gr (hb7.block _ (by omega)))
    have PW7 := hide ((unhide PW6).gr (hb7.block _ (by omega)))
    clear hb7 HR6 HRI6 HRS6 DX6 DG DW6
    obtain ⟨k0, k1, k2, k3⟩ := unhide PG7
    obtain ⟨j0, j1, j2, j3⟩ := unhide PW7
    go_wp2_with fail
    clear k0 k1 k2 k3 j0 j1 j2 j3
    refine (unhide HEP _).mono ?_
    rintro e w7p ⟨rfl, hb7p⟩
    have HB7 := hide (belOn (unhide HB7) hb7p)
    have HR7 := hide ((unhide HR7).below hb7p)
    have HRI7 := hide ((unhide HRI7).below hb7p)
    have HRS7 := hide ((unhide HRS7).below hb7p)
    have DX7 := hide ((unhide DX7).below hb7p (unhide DX7).lt)
    have DG7 := hide ((unhide DG7).below hb7p (unhide DG7).lt)
    have DW7 := hide ((unhide DW7).below hb7p (unhide DW7).lt)
    have PG7 := hide ((unhide PG7).gr (hb7p.block _ (by omega)))
    have PW7 := hide ((unhide PW7).gr (hb7p.block _ (by omega)))
    have hz7p := hb7p.size
    clear hb7p
    obtain ⟨q0, q2⟩ := unhide HC _ (unhide HB7)
    have p0 := (unhide DX7).c0
    have p2 := (unhide DX7).c1
    have l1 : w.heap.size < w7p.heap.size := lt_of_cell q0
    have l2 : w4.heap.size < w7p.heap.size := lt_of_cell p0
    have HT8 := hide (unhide HTO w7p.drew (belDrew (unhide HB7)))
    go_wp2_with fail
    go_region_with (first
      | (go_at_call 9; refine (unhide HT8).mono ?_; rintro e w8 ⟨g7, rfl, o1, hb8⟩; have s0 := bcl (bOfDrew hb8) l1 q0; have s2 := bcl (bOfDrew hb8) l1 q2; have t0 := bcl (bOfDrew hb8) l2 p0; have t2 := bcl (bOfDrew hb8) l2 p2)
      | (go_at_call 11; refine (unhide HEN _ _ _ ((unhide HR7).below (bOfDrew hb8)) o1.at).mono ?_; rintro e w9 ⟨rfl, hb9⟩))
    all_goals (have HD9 := hide (belOn (bOfDrew hb8) hb9))
    all_goals clear hb8 hb9 o1 s0 s2 t0 t2 q0 q2 p0 p2
    all_goals
      have HB9 := hide (belOn (unhide HB7) (unhide HD9))
      have DX9 := hide ((unhide DX7).below (unhide HD9) (unhide DX7).lt)
      have DG9 := hide ((unhide DG7).below (unhide HD9) (unhide DG7).lt)
      have DW9 := hide ((unhide DW7).below (unhide HD9) (unhide DW7).lt)
      have PG9 := hide ((unhide PG7).gr ((unhide HD9).block _ (by omega)))
      have PW9 := hide ((unhide PW7).gr ((unhide HD9).block _ (by omega)))
      have HR9 := hide ((unhide HR7).below (unhide HD9))
      have HRI9 := hide ((unhide HRI7).below (unhide HD9))
      have HRS9 := hide ((unhide HRS7).below (unhide HD9))
      have hz9 := (unhide HD9).size
      have p0 := (unhide DX9).c0
      have p2 := (unhide DX9).c1
      clear HR7 HRI7 HRS7 HB7 DX7 DG7 DW7
      go_wp2_with fail
      clear p0 p2
      refine (unhide HMN w9 g4 (unhide HR9) (by omega)).mono ?_
      rintro e wa ⟨rfl, -, hoa⟩
      have HBa := hide ((unhide HB9).trans (hoa.below (B := W0.heap.size) (fun g hg => by obtain ⟨o, e⟩ := hg; cases e; have := (unhide HB3).size; omega) (unhide HB9).size))
      have HRIa := hide ((unhide HRI9).offP hoa fun g h h2 => by have := unhide HBI g h; obtain ⟨o, e⟩ := h2; cases e; omega)
      have HRSa := hide ((unhide HRS9).offP hoa fun g h h2 => by have := unhide HBS g h; obtain ⟨o, e⟩ := h2; cases e; omega)
      have DGa := hide ((unhide DG9).offP hoa (fun h2 => by obtain ⟨o, e⟩ := h2; cases e; omega))
      have DWa := hide ((unhide DW9).offP hoa (fun h2 => by obtain ⟨o, e⟩ := h2; cases e; omega))
      have PGa := hide ((unhide PG9).gr (hoa.block _ (by omega) (fun h2 => by obtain ⟨o, e⟩ := h2; cases e; omega)))
      have PWa := hide ((unhide PW9).gr (hoa.block _ (by omega) (fun h2 => by obtain ⟨o, e⟩ := h2; cases e; omega)))
      have hza := hoa.size
      have e0 := (unhide DGa).c0
      have e1 := (unhide DGa).c1
      have f0 := (unhide DWa).c0
      have f1 := (unhide DWa).c1
      clear hoa HR9 HRI9 HRS9 DX9 DG9 DW9
      go_wp2_with fail
      clear e0 e1 f0 f1
      refine (unhide HEQ wa aI aS cI cS (unhide HRIa) (unhide HRSa)).mono ?_
      rintro e wb ⟨rfl, hbb⟩
      have HBb := hide (belOn (unhide HBa) hbb)
      have HRIb := hide ((unhide HRIa).below hbb)
      have HRSb := hide ((unhide HRSa).below hbb)
      have DGb := hide ((unhide DGa).below hbb (unhide DGa).lt)
      have DWb := hide ((unhide DWa).below hbb (unhide DWa).lt)
      have hzb := hbb.size
      have PGb := hide ((unhide PGa).gr (hbb.block _ (by omega)))
      have PWb := hide ((unhide PWa).gr (hbb.block _ (by omega)))
      obtain ⟨k0, k1, k2, k3⟩ := unhide PGb
      obtain ⟨j0, j1, j2, j3⟩ := unhide PWb
      clear hbb HRIa HRSa DGa DWa
      go_wp2_with fail
      clear k0 k1 k2 k3 j0 j1 j2 j3
      refine (unhide HEP _).mono ?_
      rintro e wbp ⟨rfl, hbp⟩
      have HBb := hide (belOn (unhide HBb) hbp)
      have HRIb := hide ((unhide HRIb).below hbp)
      have HRSb := hide ((unhide HRSb).below hbp)
      have DGb := hide ((unhide DGb).below hbp (unhide DGb).lt)
      have DWb := hide ((unhide DWb).below hbp (unhide DWb).lt)
      have PWb := hide ((unhide PWb).gr (hbp.block _ (by omega)))
      have hzp := hbp.size
      have e0 := (unhide DGb).c0
      have e1 := (unhide DGb).c1
      clear hbp
      go_wp2_with fail
      clear e0 e1
      refine (unhide HMK wbp aI cI (unhide HRIb) (fun g hg => by have := unhide HBI g hg; omega)).mono ?_
      rintro e wc ⟨rfl, hmk, hpb⟩
      have HBc := hide ((unhide HBb).trans (hpb.below (B := W0.heap.size) (fun g hg => by have := unhide HBI g hg; have := (unhide HB5).size; omega) (unhide HBb).size))
      have HKc := hide hmk
      have HRSc := hide ((unhide HRSb).offP hpb fun g h h2 => by have := unhide HBS g h; have := unhide HBI g h2; omega)
      have DGc := hide ((unhide DGb).offP hpb (fun h2 => by have := unhide HBI _ h2; omega))
      have DWc := hide ((unhide DWb).offP hpb (fun h2 => by have := unhide HBI _ h2; omega))
      have PWc := hide ((unhide PWb).gr (hpb.block _ (by omega) (fun h2 => by have := unhide HBI _ h2; omega)))
      have hzc := hpb.size
      have e0 := (unhide DGc).c0
      have e1 := (unhide DGc).c1
      clear hpb hmk HRIb HRSb DGb DWb
      go_wp2_with fail
      clear e0 e1
      refine (unhide HHE wc aI cI (unhide HKc)).mono ?_
      rintro e wd ⟨rfl, hbd⟩
      have HBd := hide (belOn (unhide HBc) hbd)
      have HKd := hide ((unhide HKc).below hbd)
      have HRSd := hide ((unhide HRSc).below hbd)
      have DGd := hide ((unhide DGc).below hbd (unhide DGc).lt)
      have DWd := hide ((unhide DWc).below hbd (unhide DWc).lt)
      have PWd := hide ((unhide PWc).gr (hbd.block _ (by omega)))
      have hzd := hbd.size
      clear hbd HKc HRSc DGc DWc
      obtain ⟨q0, q2⟩ := unhide HC _ (unhide HBd)
      go_wp2_with fail
      refine (unhide HTO wd (unhide HBd)).mono ?_
      rintro e we ⟨ge, rfl, oe, hbe⟩
      have HBe := hide (belOn (unhide HBd) hbe)
      have HAe := hide (unhide HNA _ _ oe.at)
      have HKe := hide ((unhide HKd).below hbe)
      have HRSe := hide ((unhide HRSd).below hbe)
      have DGe := hide ((unhide DGd).below hbe (unhide DGd).lt)
      have DWe := hide ((unhide DWd).below hbe (unhide DWd).lt)
      have PWe := hide ((unhide PWd).gr (hbe.block _ (by omega)))
      have hze := hbe.size
      clear hbe oe HKd HRSd q0 q2 DGd DWd
      go_wp2_with fail
      refine (unhide HIM we _ (unhide HAe)).mono ?_
      rintro e wf ⟨aJ, cJ, rfl, oJ, hbf⟩
      obtain ⟨Wh, hWh⟩ : ∃ Wh, Wh = (wf.alloc (.cells #[.int .i64 T, .slice aJ m cJ] 28)).alloc (.cells #[.int .i64 pi, .int .i64 pf, .int .i64 pt, .string pb] 36) := ⟨_, rfl⟩
      have hbh : Below wf.heap.size wf Wh := by rw [hWh]; exact belOn (bel1 _ _) (bel1 _ _)
      have hbfh := belOn hbf hbh
      have DH := hide (show NB wf.heap.size (.int .i64 T) (.slice aJ m cJ) Wh from by rw [hWh]; exact (NB.new _ _ _).below (bel1 _ _) (NB.new _ _ _).lt)
      have PH := hide (show PkAt (wf.heap.size + 1) ⟨pi, pf, pt, pb⟩ Wh from ⟨by rw [hWh]; simp [go_sem], by rw [hWh]; simp [go_sem], by rw [hWh]; simp [go_sem], by rw [hWh]; simp [go_sem]⟩)
      have hzh : Wh.heap.size = wf.heap.size + 2 := by rw [hWh]; simp
      have HBf := hide (belOn (unhide HBe) hbfh)
      have HKf := hide ((unhide HKe).below hbfh)
      have HRSf := hide ((unhide HRSe).below hbfh)
      have HRJ := hide (oJ.keep hbh).at
      have DGf := hide ((unhide DGe).below hbfh (unhide DGe).lt)
      have DWf := hide ((unhide DWe).below hbfh (unhide DWe).lt)
      have PWf := hide ((unhide PWe).gr (hbfh.block _ (by omega)))
      have hzf := hbf.size
      have HWh := hide hWh.symm
      have e0 := (unhide DH).c0
      have e1 := (unhide DH).c1
      have f0 := (unhide DWf).c0
      have f1 := (unhide DWf).c1
      clear hbf hbh hbfh oJ HKe HRSe HAe hWh DGe DWe
      rw [← unhide HWh] at e0 e1 f0 f1
      go_wp2_with fail
      rw [unhide HWh]
      clear e0 e1 f0 f1
      refine (unhide HEQ Wh aJ aS cJ cS (unhide HRJ) (unhide HRSf)).mono ?_
      rintro e wg ⟨rfl, hbg⟩
      have HBg := hide (belOn (unhide HBf) hbg)
      have HKg := hide ((unhide HKf).below hbg)
      have DGg := hide ((unhide DGf).below hbg (unhide DGf).lt)
      have PHg := hide ((unhide PH).gr (hbg.block _ (by omega)))
      have PWg := hide ((unhide PWf).gr (hbg.block _ (by omega)))
      obtain ⟨k0, k1, k2, k3⟩ := unhide PHg
      obtain ⟨j0, j1, j2, j3⟩ := unhide PWg
      clear hbg HKf HRSf HRJ DGf DWf DH
      go_wp2_with fail
      clear k0 k1 k2 k3 j0 j1 j2 j3
      refine (unhide HEP _).mono ?_
      rintro e wgp ⟨rfl, hbp⟩
      have HBg := hide (belOn (unhide HBg) hbp)
      have HKg := hide ((unhide HKg).below hbp)
      have DGg := hide ((unhide DGg).below hbp (unhide DGg).lt)
      have e0 := (unhide DGg).c0
      have e1 := (unhide DGg).c1
      clear hbp
      go_wp2_with fail
      clear e0 e1
      refine (unhide HHE wgp aI cI (unhide HKg)).mono ?_
      rintro e wh ⟨rfl, hbh⟩
      have HBh := hide (belOn (unhide HBg) hbh)
      clear hbh HKg
      go_wp2_with fail
      go_ret
      exact ⟨rfl, unhide HFIN _ (unhide HBh)⟩

set_option maxRecDepth 100000 in
theorem lifted (os : Os) (started : os.Started) (H : Type) (enc : TypeId × Value → H) :
    ReturnsInHanded {} Try.checked os 4 .any (Rows.fnExactTakeSpec.pre6 enc Try.prog Try.f4 Rows.fnExactTakeRow.domain false) (Rows.fnExactTakeSpec.post enc Try.prog Try.f4 false true false false) := by
  refine returnsInHanded_of_change (C := Try.checked) own started (by kernel_rfl) Try.func4
    (ChangeSpec.witness6 (enc := enc) (C := Try.checked) false ⟨#[], #[.agg #[.int .i64 0, .slice none 0 0], .int .i64 0, .bool false], []⟩ 8 (by kernel_rfl) (by kernel_rfl) (by kernel_rfl) (by kernel_rfl)) ?_
  intro W base args ds gs before hval0 hW hcnd _
  have hval : ∀ (j : Nat) t v, Try.f4.params[j]? = some t → args[j]? = some v → Value.okWide Try.prog W .any base t v := hval0
  have hW' := hW
  obtain ⟨p, q, hA0, hV, rfl, hfz, hnd⟩ := hW
  have hA : DataW.TrodAll enc Try.prog W 0 (fun _ => true) true Try.f4.params.toList args.toList ds p := hA0
  rw [Try.params4] at hA hval
  obtain ⟨v0, vs0, d0, ds0, p0, q0, hargs, rfl, rfl, h0, r0⟩ := trodAll_cons hA
  obtain ⟨v1, vs1, d1, ds1, p1, q1, rfl, rfl, rfl, h1, r1⟩ := trodAll_cons r0
  obtain ⟨v2, vs2, d2, ds2, p2, q2, rfl, rfl, rfl, h2, r2⟩ := trodAll_cons r1
  obtain ⟨rfl, rfl, rfl⟩ := trodAll_nil r2
  obtain rfl : args = #[v0, v1, v2] := by cases args; simp_all
  obtain ⟨rfl, rfl⟩ := trodVars_none hV
  have k0 := h0
  have lt0 : ∀ x ∈ p0, x.block < W.heap.size := by obtain ⟨m, hm⟩ := k0; exact DataW.trod_lt m _ _ _ hm
  obtain ⟨c0x0, c0x1, y0x0, y0x1, mm0, rfl, e0, f0, hy0x0, hy0x1⟩ := open_agg2 Try.underlying24 (by kernel_rfl) (by kernel_rfl) (hval 0 24 v0 rfl rfl) h0
  obtain ⟨a0x0, g0x0, _, w0x0⟩ := DataW.trod_int Try.underlying2 hy0x0
  obtain ⟨a0x1, n0x1, l0x1, z0x1, g0x1, w0x1⟩ := openArg 4 pktL goodP Try.underlying22 (by kernel_rfl) (by decide) rdPkt hy0x1
  simp at g0x0
  subst g0x0 g0x1
  have k1 := h1
  have lt1 : ∀ x ∈ p1, x.block < W.heap.size := by obtain ⟨m, hm⟩ := k1; exact DataW.trod_lt m _ _ _ hm
  obtain ⟨a1, rfl, e1, f1, w1⟩ := open_int Try.underlying2 (hval 1 2 v1 rfl rfl) h1
  have k2 := h2
  have lt2 : ∀ x ∈ p2, x.block < W.heap.size := by obtain ⟨m, hm⟩ := k2; exact DataW.trod_lt m _ _ _ hm
  obtain ⟨a2, rfl, e2, f2⟩ := open_bool Try.underlying4 (hval 2 4 v2 rfl rfl) h2
  clear hA0 hval0
  refine (walk a0x0 a0x1 n0x1 l0x1 z0x1 a1 a2 W w0x0 w0x1 w1).mono fun e W' ⟨he, bel⟩ => ?_
  subst he
  exact ⟨_, rfl, _, _, _, [], _, [], hW', trodAll_mk1 (shut_bool Try.underlying4 _), (trodAll_cons_mk (Below.trod laidOut (by kernel_rfl) (of_decide_eq_true (by kernel_rfl)) k0 bel lt0) (trodAll_cons_mk (Below.trod laidOut (by kernel_rfl) (of_decide_eq_true (by kernel_rfl)) k1 bel lt1) (trodAll_cons_mk (Below.trod laidOut (by kernel_rfl) (of_decide_eq_true (by kernel_rfl)) k2 bel lt2) trodAll_mk0))), rfl, bel.frame _, fun h => by cases h⟩

theorem named : Try.pinned.checked.prog.funcNamed Rows.fnExactTakeRow.func = some 4 := by kernel_rfl
theorem closed : joinedFacts Try.pinned.checked.prog 4 Try.f4 Rows.fnExactTakeSpec Rows.fnExactTakeRow = true := by kernel_rfl
theorem over : Rows.fnExactTakeRow.holds Try.pinned (OpenSpec.ofChange Rows.fnExactTakeSpec) :=
  OpenClaim.holds_of_wide 4 Try.f4 rfl rfl rfl rfl rfl rfl rfl ⟨rfl, rfl, rfl, rfl, rfl⟩ rfl rfl rfl rfl rfl named Try.func4 closed
    (of_decide_eq_true (by kernel_rfl)) (by unfold Func.isWrapper; first | (rw [if_pos (by decide +kernel)]; kernel_rfl) | (rw [if_neg (by decide +kernel)]; exact ⟨rfl, rfl⟩))
    (fun os started H enc _ => lifted os started H enc)

end Go.Proofs.Ytkpnnchgngcppaa.fnExactTake
namespace Go.Proofs.Ytkpnnchgngcppaa
theorem fnExactTake_holds : Rows.FnExactTakeSaid := fnExactTake.over
#print axioms fnExactTake_holds
end Go.Proofs.Ytkpnnchgngcppaa
