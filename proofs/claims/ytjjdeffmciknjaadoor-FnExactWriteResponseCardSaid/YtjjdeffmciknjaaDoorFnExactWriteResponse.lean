/- For every response, WriteResponse of the program answers the text that WriteResponse of the specification answers, and writes into no argument; nothing that was there is changed. The table of the powers of ten is as its text lays it; the other tables that the card names are never read. -/
import Derived.Test.YtjjdeffmciknjaaDoorRows
import Derived.Test.YtjjdeffmciknjaaDoorRspR
import Derived.Test.YtjjdeffmciknjaaDoorWrsI
import Derived.Test.YtjjdeffmciknjaaDoorLaidP
import Derived.Test.YtjjdeffmciknjaaDoorTie
import Derived.Test.YtjjdeffmciknjaaDoorCards
import Derived.LaidMore
import Derived.Lay
import Derived.SevenTiedAt
import Derived.Stop.Joined
import Derived.WalkKit
import Derived.ProofKit
import Derived.OpenShut
import Derived.ShutString
import Derived.ChangeOld
import Derived.Below
import Derived.Lib.SmallJoins
namespace Go.Proofs.YtjjdeffmciknjaaDoor.fnExactWriteResponse
open Go.ChangeShapes Go.WideShapes Go.ChangeAt Go.RowKit Go.Joins
open Go.ChangeMaps (open_string shut_string)
open Plain
set_option linter.unusedVariables false

theorem own : ownKnob Tryd.prog.godebug = none := by kernel_rfl
theorem laidOut : laidOutB Tryd.prog = true := by kernel_rfl

theorem k_of_laid {W : World} (h : laidMetH Tryd.prog Rows.fnExactWriteResponseRow.laid W) : P10 W := by
  rw [MakeChecks.laidMetH_plain _ _ _ (by kernel_rfl)] at h
  obtain ⟨ps, hlv, _, _⟩ := h
  exact pow_of_laid hlv 2 rfl
set_option maxRecDepth 10000 in
set_option maxHeartbeats 4000000 in
theorem walk (st : Int) (ah : Option Addr) (nh ch : Nat) (hs : List Hd) (bd : ByteArray) (w : World) (hst : (Lit.int .i64 st).wf = true) (hh : ArgRow 2 hdrL goodH w ah nh ch hs) (hbd : bd.size ≤ maxLen) (hP : P10 w) :
    Calls Tryd.prog 5 #[.agg #[.int .i64 st, .slice ah nh ch, .string bd]] w fun e w' => e = .returned (.bool true) ∧ Below w.heap.size w w' := by
  have h : RspArg w st ah nh ch hs bd := ⟨hst, hh, hbd⟩
  obtain ⟨W0, hW0⟩ : ∃ W0, W0 = w.alloc (.cells #[.int .i64 st, .slice ah nh ch, .string bd] 35) := ⟨_, rfl⟩
  have hb0 : Below w.heap.size w W0 := by rw [hW0]; exact bel1 _ _
  have B0 : Blk W0 w.heap.size [.int .i64 st, .slice ah nh ch, .string bd] := by rw [hW0]; exact Blk.new w _ _
  have HD := hide (fun (W : World) (hW : Below W0.heap.size W0 W) => h.below (belOn hb0 hW))
  have HC := hide (fun (W : World) (hW : Below W0.heap.size W0 W) => And.intro ((B0.call hW).c 0 (by simp)) (And.intro ((B0.call hW).c 1 (by simp)) ((B0.call hW).c 2 (by simp))))
  have HFIN := hide (fun (W : World) (hW : Below W0.heap.size W0 W) => belOn hb0 hW)
  have HW0 := hide hW0.symm
  have HSZ := hide (szResponse_calls st ah nh ch hs bd 1048576 W0 (h.below hb0) (by decide))
  obtain ⟨A, hA⟩ : ∃ A, totS hs bd = A := ⟨_, rfl⟩
  rw [hA] at HSZ
  by_cases hbig : 1048576 < A
  · rw [purse_no (show ((1048576 : Nat) : Int) < (A : Int) by omega)] at HSZ
    clear h hb0 hW0 hA B0
    go_enter Tryd.func5, Tryd.ntmps5
    go_wp2_with fail
    rw [unhide HW0]
    refine (unhide HSZ).mono ?_
    rintro e w1 ⟨rfl, hb1⟩
    have HB1 := hide (unhide HFIN _ hb1)
    clear hb1
    go_wp2_with fail
    go_ret
    exact ⟨rfl, unhide HB1⟩
  · obtain ⟨r, hr⟩ : ∃ r : Nat, ((1048576 : Nat) : Int) - (A : Int) = (r : Int) := ⟨1048576 - A, by omega⟩
    rw [purse_yes (show ¬ ((1048576 : Nat) : Int) < (A : Int) by omega), hr] at HSZ
    have HSM := hide (sm_of h (by omega))
    have HTO := hide (fun (W : World) (hW : Below W0.heap.size W0 W) => toResponse_calls st ah nh ch hs bd W (unhide HD _ hW) (unhide HSM).bh)
    have HSP := hide (fun (W : World) (u1 : Nat) (hA : RspAt W st (some ⟨u1, 0, none⟩) nh hs bd) => spec_WriteResponse st _ nh nh hs bd W hA)
    have HIM := hide (fun (W : World) (u1 : Nat) (hA : RspAt W st (some ⟨u1, 0, none⟩) nh hs bd) (hPW : P10 W) => impl_WriteResponse st _ nh nh hs bd W hA hPW)
    have HPW := hide (fun (W : World) (hW : Below W0.heap.size W0 W) => (hP.below hb0).below hW)
    obtain ⟨R, hR⟩ : ∃ R, wrsT st hs bd = R := ⟨_, rfl⟩
    rw [hR] at HSP HIM
    clear h hb0 hW0 hbig hr hR hA B0 hP
    go_enter Tryd.func5, Tryd.ntmps5
    go_wp2_with fail
    rw [unhide HW0]
    refine (unhide HSZ).mono ?_
    rintro e w1 ⟨rfl, hb1⟩
    have HB1 := hide hb1
    obtain ⟨q0, q1, q2⟩ := unhide HC _ hb1
    clear hb1
    go_wp2_with fail
    refine (unhide HTO _ (unhide HB1)).mono ?_
    rintro e w2 ⟨g1, rfl, o1, hb2⟩
    have HB2 := hide (belOn (unhide HB1) hb2)
    have HA2 := hide ((unhide HSM).at o1.at)
    clear hb2 o1 q0 q1 q2
    go_wp2_with fail
    refine (unhide HSP w2 _ (unhide HA2)).mono ?_
    rintro e w3 ⟨rfl, hb3⟩
    have HB3 := hide (belOn (unhide HB2) hb3)
    clear hb3 HA2
    obtain ⟨q0, q1, q2⟩ := unhide HC _ (unhide HB3)
    go_wp2_with fail
    refine (unhide HTO _ (unhide HB3)).mono ?_
    rintro e w4 ⟨g3, rfl, o1, hb4⟩
    obtain ⟨W5, hW5⟩ : ∃ W5, W5 = w4.alloc (.cells #[.int .i64 st, .slice (some ⟨g3, 0, none⟩) nh nh, .string bd] 39) := ⟨_, rfl⟩
    have hb5 : Below w4.heap.size w4 W5 := by rw [hW5]; exact bel1 _ _
    have HB5 := hide (belOn (belOn (unhide HB3) hb4) hb5)
    have B5 : Blk W5 w4.heap.size [.int .i64 st, .slice (some ⟨g3, 0, none⟩) nh nh, .string bd] := by rw [hW5]; exact Blk.new w4 _ _
    have HA5 := hide (((unhide HSM).at o1.at).below hb5)
    have HE := hide (fun (W : World) (hW : Below W5.heap.size W5 W) => And.intro ((B5.call hW).c 0 (by simp)) (And.intro ((B5.call hW).c 1 (by simp)) ((B5.call hW).c 2 (by simp))))
    have HW5 := hide hW5.symm
    clear hb4 hb5 o1 q0 q1 q2 hW5 B5
    go_wp2_with fail
    rw [unhide HW5]
    refine (unhide HIM W5 _ (unhide HA5) (unhide HPW _ (unhide HB5))).mono ?_
    rintro e w6 ⟨rfl, hb6⟩
    have HB6 := hide (belOn (unhide HB5) hb6)
    have HA6 := hide ((unhide HA5).below hb6)
    obtain ⟨q0, q1, q2⟩ := unhide HC _ (unhide HB6)
    obtain ⟨p0, p1, p2⟩ := unhide HE _ hb6
    have l1 : w.heap.size < w6.heap.size := lt_of_cell q0
    have l2 : w4.heap.size < w6.heap.size := lt_of_cell p0
    have HT7 := hide (unhide HTO w6.drew (belDrew (unhide HB6)))
    clear hb6
    go_wp2_with fail
    go_region_with (first
      | (go_at_call 15; refine (unhide HT7).mono ?_; rintro e w7 ⟨g7, rfl, o1, hb7⟩; have s0 := bcl (bOfDrew hb7) l1 q0; have s1 := bcl (bOfDrew hb7) l1 q1; have s2 := bcl (bOfDrew hb7) l1 q2; have t0 := bcl (bOfDrew hb7) l2 p0; have t1 := bcl (bOfDrew hb7) l2 p1; have t2 := bcl (bOfDrew hb7) l2 p2)
      | (go_at_call 17; refine (eqResponse_calls st _ _ nh _ _ hs bd _ (unhide HSM).lh (Nat.le_trans (unhide HSM).bh (by decide)) ((unhide HA6).rh.below (bOfDrew hb7)) o1.at).mono ?_; rintro e w8 ⟨rfl, hb8⟩))
    all_goals (try go_wp2_with fail)
    all_goals (try go_ret)
    all_goals exact ⟨rfl, unhide HFIN _ (belOn (belOn (unhide HB6) (bOfDrew hb7)) hb8)⟩

set_option maxRecDepth 100000 in
theorem lifted (os : Os) (started : os.Started) (H : Type) (enc : TypeId × Value → H) :
    ReturnsInHanded {} Tryd.checked os 5 .any (fun w args => (Rows.fnExactWriteResponseSpec.pre enc Tryd.prog Tryd.f5 [] false w args ∧ laidMetH Tryd.prog Rows.fnExactWriteResponseRow.laid w) ∧ sizedMet enc Tryd.prog Tryd.f5 (OpenSpec.ofChange Rows.fnExactWriteResponseSpec) false w args)
      (Rows.fnExactWriteResponseSpec.post enc Tryd.prog Tryd.f5 false true false false) := by
  refine returnsInHanded_of_change_and (C := Tryd.checked) (X := fun w _ => laidMetH Tryd.prog Rows.fnExactWriteResponseRow.laid w) (fun _ _ _ hh h => h.of_heap hh) own started (by kernel_rfl) Tryd.func5
    (ChangeSpec.witness_shaped (enc := enc) (C := Tryd.checked) (os := os) (X := fun w _ => laidMetH Tryd.prog Rows.fnExactWriteResponseRow.laid w) false (World.laidAll Tryd.prog os Rows.fnExactWriteResponseRow.laid) #[.agg #[.int .i64 0, .slice none 0 0, .string ByteArray.empty]] 8 (World.laidAll_os _ _ _)
      (World.shaped_of_ZipB (by kernel_rfl) (by kernel_rfl)) (by kernel_rfl) (by kernel_rfl) (by kernel_rfl)
      (by rw [MakeChecks.laidMetH_plain _ _ _ (by kernel_rfl)]; exact laidMet_laidAll _ (by kernel_rfl) (by kernel_rfl))) ?_
  intro W base args ds gs before hval0 hW _ _ hL _
  have hval : ∀ (j : Nat) t v, Tryd.f5.params[j]? = some t → args[j]? = some v → Value.okWide Tryd.prog W .any base t v := hval0
  have hW' := hW
  obtain ⟨p, q, hA0, hV, rfl, hfz, hnd⟩ := hW
  have hA : DataW.TrodAll enc Tryd.prog W 0 (fun _ => true) true Tryd.f5.params.toList args.toList ds p := hA0
  rw [Tryd.params5] at hA hval
  obtain ⟨v0, vs0, d0, ds0, p0, q0, hargs, rfl, rfl, h0, r0⟩ := trodAll_cons hA
  obtain ⟨rfl, rfl, rfl⟩ := trodAll_nil r0
  obtain rfl : args = #[v0] := by cases args; simp_all
  obtain ⟨rfl, rfl⟩ := trodVars_none hV
  have k0 := h0
  have lt0 : ∀ x ∈ p0, x.block < W.heap.size := by obtain ⟨m, hm⟩ := k0; exact DataW.trod_lt m _ _ _ hm
  obtain ⟨c0x0, c0x1, c0x2, y0x0, y0x1, y0x2, mm0, rfl, e0, f0, hy0x0, hy0x1, hy0x2⟩ := open_agg3 Tryd.underlying35 (by kernel_rfl) (by kernel_rfl) (hval 0 35 v0 rfl rfl) h0
  obtain ⟨a0x0, g0x0, _, w0x0⟩ := DataW.trod_int Tryd.underlying2 hy0x0
  obtain ⟨a0x1, n0x1, l0x1, z0x1, g0x1, w0x1⟩ := openArg 2 hdrL goodH Tryd.underlying22 (by kernel_rfl) (by decide) rdHdr hy0x1
  obtain ⟨a0x2, g0x2, _, w0x2⟩ := DataW.trod_string Tryd.underlying9 hy0x2
  simp at g0x0 g0x2
  subst g0x0 g0x1 g0x2
  clear hA0 hval0
  refine (walk a0x0 a0x1 n0x1 l0x1 z0x1 a0x2 W w0x0 w0x1 w0x2 (k_of_laid hL)).mono fun e W' ⟨he, bel⟩ => ?_
  subst he
  exact ⟨_, rfl, _, _, _, [], _, [], hW', trodAll_mk1 (shut_bool Tryd.underlying4 _), (trodAll_cons_mk (Below.trod laidOut (by kernel_rfl) (of_decide_eq_true (by kernel_rfl)) k0 bel lt0) trodAll_mk0), rfl, bel.frame _, fun h => by cases h⟩

theorem named : Tryd.pinned.checked.prog.funcNamed Rows.fnExactWriteResponseRow.func = some 5 := by kernel_rfl
theorem closed : joinedFacts Tryd.pinned.checked.prog 5 Tryd.f5 Rows.fnExactWriteResponseSpec Rows.fnExactWriteResponseRow = true := by kernel_rfl
theorem over : Rows.fnExactWriteResponseRow.holds Tryd.pinned (OpenSpec.ofChange Rows.fnExactWriteResponseSpec) :=
  OpenClaim.holds_of_wide 5 Tryd.f5 rfl rfl rfl rfl rfl rfl rfl ⟨rfl, rfl, rfl, rfl, rfl⟩ rfl rfl rfl rfl rfl named Tryd.func5 closed
    (of_decide_eq_true (by kernel_rfl)) (by unfold Func.isWrapper; first | (rw [if_pos (by decide +kernel)]; kernel_rfl) | (rw [if_neg (by decide +kernel)]; exact ⟨rfl, rfl⟩))
    (fun os started H enc _ => lifted os started H enc)

end Go.Proofs.YtjjdeffmciknjaaDoor.fnExactWriteResponse
namespace Go.Proofs.YtjjdeffmciknjaaDoor
theorem fnExactWriteResponse_holds : Rows.FnExactWriteResponseCardSaid :=
  Claim7.holds_tied_plain_at .later [] [.data, .data, .data, .data, .pinned] true Rows.fnExactWriteResponseCard.stood.harness false
    fnExactWriteResponse.over (fun _ h => by cases h) (by kernel_rfl) (fun _ h => by cases h) fnExactWriteResponse_row_tie rfl ⟨rfl, rfl⟩ (by kernel_rfl) rfl
    (fun f fn hf hfn => by
      obtain rfl : f = 5 := Option.some.inj ((show Tryd.prog.funcNamed "loop.example/g00141/laws.FnExactWriteResponse" = some 5 by kernel_rfl).symm.trans hf) |>.symm
      obtain rfl : fn = Tryd.f5 := (Option.some.inj (Tryd.func5.symm.trans hfn)).symm
      exact ⟨by kernel_rfl, fun j t ht => by
        rw [Tryd.params5] at ht
        have hm : t ∈ [35] := by simpa using Array.mem_of_getElem? ht
        have hall : ([35].all fun u => !Tryd.prog.wantsStandIn u) = true := by kernel_rfl
        exact (show Tryd.prog.wantsStandIn t = false by simpa using List.all_eq_true.1 hall t hm)⟩)
    (by kernel_rfl)
#print axioms fnExactWriteResponse_holds
end Go.Proofs.YtjjdeffmciknjaaDoor
