/- For every command, CmdText of the program answers what CmdText of the specification answers; nothing that was there is changed. No condition. -/
import Derived.Test.YtnkjdojpegmlcaaDoorRows
import Derived.Test.YtnkjdojpegmlcaaDoorCmdR
import Derived.Test.YtnkjdojpegmlcaaDoorCmt
import Derived.Test.YtnkjdojpegmlcaaDoorAgg7
import Derived.Test.YtnkjdojpegmlcaaDoorTie
import Derived.Test.YtnkjdojpegmlcaaDoorCards
import Derived.LaidMore
import Derived.Lay
import Derived.SevenTiedAt
import Derived.Stop.Joined
import Derived.WalkKit
import Derived.ProofKit
import Derived.OpenShut
import Derived.ShutString
import Derived.ChangeOld
import Derived.Below
import Derived.Lib.SmallJoins
namespace Go.Proofs.YtnkjdojpegmlcaaDoor.fnExactCmdText
open Go.ChangeShapes Go.WideShapes Go.ChangeAt Go.RowKit Go.Joins
open Go.ChangeMaps (open_string shut_string)
open Plain
set_option linter.unusedVariables false

theorem own : ownKnob Tryd.prog.godebug = none := by kernel_rfl
theorem laidOut : laidOutB Tryd.prog = true := by kernel_rfl

set_option maxRecDepth 10000 in
set_option maxHeartbeats 2000000 in
theorem walk (ss sr op : Int) (rp tg dg tx : ByteArray) (w : World) (_ : (Lit.int .i64 ss).wf = true) (_ : (Lit.int .i64 sr).wf = true) (_ : (Lit.int .i64 op).wf = true) (h1 : rp.size ≤ maxLen) (h2 : tg.size ≤ maxLen) (h3 : dg.size ≤ maxLen) (h4 : tx.size ≤ maxLen) :
    Calls Tryd.prog 3 #[.agg #[.int .i64 ss, .int .i64 sr, .int .i64 op, .string rp, .string tg, .string dg, .string tx]] w fun e w' => e = .returned (.bool true) ∧ Below w.heap.size w w' := by
  obtain ⟨W0, hW0⟩ : ∃ W0, W0 = w.alloc (.cells #[.int .i64 ss, .int .i64 sr, .int .i64 op, .string rp, .string tg, .string dg, .string tx] 23) := ⟨_, rfl⟩
  have hb0 : Below w.heap.size w W0 := by rw [hW0]; exact bel1 _ _
  have hA : Sev w.heap.size ss sr op rp tg dg tx W0 := by rw [hW0]; exact Sev.new w ss sr op rp tg dg tx _
  have HFIN := hide (fun (W : World) (hW : Below W0.heap.size W0 W) => belOn hb0 hW)
  have HA := hide (fun (W : World) (hW : Below W0.heap.size W0 W) => hA.keep hW)
  have HW0 := hide hW0.symm
  clear hb0 hA hW0
  by_cases hbig : rp.size + tg.size + dg.size + tx.size ≤ 1048576
  · have HSZ := hide (szCmd_yes ss sr op rp tg dg tx W0 hbig)
    have HT1 := hide (fun W => spec_CmdText ss sr op rp tg dg tx W (by omega) (by omega) (by omega) (by omega))
    have HT2 := hide (fun W => impl_CmdText ss sr op rp tg dg tx W (by omega) (by omega) (by omega) (by omega))
    generalize cmdT ss sr op rp tg dg tx = T at HT1 HT2
    clear hbig h1 h2 h3 h4
    go_enter Tryd.func3, Tryd.ntmps3
    go_wp2_with fail
    rw [unhide HW0]
    refine (unhide HSZ).mono ?_
    rintro e w1 ⟨⟨r, rfl⟩, hb1⟩
    have HB1 := hide hb1
    obtain ⟨a0, a1, a2, a3, a4, a5, a6⟩ := unhide HA _ hb1
    clear hb1
    go_wp2_with fail
    refine (toCmd_calls ss sr op rp tg dg tx w1).mono ?_
    rintro e w2 ⟨rfl, hb2⟩
    have HB2 := hide (belOn (unhide HB1) hb2)
    clear hb2 a0 a1 a2 a3 a4 a5 a6
    go_wp2_with fail
    refine (unhide HT1 _).mono ?_
    rintro e w3 ⟨rfl, hb3⟩
    have HB3 := hide (belOn (unhide HB2) hb3)
    clear hb3
    obtain ⟨a0, a1, a2, a3, a4, a5, a6⟩ := unhide HA _ (unhide HB3)
    go_wp2_with fail
    refine (toCmd_calls ss sr op rp tg dg tx w3).mono ?_
    rintro e w4 ⟨rfl, hb4⟩
    have HB4 := hide (belOn (unhide HB3) hb4)
    clear hb4 a0 a1 a2 a3 a4 a5 a6
    go_wp2_with fail
    refine (unhide HT2 _).mono ?_
    rintro e w5 ⟨rfl, hb5⟩
    have HB5 := hide (unhide HFIN _ (belOn (unhide HB4) hb5))
    clear hb5
    go_wp2_with fail
    go_ret
    exact ⟨rfl, unhide HB5⟩
  · have HSZ := hide (szCmd_no ss sr op rp tg dg tx W0 hbig h1 h2 h3 h4)
    clear hbig h1 h2 h3 h4
    go_enter Tryd.func3, Tryd.ntmps3
    go_wp2_with fail
    rw [unhide HW0]
    refine (unhide HSZ).mono ?_
    rintro e w1 ⟨rfl, hb1⟩
    have HB1 := hide (unhide HFIN _ hb1)
    clear hb1
    go_wp2_with fail
    go_ret
    exact ⟨rfl, unhide HB1⟩

set_option maxRecDepth 100000 in
theorem lifted (os : Os) (started : os.Started) (H : Type) (enc : TypeId × Value → H) :
    ReturnsInHanded {} Tryd.checked os 3 .any (fun w args => (Rows.fnExactCmdTextSpec.pre enc Tryd.prog Tryd.f3 [] false w args ∧ laidMetH Tryd.prog Rows.fnExactCmdTextRow.laid w) ∧ sizedMet enc Tryd.prog Tryd.f3 (OpenSpec.ofChange Rows.fnExactCmdTextSpec) false w args)
      (Rows.fnExactCmdTextSpec.post enc Tryd.prog Tryd.f3 false true false false) := by
  refine returnsInHanded_of_change_and (C := Tryd.checked) (X := fun w _ => laidMetH Tryd.prog Rows.fnExactCmdTextRow.laid w) (fun _ _ _ hh h => h.of_heap hh) own started (by kernel_rfl) Tryd.func3
    (ChangeSpec.witness_shaped (enc := enc) (C := Tryd.checked) (os := os) (X := fun w _ => laidMetH Tryd.prog Rows.fnExactCmdTextRow.laid w) false (World.laidAll Tryd.prog os Rows.fnExactCmdTextRow.laid) #[.agg #[.int .i64 0, .int .i64 0, .int .i64 0, .string ByteArray.empty, .string ByteArray.empty, .string ByteArray.empty, .string ByteArray.empty]] 8 (World.laidAll_os _ _ _)
      (World.shaped_of_ZipB (by kernel_rfl) (by kernel_rfl)) (by kernel_rfl) (by kernel_rfl) (by kernel_rfl)
      (by rw [MakeChecks.laidMetH_plain _ _ _ (by kernel_rfl)]; exact laidMet_laidAll _ (by kernel_rfl) (by kernel_rfl))) ?_
  intro W base args ds gs before hval0 hW _ _ hL _
  have hval : ∀ (j : Nat) t v, Tryd.f3.params[j]? = some t → args[j]? = some v → Value.okWide Tryd.prog W .any base t v := hval0
  have hW' := hW
  obtain ⟨p, q, hA0, hV, rfl, hfz, hnd⟩ := hW
  have hA : DataW.TrodAll enc Tryd.prog W 0 (fun _ => true) true Tryd.f3.params.toList args.toList ds p := hA0
  rw [Tryd.params3] at hA hval
  obtain ⟨v0, vs0, d0, ds0, p0, q0, hargs, rfl, rfl, h0, r0⟩ := trodAll_cons hA
  obtain ⟨rfl, rfl, rfl⟩ := trodAll_nil r0
  obtain rfl : args = #[v0] := by cases args; simp_all
  obtain ⟨rfl, rfl⟩ := trodVars_none hV
  have k0 := h0
  have lt0 : ∀ x ∈ p0, x.block < W.heap.size := by obtain ⟨m, hm⟩ := k0; exact DataW.trod_lt m _ _ _ hm
  obtain ⟨c0x0, c0x1, c0x2, c0x3, c0x4, c0x5, c0x6, y0x0, y0x1, y0x2, y0x3, y0x4, y0x5, y0x6, mm0, rfl, e0, f0, hy0x0, hy0x1, hy0x2, hy0x3, hy0x4, hy0x5, hy0x6⟩ := open_agg7 Tryd.underlying23 (by kernel_rfl) (by kernel_rfl) (hval 0 23 v0 rfl rfl) h0
  obtain ⟨a0x0, g0x0, _, w0x0⟩ := DataW.trod_int Tryd.underlying2 hy0x0
  obtain ⟨a0x1, g0x1, _, w0x1⟩ := DataW.trod_int Tryd.underlying2 hy0x1
  obtain ⟨a0x2, g0x2, _, w0x2⟩ := DataW.trod_int Tryd.underlying2 hy0x2
  obtain ⟨a0x3, g0x3, _, w0x3⟩ := DataW.trod_string Tryd.underlying9 hy0x3
  obtain ⟨a0x4, g0x4, _, w0x4⟩ := DataW.trod_string Tryd.underlying9 hy0x4
  obtain ⟨a0x5, g0x5, _, w0x5⟩ := DataW.trod_string Tryd.underlying9 hy0x5
  obtain ⟨a0x6, g0x6, _, w0x6⟩ := DataW.trod_string Tryd.underlying9 hy0x6
  simp at g0x0 g0x1 g0x2 g0x3 g0x4 g0x5 g0x6
  subst g0x0 g0x1 g0x2 g0x3 g0x4 g0x5 g0x6
  clear hA0 hval0
  refine (walk a0x0 a0x1 a0x2 a0x3 a0x4 a0x5 a0x6 W w0x0 w0x1 w0x2 w0x3 w0x4 w0x5 w0x6).mono fun e W' ⟨he, bel⟩ => ?_
  subst he
  exact ⟨_, rfl, _, _, _, [], _, [], hW', trodAll_mk1 (shut_bool Tryd.underlying4 _), (trodAll_cons_mk (Below.trod laidOut (by kernel_rfl) (of_decide_eq_true (by kernel_rfl)) k0 bel lt0) trodAll_mk0), rfl, bel.frame _, fun h => by cases h⟩

theorem named : Tryd.pinned.checked.prog.funcNamed Rows.fnExactCmdTextRow.func = some 3 := by kernel_rfl
theorem closed : joinedFacts Tryd.pinned.checked.prog 3 Tryd.f3 Rows.fnExactCmdTextSpec Rows.fnExactCmdTextRow = true := by kernel_rfl
theorem over : Rows.fnExactCmdTextRow.holds Tryd.pinned (OpenSpec.ofChange Rows.fnExactCmdTextSpec) :=
  OpenClaim.holds_of_wide 3 Tryd.f3 rfl rfl rfl rfl rfl rfl rfl ⟨rfl, rfl, rfl, rfl, rfl⟩ rfl rfl rfl rfl rfl named Tryd.func3 closed
    (of_decide_eq_true (by kernel_rfl)) (by unfold Func.isWrapper; first | (rw [if_pos (by decide +kernel)]; kernel_rfl) | (rw [if_neg (by decide +kernel)]; exact ⟨rfl, rfl⟩))
    (fun os started H enc _ => lifted os started H enc)

end Go.Proofs.YtnkjdojpegmlcaaDoor.fnExactCmdText
namespace Go.Proofs.YtnkjdojpegmlcaaDoor
theorem fnExactCmdText_holds : Rows.FnExactCmdTextCardSaid :=
  Claim7.holds_tied_plain_at .later [] [.data, .pinned] true Rows.fnExactCmdTextCard.stood.harness false
    fnExactCmdText.over (fun _ h => by cases h) (by kernel_rfl) (fun _ h => by cases h) fnExactCmdText_row_tie rfl ⟨rfl, rfl⟩ (by kernel_rfl) rfl
    (fun f fn hf hfn => by
      obtain rfl : f = 3 := Option.some.inj ((show Tryd.prog.funcNamed "loop.example/g00141/laws.FnExactCmdText" = some 3 by kernel_rfl).symm.trans hf) |>.symm
      obtain rfl : fn = Tryd.f3 := (Option.some.inj (Tryd.func3.symm.trans hfn)).symm
      exact ⟨by kernel_rfl, fun j t ht => by
        rw [Tryd.params3] at ht
        have hm : t ∈ [23] := by simpa using Array.mem_of_getElem? ht
        have hall : ([23].all fun u => !Tryd.prog.wantsStandIn u) = true := by kernel_rfl
        exact (show Tryd.prog.wantsStandIn t = false by simpa using List.all_eq_true.1 hall t hm)⟩)
    (by kernel_rfl)
#print axioms fnExactCmdText_holds
end Go.Proofs.YtnkjdojpegmlcaaDoor
