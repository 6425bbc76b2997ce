/- For every text, ReadCmd of the program answers what ReadCmd of the specification answers, every field; nothing that was there is changed. No condition. -/
import Derived.Test.YtnkjdojpegmlcaaDoorRows
import Derived.Test.YtnkjdojpegmlcaaDoorCmdR
import Derived.Test.YtnkjdojpegmlcaaDoorRcS
import Derived.Test.YtnkjdojpegmlcaaDoorTie
import Derived.Test.YtnkjdojpegmlcaaDoorCards
import Derived.LaidMore
import Derived.Lay
import Derived.SevenTiedAt
import Derived.Stop.Joined
import Derived.WalkKit
import Derived.ProofKit
import Derived.OpenShut
import Derived.ShutString
import Derived.ChangeOld
import Derived.Below
namespace Go.Proofs.YtnkjdojpegmlcaaDoor.fnExactReadCmd
open Go.ChangeShapes Go.WideShapes Go.ChangeAt Go.RowKit
open Go.ChangeMaps (open_string shut_string)
open Plain
set_option linter.unusedVariables false

theorem own : ownKnob Tryd.prog.godebug = none := by kernel_rfl
theorem laidOut : laidOutB Tryd.prog = true := by kernel_rfl

theorem cmdV_open (s : ByteArray) : ∃ (a b c : Int) (r t d x : ByteArray) (g : Bool), cmdV s = .tuple #[.agg #[.int .i64 a, .int .i64 b, .int .i64 c, .string r, .string t, .string d, .string x], .bool g] := by
  have hz : cmdW s none = .tuple #[.agg #[.int .i64 0, .int .i64 0, .int .i64 0, .string ⟨#[]⟩, .string ⟨#[]⟩, .string ⟨#[]⟩, .string ⟨#[]⟩], .bool false] := rfl
  unfold cmdV
  cases rd7 s with
  | none => exact ⟨_, _, _, _, _, _, _, _, hz⟩
  | some y =>
    obtain ⟨⟨⟨⟨⟨⟨⟨⟨⟨⟩, a⟩, b⟩, c⟩, r⟩, t⟩, d⟩, x⟩, p⟩ := y
    unfold cmdW
    by_cases h : p = s.size ∧ fmB a b c r t d x = true
    · exact ⟨a, b, c, r, t, d, x, true, if_pos h⟩
    · exact ⟨_, _, _, _, _, _, _, _, (if_neg h).trans hz⟩

set_option maxRecDepth 10000 in
set_option maxHeartbeats 2000000 in
theorem walk (s : ByteArray) (w : World) (hs : s.size ≤ maxLen) :
    Calls Tryd.prog 4 #[.string s] w fun e w' => e = .returned (.bool true) ∧ Below w.heap.size w w' := by
  by_cases hbig : 1048576 < s.size
  · unfold maxLen at hs
    go_enter Tryd.func4, Tryd.ntmps4
    go_wp2_with fail
    go_ret
    exact ⟨rfl, Below.refl _ _⟩
  · have hs2 : s.size ≤ 1048576 := by omega
    have HS := hide (fun W => spec_ReadCmd s W (by omega))
    have HI := hide (fun W => impl_ReadCmd s W (by omega))
    obtain ⟨a, b, c, r, t, d, x, g, hv⟩ := cmdV_open s
    rw [hv] at HS HI
    clear hv hs hbig
    go_enter Tryd.func4, Tryd.ntmps4
    go_wp2_with fail
    refine (unhide HS _).mono ?_
    rintro e w1 ⟨rfl, hb1⟩
    have HB1 := hide hb1
    clear hb1
    obtain ⟨W2, hW2⟩ : ∃ W2, W2 = w1.alloc (.cells #[.int .i64 a, .int .i64 b, .int .i64 c, .string r, .string t, .string d, .string x] 26) := ⟨_, rfl⟩
    have HB2 := hide (belOn (unhide HB1) (show Below w1.heap.size w1 W2 by rw [hW2]; exact bel1 _ _))
    have HA2 := hide (show Sev w1.heap.size a b c r t d x W2 by rw [hW2]; exact Sev.new w1 a b c r t d x _)
    have HW2 := hide hW2.symm
    clear hW2
    go_wp2_with fail
    rw [unhide HW2]
    refine (unhide HI _).mono ?_
    rintro e w3 ⟨rfl, hb3⟩
    obtain ⟨a0, a1, a2, a3, a4, a5, a6⟩ := (unhide HA2).keep hb3
    have HB3 := hide (belOn (unhide HB2) hb3)
    have l3 : w1.heap.size < w3.heap.size := lt_of_cell a0
    clear hb3
    go_wp2_with fail
    refine (eqCmd_calls a b c r t d x _).mono ?_
    rintro e w4 ⟨rfl, hb4⟩
    have HB4 := hide (belOn (belOn (unhide HB3) (bel1 _ _)) hb4)
    clear hb4
    go_wp2_with fail
    go_ret
    exact ⟨rfl, unhide HB4⟩

set_option maxRecDepth 100000 in
theorem lifted (os : Os) (started : os.Started) (H : Type) (enc : TypeId × Value → H) :
    ReturnsInHanded {} Tryd.checked os 4 .any (fun w args => (Rows.fnExactReadCmdSpec.pre enc Tryd.prog Tryd.f4 [] false w args ∧ laidMetH Tryd.prog Rows.fnExactReadCmdRow.laid w) ∧ sizedMet enc Tryd.prog Tryd.f4 (OpenSpec.ofChange Rows.fnExactReadCmdSpec) false w args)
      (Rows.fnExactReadCmdSpec.post enc Tryd.prog Tryd.f4 false true false false) := by
  refine returnsInHanded_of_change_and (C := Tryd.checked) (X := fun w _ => laidMetH Tryd.prog Rows.fnExactReadCmdRow.laid w) (fun _ _ _ hh h => h.of_heap hh) own started (by kernel_rfl) Tryd.func4
    (ChangeSpec.witness_shaped (enc := enc) (C := Tryd.checked) (os := os) (X := fun w _ => laidMetH Tryd.prog Rows.fnExactReadCmdRow.laid w) false (World.laidAll Tryd.prog os Rows.fnExactReadCmdRow.laid) #[.string ByteArray.empty] 8 (World.laidAll_os _ _ _)
      (World.shaped_of_ZipB (by kernel_rfl) (by kernel_rfl)) (by kernel_rfl) (by kernel_rfl) (by kernel_rfl)
      (by rw [MakeChecks.laidMetH_plain _ _ _ (by kernel_rfl)]; exact laidMet_laidAll _ (by kernel_rfl) (by kernel_rfl))) ?_
  intro W base args ds gs before hval0 hW _ _ hL _
  have hval : ∀ (j : Nat) t v, Tryd.f4.params[j]? = some t → args[j]? = some v → Value.okWide Tryd.prog W .any base t v := hval0
  have hW' := hW
  obtain ⟨p, q, hA0, hV, rfl, hfz, hnd⟩ := hW
  have hA : DataW.TrodAll enc Tryd.prog W 0 (fun _ => true) true Tryd.f4.params.toList args.toList ds p := hA0
  rw [Tryd.params4] at hA hval
  obtain ⟨v0, vs0, d0, ds0, p0, q0, hargs, rfl, rfl, h0, r0⟩ := trodAll_cons hA
  obtain ⟨rfl, rfl, rfl⟩ := trodAll_nil r0
  obtain rfl : args = #[v0] := by cases args; simp_all
  obtain ⟨rfl, rfl⟩ := trodVars_none hV
  have k0 := h0
  have lt0 : ∀ x ∈ p0, x.block < W.heap.size := by obtain ⟨m, hm⟩ := k0; exact DataW.trod_lt m _ _ _ hm
  obtain ⟨a0, rfl, e0, f0, w0⟩ := open_string Tryd.underlying9 (hval 0 9 v0 rfl rfl) h0
  clear hA0 hval0
  refine (walk a0 W w0).mono fun e W' ⟨he, bel⟩ => ?_
  subst he
  exact ⟨_, rfl, _, _, _, [], _, [], hW', trodAll_mk1 (shut_bool Tryd.underlying4 _), (trodAll_cons_mk (Below.trod laidOut (by kernel_rfl) (of_decide_eq_true (by kernel_rfl)) k0 bel lt0) trodAll_mk0), rfl, bel.frame _, fun h => by cases h⟩

theorem named : Tryd.pinned.checked.prog.funcNamed Rows.fnExactReadCmdRow.func = some 4 := by kernel_rfl
theorem closed : joinedFacts Tryd.pinned.checked.prog 4 Tryd.f4 Rows.fnExactReadCmdSpec Rows.fnExactReadCmdRow = true := by kernel_rfl
theorem over : Rows.fnExactReadCmdRow.holds Tryd.pinned (OpenSpec.ofChange Rows.fnExactReadCmdSpec) :=
  OpenClaim.holds_of_wide 4 Tryd.f4 rfl rfl rfl rfl rfl rfl rfl ⟨rfl, rfl, rfl, rfl, rfl⟩ rfl rfl rfl rfl rfl named Tryd.func4 closed
    (of_decide_eq_true (by kernel_rfl)) (by unfold Func.isWrapper; first | (rw [if_pos (by decide +kernel)]; kernel_rfl) | (rw [if_neg (by decide +kernel)]; exact ⟨rfl, rfl⟩))
    (fun os started H enc _ => lifted os started H enc)

end Go.Proofs.YtnkjdojpegmlcaaDoor.fnExactReadCmd
namespace Go.Proofs.YtnkjdojpegmlcaaDoor
theorem fnExactReadCmd_holds : Rows.FnExactReadCmdCardSaid :=
  Claim7.holds_tied_plain_at .later [] [.data, .pinned] true Rows.fnExactReadCmdCard.stood.harness false
    fnExactReadCmd.over (fun _ h => by cases h) (by kernel_rfl) (fun _ h => by cases h) fnExactReadCmd_row_tie rfl ⟨rfl, rfl⟩ (by kernel_rfl) rfl
    (fun f fn hf hfn => by
      obtain rfl : f = 4 := Option.some.inj ((show Tryd.prog.funcNamed "loop.example/g00141/laws.FnExactReadCmd" = some 4 by kernel_rfl).symm.trans hf) |>.symm
      obtain rfl : fn = Tryd.f4 := (Option.some.inj (Tryd.func4.symm.trans hfn)).symm
      exact ⟨by kernel_rfl, fun j t ht => by
        rw [Tryd.params4] at ht
        have hm : t ∈ [9] := by simpa using Array.mem_of_getElem? ht
        have hall : ([9].all fun u => !Tryd.prog.wantsStandIn u) = true := by kernel_rfl
        exact (show Tryd.prog.wantsStandIn t = false by simpa using List.all_eq_true.1 hall t hm)⟩)
    (by kernel_rfl)
#print axioms fnExactReadCmd_holds
end Go.Proofs.YtnkjdojpegmlcaaDoor
