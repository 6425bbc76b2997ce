/- For every text, Sum of the program answers the eight words that Sum of the specification answers, in memory of its own, behind another call too; nothing that was there is changed. The table of the rounds' words is as the program's text lays it. -/
import Derived.Test.YtlkkhhelonbcbaaDoorRows
import Derived.Test.YtlkkhhelonbcbaaDoorShaY
import Derived.Test.YtlkkhhelonbcbaaDoorRowsw
import Derived.Test.YtlkkhhelonbcbaaDoorTie
import Derived.Test.YtlkkhhelonbcbaaDoorCards
import Derived.Test.YtlkkhhelonbcbaaDoorLaid
import Derived.OpenVars
import Derived.SevenTiedAt
import Derived.WalkKit
import Derived.ProofKit
import Derived.OpenShut
import Derived.ShutString
import Derived.ChangeOld
import Derived.Below
namespace Go.Proofs.YtlkkhhelonbcbaaDoor.fnExactSum
open Go.ChangeShapes Go.WideShapes Go.ChangeAt Go.RowKit
open Go.ChangeMaps (open_string shut_string)
open Plain
set_option linter.unusedVariables false

theorem own : ownKnob Tryd.prog.godebug = none := by kernel_rfl
theorem laidOut : laidOutB Tryd.prog = true := by kernel_rfl

set_option maxHeartbeats 1000000 in
theorem walk (a0 : ByteArray) (w : World) (w0 : a0.size ≤ maxLen) (hK : KAt w) :
    Calls Tryd.prog 4 #[.string a0] w fun e w' => e = .returned (.bool true) ∧ Below w.heap.size w w' := by
  have h0 : 0 < w.heap.size := lt_of_cell (hK 0 (by omega))
  unfold maxLen at w0
  by_cases hbig : 1048576 < a0.size
  · go_enter Tryd.func4, Tryd.ntmps4
    go_wp2
    go_ret
    exact ⟨rfl, Below.refl _ _⟩
  · have HK := hide hK
    clear hK
    go_enter Tryd.func4, Tryd.ntmps4
    go_wp2_with fail
    refine (specSum_calls a0 _ (by omega)).mono ?_
    rintro e w1 ⟨g0, c0, rfl, hg0, hl0, hW0, hb1⟩
    have HK1 := hide ((unhide HK).below hb1 h0)
    have HB1 := hide hb1
    have hz1 := hb1.size
    have HW0 := hide hW0
    clear hb1 hW0
    go_wp2_with fail
    refine (Sum_calls a0 _ (unhide HK1) (by omega)).mono ?_
    rintro e w2 ⟨rfl, hW1, hb2, hz2⟩
    have HW0' := hide ((unhide HW0).below hb2 hl0)
    have HB2 := hide ((unhide HB1).trans (hb2.mono hz1))
    have HK2 := hide ((unhide HK1).below hb2 (by omega))
    have HW1 := hide hW1
    have hv8 : (sumL a0).length = 8 := hN_length _ _
    clear hb2 hW1 HW0 HB1 HK1
    go_wp2_with fail
    refine (eq8_calls w1.heap.size g0 8 c0 (sumL a0) w2 hv8 (unhide HW1) (unhide HW0')).mono ?_
    rintro e w3 ⟨rfl, hb3⟩
    have hs3 := hb3.size
    have HW1b := hide ((unhide HW1).below hb3 hz2)
    have HW0b := hide ((unhide HW0').below hb3 (by omega))
    have HB3 := hide ((unhide HB2).trans (hb3.mono (by omega)))
    have HK3 := hide ((unhide HK2).below hb3 (by omega))
    clear hb3 HW1 HW0' HB2 HK2
    go_wp2_with fail
    refine (mark8_calls w1.heap.size 8 (sumL a0) w3 w1.heap.size hv8 (unhide HW1b) (Nat.le_refl _)).mono ?_
    rintro e w4 ⟨rfl, hM, hb4, hoth, hsz4⟩
    have HB4 := hide ((unhide HB3).trans (hb4.mono hz1))
    have HK4 := hide ((unhide HK3).below hb4 (by omega))
    have HW0c := hide ((unhide HW0b).below hb4 hl0)
    have HM := hide hM
    have hz4 : w2.heap.size ≤ w4.heap.size := by omega
    clear hb4 hoth hM HW1b HW0b HB3 HK3 hsz4
    go_wp2_with fail
    refine (held8_calls w1.heap.size 8 w4 (unhide HM)).mono ?_
    rintro e w5 ⟨rfl, rfl⟩
    go_wp2_with fail
    refine (Sum_calls a0 _ (unhide HK4) (by omega)).mono ?_
    rintro e w6 ⟨rfl, hW6, hb6, hz6⟩
    have HM6 := hide ((unhide HM).below hb6 (by omega))
    have HW0d := hide ((unhide HW0c).below hb6 (by omega))
    have HB6 := hide ((unhide HB4).trans (hb6.mono (by omega)))
    have HW6 := hide hW6
    have hs6 := hb6.size
    clear hb6 hW6 HM HW0c HB4 HK4
    go_wp2_with fail
    refine (eq8_calls w4.heap.size g0 8 c0 (sumL a0) w6 hv8 (unhide HW6) (unhide HW0d)).mono ?_
    rintro e w7 ⟨rfl, hb7⟩
    have HM7 := hide ((unhide HM6).below hb7 (by omega))
    have HB7 := hide ((unhide HB6).trans (hb7.mono (by omega)))
    clear hb7 HW6 HW0d HB6 HM6
    go_wp2_with fail
    refine (held8_calls w1.heap.size 8 w7 (unhide HM7)).mono ?_
    rintro e w8 ⟨rfl, rfl⟩
    go_wp2_with fail
    go_ret
    exact ⟨rfl, unhide HB7⟩

set_option maxRecDepth 100000 in
theorem lifted (os : Os) (started : os.Started) (H : Type) (enc : TypeId × Value → H) :
    ReturnsInHanded {} Tryd.checked os 4 .any (fun w args => (Rows.fnExactSumSpec.pre enc Tryd.prog Tryd.f4 [] false w args ∧ laidMetH Tryd.prog Rows.fnExactSumRow.laid w) ∧ sizedMet enc Tryd.prog Tryd.f4 (OpenSpec.ofChange Rows.fnExactSumSpec) false w args)
      (Rows.fnExactSumSpec.post enc Tryd.prog Tryd.f4 false true false false) := by
  refine returnsInHanded_of_change_and (C := Tryd.checked) (X := fun w _ => laidMetH Tryd.prog Rows.fnExactSumRow.laid w) (fun _ _ _ hh h => h.of_heap hh) own started (by kernel_rfl) Tryd.func4
    (ChangeSpec.witness_shaped (enc := enc) (C := Tryd.checked) (os := os) (X := fun w _ => laidMetH Tryd.prog Rows.fnExactSumRow.laid w) false (World.doorLaid Tryd.prog 400 os) #[.string ByteArray.empty] 8 rfl (World.shaped_of_RefB (by kernel_rfl) (by kernel_rfl)) (by kernel_rfl) (by kernel_rfl) (by kernel_rfl) (door_met os _)) ?_
  intro W base args ds gs before hval0 hW _ _ hL _
  have hval : ∀ (j : Nat) t v, Tryd.f4.params[j]? = some t → args[j]? = some v → Value.okWide Tryd.prog W .any base t v := hval0
  have hW' := hW
  obtain ⟨p, q, hA0, hV, rfl, hfz, hnd⟩ := hW
  have hA : DataW.TrodAll enc Tryd.prog W 0 (fun _ => true) true Tryd.f4.params.toList args.toList ds p := hA0
  rw [Tryd.params4] at hA hval
  obtain ⟨v0, vs0, d0, ds0, p0, q0, hargs, rfl, rfl, h0, r0⟩ := trodAll_cons hA
  obtain ⟨rfl, rfl, rfl⟩ := trodAll_nil r0
  obtain rfl : args = #[v0] := by cases args; simp_all
  have hV1 : DataW.TrodVars enc Tryd.prog W (fun _ => true) [roundName] gs q := hV
  obtain ⟨gg, gt, gcs, gf, gd, gp, rfl, -, -, -, -, -⟩ := trodVars_one hV1
  have k0 := h0
  have lt0 : ∀ x ∈ p0, x.block < W.heap.size := by obtain ⟨m, hm⟩ := k0; exact DataW.trod_lt m _ _ _ hm
  obtain ⟨a0, rfl, e0, f0, w0⟩ := open_string Tryd.underlying9 (hval 0 9 v0 rfl rfl) h0
  clear hA0 hval0
  refine (walk a0 W w0 (k_of_laid hL)).mono fun e W' ⟨he, bel⟩ => ?_
  subst he
  exact ⟨_, rfl, _, _, _, [], _, _, hW', trodAll_mk1 (shut_bool Tryd.underlying4 _), (trodAll_cons_mk (Below.trod laidOut (by kernel_rfl) (of_decide_eq_true (by kernel_rfl)) k0 bel lt0) trodAll_mk0), Below.trodVars laidOut bel (by kernel_rfl) hV1, bel.frame _, fun h => by cases h⟩

theorem over : Rows.fnExactSumRow.holds Tryd.pinned (OpenSpec.ofChange Rows.fnExactSumSpec) :=
  OpenClaim.holds_of_wide 4 Tryd.f4 rfl rfl rfl rfl rfl rfl rfl ⟨rfl, rfl, rfl, rfl, rfl⟩ rfl rfl rfl rfl rfl (by kernel_rfl) Tryd.func4 (by kernel_rfl)
    (of_decide_eq_true (by kernel_rfl)) (by unfold Func.isWrapper; first | (rw [if_pos (by decide +kernel)]; kernel_rfl) | (rw [if_neg (by decide +kernel)]; exact ⟨rfl, rfl⟩))
    (fun os started H enc _ => lifted os started H enc)

end Go.Proofs.YtlkkhhelonbcbaaDoor.fnExactSum
namespace Go.Proofs.YtlkkhhelonbcbaaDoor
theorem fnExactSum_holds : Rows.FnExactSumCardSaid :=
  Claim7.holds_tied_plain_at .later [] [.data] true Rows.fnExactSumCard.stood.harness false
    fnExactSum.over (fun _ h => by cases h) (by kernel_rfl) (fun _ h => by cases h) fnExactSum_row_tie rfl ⟨rfl, rfl⟩ (by kernel_rfl) rfl
    (fun f fn hf hfn => by
      obtain rfl : f = 4 := Option.some.inj ((show Tryd.prog.funcNamed "loop.example/g00141/laws.FnExactSum" = some 4 by kernel_rfl).symm.trans hf) |>.symm
      obtain rfl : fn = Tryd.f4 := (Option.some.inj (Tryd.func4.symm.trans hfn)).symm
      exact ⟨by kernel_rfl, fun j t ht => by
        rw [Tryd.params4] at ht
        have hm : t ∈ [9] := by simpa using Array.mem_of_getElem? ht
        have hall : ([9].all fun u => !Tryd.prog.wantsStandIn u) = true := by kernel_rfl
        exact (show Tryd.prog.wantsStandIn t = false by simpa using List.all_eq_true.1 hall t hm)⟩)
    (by kernel_rfl)
#print axioms fnExactSum_holds
end Go.Proofs.YtlkkhhelonbcbaaDoor
