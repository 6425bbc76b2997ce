/- For every text, ReadFrames of the program answers the frames, the place and the code that ReadFrames of the specification answers, the frames in memory of their own, behind another call too; nothing that was there is changed. No condition. -/
import Derived.Test.YtlkkhhelonbcbaaRows
import Derived.Test.YtlkkhhelonbcbaaRdT
import Derived.Test.YtlkkhhelonbcbaaRdQ
import Derived.WalkKit
import Derived.ProofKit
import Derived.OpenShut
import Derived.ShutString
import Derived.ChangeOld
import Derived.Below
namespace Go.Proofs.Ytlkkhhelonbcbaa.fnExactReadFrames
open Go.ChangeShapes Go.WideShapes Go.ChangeAt Go.RowKit
open Go.ChangeMaps (open_string shut_string)
open Plain
set_option linter.unusedVariables false

theorem own : ownKnob Try.prog.godebug = none := by kernel_rfl
theorem laidOut : laidOutB Try.prog = true := by kernel_rfl

theorem run_len (s : ByteArray) : ∀ (f p done : Nat), done ≤ 2000 → (run s f p done).1.length + done ≤ 2000 := by
  intro f
  induction f with
  | zero => intro p done h; simpa [run] using h
  | succ f ih =>
    intro p done h
    rw [run]
    split
    · simpa using h
    · split
      · simpa using h
      · split
        · simpa using h
        · have := ih (p + frN (s.extract p s.size)) (done + 1) (by omega)
          simp only [List.length_cons]
          omega
theorem readF_len (s : ByteArray) : (readF s).1.length ≤ 2000 := by
  have := run_len s 2001 0 0 (by omega)
  unfold readF
  omega

set_option maxHeartbeats 1000000 in
theorem walk (a0 : ByteArray) (w : World) (w0 : a0.size ≤ maxLen) :
    Calls Try.prog 12 #[.string a0] w fun e w' => e = .returned (.bool true) ∧ Below w.heap.size w w' := by
  unfold maxLen at w0
  by_cases hbig : 1048576 < a0.size
  · go_enter Try.func12, Try.ntmps12
    go_wp2
    go_ret
    exact ⟨rfl, Below.refl _ _⟩
  · have hfl := readF_len a0
    have hIR := implRead_calls a0
    have hSR := specRead_calls a0
    generalize readF a0 = x at hfl hIR hSR
    obtain ⟨fs, pos, cd⟩ := x
    simp only at hfl hIR hSR
    obtain ⟨n, hnn⟩ : ∃ n, fs.length = n := ⟨_, rfl⟩
    rw [hnn] at hfl
    have HNN := hide hnn
    have HIR := hide hIR
    have HSR := hide hSR
    clear hnn hIR hSR
    go_enter Try.func12, Try.ntmps12
    go_wp2_with fail
    refine (unhide HSR _ (by omega)).mono ?_
    rintro e w1 ⟨v0, rfl, hO0, hb1⟩
    obtain ⟨fa, fc, rfl⟩ := ownF_form hO0
    have HF0 := hide (hO0.at rfl)
    rw [unhide HNN]
    have HB1 := hide hb1
    have hz1 := hb1.size
    clear hb1 hO0
    go_wp2_with fail
    refine (unhide HIR _ (by omega)).mono ?_
    rintro e w2 ⟨v1, rfl, hO1, hb2⟩
    obtain ⟨ga, gc, rfl⟩ := ownF_form hO1
    have HF1 := hide (hO1.at rfl)
    have hgB : ∀ g, ga = some ⟨g, 0, none⟩ → 0 < n → w1.heap.size ≤ g := by
      intro g e hpos
      rw [← unhide HNN] at hpos
      obtain ⟨g', c', e', hb, _⟩ := World.ownsRow.form hO1 hpos
      cases e'
      cases e
      exact hb
    have HGB := hide hgB
    have HC2 := hide hb2
    have hz12 := hb2.size
    clear hb2 hO1 hgB
    rw [unhide HNN]
    go_wp2_with fail
    refine (eqFrames_calls ga fa gc fc n fs w2 (unhide HNN) hfl (unhide HF1) ((unhide HF0).below (unhide HC2))).mono ?_
    rintro e w3 ⟨rfl, hb3⟩
    have HC3 := hide ((unhide HC2).trans (hb3.mono hz12))
    have HF3 := hide ((unhide HF1).below hb3)
    have hz3 := (unhide HC3).size
    clear hb3 HF1 HC2
    go_wp2_with fail
    refine (markFrames_calls ga gc n w1.heap.size fs w3 (unhide HNN) hfl (unhide HF3) (unhide HGB) hz3).mono ?_
    rintro e w4 ⟨rfl, hM4, hb4⟩
    have HC4 := hide ((unhide HC3).trans hb4)
    have HM4 := hide hM4
    have hz4 := (unhide HC4).size
    clear hM4 hb4 HF3 HC3
    go_wp2_with fail
    refine (heldFrames_calls ga gc n w4 hfl (unhide HM4)).mono ?_
    rintro e w5 ⟨rfl, hb5⟩
    have HC5 := hide ((unhide HC4).trans (hb5.mono hz4))
    have HM5 := hide ((unhide HM4).below hb5)
    have hz5 := (unhide HC5).size
    clear hb5 HM4 HC4
    go_wp2_with fail
    refine (unhide HIR _ (by omega)).mono ?_
    rintro e w6 ⟨v2, rfl, hO6, hb6⟩
    obtain ⟨ha, hc, rfl⟩ := ownF_form hO6
    rw [unhide HNN]
    have HC6 := hide ((unhide HC5).trans (hb6.mono hz5))
    have HM6 := hide ((unhide HM5).below hb6)
    have HF6 := hide (hO6.at rfl)
    have hz6 := (unhide HC6).size
    clear hb6 hO6 HM5 HC5
    go_wp2_with fail
    refine (eqFrames_calls ha fa hc fc n fs w6 (unhide HNN) hfl (unhide HF6) ((unhide HF0).below (unhide HC6))).mono ?_
    rintro e w7 ⟨rfl, hb7⟩
    have HC7 := hide ((unhide HC6).trans (hb7.mono hz6))
    have HM7 := hide ((unhide HM6).below hb7)
    have hz7 := (unhide HC7).size
    clear hb7 HM6 HC6 HF6
    go_wp2_with fail
    refine (heldFrames_calls ga gc n w7 hfl (unhide HM7)).mono ?_
    rintro e w8 ⟨rfl, hb8⟩
    have hb := (unhide HB1).trans (((unhide HC7).trans (hb8.mono hz7)).mono hz1)
    clear hb8
    go_wp2_with fail
    go_ret
    exact ⟨rfl, hb⟩

set_option maxRecDepth 100000 in
theorem lifted (os : Os) (started : os.Started) (H : Type) (enc : TypeId × Value → H) :
    ReturnsInHanded {} Try.checked os 12 .any (Rows.fnExactReadFramesSpec.pre6 enc Try.prog Try.f12 Rows.fnExactReadFramesRow.domain false) (Rows.fnExactReadFramesSpec.post enc Try.prog Try.f12 false true false false) := by
  refine returnsInHanded_of_change (C := Try.checked) own started (by kernel_rfl) Try.func12
    (ChangeSpec.witness6 (enc := enc) (C := Try.checked) false ⟨#[], #[.string ByteArray.empty], []⟩ 8 (by kernel_rfl) (by kernel_rfl) (by kernel_rfl) (by kernel_rfl)) ?_
  intro W base args ds gs before hval0 hW hcnd _
  have hval : ∀ (j : Nat) t v, Try.f12.params[j]? = some t → args[j]? = some v → Value.okWide Try.prog W .any base t v := hval0
  have hW' := hW
  obtain ⟨p, q, hA0, hV, rfl, hfz, hnd⟩ := hW
  have hA : DataW.TrodAll enc Try.prog W 0 (fun _ => true) true Try.f12.params.toList args.toList ds p := hA0
  rw [Try.params12] at hA hval
  obtain ⟨v0, vs0, d0, ds0, p0, q0, hargs, rfl, rfl, h0, r0⟩ := trodAll_cons hA
  obtain ⟨rfl, rfl, rfl⟩ := trodAll_nil r0
  obtain rfl : args = #[v0] := by cases args; simp_all
  obtain ⟨rfl, rfl⟩ := trodVars_none hV
  have k0 := h0
  have lt0 : ∀ x ∈ p0, x.block < W.heap.size := by obtain ⟨m, hm⟩ := k0; exact DataW.trod_lt m _ _ _ hm
  obtain ⟨a0, rfl, e0, f0, w0⟩ := open_string Try.underlying9 (hval 0 9 v0 rfl rfl) h0
  clear hA0 hval0
  refine (walk a0 W w0).mono fun e W' ⟨he, bel⟩ => ?_
  subst he
  exact ⟨_, rfl, _, _, _, [], _, [], hW', trodAll_mk1 (shut_bool Try.underlying4 _), (trodAll_cons_mk (Below.trod laidOut (by kernel_rfl) (of_decide_eq_true (by kernel_rfl)) k0 bel lt0) trodAll_mk0), rfl, bel.frame _, fun h => by cases h⟩

theorem over : Rows.fnExactReadFramesRow.holds Try.pinned (OpenSpec.ofChange Rows.fnExactReadFramesSpec) :=
  OpenClaim.holds_of_wide 12 Try.f12 rfl rfl rfl rfl rfl rfl rfl ⟨rfl, rfl, rfl, rfl, rfl⟩ rfl rfl rfl rfl rfl (by kernel_rfl) Try.func12 (by kernel_rfl)
    (of_decide_eq_true (by kernel_rfl)) (by unfold Func.isWrapper; first | (rw [if_pos (by decide +kernel)]; kernel_rfl) | (rw [if_neg (by decide +kernel)]; exact ⟨rfl, rfl⟩))
    (fun os started H enc _ => lifted os started H enc)

end Go.Proofs.Ytlkkhhelonbcbaa.fnExactReadFrames
namespace Go.Proofs.Ytlkkhhelonbcbaa
theorem fnExactReadFrames_holds : Rows.FnExactReadFramesSaid := fnExactReadFrames.over
#print axioms fnExactReadFrames_holds
end Go.Proofs.Ytlkkhhelonbcbaa
