/- For every text, ReadManifest of the program answers the manifest and the code that ReadManifest of the specification answers, the layers in memory of their own, behind another call too; nothing that was there is changed. No condition. -/
import Derived.Test.YtkeindhefiaghaaRows
import Derived.Test.YtkeindhefiaghaaManQ
import Derived.WalkKit
import Derived.ProofKit
import Derived.OpenShut
import Derived.ShutString
import Derived.ChangeOld
import Derived.Below
namespace Go.Proofs.Ytkeindhefiaghaa.fnExactReadManifest
open Go.ChangeShapes Go.WideShapes Go.ChangeAt Go.RowKit
open Go.ChangeMaps (open_string shut_string)
open Plain
set_option linter.unusedVariables false

theorem own : ownKnob Try.prog.godebug = none := by kernel_rfl
theorem laidOut : laidOutB Try.prog = true := by kernel_rfl

theorem rmV_len (ps : List ByteArray) : (rmV ps).2.1.length ≤ 40 := by
  cases ps with
  | nil => simp [rmV]
  | cons p qs =>
    rw [rmV]
    split
    · split
      · next h => exact h.2
      · simp
    · simp
theorem own_low {w : World} {B n c : Nat} {a : Option Addr} {ls : List ByteArray} (h : OwnR strE w B (.slice a n c) ls) (hn : ls.length = n) : ∀ g o, a = some ⟨g, o, none⟩ → B ≤ g ∧ g < w.heap.size := by
  intro g o e
  subst e
  exact World.ownsRow.lt h g rfl

set_option maxRecDepth 10000 in
set_option maxHeartbeats 4000000 in
theorem walk (a0 : ByteArray) (w : World) (w0 : a0.size ≤ maxLen) :
    Calls Try.prog 8 #[.string a0] w fun e w' => e = .returned (.bool true) ∧ Below w.heap.size w w' := by
  unfold maxLen at w0
  by_cases hbig : 1048576 < a0.size
  · go_enter Try.func8, Try.ntmps8
    go_wp2
    go_ret
    exact ⟨rfl, Below.refl _ _⟩
  · have hfl := rmV_len (cutB 10 a0)
    have hIR := fun w => impl_ReadManifest a0 w (by omega)
    have hSR := fun w => spec_ReadManifest a0 w (by omega)
    unfold RmPost at hIR hSR
    generalize rmV (cutB 10 a0) = x at hfl hIR hSR
    obtain ⟨cf, ls, cd⟩ := x
    simp only at hfl hIR hSR
    obtain ⟨n, hnn⟩ : ∃ n, ls.length = n := ⟨_, rfl⟩
    rw [hnn] at hfl
    have HNN := hide hnn
    have HIR := hide hIR
    have HSR := hide hSR
    clear hnn hIR hSR
    go_enter Try.func8, Try.ntmps8
    go_wp2_with fail
    refine (unhide HSR _).mono ?_
    rintro e w1 ⟨v0, rfl, hO0, hb1⟩
    obtain ⟨fa, fc, rfl⟩ := hO0.form
    rw [unhide HNN] at hO0 ⊢
    have hba := bel1 w1 (.cells #[.string cf, .slice fa n fc] 26)
    have HF0 := hide (hO0.at.strs.below hba)
    have HB1 := hide (belOn hb1 hba)
    have HK1 := hide (Mc.new w1 cf (.slice fa n fc) 26)
    obtain ⟨W1, hW1⟩ : ∃ W1, w1.alloc (.cells #[.string cf, .slice fa n fc] 26) = W1 := ⟨_, rfl⟩
    rw [hW1] at HF0 HB1 HK1
    have HW1 := hide hW1
    have hk1 : w1.heap.size < W1.heap.size := (unhide HK1).lt
    clear hb1 hO0 hba hW1
    go_wp2_with fail
    rw [unhide HW1]
    refine (unhide HIR _).mono ?_
    rintro e w2 ⟨v1, rfl, hO1, hb2⟩
    obtain ⟨ga, gc, rfl⟩ := hO1.form
    rw [unhide HNN] at hO1 ⊢
    have hba := bel1 w2 (.cells #[.string cf, .slice ga n gc] 26)
    have HR1 := hide (hO1.at.below hba)
    have HGB := hide (own_low hO1 (unhide HNN))
    have hnG : ∀ o, ga ≠ some ⟨w2.heap.size, o, none⟩ := fun o e => by have := own_low hO1 (unhide HNN) _ o e; omega
    have HNG := hide hnG
    have HC2 := hide (belOn hb2 hba)
    have HK2 := hide ((unhide HK1).below (belOn hb2 hba) (unhide HK1).lt)
    have HG2 := hide (Mc.new w2 cf (.slice ga n gc) 26)
    have hg2 : W1.heap.size ≤ w2.heap.size := hb2.size
    obtain ⟨k0, k1, -, -, -⟩ := unhide HK2
    obtain ⟨W2, hW2⟩ : ∃ W2, w2.alloc (.cells #[.string cf, .slice ga n gc] 26) = W2 := ⟨_, rfl⟩
    rw [hW2] at HR1 HC2 HK2 HG2
    have HW2 := hide hW2
    have hz2 := (unhide HC2).size
    clear hb2 hO1 hba hW2 hnG
    go_wp2_with fail
    rw [unhide HW2]
    clear k0 k1
    refine (eqManifest_calls cf ga fa gc fc n ls W2 (unhide HNN) (by omega) (unhide HR1).strs ((unhide HF0).below (unhide HC2))).mono ?_
    rintro e w3 ⟨rfl, hb3⟩
    have HC3 := hide (belOn (unhide HC2) hb3)
    have HR3 := hide ((unhide HR1).below hb3)
    have HK3 := hide ((unhide HK2).below hb3 (unhide HK2).lt)
    have HG3 := hide ((unhide HG2).below hb3 (unhide HG2).lt)
    have hz3 := (unhide HC3).size
    obtain ⟨j0, j1, -, -, -⟩ := unhide HG3
    clear hb3 HR1 HC2 HK2 HG2 HW2
    go_wp2_with fail
    clear j0 j1
    refine (markManifest_calls cf 1 ga gc n ls w3 (by omega) (by omega) (unhide HNN) (by omega) (unhide HR3)).mono ?_
    rintro e w4 ⟨rfl, hM4, ho4⟩
    have hb4 : Below W1.heap.size w3 w4 := ho4.below (fun g o e => (unhide HGB g o e).1) hz3
    have HC4 := hide ((unhide HC3).trans hb4)
    have HM4 := hide hM4
    have HK4 := hide ((unhide HK3).below hb4 hk1)
    have HG4 := hide ((unhide HG3).onlyRow ho4 (unhide HNG))
    have hz4 := (unhide HC4).size
    obtain ⟨j0, j1, -, -, -⟩ := unhide HG4
    clear hM4 ho4 hb4 HR3 HC3 HK3 HG3
    go_wp2_with fail
    clear j0 j1
    refine (heldManifest_calls cf 1 ga gc n w4 (by omega) (by omega) (by omega) (unhide HM4)).mono ?_
    rintro e w5 ⟨rfl, hb5⟩
    have HC5 := hide (belOn (unhide HC4) hb5)
    have HM5 := hide ((unhide HM4).below hb5)
    have HK5 := hide ((unhide HK4).below hb5 (unhide HK4).lt)
    have HG5 := hide ((unhide HG4).below hb5 (unhide HG4).lt)
    clear hb5 HC4 HM4 HK4 HG4
    go_wp2_with fail
    refine (unhide HIR _).mono ?_
    rintro e w6 ⟨v2, rfl, hO6, hb6⟩
    obtain ⟨ha, hc, rfl⟩ := hO6.form
    rw [unhide HNN] at hO6 ⊢
    have hba := bel1 w6 (.cells #[.string cf, .slice ha n hc] 26)
    have HR6 := hide (hO6.at.below hba)
    have HC6 := hide (belOn (belOn (unhide HC5) hb6) hba)
    have HM6 := hide (((unhide HM5).below hb6).below hba)
    have HK6 := hide ((unhide HK5).below (belOn hb6 hba) (unhide HK5).lt)
    have HG6 := hide ((unhide HG5).below (belOn hb6 hba) (unhide HG5).lt)
    obtain ⟨k0, k1, -, -, -⟩ := unhide HK6
    obtain ⟨W6, hW6⟩ : ∃ W6, w6.alloc (.cells #[.string cf, .slice ha n hc] 26) = W6 := ⟨_, rfl⟩
    rw [hW6] at HR6 HC6 HM6 HK6 HG6
    have HW6 := hide hW6
    clear hb6 hO6 hba hW6 HC5 HM5 HK5 HG5
    go_wp2_with fail
    rw [unhide HW6]
    clear k0 k1
    refine (eqManifest_calls cf ha fa hc fc n ls W6 (unhide HNN) (by omega) (unhide HR6).strs ((unhide HF0).below (unhide HC6))).mono ?_
    rintro e w7 ⟨rfl, hb7⟩
    have HC7 := hide (belOn (unhide HC6) hb7)
    have HM7 := hide ((unhide HM6).below hb7)
    have HG7 := hide ((unhide HG6).below hb7 (unhide HG6).lt)
    obtain ⟨j0, j1, -, -, -⟩ := unhide HG7
    clear hb7 HC6 HM6 HK6 HG6 HR6 HW6
    go_wp2_with fail
    clear j0 j1
    refine (heldManifest_calls cf 1 ga gc n w7 (by omega) (by omega) (by omega) (unhide HM7)).mono ?_
    rintro e w8 ⟨rfl, hb8⟩
    have HB8 := hide (belOn (unhide HB1) (belOn (unhide HC7) hb8))
    clear hb8 HC7 HM7 HG7
    go_wp2_with fail
    go_ret
    exact ⟨rfl, unhide HB8⟩

set_option maxRecDepth 100000 in
theorem lifted (os : Os) (started : os.Started) (H : Type) (enc : TypeId × Value → H) :
    ReturnsInHanded {} Try.checked os 8 .any (Rows.fnExactReadManifestSpec.pre6 enc Try.prog Try.f8 Rows.fnExactReadManifestRow.domain false) (Rows.fnExactReadManifestSpec.post enc Try.prog Try.f8 false true false false) := by
  refine returnsInHanded_of_change (C := Try.checked) own started (by kernel_rfl) Try.func8
    (ChangeSpec.witness6 (enc := enc) (C := Try.checked) false ⟨#[], #[.string ByteArray.empty], []⟩ 8 (by kernel_rfl) (by kernel_rfl) (by kernel_rfl) (by kernel_rfl)) ?_
  intro W base args ds gs before hval0 hW hcnd _
  have hval : ∀ (j : Nat) t v, Try.f8.params[j]? = some t → args[j]? = some v → Value.okWide Try.prog W .any base t v := hval0
  have hW' := hW
  obtain ⟨p, q, hA0, hV, rfl, hfz, hnd⟩ := hW
  have hA : DataW.TrodAll enc Try.prog W 0 (fun _ => true) true Try.f8.params.toList args.toList ds p := hA0
  rw [Try.params8] at hA hval
  obtain ⟨v0, vs0, d0, ds0, p0, q0, hargs, rfl, rfl, h0, r0⟩ := trodAll_cons hA
  obtain ⟨rfl, rfl, rfl⟩ := trodAll_nil r0
  obtain rfl : args = #[v0] := by cases args; simp_all
  obtain ⟨rfl, rfl⟩ := trodVars_none hV
  have k0 := h0
  have lt0 : ∀ x ∈ p0, x.block < W.heap.size := by obtain ⟨m, hm⟩ := k0; exact DataW.trod_lt m _ _ _ hm
  obtain ⟨a0, rfl, e0, f0, w0⟩ := open_string Try.underlying9 (hval 0 9 v0 rfl rfl) h0
  clear hA0 hval0
  refine (walk a0 W w0).mono fun e W' ⟨he, bel⟩ => ?_
  subst he
  exact ⟨_, rfl, _, _, _, [], _, [], hW', trodAll_mk1 (shut_bool Try.underlying4 _), (trodAll_cons_mk (Below.trod laidOut (by kernel_rfl) (of_decide_eq_true (by kernel_rfl)) k0 bel lt0) trodAll_mk0), rfl, bel.frame _, fun h => by cases h⟩

theorem over : Rows.fnExactReadManifestRow.holds Try.pinned (OpenSpec.ofChange Rows.fnExactReadManifestSpec) :=
  OpenClaim.holds_of_wide 8 Try.f8 rfl rfl rfl rfl rfl rfl rfl ⟨rfl, rfl, rfl, rfl, rfl⟩ rfl rfl rfl rfl rfl (by kernel_rfl) Try.func8 (by kernel_rfl)
    (of_decide_eq_true (by kernel_rfl)) (by unfold Func.isWrapper; first | (rw [if_pos (by decide +kernel)]; kernel_rfl) | (rw [if_neg (by decide +kernel)]; exact ⟨rfl, rfl⟩))
    (fun os started H enc _ => lifted os started H enc)

end Go.Proofs.Ytkeindhefiaghaa.fnExactReadManifest
namespace Go.Proofs.Ytkeindhefiaghaa
theorem fnExactReadManifest_holds : Rows.FnExactReadManifestSaid := fnExactReadManifest.over
#print axioms fnExactReadManifest_holds
end Go.Proofs.Ytkeindhefiaghaa
