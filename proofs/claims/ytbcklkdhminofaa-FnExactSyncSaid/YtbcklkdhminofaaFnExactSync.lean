/- For every disk, Sync of the program answers the disk that Sync of the specification answers, in memory of its own, behind a change of its argument and behind another call too, and leaves its argument as it was; nothing that was there is changed. No condition. -/
import Derived.Test.YtbcklkdhminofaaRows
import Derived.Test.YtbcklkdhminofaaSynW
import Derived.WalkKit
import Derived.ProofKit
import Derived.OpenShut
import Derived.ShutString
import Derived.ChangeOld
import Derived.Below
import Derived.Lib.SmallJoins
namespace Go.Proofs.Ytbcklkdhminofaa.fnExactSync
open Go.ChangeShapes Go.WideShapes Go.ChangeAt Go.RowKit Go.Joins
open Go.ChangeMaps (open_string shut_string)
open Plain
set_option linter.unusedVariables false

theorem own : ownKnob Try.prog.godebug = none := by kernel_rfl
theorem laidOut : laidOutB Try.prog = true := by kernel_rfl



set_option maxRecDepth 100000 in
theorem lifted (os : Os) (started : os.Started) (H : Type) (enc : TypeId × Value → H) :
    ReturnsInHanded {} Try.checked os 6 .any (Rows.fnExactSyncSpec.pre6 enc Try.prog Try.f6 Rows.fnExactSyncRow.domain false) (Rows.fnExactSyncSpec.post enc Try.prog Try.f6 false true false false) := by
  refine returnsInHanded_of_change (C := Try.checked) own started (by kernel_rfl) Try.func6
    (ChangeSpec.witness6 (enc := enc) (C := Try.checked) false ⟨#[], #[.agg #[.slice none 0 0, .slice none 0 0, .slice none 0 0]], []⟩ 8 (by kernel_rfl) (by kernel_rfl) (by kernel_rfl) (by kernel_rfl)) ?_
  intro W base args ds gs before hval0 hW hcnd _
  have hval : ∀ (j : Nat) t v, Try.f6.params[j]? = some t → args[j]? = some v → Value.okWide Try.prog W .any base t v := hval0
  have hW' := hW
  obtain ⟨p, q, hA0, hV, rfl, hfz, hnd⟩ := hW
  have hA : DataW.TrodAll enc Try.prog W 0 (fun _ => true) true Try.f6.params.toList args.toList ds p := hA0
  rw [Try.params6] at hA hval
  obtain ⟨v0, vs0, d0, ds0, p0, q0, hargs, rfl, rfl, h0, r0⟩ := trodAll_cons hA
  obtain ⟨rfl, rfl, rfl⟩ := trodAll_nil r0
  obtain rfl : args = #[v0] := by cases args; simp_all
  obtain ⟨rfl, rfl⟩ := trodVars_none hV
  have k0 := h0
  have lt0 : ∀ x ∈ p0, x.block < W.heap.size := by obtain ⟨m, hm⟩ := k0; exact DataW.trod_lt m _ _ _ hm
  obtain ⟨c0x0, c0x1, c0x2, y0x0, y0x1, y0x2, mm0, rfl, e0, f0, hy0x0, hy0x1, hy0x2⟩ := open_agg3 Try.underlying46 (by kernel_rfl) (by kernel_rfl) (hval 0 46 v0 rfl rfl) h0
  obtain ⟨a0x0, n0x0, l0x0, z0x0, g0x0, w0x0⟩ := openArg 2 fileL goodF Try.underlying43 (by kernel_rfl) (by decide) rdFile hy0x0
  obtain ⟨a0x1, n0x1, l0x1, z0x1, g0x1, w0x1⟩ := openArg 2 fileL goodF Try.underlying43 (by kernel_rfl) (by decide) rdFile hy0x1
  obtain ⟨a0x2, n0x2, l0x2, z0x2, g0x2, w0x2⟩ := openArg 4 dopL goodO Try.underlying44 (by kernel_rfl) (by decide) rdDop hy0x2
  subst g0x0 g0x1 g0x2
  clear hA0 hval0
  refine (walk a0x0 n0x0 l0x0 z0x0 a0x1 n0x1 l0x1 z0x1 a0x2 n0x2 l0x2 z0x2 W w0x0 w0x1 w0x2).mono fun e W' ⟨he, bel⟩ => ?_
  subst he
  exact ⟨_, rfl, _, _, _, [], _, [], hW', trodAll_mk1 (shut_bool Try.underlying4 _), (trodAll_cons_mk (Below.trod laidOut (by kernel_rfl) (of_decide_eq_true (by kernel_rfl)) k0 bel lt0) trodAll_mk0), rfl, bel.frame _, fun h => by cases h⟩

theorem named : Try.pinned.checked.prog.funcNamed Rows.fnExactSyncRow.func = some 6 := by kernel_rfl
theorem closed : joinedFacts Try.pinned.checked.prog 6 Try.f6 Rows.fnExactSyncSpec Rows.fnExactSyncRow = true := by kernel_rfl
theorem over : Rows.fnExactSyncRow.holds Try.pinned (OpenSpec.ofChange Rows.fnExactSyncSpec) :=
  OpenClaim.holds_of_wide 6 Try.f6 rfl rfl rfl rfl rfl rfl rfl ⟨rfl, rfl, rfl, rfl, rfl⟩ rfl rfl rfl rfl rfl named Try.func6 closed
    (of_decide_eq_true (by kernel_rfl)) (by unfold Func.isWrapper; first | (rw [if_pos (by decide +kernel)]; kernel_rfl) | (rw [if_neg (by decide +kernel)]; exact ⟨rfl, rfl⟩))
    (fun os started H enc _ => lifted os started H enc)

end Go.Proofs.Ytbcklkdhminofaa.fnExactSync
namespace Go.Proofs.Ytbcklkdhminofaa
theorem fnExactSync_holds : Rows.FnExactSyncSaid := fnExactSync.over
#print axioms fnExactSync_holds
end Go.Proofs.Ytbcklkdhminofaa
