/- For every disk and op, Do of the program answers the disk and the code that Do of the specification answers, in memory of its own, behind a change of its argument and behind another call too, and leaves its argument as it was; nothing that was there is changed. No condition. -/
import Derived.Test.YtbcklkdhminofaaRows
import Derived.Test.YtbcklkdhminofaaDoW
import Derived.WalkKit
import Derived.ProofKit
import Derived.OpenShut
import Derived.ShutString
import Derived.ChangeOld
import Derived.Below
import Derived.Lib.SmallJoins
namespace Go.Proofs.Ytbcklkdhminofaa.fnExactDo
open Go.ChangeShapes Go.WideShapes Go.ChangeAt Go.RowKit Go.Joins
open Go.ChangeMaps (open_string shut_string)
open Plain
set_option linter.unusedVariables false

theorem own : ownKnob Try.prog.godebug = none := by kernel_rfl
theorem laidOut : laidOutB Try.prog = true := by kernel_rfl



set_option maxRecDepth 100000 in
theorem lifted (os : Os) (started : os.Started) (H : Type) (enc : TypeId × Value → H) :
    ReturnsInHanded {} Try.checked os 5 .any (Rows.fnExactDoSpec.pre6 enc Try.prog Try.f5 Rows.fnExactDoRow.domain false) (Rows.fnExactDoSpec.post enc Try.prog Try.f5 false true false false) := by
  refine returnsInHanded_of_change (C := Try.checked) own started (by kernel_rfl) Try.func5
    (ChangeSpec.witness6 (enc := enc) (C := Try.checked) false ⟨#[], #[.agg #[.slice none 0 0, .slice none 0 0, .slice none 0 0], .agg #[.int .i64 0, .string ByteArray.empty, .string ByteArray.empty, .string ByteArray.empty]], []⟩ 8 (by kernel_rfl) (by kernel_rfl) (by kernel_rfl) (by kernel_rfl)) ?_
  intro W base args ds gs before hval0 hW hcnd _
  have hval : ∀ (j : Nat) t v, Try.f5.params[j]? = some t → args[j]? = some v → Value.okWide Try.prog W .any base t v := hval0
  have hW' := hW
  obtain ⟨p, q, hA0, hV, rfl, hfz, hnd⟩ := hW
  have hA : DataW.TrodAll enc Try.prog W 0 (fun _ => true) true Try.f5.params.toList args.toList ds p := hA0
  rw [Try.params5] at hA hval
  obtain ⟨v0, vs0, d0, ds0, p0, q0, hargs, rfl, rfl, h0, r0⟩ := trodAll_cons hA
  obtain ⟨v1, vs1, d1, ds1, p1, q1, rfl, rfl, rfl, h1, r1⟩ := trodAll_cons r0
  obtain ⟨rfl, rfl, rfl⟩ := trodAll_nil r1
  obtain rfl : args = #[v0, v1] := by cases args; simp_all
  obtain ⟨rfl, rfl⟩ := trodVars_none hV
  have k0 := h0
  have lt0 : ∀ x ∈ p0, x.block < W.heap.size := by obtain ⟨m, hm⟩ := k0; exact DataW.trod_lt m _ _ _ hm
  obtain ⟨c0x0, c0x1, c0x2, y0x0, y0x1, y0x2, mm0, rfl, e0, f0, hy0x0, hy0x1, hy0x2⟩ := open_agg3 Try.underlying46 (by kernel_rfl) (by kernel_rfl) (hval 0 46 v0 rfl rfl) h0
  obtain ⟨a0x0, n0x0, l0x0, z0x0, g0x0, w0x0⟩ := openArg 2 fileL goodF Try.underlying43 (by kernel_rfl) (by decide) rdFile hy0x0
  obtain ⟨a0x1, n0x1, l0x1, z0x1, g0x1, w0x1⟩ := openArg 2 fileL goodF Try.underlying43 (by kernel_rfl) (by decide) rdFile hy0x1
  obtain ⟨a0x2, n0x2, l0x2, z0x2, g0x2, w0x2⟩ := openArg 4 dopL goodO Try.underlying44 (by kernel_rfl) (by decide) rdDop hy0x2
  subst g0x0 g0x1 g0x2
  have k1 := h1
  have lt1 : ∀ x ∈ p1, x.block < W.heap.size := by obtain ⟨m, hm⟩ := k1; exact DataW.trod_lt m _ _ _ hm
  obtain ⟨c1x0, c1x1, c1x2, c1x3, y1x0, y1x1, y1x2, y1x3, mm1, rfl, e1, f1, hy1x0, hy1x1, hy1x2, hy1x3⟩ := open_agg4 Try.underlying48 (by kernel_rfl) (by kernel_rfl) (hval 1 48 v1 rfl rfl) h1
  obtain ⟨a1x0, g1x0, _, w1x0⟩ := DataW.trod_int Try.underlying2 hy1x0
  obtain ⟨a1x1, g1x1, _, w1x1⟩ := DataW.trod_string Try.underlying9 hy1x1
  obtain ⟨a1x2, g1x2, _, w1x2⟩ := DataW.trod_string Try.underlying9 hy1x2
  obtain ⟨a1x3, g1x3, _, w1x3⟩ := DataW.trod_string Try.underlying9 hy1x3
  simp at g1x0 g1x1 g1x2 g1x3
  subst g1x0 g1x1 g1x2 g1x3
  clear hA0 hval0
  refine (walk a0x0 n0x0 l0x0 z0x0 a0x1 n0x1 l0x1 z0x1 a0x2 n0x2 l0x2 z0x2 a1x0 a1x1 a1x2 a1x3 W w0x0 w0x1 w0x2 w1x0 w1x1 w1x2 w1x3).mono fun e W' ⟨he, bel⟩ => ?_
  subst he
  exact ⟨_, rfl, _, _, _, [], _, [], hW', trodAll_mk1 (shut_bool Try.underlying4 _), (trodAll_cons_mk (Below.trod laidOut (by kernel_rfl) (of_decide_eq_true (by kernel_rfl)) k0 bel lt0) (trodAll_cons_mk (Below.trod laidOut (by kernel_rfl) (of_decide_eq_true (by kernel_rfl)) k1 bel lt1) trodAll_mk0)), rfl, bel.frame _, fun h => by cases h⟩

theorem named : Try.pinned.checked.prog.funcNamed Rows.fnExactDoRow.func = some 5 := by kernel_rfl
theorem closed : joinedFacts Try.pinned.checked.prog 5 Try.f5 Rows.fnExactDoSpec Rows.fnExactDoRow = true := by kernel_rfl
theorem over : Rows.fnExactDoRow.holds Try.pinned (OpenSpec.ofChange Rows.fnExactDoSpec) :=
  OpenClaim.holds_of_wide 5 Try.f5 rfl rfl rfl rfl rfl rfl rfl ⟨rfl, rfl, rfl, rfl, rfl⟩ rfl rfl rfl rfl rfl named Try.func5 closed
    (of_decide_eq_true (by kernel_rfl)) (by unfold Func.isWrapper; first | (rw [if_pos (by decide +kernel)]; kernel_rfl) | (rw [if_neg (by decide +kernel)]; exact ⟨rfl, rfl⟩))
    (fun os started H enc _ => lifted os started H enc)

end Go.Proofs.Ytbcklkdhminofaa.fnExactDo
namespace Go.Proofs.Ytbcklkdhminofaa
theorem fnExactDo_holds : Rows.FnExactDoSaid := fnExactDo.over
#print axioms fnExactDo_holds
end Go.Proofs.Ytbcklkdhminofaa
