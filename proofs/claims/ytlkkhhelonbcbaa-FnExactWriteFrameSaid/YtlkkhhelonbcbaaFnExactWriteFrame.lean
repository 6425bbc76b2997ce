/- For every frame, WriteFrame of the program answers what WriteFrame of the specification answers; nothing that was there is changed. No condition. -/
import Derived.Test.YtlkkhhelonbcbaaRows
import Derived.Test.YtlkkhhelonbcbaaPlain
import Derived.Test.YtlkkhhelonbcbaaMem
import Derived.Test.YtlkkhhelonbcbaaNum
import Derived.Test.YtlkkhhelonbcbaaCrcM
import Derived.Test.YtlkkhhelonbcbaaCrcW
import Derived.Test.YtlkkhhelonbcbaaCrcS
import Derived.Test.YtlkkhhelonbcbaaCrcT
import Derived.Test.YtlkkhhelonbcbaaFour
import Derived.Test.YtlkkhhelonbcbaaWf
import Derived.Test.YtlkkhhelonbcbaaWfI
import Derived.Test.YtlkkhhelonbcbaaWfS
import Derived.WalkKit
import Derived.ProofKit
import Derived.OpenShut
import Derived.ShutString
import Derived.ChangeOld
import Derived.Below
import Derived.Lib.SmallJoins
namespace Go.Proofs.Ytlkkhhelonbcbaa.fnExactWriteFrame
open Go.ChangeShapes Go.WideShapes Go.ChangeAt Go.RowKit Go.Joins
open Go.ChangeMaps (open_string shut_string)
open Plain
set_option linter.unusedVariables false

theorem own : ownKnob Try.prog.godebug = none := by kernel_rfl
theorem laidOut : laidOutB Try.prog = true := by kernel_rfl

theorem toFrame_calls (k : Int) (body : ByteArray) (w : World) (hs : body.size ≤ 1000000000000) :
    Calls Try.prog 45 #[.agg #[.int .i64 k, .string body]] w fun e w' => e = .returned (.agg #[.int .i64 k, .string body]) ∧ Below w.heap.size w w' := by
  go_enter Try.func45, Try.ntmps45
  go_wp2
  exact bodyPost_ret (v := .agg #[.int .i64 k, .string body]) (by simp [results, Try.results45, go_sem]) rfl ⟨rfl, (((Below.refl _ _).alloc (Nat.le_refl _) _).alloc (by simp) _).alloc (by simp; omega) _⟩

theorem szFrame_calls (k : Int) (body : ByteArray) (n : Int) (w : World) (hn : 0 ≤ n - body.size) (hn2 : n ≤ 1048576) :
    Calls Try.prog 44 #[.agg #[.int .i64 k, .string body], .int .i64 n] w fun e w' => e = .returned (.int .i64 (n - body.size)) ∧ Below w.heap.size w w' := by
  go_enter Try.func44, Try.ntmps44
  go_wp2
  go_ret
  exact ⟨rfl, (Below.refl _ _).alloc (Nat.le_refl _) _⟩

set_option maxHeartbeats 1000000 in
theorem walk (a0x0 : Int) (a0x1 : ByteArray) (w : World) (w0x0 : (Lit.int .i64 a0x0).wf = true) (w0x1 : a0x1.size ≤ maxLen) :
    Calls Try.prog 11 #[.agg #[.int .i64 a0x0, .string a0x1]] w fun e w' => e = .returned (.bool true) ∧ Below w.heap.size w w' := by
  unfold maxLen at w0x1
  by_cases hbig : 1048576 < a0x1.size
  · go_enter Try.func11, Try.ntmps11
    go_wp2
    go_ret
    exact ⟨rfl, ((Below.refl _ _).alloc (Nat.le_refl _) _).alloc (by simp) _⟩
  · have hn : 0 ≤ (1048576 : Int) - a0x1.size := by omega
    go_enter Try.func11, Try.ntmps11
    go_wp2_with fail
    refine (szFrame_calls a0x0 a0x1 1048576 _ hn (by omega)).mono ?_
    rintro e w1 ⟨rfl, hb1⟩
    have c0 : w1.cell? ⟨w.heap.size, 0, none⟩ = some (.int .i64 a0x0) := (hb1.cell (p := ⟨w.heap.size, 0, none⟩) (by simp)).trans (by simp)
    have c1 : w1.cell? ⟨w.heap.size, 1, none⟩ = some (.string a0x1) := (hb1.cell (p := ⟨w.heap.size, 1, none⟩) (by simp)).trans (by simp)
    have B1 := hide (((Below.refl w.heap.size w).alloc (Nat.le_refl _) _).trans (hb1.mono (by simp)))
    clear hb1
    go_wp2_with fail
    refine (toFrame_calls a0x0 a0x1 _ (by omega)).mono ?_
    rintro e w2 ⟨rfl, hb2⟩
    have d0 : w2.cell? ⟨w.heap.size, 0, none⟩ = some (.int .i64 a0x0) := (hb2.cell (p := ⟨w.heap.size, 0, none⟩) (lt_of_cell c0)).trans c0
    have d1 : w2.cell? ⟨w.heap.size, 1, none⟩ = some (.string a0x1) := (hb2.cell (p := ⟨w.heap.size, 1, none⟩) (lt_of_cell c1)).trans c1
    have B2 := hide ((unhide B1).trans (hb2.mono (unhide B1).size))
    clear hb2 c0 c1 B1
    go_wp2_with fail
    refine (spec_WriteFrame a0x0 a0x1 _ (by omega)).mono ?_
    rintro e w3 ⟨rfl, hb3⟩
    have c0 : w3.cell? ⟨w.heap.size, 0, none⟩ = some (.int .i64 a0x0) := (hb3.cell (p := ⟨w.heap.size, 0, none⟩) (lt_of_cell d0)).trans d0
    have c1 : w3.cell? ⟨w.heap.size, 1, none⟩ = some (.string a0x1) := (hb3.cell (p := ⟨w.heap.size, 1, none⟩) (lt_of_cell d1)).trans d1
    have B3 := hide ((unhide B2).trans (hb3.mono (unhide B2).size))
    clear hb3 d0 d1 B2
    go_wp2_with fail
    refine (toFrame_calls a0x0 a0x1 _ (by omega)).mono ?_
    rintro e w4 ⟨rfl, hb4⟩
    have B4 := hide ((unhide B3).trans (hb4.mono (unhide B3).size))
    clear hb4 c0 c1 B3
    go_wp2_with fail
    refine (impl_WriteFrame a0x0 a0x1 _ (by omega)).mono ?_
    rintro e w5 ⟨rfl, hb5⟩
    have B5 := hide ((unhide B4).trans (hb5.mono (unhide B4).size))
    clear hb5 B4
    go_wp2
    go_ret
    exact ⟨rfl, unhide B5⟩

set_option maxRecDepth 100000 in
theorem lifted (os : Os) (started : os.Started) (H : Type) (enc : TypeId × Value → H) :
    ReturnsInHanded {} Try.checked os 11 .any (Rows.fnExactWriteFrameSpec.pre6 enc Try.prog Try.f11 Rows.fnExactWriteFrameRow.domain false) (Rows.fnExactWriteFrameSpec.post enc Try.prog Try.f11 false true false false) := by
  refine returnsInHanded_of_change (C := Try.checked) own started (by kernel_rfl) Try.func11
    (ChangeSpec.witness6 (enc := enc) (C := Try.checked) false ⟨#[], #[.agg #[.int .i64 0, .string ByteArray.empty]], []⟩ 8 (by kernel_rfl) (by kernel_rfl) (by kernel_rfl) (by kernel_rfl)) ?_
  intro W base args ds gs before hval0 hW hcnd _
  have hval : ∀ (j : Nat) t v, Try.f11.params[j]? = some t → args[j]? = some v → Value.okWide Try.prog W .any base t v := hval0
  have hW' := hW
  obtain ⟨p, q, hA0, hV, rfl, hfz, hnd⟩ := hW
  have hA : DataW.TrodAll enc Try.prog W 0 (fun _ => true) true Try.f11.params.toList args.toList ds p := hA0
  rw [Try.params11] at hA hval
  obtain ⟨v0, vs0, d0, ds0, p0, q0, hargs, rfl, rfl, h0, r0⟩ := trodAll_cons hA
  obtain ⟨rfl, rfl, rfl⟩ := trodAll_nil r0
  obtain rfl : args = #[v0] := by cases args; simp_all
  obtain ⟨rfl, rfl⟩ := trodVars_none hV
  have k0 := h0
  have lt0 : ∀ x ∈ p0, x.block < W.heap.size := by obtain ⟨m, hm⟩ := k0; exact DataW.trod_lt m _ _ _ hm
  obtain ⟨c0x0, c0x1, y0x0, y0x1, mm0, rfl, e0, f0, hy0x0, hy0x1⟩ := open_agg2 Try.underlying51 (by kernel_rfl) (by kernel_rfl) (hval 0 51 v0 rfl rfl) h0
  obtain ⟨a0x0, g0x0, _, w0x0⟩ := DataW.trod_int Try.underlying2 hy0x0
  obtain ⟨a0x1, g0x1, _, w0x1⟩ := DataW.trod_string Try.underlying9 hy0x1
  simp at g0x0 g0x1
  subst g0x0 g0x1
  clear hA0 hval0
  refine (walk a0x0 a0x1 W w0x0 w0x1).mono fun e W' ⟨he, bel⟩ => ?_
  subst he
  exact ⟨_, rfl, _, _, _, [], _, [], hW', trodAll_mk1 (shut_bool Try.underlying4 _), (trodAll_cons_mk (Below.trod laidOut (by kernel_rfl) (of_decide_eq_true (by kernel_rfl)) k0 bel lt0) trodAll_mk0), rfl, bel.frame _, fun h => by cases h⟩

theorem over : Rows.fnExactWriteFrameRow.holds Try.pinned (OpenSpec.ofChange Rows.fnExactWriteFrameSpec) :=
  OpenClaim.holds_of_wide 11 Try.f11 rfl rfl rfl rfl rfl rfl rfl ⟨rfl, rfl, rfl, rfl, rfl⟩ rfl rfl rfl rfl rfl (by kernel_rfl) Try.func11 (by kernel_rfl)
    (of_decide_eq_true (by kernel_rfl)) (by unfold Func.isWrapper; first | (rw [if_pos (by decide +kernel)]; kernel_rfl) | (rw [if_neg (by decide +kernel)]; exact ⟨rfl, rfl⟩))
    (fun os started H enc _ => lifted os started H enc)

end Go.Proofs.Ytlkkhhelonbcbaa.fnExactWriteFrame
namespace Go.Proofs.Ytlkkhhelonbcbaa
theorem fnExactWriteFrame_holds : Rows.FnExactWriteFrameSaid := fnExactWriteFrame.over
#print axioms fnExactWriteFrame_holds
end Go.Proofs.Ytlkkhhelonbcbaa
