/- For every entry, EntryText of the program answers what EntryText of the specification answers; nothing that was there is changed. No condition. -/
import Derived.Test.YtcjfjldbckcpbaaRows
import Derived.Test.YtcjfjldbckcpbaaEntM
import Derived.Test.YtcjfjldbckcpbaaEntR
import Derived.WalkKit
import Derived.ProofKit
import Derived.OpenShut
import Derived.ShutString
import Derived.ChangeOld
import Derived.Below
import Derived.Lib.SmallJoins
namespace Go.Proofs.Ytcjfjldbckcpbaa.fnExactEntryText
open Go.ChangeShapes Go.WideShapes Go.ChangeAt Go.RowKit Go.Joins
open Go.ChangeMaps (open_string shut_string)
open Plain
set_option linter.unusedVariables false

theorem own : ownKnob Try.prog.godebug = none := by kernel_rfl
theorem laidOut : laidOutB Try.prog = true := by kernel_rfl

set_option maxRecDepth 10000 in
set_option maxHeartbeats 2000000 in
theorem walk (a0x0 a0x1 : Int) (a0x2 : ByteArray) (w : World) (w0x0 : (Lit.int .i64 a0x0).wf = true) (w0x1 : (Lit.int .i64 a0x1).wf = true) (w0x2 : a0x2.size ≤ maxLen) :
    Calls Try.prog 12 #[.agg #[.int .i64 a0x0, .int .i64 a0x1, .string a0x2]] w fun e w' => e = .returned (.bool true) ∧ Below w.heap.size w w' := by
  obtain ⟨W0, hW0⟩ : ∃ W0, W0 = w.alloc (.cells #[.int .i64 a0x0, .int .i64 a0x1, .string a0x2] 77) := ⟨_, rfl⟩
  have hb0 : Below w.heap.size w W0 := by rw [hW0]; exact bel1 _ _
  have hlt : w.heap.size < W0.heap.size := by rw [hW0]; simp
  have c0 : W0.cell? ⟨w.heap.size, 0, none⟩ = some (.int .i64 a0x0) := by rw [hW0]; simp [go_sem]
  have c1 : W0.cell? ⟨w.heap.size, 1, none⟩ = some (.int .i64 a0x1) := by rw [hW0]; simp [go_sem]
  have c2 : W0.cell? ⟨w.heap.size, 2, none⟩ = some (.string a0x2) := by rw [hW0]; simp [go_sem]
  have HC := hide (fun (W : World) (hW : Below W0.heap.size W0 W) => And.intro (bcl hW hlt c0) (And.intro (bcl hW hlt c1) (bcl hW hlt c2)))
  have HFIN := hide (fun (W : World) (hW : Below W0.heap.size W0 W) => belOn hb0 hW)
  have HW0 := hide hW0.symm
  have HSZ := hide (szEntry_calls a0x0 a0x1 a0x2 1048576 W0 (by decide) w0x2)
  clear hb0 hlt c0 c1 c2 hW0
  by_cases hbig : 1048576 < a0x2.size
  · rw [purse_no (show ((1048576 : Nat) : Int) < (a0x2.size : Int) by omega)] at HSZ
    go_enter Try.func12, Try.ntmps12
    go_wp2_with fail
    rw [unhide HW0]
    refine (unhide HSZ).mono ?_
    rintro e w1 ⟨rfl, hb1⟩
    have HB1 := hide (unhide HFIN _ hb1)
    clear hb1
    go_wp2_with fail
    go_ret
    exact ⟨rfl, unhide HB1⟩
  · obtain ⟨r, hr⟩ : ∃ r : Nat, ((1048576 : Nat) : Int) - (a0x2.size : Int) = (r : Int) := ⟨1048576 - a0x2.size, by omega⟩
    rw [purse_yes (show ¬ ((1048576 : Nat) : Int) < (a0x2.size : Int) by omega), hr] at HSZ
    have HT1 := hide (fun W => spec_EntryText a0x0 a0x1 a0x2 W (by omega))
    have HT2 := hide (fun W => impl_EntryText a0x0 a0x1 a0x2 W (by omega))
    generalize entT a0x0 a0x1 a0x2 = T at HT1 HT2
    clear hr
    go_enter Try.func12, Try.ntmps12
    go_wp2_with fail
    rw [unhide HW0]
    refine (unhide HSZ).mono ?_
    rintro e w1 ⟨rfl, hb1⟩
    have HB1 := hide hb1
    obtain ⟨q0, q1, q2⟩ := unhide HC _ hb1
    clear hb1
    go_wp2_with fail
    refine (toEntry_calls a0x0 a0x1 a0x2 w1).mono ?_
    rintro e w2 ⟨rfl, hb2⟩
    have HB2 := hide (belOn (unhide HB1) hb2)
    clear hb2 q0 q1 q2
    go_wp2_with fail
    refine (unhide HT1 _).mono ?_
    rintro e w3 ⟨rfl, hb3⟩
    have HB3 := hide (belOn (unhide HB2) hb3)
    clear hb3
    obtain ⟨q0, q1, q2⟩ := unhide HC _ (unhide HB3)
    go_wp2_with fail
    refine (toEntry_calls a0x0 a0x1 a0x2 w3).mono ?_
    rintro e w4 ⟨rfl, hb4⟩
    have HB4 := hide (belOn (unhide HB3) hb4)
    clear hb4 q0 q1 q2
    go_wp2_with fail
    refine (unhide HT2 _).mono ?_
    rintro e w5 ⟨rfl, hb5⟩
    have HB5 := hide (unhide HFIN _ (belOn (unhide HB4) hb5))
    clear hb5
    go_wp2_with fail
    go_ret
    exact ⟨rfl, unhide HB5⟩

set_option maxRecDepth 100000 in
theorem lifted (os : Os) (started : os.Started) (H : Type) (enc : TypeId × Value → H) :
    ReturnsInHanded {} Try.checked os 12 .any (Rows.fnExactEntryTextSpec.pre6 enc Try.prog Try.f12 Rows.fnExactEntryTextRow.domain false) (Rows.fnExactEntryTextSpec.post enc Try.prog Try.f12 false true false false) := by
  refine returnsInHanded_of_change (C := Try.checked) own started (by kernel_rfl) Try.func12
    (ChangeSpec.witness6 (enc := enc) (C := Try.checked) false ⟨#[], #[.agg #[.int .i64 0, .int .i64 0, .string ByteArray.empty]], []⟩ 8 (by kernel_rfl) (by kernel_rfl) (by kernel_rfl) (by kernel_rfl)) ?_
  intro W base args ds gs before hval0 hW hcnd _
  have hval : ∀ (j : Nat) t v, Try.f12.params[j]? = some t → args[j]? = some v → Value.okWide Try.prog W .any base t v := hval0
  have hW' := hW
  obtain ⟨p, q, hA0, hV, rfl, hfz, hnd⟩ := hW
  have hA : DataW.TrodAll enc Try.prog W 0 (fun _ => true) true Try.f12.params.toList args.toList ds p := hA0
  rw [Try.params12] at hA hval
  obtain ⟨v0, vs0, d0, ds0, p0, q0, hargs, rfl, rfl, h0, r0⟩ := trodAll_cons hA
  obtain ⟨rfl, rfl, rfl⟩ := trodAll_nil r0
  obtain rfl : args = #[v0] := by cases args; simp_all
  obtain ⟨rfl, rfl⟩ := trodVars_none hV
  have k0 := h0
  have lt0 : ∀ x ∈ p0, x.block < W.heap.size := by obtain ⟨m, hm⟩ := k0; exact DataW.trod_lt m _ _ _ hm
  obtain ⟨c0x0, c0x1, c0x2, y0x0, y0x1, y0x2, mm0, rfl, e0, f0, hy0x0, hy0x1, hy0x2⟩ := open_agg3 Try.underlying77 (by kernel_rfl) (by kernel_rfl) (hval 0 77 v0 rfl rfl) h0
  obtain ⟨a0x0, g0x0, _, w0x0⟩ := DataW.trod_int Try.underlying2 hy0x0
  obtain ⟨a0x1, g0x1, _, w0x1⟩ := DataW.trod_int Try.underlying2 hy0x1
  obtain ⟨a0x2, g0x2, _, w0x2⟩ := DataW.trod_string Try.underlying9 hy0x2
  simp at g0x0 g0x1 g0x2
  subst g0x0 g0x1 g0x2
  clear hA0 hval0
  refine (walk a0x0 a0x1 a0x2 W w0x0 w0x1 w0x2).mono fun e W' ⟨he, bel⟩ => ?_
  subst he
  exact ⟨_, rfl, _, _, _, [], _, [], hW', trodAll_mk1 (shut_bool Try.underlying4 _), (trodAll_cons_mk (Below.trod laidOut (by kernel_rfl) (of_decide_eq_true (by kernel_rfl)) k0 bel lt0) trodAll_mk0), rfl, bel.frame _, fun h => by cases h⟩

theorem over : Rows.fnExactEntryTextRow.holds Try.pinned (OpenSpec.ofChange Rows.fnExactEntryTextSpec) :=
  OpenClaim.holds_of_wide 12 Try.f12 rfl rfl rfl rfl rfl rfl rfl ⟨rfl, rfl, rfl, rfl, rfl⟩ rfl rfl rfl rfl rfl (by kernel_rfl) Try.func12 (by kernel_rfl)
    (of_decide_eq_true (by kernel_rfl)) (by unfold Func.isWrapper; first | (rw [if_pos (by decide +kernel)]; kernel_rfl) | (rw [if_neg (by decide +kernel)]; exact ⟨rfl, rfl⟩))
    (fun os started H enc _ => lifted os started H enc)

end Go.Proofs.Ytcjfjldbckcpbaa.fnExactEntryText
namespace Go.Proofs.Ytcjfjldbckcpbaa
theorem fnExactEntryText_holds : Rows.FnExactEntryTextSaid := fnExactEntryText.over
#print axioms fnExactEntryText_holds
end Go.Proofs.Ytcjfjldbckcpbaa
