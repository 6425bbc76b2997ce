/- For every journal, JournalOk of the program answers what JournalOk of the specification answers, and writes into no argument; nothing that was there is changed. No condition. -/
import Derived.Test.YtgbcaoomemfofaaRows
import Derived.Test.YtgbcaoomemfofaaJouR
import Derived.Test.YtgbcaoomemfofaaJouS
import Derived.WalkKit
import Derived.ProofKit
import Derived.OpenShut
import Derived.ShutString
import Derived.ChangeOld
import Derived.Below
import Derived.Lib.SmallJoins
namespace Go.Proofs.Ytgbcaoomemfofaa.fnExactJournalOk
open Go.ChangeShapes Go.WideShapes Go.ChangeAt Go.RowKit Go.Joins
open Go.ChangeMaps (open_string shut_string)
open Plain
set_option linter.unusedVariables false

theorem own : ownKnob Try.prog.godebug = none := by kernel_rfl
theorem laidOut : laidOutB Try.prog = true := by kernel_rfl

set_option maxRecDepth 10000 in
set_option maxHeartbeats 4000000 in
theorem walk (t v : Int) (a : Option Addr) (n c : Nat) (es : List Ent) (w : World) (ht : (Lit.int .i64 t).wf = true) (hv : (Lit.int .i64 v).wf = true) (h : ArgRow 3 entL goodE w a n c es) :
    Calls Try.prog 11 #[.agg #[.int .i64 t, .int .i64 v, .slice a n c]] w fun e w' => e = .returned (.bool true) ∧ Below w.heap.size w w' := by
  obtain ⟨W0, hW0⟩ : ∃ W0, W0 = w.alloc (.cells #[.int .i64 t, .int .i64 v, .slice a n c] 83) := ⟨_, rfl⟩
  have hb0 : Below w.heap.size w W0 := by rw [hW0]; exact bel1 _ _
  have hlt : w.heap.size < W0.heap.size := by rw [hW0]; simp
  have c0 : W0.cell? ⟨w.heap.size, 0, none⟩ = some (.int .i64 t) := by rw [hW0]; simp [go_sem]
  have c1 : W0.cell? ⟨w.heap.size, 1, none⟩ = some (.int .i64 v) := by rw [hW0]; simp [go_sem]
  have c2 : W0.cell? ⟨w.heap.size, 2, none⟩ = some (.slice a n c) := by rw [hW0]; simp [go_sem]
  have HD := hide (fun (W : World) (hW : Below W0.heap.size W0 W) => (show ArgRow 3 entL goodE W a n c es from ⟨h.len, h.le, h.good, h.row.below (belOn hb0 hW)⟩))
  have HC := hide (fun (W : World) (hW : Below W0.heap.size W0 W) => And.intro (bcl hW hlt c0) (And.intro (bcl hW hlt c1) (bcl hW hlt c2)))
  have HFIN := hide (fun (W : World) (hW : Below W0.heap.size W0 W) => belOn hb0 hW)
  have HW0 := hide hW0.symm
  have HSZ := hide (szJournal_calls t v a n c es 1048576 W0 (unhide HD _ (Below.refl _ _)) (by decide))
  obtain ⟨A, hA⟩ : ∃ A, n + totE es = A := ⟨_, rfl⟩
  rw [hA] at HSZ
  by_cases hbig : 1048576 < A
  · rw [purse_no (show ((1048576 : Nat) : Int) < (A : Int) by omega)] at HSZ
    clear h hb0 hlt hW0 hA
    go_enter Try.func11, Try.ntmps11
    go_wp2_with fail
    rw [unhide HW0]
    refine (unhide HSZ).mono ?_
    rintro e w1 ⟨rfl, hb1⟩
    have HB1 := hide (unhide HFIN _ hb1)
    clear hb1
    go_wp2_with fail
    go_ret
    exact ⟨rfl, unhide HB1⟩
  · obtain ⟨r, hr⟩ : ∃ r : Nat, ((1048576 : Nat) : Int) - (A : Int) = (r : Int) := ⟨1048576 - A, by omega⟩
    rw [purse_yes (show ¬ ((1048576 : Nat) : Int) < (A : Int) by omega), hr] at HSZ
    have hn : n ≤ 1048576 := by omega
    have HLEN := hide h.len
    have HFI := hide (show ∀ e ∈ es, e.body.size ≤ 1000000000 from fun e he => by have := totE_mem es e he; omega)
    have HTO := hide (fun (W : World) (hW : Below W0.heap.size W0 W) => toJournal_calls t v a n c es W (unhide HD _ hW) hn)
    have HSP := hide (fun (W : World) (g B : Nat) (hO : OwnR entE W B (.slice (some ⟨g, 0, none⟩) n n) es) => spec_JournalOk t v _ n n es W ⟨hO.at, unhide HLEN, hn, unhide HFI⟩ (Nat.le_refl _))
    have HIM := hide (fun (W : World) (g B : Nat) (hO : OwnR entE W B (.slice (some ⟨g, 0, none⟩) n n) es) => impl_JournalOk t v _ n n es W ⟨hO.at, unhide HLEN, hn, unhide HFI⟩ (Nat.le_refl _))
    obtain ⟨R, hR⟩ : ∃ R, jouB t v es = R := ⟨_, rfl⟩
    rw [hR] at HSP HIM
    clear h hb0 hlt hW0 hbig hr c0 c1 c2 hR hA
    go_enter Try.func11, Try.ntmps11
    go_wp2_with fail
    rw [unhide HW0]
    refine (unhide HSZ).mono ?_
    rintro e w1 ⟨rfl, hb1⟩
    have HB1 := hide hb1
    obtain ⟨q0, q1, q2⟩ := unhide HC _ hb1
    clear hb1
    go_wp2_with fail
    refine (unhide HTO _ (unhide HB1)).mono ?_
    rintro e w2 ⟨g1, rfl, o1, hb2⟩
    have HB2 := hide (belOn (unhide HB1) hb2)
    have HA2 := hide o1
    clear hb2 o1 q0 q1 q2
    go_wp2_with fail
    refine (unhide HSP w2 _ _ (unhide HA2)).mono ?_
    rintro e w3 ⟨rfl, hb3⟩
    have HB3 := hide (belOn (unhide HB2) hb3)
    clear hb3 HA2
    obtain ⟨q0, q1, q2⟩ := unhide HC _ (unhide HB3)
    go_wp2_with fail
    refine (unhide HTO _ (unhide HB3)).mono ?_
    rintro e w4 ⟨g4, rfl, o1, hb4⟩
    obtain ⟨W5, hW5⟩ : ∃ W5, W5 = w4.alloc (.cells #[.int .i64 t, .int .i64 v, .slice (some ⟨g4, 0, none⟩) n n] 88) := ⟨_, rfl⟩
    have hb5 : Below w4.heap.size w4 W5 := by rw [hW5]; exact bel1 _ _
    have HB5 := hide (belOn (belOn (unhide HB3) hb4) hb5)
    have hlt5 : w4.heap.size < W5.heap.size := by rw [hW5]; simp
    have d0 : W5.cell? ⟨w4.heap.size, 0, none⟩ = some (.int .i64 t) := by rw [hW5]; simp [go_sem]
    have d1 : W5.cell? ⟨w4.heap.size, 1, none⟩ = some (.int .i64 v) := by rw [hW5]; simp [go_sem]
    have d2 : W5.cell? ⟨w4.heap.size, 2, none⟩ = some (.slice (some ⟨g4, 0, none⟩) n n) := by rw [hW5]; simp [go_sem]
    have HA5 := hide (o1.keep hb5)
    have HE := hide (fun (W : World) (hW : Below W5.heap.size W5 W) => And.intro (bcl hW hlt5 d0) (And.intro (bcl hW hlt5 d1) (bcl hW hlt5 d2)))
    have HW5 := hide hW5.symm
    clear hb4 hb5 o1 q0 q1 q2 d0 d1 d2 hW5 hlt5
    go_wp2_with fail
    rw [unhide HW5]
    refine (unhide HIM W5 _ _ (unhide HA5)).mono ?_
    rintro e w6 ⟨rfl, hb6⟩
    have HB6 := hide (belOn (unhide HB5) hb6)
    have HA6 := hide ((unhide HA5).keep hb6).at
    obtain ⟨q0, q1, q2⟩ := unhide HC _ (unhide HB6)
    obtain ⟨p0, p1, p2⟩ := unhide HE _ hb6
    have l1 : w.heap.size < w6.heap.size := lt_of_cell q0
    have l2 : w4.heap.size < w6.heap.size := lt_of_cell p0
    have HT7 := hide (unhide HTO w6.drew (belDrew (unhide HB6)))
    clear hb6
    go_wp2_with fail
    go_region_with (first
      | (go_at_call 55; refine (unhide HT7).mono ?_; rintro e w7 ⟨g7, rfl, o1, hb7⟩; have s0 := bcl (bOfDrew hb7) l1 q0; have s1 := bcl (bOfDrew hb7) l1 q1; have s2 := bcl (bOfDrew hb7) l1 q2; have t0 := bcl (bOfDrew hb7) l2 p0; have t1 := bcl (bOfDrew hb7) l2 p1; have t2 := bcl (bOfDrew hb7) l2 p2)
      | (go_at_call 57; refine (eqJournal_calls t v _ _ n _ _ es _ (unhide HLEN) (Nat.le_trans hn (by decide)) ((unhide HA6).below (bOfDrew hb7)) o1.at).mono ?_; rintro e w8 ⟨rfl, hb8⟩))
    all_goals (try go_wp2_with fail)
    all_goals (try go_ret)
    all_goals exact ⟨rfl, unhide HFIN _ (belOn (belOn (unhide HB6) (bOfDrew hb7)) hb8)⟩

set_option maxRecDepth 100000 in
theorem lifted (os : Os) (started : os.Started) (H : Type) (enc : TypeId × Value → H) :
    ReturnsInHanded {} Try.checked os 11 .any (Rows.fnExactJournalOkSpec.pre6 enc Try.prog Try.f11 Rows.fnExactJournalOkRow.domain false) (Rows.fnExactJournalOkSpec.post enc Try.prog Try.f11 false true false false) := by
  refine returnsInHanded_of_change (C := Try.checked) own started (by kernel_rfl) Try.func11
    (ChangeSpec.witness6 (enc := enc) (C := Try.checked) false ⟨#[], #[.agg #[.int .i64 0, .int .i64 0, .slice none 0 0]], []⟩ 8 (by kernel_rfl) (by kernel_rfl) (by kernel_rfl) (by kernel_rfl)) ?_
  intro W base args ds gs before hval0 hW hcnd _
  have hval : ∀ (j : Nat) t v, Try.f11.params[j]? = some t → args[j]? = some v → Value.okWide Try.prog W .any base t v := hval0
  have hW' := hW
  obtain ⟨p, q, hA0, hV, rfl, hfz, hnd⟩ := hW
  have hA : DataW.TrodAll enc Try.prog W 0 (fun _ => true) true Try.f11.params.toList args.toList ds p := hA0
  rw [Try.params11] at hA hval
  obtain ⟨v0, vs0, d0, ds0, p0, q0, hargs, rfl, rfl, h0, r0⟩ := trodAll_cons hA
  obtain ⟨rfl, rfl, rfl⟩ := trodAll_nil r0
  obtain rfl : args = #[v0] := by cases args; simp_all
  obtain ⟨rfl, rfl⟩ := trodVars_none hV
  have k0 := h0
  have lt0 : ∀ x ∈ p0, x.block < W.heap.size := by obtain ⟨m, hm⟩ := k0; exact DataW.trod_lt m _ _ _ hm
  obtain ⟨c0x0, c0x1, c0x2, y0x0, y0x1, y0x2, mm0, rfl, e0, f0, hy0x0, hy0x1, hy0x2⟩ := open_agg3 Try.underlying83 (by kernel_rfl) (by kernel_rfl) (hval 0 83 v0 rfl rfl) h0
  obtain ⟨a0x0, g0x0, _, w0x0⟩ := DataW.trod_int Try.underlying2 hy0x0
  obtain ⟨a0x1, g0x1, _, w0x1⟩ := DataW.trod_int Try.underlying2 hy0x1
  obtain ⟨a0x2, n0x2, l0x2, z0x2, g0x2, w0x2⟩ := openArg 3 entL goodE Try.underlying81 (by kernel_rfl) (by decide) rdEnt hy0x2
  simp at g0x0 g0x1
  subst g0x0 g0x1 g0x2
  clear hA0 hval0
  refine (walk a0x0 a0x1 a0x2 n0x2 l0x2 z0x2 W w0x0 w0x1 w0x2).mono fun e W' ⟨he, bel⟩ => ?_
  subst he
  exact ⟨_, rfl, _, _, _, [], _, [], hW', trodAll_mk1 (shut_bool Try.underlying4 _), (trodAll_cons_mk (Below.trod laidOut (by kernel_rfl) (of_decide_eq_true (by kernel_rfl)) k0 bel lt0) trodAll_mk0), rfl, bel.frame _, fun h => by cases h⟩

theorem over : Rows.fnExactJournalOkRow.holds Try.pinned (OpenSpec.ofChange Rows.fnExactJournalOkSpec) :=
  OpenClaim.holds_of_wide 11 Try.f11 rfl rfl rfl rfl rfl rfl rfl ⟨rfl, rfl, rfl, rfl, rfl⟩ rfl rfl rfl rfl rfl (by kernel_rfl) Try.func11 (by kernel_rfl)
    (of_decide_eq_true (by kernel_rfl)) (by unfold Func.isWrapper; first | (rw [if_pos (by decide +kernel)]; kernel_rfl) | (rw [if_neg (by decide +kernel)]; exact ⟨rfl, rfl⟩))
    (fun os started H enc _ => lifted os started H enc)

end Go.Proofs.Ytgbcaoomemfofaa.fnExactJournalOk
namespace Go.Proofs.Ytgbcaoomemfofaa
theorem fnExactJournalOk_holds : Rows.FnExactJournalOkSaid := fnExactJournalOk.over
#print axioms fnExactJournalOk_holds
end Go.Proofs.Ytgbcaoomemfofaa
