/- For every list of texts, Whole of the program answers the text and the flag that Whole of the specification answers, and leaves its argument as it was; nothing that was there is changed. No condition. -/
import Derived.Test.YtnkjdojpegmlcaaRows
import Derived.Test.YtnkjdojpegmlcaaWhW
import Derived.WalkKit
import Derived.ProofKit
import Derived.OpenShut
import Derived.ShutString
import Derived.ChangeOld
import Derived.Below
import Derived.SliceStrings
namespace Go.Proofs.Ytnkjdojpegmlcaa.fnExactWhole
open Go.ChangeShapes Go.WideShapes Go.ChangeAt Go.RowKit
open Go.ChangeMaps (open_string shut_string)
open Plain
set_option linter.unusedVariables false

theorem own : ownKnob Try.prog.godebug = none := by kernel_rfl
theorem laidOut : laidOutB Try.prog = true := by kernel_rfl

set_option maxRecDepth 10000 in
set_option maxHeartbeats 4000000 in
theorem walk (ad : Option Addr) (n c0 : Nat) (ps : List ByteArray) (w : World) (hp : StrsRow w ad n c0 ps) :
    Calls Try.prog 5 #[.slice ad n c0] w fun e w' => e = .returned (.bool true) ∧ Below w.heap.size w w' := by
  obtain ⟨hn, hn2, hs, hr⟩ := hp
  unfold maxLen at hn2 hs
  have HN := hide hn
  have HSZ := hide (szStringS_calls ad n c0 ps 1048576 w hn (by omega) (fun l hl => by have := hs l hl; omega) (by omega) (by omega) hr)
  have HA := hide (fun (W : World) (hW : Below w.heap.size w W) => hr.below hW)
  have HS := hide hs
  unfold szL at HSZ
  rw [hn] at HSZ
  by_cases hbig : (1048576 : Int) < (n : Int) + sumZ ps
  · rw [if_pos hbig] at HSZ
    clear hn hn2 hs hr hbig
    go_enter Try.func5, Try.ntmps5
    go_wp2_with fail
    refine (unhide HSZ).mono ?_
    rintro e w1 ⟨rfl, hb1⟩
    have HB1 := hide hb1
    clear hb1
    go_wp2_with fail
    go_ret
    exact ⟨rfl, unhide HB1⟩
  · rw [if_neg hbig] at HSZ
    obtain ⟨r, hr2⟩ : ∃ r : Nat, (1048576 : Int) - ((n : Int) + sumZ ps) = (r : Int) := ⟨1048576 - (n + sumZ ps), by omega⟩
    rw [hr2] at HSZ
    have hz : ∀ s ∈ ps, s.size ≤ 1048576 := fun s hs => by have := sumZ_mem ps s hs; omega
    have hn3 : n ≤ 1048576 := by omega
    have HTO := hide (fun (W : World) (hW : Below w.heap.size w W) => toStringS_calls ad n c0 ps W hn hn3 (hr.below hW))
    have HI := hide (fun (W : World) (a : Option Addr) (c : Nat) (h : StrsAt W a ps) => impl_Whole a n c ps W hn hn3 hz h)
    have HW := hide (fun (W : World) (a : Option Addr) (c : Nat) (h : StrsAt W a ps) => spec_Whole a n c ps W hn hn3 hz h)
    unfold WhPost at HI HW
    generalize (wholeR ps).1 = T at HI HW
    generalize (wholeR ps).2 = g at HI HW
    clear hn hn2 hs hr hbig hz hr2 HS
    go_enter Try.func5, Try.ntmps5
    go_wp2_with fail
    refine (unhide HSZ).mono ?_
    rintro e w1 ⟨rfl, hb1⟩
    have HB1 := hide hb1
    clear hb1
    go_wp2_with fail
    refine (unhide HTO _ (unhide HB1)).mono ?_
    rintro e w2 ⟨g2, rfl, ho2, hb2⟩
    have HB2 := hide (belOn (unhide HB1) hb2)
    have HS2 := hide ho2.at.strs
    clear hb2 ho2
    go_wp2_with fail
    refine (unhide HW _ _ _ (unhide HS2)).mono ?_
    rintro e w3 ⟨rfl, hb3⟩
    have HB3 := hide (belOn (unhide HB2) hb3)
    clear hb3 HS2
    go_wp2_with fail
    refine (unhide HTO _ (unhide HB3)).mono ?_
    rintro e w4 ⟨g4, rfl, ho4, hb4⟩
    have HB4 := hide (belOn (unhide HB3) hb4)
    have HS4 := hide ho4.at.strs
    clear hb4 ho4
    go_wp2_with fail
    refine (unhide HI _ _ _ (unhide HS4)).mono ?_
    rintro e w5 ⟨rfl, hb5⟩
    have HB5 := hide (belOn (unhide HB4) hb5)
    have HS5 := hide ((unhide HS4).below hb5)
    clear hb5 HS4
    go_wp2_with fail
    refine (unhide HTO _ (unhide HB5)).mono ?_
    rintro e w6 ⟨g6, rfl, ho6, hb6⟩
    have HB6 := hide (belOn (unhide HB5) hb6)
    have HS6 := hide ho6.at.strs
    have HS5b := hide ((unhide HS5).below hb6)
    clear hb6 ho6 HS5
    go_wp2_with fail
    refine (eqStringS_calls _ _ n n n ps _ (unhide HN) (by omega) (unhide HS5b) (unhide HS6)).mono ?_
    rintro e w7 ⟨rfl, hb7⟩
    have HB7 := hide (belOn (unhide HB6) hb7)
    clear hb7
    go_wp2_with fail
    go_ret
    exact ⟨rfl, unhide HB7⟩

set_option maxRecDepth 100000 in
theorem lifted (os : Os) (started : os.Started) (H : Type) (enc : TypeId × Value → H) :
    ReturnsInHanded {} Try.checked os 5 .any (Rows.fnExactWholeSpec.pre6 enc Try.prog Try.f5 Rows.fnExactWholeRow.domain false) (Rows.fnExactWholeSpec.post enc Try.prog Try.f5 false true false false) := by
  refine returnsInHanded_of_change (C := Try.checked) own started (by kernel_rfl) Try.func5
    (ChangeSpec.witness6 (enc := enc) (C := Try.checked) false ⟨#[], #[.slice none 0 0], []⟩ 8 (by kernel_rfl) (by kernel_rfl) (by kernel_rfl) (by kernel_rfl)) ?_
  intro W base args ds gs before hval0 hW hcnd _
  have hval : ∀ (j : Nat) t v, Try.f5.params[j]? = some t → args[j]? = some v → Value.okWide Try.prog W .any base t v := hval0
  have hW' := hW
  obtain ⟨p, q, hA0, hV, rfl, hfz, hnd⟩ := hW
  have hA : DataW.TrodAll enc Try.prog W 0 (fun _ => true) true Try.f5.params.toList args.toList ds p := hA0
  rw [Try.params5] at hA hval
  obtain ⟨v0, vs0, d0, ds0, p0, q0, hargs, rfl, rfl, h0, r0⟩ := trodAll_cons hA
  obtain ⟨rfl, rfl, rfl⟩ := trodAll_nil r0
  obtain rfl : args = #[v0] := by cases args; simp_all
  obtain ⟨rfl, rfl⟩ := trodVars_none hV
  have k0 := h0
  have lt0 : ∀ x ∈ p0, x.block < W.heap.size := by obtain ⟨m, hm⟩ := k0; exact DataW.trod_lt m _ _ _ hm
  obtain ⟨b0, len0, cap0, rfl⟩ := okWide_slice Try.underlying26 (hval 0 26 v0 rfl rfl)
  obtain ⟨z0, w0⟩ : ∃ zs, StrsRow W b0 len0 cap0 zs := by
    obtain ⟨fuel, hf⟩ := h0
    rcases open_strings Try.underlying26 Try.underlying9 (by kernel_rfl) (by simpa [Value.cells] using hf) with ⟨hcs, _⟩ | ⟨x, l, c, ss, hcs, _, hl, hm, hz, _, hcell, hsz⟩
    · simp at hcs
      obtain ⟨rfl, rfl, rfl⟩ := hcs
      exact ⟨[], rfl, Nat.zero_le _, fun _ h => by simp at h, StrsAt.nil _ _⟩
    · simp at hcs hz
      obtain ⟨rfl, rfl, rfl⟩ := hcs
      exact ⟨ss.take len0, by rw [List.length_take]; omega, Nat.le_trans hl hm, fun s hs => hsz s (List.mem_of_mem_take hs), StrsAt.of_cells (by omega) hcell⟩
  clear hA0 hval0
  refine (walk b0 len0 cap0 z0 W w0).mono fun e W' ⟨he, bel⟩ => ?_
  subst he
  exact ⟨_, rfl, _, _, _, [], _, [], hW', trodAll_mk1 (shut_bool Try.underlying4 _), (trodAll_cons_mk (Below.trod laidOut (by kernel_rfl) (of_decide_eq_true (by kernel_rfl)) k0 bel lt0) trodAll_mk0), rfl, bel.frame _, fun h => by cases h⟩

theorem named : Try.pinned.checked.prog.funcNamed Rows.fnExactWholeRow.func = some 5 := by kernel_rfl
theorem closed : joinedFacts Try.pinned.checked.prog 5 Try.f5 Rows.fnExactWholeSpec Rows.fnExactWholeRow = true := by kernel_rfl
theorem over : Rows.fnExactWholeRow.holds Try.pinned (OpenSpec.ofChange Rows.fnExactWholeSpec) :=
  OpenClaim.holds_of_wide 5 Try.f5 rfl rfl rfl rfl rfl rfl rfl ⟨rfl, rfl, rfl, rfl, rfl⟩ rfl rfl rfl rfl rfl named Try.func5 closed
    (of_decide_eq_true (by kernel_rfl)) (by unfold Func.isWrapper; first | (rw [if_pos (by decide +kernel)]; kernel_rfl) | (rw [if_neg (by decide +kernel)]; exact ⟨rfl, rfl⟩))
    (fun os started H enc _ => lifted os started H enc)

end Go.Proofs.Ytnkjdojpegmlcaa.fnExactWhole
namespace Go.Proofs.Ytnkjdojpegmlcaa
theorem fnExactWhole_holds : Rows.FnExactWholeSaid := fnExactWhole.over
#print axioms fnExactWhole_holds
end Go.Proofs.Ytnkjdojpegmlcaa
