/- For every manifest, WriteManifest of the program answers the text that WriteManifest of the specification answers, and leaves its argument as it was; nothing that was there is changed. No condition. -/
import Derived.Test.YtkeindhefiaghaaRows
import Derived.Test.YtkeindhefiaghaaManL
import Derived.WalkKit
import Derived.ProofKit
import Derived.OpenShut
import Derived.ShutString
import Derived.ChangeOld
import Derived.Below
import Derived.Lib.SmallJoins
import Derived.SliceStrings
namespace Go.Proofs.Ytkeindhefiaghaa.fnExactWriteManifest
open Go.ChangeShapes Go.WideShapes Go.ChangeAt Go.RowKit Go.Joins
open Go.ChangeMaps (open_string shut_string)
open Plain
set_option linter.unusedVariables false

theorem own : ownKnob Try.prog.godebug = none := by kernel_rfl
theorem laidOut : laidOutB Try.prog = true := by kernel_rfl

set_option maxRecDepth 10000 in
set_option maxHeartbeats 4000000 in
theorem walk (cf : ByteArray) (a : Option Addr) (n c : Nat) (ls : List ByteArray) (w : World) (w0 : cf.size ≤ maxLen) (w1 : StrsRow w a n c ls) :
    Calls Try.prog 7 #[.agg #[.string cf, .slice a n c]] w fun e w' => e = .returned (.bool true) ∧ Below w.heap.size w w' := by
  obtain ⟨hn, hn2, hs, hr⟩ := w1
  unfold maxLen at w0 hn2 hs
  have hb0 := bel1 w (.cells #[.string cf, .slice a n c] 56)
  have HB0 := hide hb0
  have HR := hide (hr.below hb0)
  have hlt : w.heap.size < (w.alloc (.cells #[.string cf, .slice a n c] 56)).heap.size := by simp
  have c0 : (w.alloc (.cells #[.string cf, .slice a n c] 56)).cell? ⟨w.heap.size, 0, none⟩ = some (.string cf) := by simp [go_sem]
  have c1 : (w.alloc (.cells #[.string cf, .slice a n c] 56)).cell? ⟨w.heap.size, 1, none⟩ = some (.slice a n c) := by simp [go_sem]
  have HS := hide hs
  have HN := hide hn
  have HLT := hide hlt
  have HC0 := hide c0
  have HC1 := hide c1
  clear hs hn hlt c0 c1 hr hb0
  go_enter Try.func7, Try.ntmps7
  go_wp2_with fail
  refine (szManifest_calls cf a n c ls 1048576 _ (by omega) (unhide HN) (by omega) (fun l hl => by have := unhide HS l hl; omega) (by omega) (by omega) (unhide HR)).mono ?_
  rintro e w1 ⟨rfl, hb1⟩
  by_cases hbig : szM cf ls 1048576 < 0
  · have HB1 := hide (belOn (unhide HB0) hb1)
    clear hb1
    go_wp2_with fail
    go_ret
    exact ⟨rfl, unhide HB1⟩
  · obtain ⟨f1, f2, f3⟩ := szM_fit hbig
    have HF3 := hide (show ∀ l ∈ ls, l.size ≤ 1048576 from fun l hl => by have := sumL_mem ls l hl; omega)
    rw [unhide HN] at f2
    have HB1 := hide (belOn (unhide HB0) hb1)
    have HR1 := hide ((unhide HR).below hb1)
    have p0 := bcl hb1 (unhide HLT) (unhide HC0)
    have p1 := bcl hb1 (unhide HLT) (unhide HC1)
    have HP0 := hide p0
    have HP1 := hide p1
    have hlt1 : w.heap.size < w1.heap.size := Nat.lt_of_lt_of_le (unhide HLT) hb1.size
    generalize szM cf ls 1048576 = rest at hbig
    clear hb1 HB0 HR HC0 HC1 HLT HS f3
    go_wp2_with fail
    refine (toManifest_calls cf a n c ls _ (unhide HN) f2 (unhide HR1)).mono ?_
    rintro e w2 ⟨g2, rfl, ho2, hb2⟩
    have HB2 := hide (belOn (unhide HB1) hb2)
    have HR2 := hide ((unhide HR1).below hb2)
    have q0 := bcl hb2 hlt1 p0
    have q1 := bcl hb2 hlt1 p1
    have hlt2 : w.heap.size < w2.heap.size := Nat.lt_of_lt_of_le hlt1 hb2.size
    have HS2 := hide ho2.at.strs
    clear p0 p1 hb2 ho2 HB1 HR1 HP0 HP1 hlt1
    go_wp2_with fail
    refine (spec_WriteManifest cf _ n n ls _ (by omega) (unhide HN) (by omega) (fun l hl => by have := unhide HF3 l hl; omega) (unhide HS2)).mono ?_
    rintro e w3 ⟨rfl, hb3⟩
    have HB3 := hide (belOn (unhide HB2) hb3)
    have HR3 := hide ((unhide HR2).below hb3)
    have p0 := bcl hb3 hlt2 q0
    have p1 := bcl hb3 hlt2 q1
    have hlt3 : w.heap.size < w3.heap.size := Nat.lt_of_lt_of_le hlt2 hb3.size
    clear q0 q1 hb3 HB2 HR2 HS2 hlt2
    go_wp2_with fail
    refine (toManifest_calls cf a n c ls _ (unhide HN) f2 (unhide HR3)).mono ?_
    rintro e w4 ⟨g4, rfl, ho4, hb4⟩
    have hb5 := bel1 w4 (.cells #[.string cf, .slice (some ⟨g4, 0, none⟩) n n] 26)
    have HB5 := hide (belOn (belOn (unhide HB3) hb4) hb5)
    have HR5 := hide (((unhide HR3).below hb4).below hb5)
    have hlt4 : w.heap.size < w4.heap.size := Nat.lt_of_lt_of_le hlt3 hb4.size
    have HX5 := hide (ho4.at.strs.below hb5)
    have q0 := bcl hb5 hlt4 (bcl hb4 hlt3 p0)
    have q1 := bcl hb5 hlt4 (bcl hb4 hlt3 p1)
    have x0 : (w4.alloc (.cells #[.string cf, .slice (some ⟨g4, 0, none⟩) n n] 26)).cell? ⟨w4.heap.size, 0, none⟩ = some (.string cf) := by simp [go_sem]
    have x1 : (w4.alloc (.cells #[.string cf, .slice (some ⟨g4, 0, none⟩) n n] 26)).cell? ⟨w4.heap.size, 1, none⟩ = some (.slice (some ⟨g4, 0, none⟩) n n) := by simp [go_sem]
    have hlt5 : w4.heap.size < (w4.alloc (.cells #[.string cf, .slice (some ⟨g4, 0, none⟩) n n] 26)).heap.size := by simp
    have HQ0 := hide q0
    have HQ1 := hide q1
    have HX0 := hide x0
    have HX1 := hide x1
    have HL5 := hide hlt5
    clear p0 p1 q0 q1 x0 x1 hlt5 hb4 hb5 ho4 HB3 HR3 hlt3
    go_wp2_with fail
    refine (impl_WriteManifest cf _ n n ls _ (by omega) (unhide HN) (by omega) (fun l hl => by have := unhide HF3 l hl; omega) (unhide HX5)).mono ?_
    rintro e w6 ⟨rfl, hb6⟩
    have HB6 := hide (belOn (unhide HB5) hb6)
    have HR6 := hide ((unhide HR5).below hb6)
    have HX6 := hide ((unhide HX5).below hb6)
    have q0 := bcl hb6 (Nat.lt_trans hlt4 (unhide HL5)) (unhide HQ0)
    have q1 := bcl hb6 (Nat.lt_trans hlt4 (unhide HL5)) (unhide HQ1)
    have x0 := bcl hb6 (unhide HL5) (unhide HX0)
    have x1 := bcl hb6 (unhide HL5) (unhide HX1)
    have hl6 : w4.heap.size < w6.heap.size := Nat.lt_of_lt_of_le (unhide HL5) hb6.size
    generalize manS cf ls = s
    clear hb6 HB5 HR5 HX5 HQ0 HQ1 HX0 HX1 HL5 hlt4
    go_wp2_with fail
    have lt6 : w4.heap.size < w6.drew.heap.size := hl6
    go_region_with (first | (go_at_call 41; refine (toManifest_calls cf a n c ls w6.drew (unhide HN) f2 ((unhide HR6).below (belDrew (Below.refl _ _)))).mono ?_; rintro e w7 ⟨g7, rfl, ho7, hb7⟩; have y0 := bcl hb7 lt6 x0; have y1 := bcl hb7 lt6 x1) | (go_at_call 42; refine (eqManifest_calls cf _ _ n n n ls _ (unhide HN) (by omega) (((unhide HX6).below (belDrew (Below.refl _ _))).below hb7) ho7.at.strs).mono ?_; rintro e w8 ⟨rfl, hb8⟩))
    all_goals (try go_wp2_with fail)
    all_goals go_ret
    all_goals exact ⟨rfl, belOn (belOn (belOn (unhide HB6) (belDrew (Below.refl _ _))) hb7) hb8⟩

set_option maxRecDepth 100000 in
theorem lifted (os : Os) (started : os.Started) (H : Type) (enc : TypeId × Value → H) :
    ReturnsInHanded {} Try.checked os 7 .any (Rows.fnExactWriteManifestSpec.pre6 enc Try.prog Try.f7 Rows.fnExactWriteManifestRow.domain false) (Rows.fnExactWriteManifestSpec.post enc Try.prog Try.f7 false true false false) := by
  refine returnsInHanded_of_change (C := Try.checked) own started (by kernel_rfl) Try.func7
    (ChangeSpec.witness6 (enc := enc) (C := Try.checked) false ⟨#[], #[.agg #[.string ByteArray.empty, .slice none 0 0]], []⟩ 8 (by kernel_rfl) (by kernel_rfl) (by kernel_rfl) (by kernel_rfl)) ?_
  intro W base args ds gs before hval0 hW hcnd _
  have hval : ∀ (j : Nat) t v, Try.f7.params[j]? = some t → args[j]? = some v → Value.okWide Try.prog W .any base t v := hval0
  have hW' := hW
  obtain ⟨p, q, hA0, hV, rfl, hfz, hnd⟩ := hW
  have hA : DataW.TrodAll enc Try.prog W 0 (fun _ => true) true Try.f7.params.toList args.toList ds p := hA0
  rw [Try.params7] at hA hval
  obtain ⟨v0, vs0, d0, ds0, p0, q0, hargs, rfl, rfl, h0, r0⟩ := trodAll_cons hA
  obtain ⟨rfl, rfl, rfl⟩ := trodAll_nil r0
  obtain rfl : args = #[v0] := by cases args; simp_all
  obtain ⟨rfl, rfl⟩ := trodVars_none hV
  have k0 := h0
  have lt0 : ∀ x ∈ p0, x.block < W.heap.size := by obtain ⟨m, hm⟩ := k0; exact DataW.trod_lt m _ _ _ hm
  obtain ⟨c0x0, c0x1, y0x0, y0x1, mm0, rfl, e0, f0, hy0x0, hy0x1⟩ := open_agg2 Try.underlying56 (by kernel_rfl) (by kernel_rfl) (hval 0 56 v0 rfl rfl) h0
  obtain ⟨a0x0, g0x0, _, w0x0⟩ := DataW.trod_string Try.underlying9 hy0x0
  obtain ⟨a0x1, n0x1, l0x1, z0x1, g0x1, w0x1⟩ : ∃ a n l zs, c0x1 = .slice a n l ∧ StrsRow W a n l zs := by
    rcases open_strings Try.underlying24 Try.underlying9 (by kernel_rfl) hy0x1 with ⟨hcs, _⟩ | ⟨x, l, c, ss, hcs, _, hl, hm, hz, _, hcell, hsz⟩
    · exact ⟨none, 0, 0, [], by simpa using hcs, rfl, Nat.zero_le _, fun _ h => by simp at h, StrsAt.nil _ _⟩
    · simp at hz
      exact ⟨some x, l, c, ss.take l, by simpa using hcs, by rw [List.length_take]; omega, Nat.le_trans hl hm, fun s hs => hsz s (List.mem_of_mem_take hs), StrsAt.of_cells (by omega) hcell⟩
  simp at g0x0 g0x1
  subst g0x0 g0x1
  clear hA0 hval0
  refine (walk a0x0 a0x1 n0x1 l0x1 z0x1 W w0x0 w0x1).mono fun e W' ⟨he, bel⟩ => ?_
  subst he
  exact ⟨_, rfl, _, _, _, [], _, [], hW', trodAll_mk1 (shut_bool Try.underlying4 _), (trodAll_cons_mk (Below.trod laidOut (by kernel_rfl) (of_decide_eq_true (by kernel_rfl)) k0 bel lt0) trodAll_mk0), rfl, bel.frame _, fun h => by cases h⟩

theorem over : Rows.fnExactWriteManifestRow.holds Try.pinned (OpenSpec.ofChange Rows.fnExactWriteManifestSpec) :=
  OpenClaim.holds_of_wide 7 Try.f7 rfl rfl rfl rfl rfl rfl rfl ⟨rfl, rfl, rfl, rfl, rfl⟩ rfl rfl rfl rfl rfl (by kernel_rfl) Try.func7 (by kernel_rfl)
    (of_decide_eq_true (by kernel_rfl)) (by unfold Func.isWrapper; first | (rw [if_pos (by decide +kernel)]; kernel_rfl) | (rw [if_neg (by decide +kernel)]; exact ⟨rfl, rfl⟩))
    (fun os started H enc _ => lifted os started H enc)

end Go.Proofs.Ytkeindhefiaghaa.fnExactWriteManifest
namespace Go.Proofs.Ytkeindhefiaghaa
theorem fnExactWriteManifest_holds : Rows.FnExactWriteManifestSaid := fnExactWriteManifest.over
#print axioms fnExactWriteManifest_holds
end Go.Proofs.Ytkeindhefiaghaa
