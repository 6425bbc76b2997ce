/- For every reference, WriteRef of the program answers the text that WriteRef of the specification answers; nothing that was there is changed. No condition but the card's own: the tables of unicode/utf8 are as the library's text lays them (the call never reads them). -/
import Derived.Test.YtkeindhefiaghaaDoorRows
import Derived.Test.YtkeindhefiaghaaDoorRRefT
import Derived.Test.YtkeindhefiaghaaDoorTie
import Derived.Test.YtkeindhefiaghaaDoorCards
import Derived.LaidMore
import Derived.Lay
import Derived.SevenTiedAt
import Derived.Stop.Joined
import Derived.WalkKit
import Derived.ProofKit
import Derived.OpenShut
import Derived.ShutString
import Derived.ChangeOld
import Derived.Below
import Derived.Lib.SmallJoins
namespace Go.Proofs.YtkeindhefiaghaaDoor.fnExactWriteRef
open Go.ChangeShapes Go.WideShapes Go.ChangeAt Go.RowKit Go.Joins
open Go.ChangeMaps (open_string shut_string)
open Plain
set_option linter.unusedVariables false

theorem own : ownKnob Tryd.prog.godebug = none := by kernel_rfl
theorem laidOut : laidOutB Tryd.prog = true := by kernel_rfl

theorem szRef_calls (r t d : ByteArray) (w : World) (hr : r.size ≤ maxLen) (ht : t.size ≤ maxLen) (hd : d.size ≤ maxLen) :
    Calls Tryd.prog 18 #[.agg #[.string r, .string t, .string d], .int .i64 1048576] w fun e w' => Below w.heap.size w w' ∧ ((e = .returned (.int .i64 (-1))) ∨ (r.size ≤ 1048576 ∧ t.size ≤ 1048576 ∧ d.size ≤ 1048576 ∧ ∃ x : Nat, x ≤ 1048576 ∧ e = .returned (.int .i64 x))) := by
  unfold maxLen at hr ht hd
  by_cases h1 : 1048576 < r.size
  · have i1 : (1048576 : Int) - (r.size : Int) < 0 := by omega
    go_enter Tryd.func18, Tryd.ntmps18
    go_wp2_with fail
    go_ret
    exact ⟨(Below.refl _ _).alloc (Nat.le_refl _) _, .inl rfl⟩
  · have i1 : ¬ ((1048576 : Int) - (r.size : Int) < 0) := by omega
    by_cases h2 : 1048576 < r.size + t.size
    · have i2 : (1048576 : Int) - (r.size : Int) - (t.size : Int) < 0 := by omega
      go_enter Tryd.func18, Tryd.ntmps18
      go_wp2_with fail
      go_ret
      exact ⟨(Below.refl _ _).alloc (Nat.le_refl _) _, .inl rfl⟩
    · have i2 : ¬ ((1048576 : Int) - (r.size : Int) - (t.size : Int) < 0) := by omega
      by_cases h3 : 1048576 < r.size + t.size + d.size
      · have i3 : (1048576 : Int) - (r.size : Int) - (t.size : Int) - (d.size : Int) < 0 := by omega
        go_enter Tryd.func18, Tryd.ntmps18
        go_wp2_with fail
        go_ret
        exact ⟨(Below.refl _ _).alloc (Nat.le_refl _) _, .inl rfl⟩
      · have i3 : ¬ ((1048576 : Int) - (r.size : Int) - (t.size : Int) - (d.size : Int) < 0) := by omega
        go_enter Tryd.func18, Tryd.ntmps18
        go_wp2_with fail
        go_ret
        exact ⟨(Below.refl _ _).alloc (Nat.le_refl _) _, .inr ⟨by omega, by omega, by omega, 1048576 - r.size - t.size - d.size, by omega, by go_num⟩⟩

theorem toRef_calls (r t d : ByteArray) (w : World) :
    Calls Tryd.prog 19 #[.agg #[.string r, .string t, .string d]] w fun e w' => e = .returned (.agg #[.string r, .string t, .string d]) ∧ Below w.heap.size w w' := by
  go_enter Tryd.func19, Tryd.ntmps19
  go_wp2_with fail
  exact bodyPost_ret (v := .agg #[.string r, .string t, .string d]) (by simp [results, Tryd.results19, go_sem]) rfl ⟨rfl, by repeat (first | exact Below.refl _ _ | refine belowSet ?_ (by omega) _ | refine belowAlloc (Nat.le_refl _) ?_ _)⟩

theorem walk (r t d : ByteArray) (w : World) (w0 : r.size ≤ maxLen) (w1 : t.size ≤ maxLen) (w2 : d.size ≤ maxLen) :
    Calls Tryd.prog 6 #[.agg #[.string r, .string t, .string d]] w fun e w' => e = .returned (.bool true) ∧ Below w.heap.size w w' := by
  have HS := fun w => szRef_calls r t d w w0 w1 w2
  unfold maxLen at w0 w1 w2
  go_enter Tryd.func6, Tryd.ntmps6
  go_wp2_with fail
  refine (HS _).mono ?_
  rintro e v1 ⟨hb1, hh⟩
  have HB1 := hide (belowVia (Nat.le_refl w.heap.size) hb1 (by repeat (first | exact Below.refl _ _ | refine belowAlloc (Nat.le_refl _) ?_ _)))
  obtain ⟨hc1, hf1⟩ := bcell hb1
  have hz1 := hb1.size
  simp at hz1
  clear hb1 HS
  rcases hh with rfl | ⟨s1, s2, s3, x, hx, rfl⟩
  · go_wp2_with fail
    go_ret
    exact ⟨rfl, unhide HB1⟩
  · go_wp2_with fail
    refine (toRef_calls r t d _).mono ?_
    rintro e v2 ⟨rfl, hb2⟩
    have HB2 := hide ((unhide HB1).trans (hb2.mono (unhide HB1).size))
    obtain ⟨hc2, hf2⟩ := bcell hb2
    have hz2 := hb2.size
    clear hb2
    go_wp2_with fail
    refine (spec_WriteRef r t d _ (by omega) (by omega) (by omega)).mono ?_
    rintro e v3 ⟨rfl, hb3⟩
    have HB3 := hide ((unhide HB2).trans (hb3.mono (unhide HB2).size))
    obtain ⟨hc3, hf3⟩ := bcell hb3
    have hz3 := hb3.size
    clear hb3
    have hA : v3.cell? ⟨w.heap.size, 0, none⟩ = some (.string r) := by rw [hc3 _ _ (by omega), hc2 _ _ (by omega), hc1 _ _ (by simp)]; simp [go_sem]
    have hB : v3.cell? ⟨w.heap.size, 1, none⟩ = some (.string t) := by rw [hc3 _ _ (by omega), hc2 _ _ (by omega), hc1 _ _ (by simp)]; simp [go_sem]
    have hC : v3.cell? ⟨w.heap.size, 2, none⟩ = some (.string d) := by rw [hc3 _ _ (by omega), hc2 _ _ (by omega), hc1 _ _ (by simp)]; simp [go_sem]
    clear hc1 hc2 hc3 hf1 hf2 hf3
    go_wp2_with fail
    refine (toRef_calls r t d _).mono ?_
    rintro e v4 ⟨rfl, hb4⟩
    have HB4 := hide ((unhide HB3).trans (hb4.mono (unhide HB3).size))
    clear hb4
    go_wp2_with fail
    refine (impl_WriteRef r t d _ (by omega) (by omega) (by omega)).mono ?_
    rintro e v5 ⟨rfl, hb5⟩
    have HB5 := hide ((unhide HB4).trans (hb5.mono (unhide HB4).size))
    clear hb5
    generalize wrefS r t d = res
    go_wp2_with fail
    go_ret
    exact ⟨rfl, unhide HB5⟩

set_option maxRecDepth 100000 in
theorem lifted (os : Os) (started : os.Started) (H : Type) (enc : TypeId × Value → H) :
    ReturnsInHanded {} Tryd.checked os 6 .any (fun w args => (Rows.fnExactWriteRefSpec.pre enc Tryd.prog Tryd.f6 [] false w args ∧ laidMetH Tryd.prog Rows.fnExactWriteRefRow.laid w) ∧ sizedMet enc Tryd.prog Tryd.f6 (OpenSpec.ofChange Rows.fnExactWriteRefSpec) false w args)
      (Rows.fnExactWriteRefSpec.post enc Tryd.prog Tryd.f6 false true false false) := by
  refine returnsInHanded_of_change_and (C := Tryd.checked) (X := fun w _ => laidMetH Tryd.prog Rows.fnExactWriteRefRow.laid w) (fun _ _ _ hh h => h.of_heap hh) own started (by kernel_rfl) Tryd.func6
    (ChangeSpec.witness_shaped (enc := enc) (C := Tryd.checked) (os := os) (X := fun w _ => laidMetH Tryd.prog Rows.fnExactWriteRefRow.laid w) false (World.laidAll Tryd.prog os Rows.fnExactWriteRefRow.laid) #[.agg #[.string ByteArray.empty, .string ByteArray.empty, .string ByteArray.empty]] 8 (World.laidAll_os _ _ _)
      (World.shaped_of_ZipB (by kernel_rfl) (by kernel_rfl)) (by kernel_rfl) (by kernel_rfl) (by kernel_rfl)
      (by rw [MakeChecks.laidMetH_plain _ _ _ (by kernel_rfl)]; exact laidMet_laidAll _ (by kernel_rfl) (by kernel_rfl))) ?_
  intro W base args ds gs before hval0 hW _ _ hL _
  have hval : ∀ (j : Nat) t v, Tryd.f6.params[j]? = some t → args[j]? = some v → Value.okWide Tryd.prog W .any base t v := hval0
  have hW' := hW
  obtain ⟨p, q, hA0, hV, rfl, hfz, hnd⟩ := hW
  have hA : DataW.TrodAll enc Tryd.prog W 0 (fun _ => true) true Tryd.f6.params.toList args.toList ds p := hA0
  rw [Tryd.params6] at hA hval
  obtain ⟨v0, vs0, d0, ds0, p0, q0, hargs, rfl, rfl, h0, r0⟩ := trodAll_cons hA
  obtain ⟨rfl, rfl, rfl⟩ := trodAll_nil r0
  obtain rfl : args = #[v0] := by cases args; simp_all
  obtain ⟨rfl, rfl⟩ := trodVars_none hV
  have k0 := h0
  have lt0 : ∀ x ∈ p0, x.block < W.heap.size := by obtain ⟨m, hm⟩ := k0; exact DataW.trod_lt m _ _ _ hm
  obtain ⟨c0x0, c0x1, c0x2, y0x0, y0x1, y0x2, mm0, rfl, e0, f0, hy0x0, hy0x1, hy0x2⟩ := open_agg3 Tryd.underlying34 (by kernel_rfl) (by kernel_rfl) (hval 0 34 v0 rfl rfl) h0
  obtain ⟨a0x0, g0x0, _, w0x0⟩ := DataW.trod_string Tryd.underlying9 hy0x0
  obtain ⟨a0x1, g0x1, _, w0x1⟩ := DataW.trod_string Tryd.underlying9 hy0x1
  obtain ⟨a0x2, g0x2, _, w0x2⟩ := DataW.trod_string Tryd.underlying9 hy0x2
  simp at g0x0 g0x1 g0x2
  subst g0x0 g0x1 g0x2
  clear hA0 hval0
  refine (walk a0x0 a0x1 a0x2 W w0x0 w0x1 w0x2).mono fun e W' ⟨he, bel⟩ => ?_
  subst he
  exact ⟨_, rfl, _, _, _, [], _, [], hW', trodAll_mk1 (shut_bool Tryd.underlying4 _), (trodAll_cons_mk (Below.trod laidOut (by kernel_rfl) (of_decide_eq_true (by kernel_rfl)) k0 bel lt0) trodAll_mk0), rfl, bel.frame _, fun h => by cases h⟩

theorem over : Rows.fnExactWriteRefRow.holds Tryd.pinned (OpenSpec.ofChange Rows.fnExactWriteRefSpec) :=
  OpenClaim.holds_of_wide 6 Tryd.f6 rfl rfl rfl rfl rfl rfl rfl ⟨rfl, rfl, rfl, rfl, rfl⟩ rfl rfl rfl rfl rfl (by kernel_rfl) Tryd.func6 (by kernel_rfl)
    (of_decide_eq_true (by kernel_rfl)) (by unfold Func.isWrapper; first | (rw [if_pos (by decide +kernel)]; kernel_rfl) | (rw [if_neg (by decide +kernel)]; exact ⟨rfl, rfl⟩))
    (fun os started H enc _ => lifted os started H enc)

end Go.Proofs.YtkeindhefiaghaaDoor.fnExactWriteRef
namespace Go.Proofs.YtkeindhefiaghaaDoor
theorem fnExactWriteRef_holds : Rows.FnExactWriteRefCardSaid :=
  Claim7.holds_tied_plain_at .later [] [.data, .pinned] true Rows.fnExactWriteRefCard.stood.harness false
    fnExactWriteRef.over (fun _ h => by cases h) (by kernel_rfl) (fun _ h => by cases h) fnExactWriteRef_row_tie rfl ⟨rfl, rfl⟩ (by kernel_rfl) rfl
    (fun f fn hf hfn => by
      obtain rfl : f = 6 := Option.some.inj ((show Tryd.prog.funcNamed "loop.example/g00141/laws.FnExactWriteRef" = some 6 by kernel_rfl).symm.trans hf) |>.symm
      obtain rfl : fn = Tryd.f6 := (Option.some.inj (Tryd.func6.symm.trans hfn)).symm
      exact ⟨by kernel_rfl, fun j t ht => by
        rw [Tryd.params6] at ht
        have hm : t ∈ [34] := by simpa using Array.mem_of_getElem? ht
        have hall : ([34].all fun u => !Tryd.prog.wantsStandIn u) = true := by kernel_rfl
        exact (show Tryd.prog.wantsStandIn t = false by simpa using List.all_eq_true.1 hall t hm)⟩)
    (by kernel_rfl)
#print axioms fnExactWriteRef_holds
end Go.Proofs.YtkeindhefiaghaaDoor
