/- For every text, ReadRef of the program answers the reference and the code that ReadRef of the specification answers; nothing that was there is changed. No condition but the card's own: the tables of unicode/utf8 are as the library's text lays them (the call never reads them). -/
import Derived.Test.YtkeindhefiaghaaDoorRows
import Derived.Test.YtkeindhefiaghaaDoorRRefT
import Derived.Test.YtkeindhefiaghaaDoorTie
import Derived.Test.YtkeindhefiaghaaDoorCards
import Derived.LaidMore
import Derived.Lay
import Derived.SevenTiedAt
import Derived.Stop.Joined
import Derived.WalkKit
import Derived.ProofKit
import Derived.OpenShut
import Derived.ShutString
import Derived.ChangeOld
import Derived.Below
namespace Go.Proofs.YtkeindhefiaghaaDoor.fnExactReadRef
open Go.ChangeShapes Go.WideShapes Go.ChangeAt Go.RowKit
open Go.ChangeMaps (open_string shut_string)
open Plain
set_option linter.unusedVariables false

theorem own : ownKnob Tryd.prog.godebug = none := by kernel_rfl
theorem laidOut : laidOutB Tryd.prog = true := by kernel_rfl

theorem walk (a0 : ByteArray) (w : World) (w0 : a0.size ≤ maxLen) :
    Calls Tryd.prog 5 #[.string a0] w fun e w' => e = .returned (.bool true) ∧ Below w.heap.size w w' := by
  unfold maxLen at w0
  by_cases hbig : 1048576 < a0.size
  · go_enter Tryd.func5, Tryd.ntmps5
    go_wp2
    go_ret
    exact ⟨rfl, Below.refl _ _⟩
  · have HS := fun w => spec_ReadRef a0 w (by omega)
    have HI := fun w => impl_ReadRef a0 w (by omega)
    obtain ⟨r, t, d, c, hv, -⟩ := rrV_form a0
    rw [hv] at HS HI
    unfold refV at HS HI
    have HSS := hide HS
    have HII := hide HI
    clear HS HI hv
    go_enter Tryd.func5, Tryd.ntmps5
    go_wp2_with fail
    refine (unhide HSS _).mono ?_
    rintro e w1 ⟨rfl, hb1⟩
    have HB1 := hide hb1
    clear hb1
    go_wp2_with fail
    refine (unhide HII _).mono ?_
    rintro e w2 ⟨rfl, hb2⟩
    have HB2 := hide (belowVia (Nat.le_refl w.heap.size) hb2 (by repeat (first | exact unhide HB1 | refine belowAlloc (Nat.le_refl _) ?_ _)))
    obtain ⟨hc, hf⟩ := bcell hb2
    have hz2 := hb2.size
    simp at hz2
    have q0 : w2.cell? ⟨w1.heap.size, 0, none⟩ = some (.string r) := by rw [hc _ _ (by simp)]; simp [go_sem]
    have q1 : w2.cell? ⟨w1.heap.size, 1, none⟩ = some (.string t) := by rw [hc _ _ (by simp)]; simp [go_sem]
    have q2 : w2.cell? ⟨w1.heap.size, 2, none⟩ = some (.string d) := by rw [hc _ _ (by simp)]; simp [go_sem]
    have p0 : ∀ o, (w2.alloc o).cell? ⟨w1.heap.size, 0, none⟩ = some (.string r) := fun o => (((Below.refl w2.heap.size w2).alloc (Nat.le_refl _) o).cell (p := ⟨w1.heap.size, 0, none⟩) (show w1.heap.size < w2.heap.size by omega)).trans q0
    have p1 : ∀ o, (w2.alloc o).cell? ⟨w1.heap.size, 1, none⟩ = some (.string t) := fun o => (((Below.refl w2.heap.size w2).alloc (Nat.le_refl _) o).cell (p := ⟨w1.heap.size, 1, none⟩) (show w1.heap.size < w2.heap.size by omega)).trans q1
    have p2 : ∀ o, (w2.alloc o).cell? ⟨w1.heap.size, 2, none⟩ = some (.string d) := fun o => (((Below.refl w2.heap.size w2).alloc (Nat.le_refl _) o).cell (p := ⟨w1.heap.size, 2, none⟩) (show w1.heap.size < w2.heap.size by omega)).trans q2
    clear hc hf q0 q1 q2
    clear hb2 HB1
    go_wp2_with fail
    refine (eqRef_calls r t d _).mono ?_
    rintro e w3 ⟨rfl, hb3⟩
    have HB3 := hide (belowVia (Nat.le_refl w.heap.size) hb3 (by repeat (first | exact unhide HB2 | refine belowAlloc (Nat.le_refl _) ?_ _)))
    clear hb3 HB2
    go_wp2_with fail
    go_ret
    exact ⟨rfl, unhide HB3⟩

set_option maxRecDepth 100000 in
theorem lifted (os : Os) (started : os.Started) (H : Type) (enc : TypeId × Value → H) :
    ReturnsInHanded {} Tryd.checked os 5 .any (fun w args => (Rows.fnExactReadRefSpec.pre enc Tryd.prog Tryd.f5 [] false w args ∧ laidMetH Tryd.prog Rows.fnExactReadRefRow.laid w) ∧ sizedMet enc Tryd.prog Tryd.f5 (OpenSpec.ofChange Rows.fnExactReadRefSpec) false w args)
      (Rows.fnExactReadRefSpec.post enc Tryd.prog Tryd.f5 false true false false) := by
  refine returnsInHanded_of_change_and (C := Tryd.checked) (X := fun w _ => laidMetH Tryd.prog Rows.fnExactReadRefRow.laid w) (fun _ _ _ hh h => h.of_heap hh) own started (by kernel_rfl) Tryd.func5
    (ChangeSpec.witness_shaped (enc := enc) (C := Tryd.checked) (os := os) (X := fun w _ => laidMetH Tryd.prog Rows.fnExactReadRefRow.laid w) false (World.laidAll Tryd.prog os Rows.fnExactReadRefRow.laid) #[.string ByteArray.empty] 8 (World.laidAll_os _ _ _)
      (World.shaped_of_ZipB (by kernel_rfl) (by kernel_rfl)) (by kernel_rfl) (by kernel_rfl) (by kernel_rfl)
      (by rw [MakeChecks.laidMetH_plain _ _ _ (by kernel_rfl)]; exact laidMet_laidAll _ (by kernel_rfl) (by kernel_rfl))) ?_
  intro W base args ds gs before hval0 hW _ _ hL _
  have hval : ∀ (j : Nat) t v, Tryd.f5.params[j]? = some t → args[j]? = some v → Value.okWide Tryd.prog W .any base t v := hval0
  have hW' := hW
  obtain ⟨p, q, hA0, hV, rfl, hfz, hnd⟩ := hW
  have hA : DataW.TrodAll enc Tryd.prog W 0 (fun _ => true) true Tryd.f5.params.toList args.toList ds p := hA0
  rw [Tryd.params5] at hA hval
  obtain ⟨v0, vs0, d0, ds0, p0, q0, hargs, rfl, rfl, h0, r0⟩ := trodAll_cons hA
  obtain ⟨rfl, rfl, rfl⟩ := trodAll_nil r0
  obtain rfl : args = #[v0] := by cases args; simp_all
  obtain ⟨rfl, rfl⟩ := trodVars_none hV
  have k0 := h0
  have lt0 : ∀ x ∈ p0, x.block < W.heap.size := by obtain ⟨m, hm⟩ := k0; exact DataW.trod_lt m _ _ _ hm
  obtain ⟨a0, rfl, e0, f0, w0⟩ := open_string Tryd.underlying9 (hval 0 9 v0 rfl rfl) h0
  clear hA0 hval0
  refine (walk a0 W w0).mono fun e W' ⟨he, bel⟩ => ?_
  subst he
  exact ⟨_, rfl, _, _, _, [], _, [], hW', trodAll_mk1 (shut_bool Tryd.underlying4 _), (trodAll_cons_mk (Below.trod laidOut (by kernel_rfl) (of_decide_eq_true (by kernel_rfl)) k0 bel lt0) trodAll_mk0), rfl, bel.frame _, fun h => by cases h⟩

theorem over : Rows.fnExactReadRefRow.holds Tryd.pinned (OpenSpec.ofChange Rows.fnExactReadRefSpec) :=
  OpenClaim.holds_of_wide 5 Tryd.f5 rfl rfl rfl rfl rfl rfl rfl ⟨rfl, rfl, rfl, rfl, rfl⟩ rfl rfl rfl rfl rfl (by kernel_rfl) Tryd.func5 (by kernel_rfl)
    (of_decide_eq_true (by kernel_rfl)) (by unfold Func.isWrapper; first | (rw [if_pos (by decide +kernel)]; kernel_rfl) | (rw [if_neg (by decide +kernel)]; exact ⟨rfl, rfl⟩))
    (fun os started H enc _ => lifted os started H enc)

end Go.Proofs.YtkeindhefiaghaaDoor.fnExactReadRef
namespace Go.Proofs.YtkeindhefiaghaaDoor
theorem fnExactReadRef_holds : Rows.FnExactReadRefCardSaid :=
  Claim7.holds_tied_plain_at .later [] [.data, .pinned] true Rows.fnExactReadRefCard.stood.harness false
    fnExactReadRef.over (fun _ h => by cases h) (by kernel_rfl) (fun _ h => by cases h) fnExactReadRef_row_tie rfl ⟨rfl, rfl⟩ (by kernel_rfl) rfl
    (fun f fn hf hfn => by
      obtain rfl : f = 5 := Option.some.inj ((show Tryd.prog.funcNamed "loop.example/g00141/laws.FnExactReadRef" = some 5 by kernel_rfl).symm.trans hf) |>.symm
      obtain rfl : fn = Tryd.f5 := (Option.some.inj (Tryd.func5.symm.trans hfn)).symm
      exact ⟨by kernel_rfl, fun j t ht => by
        rw [Tryd.params5] at ht
        have hm : t ∈ [9] := by simpa using Array.mem_of_getElem? ht
        have hall : ([9].all fun u => !Tryd.prog.wantsStandIn u) = true := by kernel_rfl
        exact (show Tryd.prog.wantsStandIn t = false by simpa using List.all_eq_true.1 hall t hm)⟩)
    (by kernel_rfl)
#print axioms fnExactReadRef_holds
end Go.Proofs.YtkeindhefiaghaaDoor
