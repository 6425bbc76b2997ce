/- A new node, by the specification: whether it is right. -/
import Derived.Test.YtedbjbndddmlhaaGreatDoorNnwR
namespace Go.Proofs.YtedbjbndddmlhaaGreatDoor
open Go.RowKit Plain
set_option linter.unusedVariables false

theorem inG_calls (x lo hi : Int) (w : World) (h : (decide (lo ≤ x) && decide (x ≤ hi)) = true) : Calls Tryz.prog 29 #[.int .i64 x, .int .i64 lo, .int .i64 hi] w fun e w' => e = .returned (.bool true) ∧ Below w.heap.size w w' :=
  (inT_calls x lo hi w h).mono fun e w' ⟨h1, h2⟩ => ⟨h1, by rw [← h2]; exact Below.refl _ _⟩

set_option maxRecDepth 10000 in
set_option maxHeartbeats 2000000 in
theorem spec_NodeOk0 (id : Int) (av : Option Addr) (nv cv : Nat) (v : List Int) (al : Option Addr) (nl cl : Nat) (l : List Int) (w : World) (h : ConfAt w av nv v al nl l) :
    Calls Tryz.prog 15 #[nnV id (.slice av nv cv) (.slice al nl cl)] w fun e w' => e = .returned (.bool (idB id && confB v l)) ∧ Below w.heap.size w w' := by
  obtain ⟨W0, hW0⟩ : ∃ W0, W0 = w.alloc (.cells #[.int .i64 id, .int .i64 0, .int .i64 0, .int .i64 0, .int .i64 0, .slice av nv cv, .slice al nl cl, .string ⟨#[]⟩, .slice none 0 0, .int .i64 0, .int .i64 0, .int .i64 0, .slice none 0 0, .slice none 0 0] 30) := ⟨_, rfl⟩
  have hb0 : Below w.heap.size w W0 := by rw [hW0]; exact bel1 _ _
  have B0 : NnC w.heap.size id (.slice av nv cv) (.slice al nl cl) W0 := by rw [hW0]; exact NnC.new w _ _ _ _
  have HC := hide (fun (W : World) (hW : Below W0.heap.size W0 W) => B0.call hW)
  have HFIN := hide (fun (W : World) (hW : Below W0.heap.size W0 W) => belOn hb0 hW)
  have HW0 := hide hW0.symm
  have HO := hide (fun (y : Plain.Grown W0) => spec_ConfOk av nv cv v al nl cl l y.w ((h.below hb0).below y.ok))
  unfold nnV
  cases hi : idB id with
  | false =>
    rw [Bool.false_and]
    have HI := hide (fun W => inF_calls id 1 50 W hi)
    clear hb0 B0 h hW0 hi HO
    go_enter Tryz.func15, Tryz.ntmps15
    go_wp2_with (go_at_call 29; refine (unhide HI _).mono ?_; rintro e w1 ⟨rfl, rfl⟩)
    go_ret
    exact ⟨rfl, by rw [unhide HW0]; exact unhide HFIN _ (Below.refl _ _)⟩
  | true =>
    rw [Bool.true_and]
    have hid : 1 ≤ id := by unfold idB at hi; simp at hi; omega
    have HI := hide (fun W => inT_calls id 1 50 W hi)
    have HJ0 := hide (fun W => inT_calls 0 0 0 W (by decide))
    have HJ1 := hide (fun W => inT_calls 0 0 1000000000000 W (by decide))
    have HJ2 := hide (fun W => inT_calls 0 0 999999999500 W (by decide))
    have HL := hide (fun W => last0S_calls id av nv cv al nl cl W)
    have HRO := hide (fun W => role0S_calls id av nv cv al nl cl W hid)
    unfold nnV at HL HRO
    generalize confB v l = R at HO
    clear hb0 B0 h hW0 hi hid
    go_enter Tryz.func15, Tryz.ntmps15
    go_wp2_with (first
      | (go_at_call_of 29 id; refine (unhide HI _).mono ?_; rintro e w1 ⟨rfl, rfl⟩)
      | (go_at_call_of 29 (1000000000000 : Int); refine (unhide HJ1 _).mono ?_; rintro e w1 ⟨rfl, rfl⟩)
      | (go_at_call_of 29 (999999999500 : Int); refine (unhide HJ2 _).mono ?_; rintro e w1 ⟨rfl, rfl⟩)
      | (go_at_call 29; refine (unhide HJ0 _).mono ?_; rintro e w1 ⟨rfl, rfl⟩))
    rw [unhide HW0]
    obtain ⟨blt, c0, c1, c2, c3, c4, c5, c6, c7, c8, c9, c10, c11, c12, c13, bfr⟩ := unhide HC _ (Below.refl _ _)
    clear bfr
    have G0 := Plain.Grown.cell c0 blt
    have G1 := Plain.Grown.cell c1 blt
    have G2 := Plain.Grown.cell c2 blt
    have G3 := Plain.Grown.cell c3 blt
    have G4 := Plain.Grown.cell c4 blt
    have G5 := Plain.Grown.cell c5 blt
    have G6 := Plain.Grown.cell c6 blt
    have G7 := Plain.Grown.cell c7 blt
    have G8 := Plain.Grown.cell c8 blt
    have G9 := Plain.Grown.cell c9 blt
    have G10 := Plain.Grown.cell c10 blt
    have G11 := Plain.Grown.cell c11 blt
    have G12 := Plain.Grown.cell c12 blt
    have G13 := Plain.Grown.cell c13 blt
    have HJG := hide (fun (y : Plain.Grown W0) => inG_calls 0 0 0 y.w (by decide))
    clear blt c0 c1 c2 c3 c4 c5 c6 c7 c8 c9 c10 c11 c12 c13
    cases R with
    | false =>
      refine region_grown (by kernel_rfl) (by kernel_rfl) W0 (Below.refl _ _) ?_
      repeat (go_big_quiet_step (first
        | exact Eq.refl _
        | (go_at_call 30; exact calls_grown _ (unhide HO _))
        | (go_at_call 31; exact calls_grown _ (unhide HL _))
        | (go_at_call 29; exact calls_grown _ (unhide HJG _))))
      refine wpQuiet_nil ?_
      rintro _ ⟨y, rfl⟩
      go_wp2_with fail
      go_ret
      exact ⟨rfl, unhide HFIN _ y.ok⟩
    | true =>
      refine region_grown (by kernel_rfl) (by kernel_rfl) W0 (Below.refl _ _) ?_
      repeat (go_big_quiet_step (first
        | exact Eq.refl _
        | (go_at_call 30; exact calls_grown _ (unhide HO _))
        | (go_at_call 31; exact calls_grown _ (unhide HL _))
        | (go_at_call 29; exact calls_grown _ (unhide HJG _))))
      refine wpQuiet_nil ?_
      rintro _ ⟨y, rfl⟩
      obtain ⟨w1, hw1, HY⟩ : ∃ w1, w1 = y.w ∧ Hid (Below W0.heap.size W0 w1) := ⟨_, rfl, hide y.ok⟩
      rw [← hw1]
      clear hw1 G0 G1 G2 G3 G4 G5 G6 G7 G8 G9 G10 G11 G12 G13 HJG HO HL HJ0 HJ1 HJ2 HI
      obtain ⟨blt, c0, c1, c2, c3, c4, c5, c6, c7, c8, c9, c10, c11, c12, c13, bfr⟩ := unhide HC _ (unhide HY)
      clear bfr
      go_wp2_with fail
      go_loopw [4] (fun i wr => i = .int .i64 0 ∧ wr = w1) (fun _ _ => 0)
      case atStart => exact ⟨rfl, rfl⟩
      case round =>
        obtain ⟨rfl, rfl⟩ := hrel
        go_wp2_with fail
        refine (unhide HRO _).mono ?_
        rintro e w2 ⟨rfl, hb2⟩
        have HB2 := hide (belOn (unhide HY) hb2)
        clear hb2
        go_wp2_with fail
        go_ret
        exact ⟨rfl, unhide HFIN _ (unhide HB2)⟩
end Go.Proofs.YtedbjbndddmlhaaGreatDoor
