/- A new node, by the program: whether it is right. -/
import Derived.Test.YtedbjbndddmlhaaGreatDoorConK
import Derived.Test.YtedbjbndddmlhaaGreatDoorOnlP
import Derived.Test.YtedbjbndddmlhaaGreatDoorGrw
namespace Go.Proofs.YtedbjbndddmlhaaGreatDoor
open Go.RowKit Plain
set_option linter.unusedVariables false

namespace Plain
/-- The cells of a new node. -/
def nnL (id : Int) (V L : Value) : List Value := [.int .i64 id, .int .i64 0, .int .i64 0, .int .i64 0, .int .i64 0, V, L, .string ⟨#[]⟩, .slice none 0 0, .int .i64 0, .int .i64 0, .int .i64 0, .slice none 0 0, .slice none 0 0]
def nnV (id : Int) (V L : Value) : Value := .agg #[.int .i64 id, .int .i64 0, .int .i64 0, .int .i64 0, .int .i64 0, V, L, .string ⟨#[]⟩, .slice none 0 0, .int .i64 0, .int .i64 0, .int .i64 0, .slice none 0 0, .slice none 0 0]
def idB (n : Int) : Bool := decide (1 ≤ n) && decide (n ≤ 50)
end Plain

set_option maxRecDepth 10000 in
theorem number0_calls (w : World) : Calls Tryz.prog 52 #[.int .i64 0] w fun e w' => e = .returned (.bool true) ∧ w = w' := by
  go_enter Tryz.func52, Tryz.ntmps52
  go_wp2
  go_ret
  exact ⟨rfl, rfl⟩

set_option maxRecDepth 10000 in
theorem base0_calls (w : World) : Calls Tryz.prog 53 #[.int .i64 0] w fun e w' => e = .returned (.bool true) ∧ w = w' := by
  go_enter Tryz.func53, Tryz.ntmps53
  go_wp2
  go_ret
  exact ⟨rfl, rfl⟩

set_option maxRecDepth 10000 in
set_option maxHeartbeats 1000000 in
theorem nodeNumbers_calls (id : Int) (av : Option Addr) (nv cv : Nat) (al : Option Addr) (nl cl : Nat) (w : World) :
    Calls Tryz.prog 34 #[nnV id (.slice av nv cv) (.slice al nl cl)] w fun e w' => e = .returned (.bool (idB id)) ∧ Below w.heap.size w w' := by
  have HB := hide (bel1 w (.cells #[.int .i64 id, .int .i64 0, .int .i64 0, .int .i64 0, .int .i64 0, .slice av nv cv, .slice al nl cl, .string ⟨#[]⟩, .slice none 0 0, .int .i64 0, .int .i64 0, .int .i64 0, .slice none 0 0, .slice none 0 0] 30))
  have H1 := hide (fun W => nodeId_calls id W)
  unfold nnV
  cases hb : idB id with
  | false =>
    have hb2 : (decide (1 ≤ id) && decide (id ≤ 50)) = false := hb
    rw [hb2] at H1
    clear hb hb2
    go_enter Tryz.func34, Tryz.ntmps34
    go_wp2_with (first
      | (go_at_call 51; refine (unhide H1 _).mono ?_; rintro e w1 ⟨rfl, rfl⟩)
      | (go_at_call 52; refine (number0_calls _).mono ?_; rintro e w1 ⟨rfl, rfl⟩)
      | (go_at_call 53; refine (base0_calls _).mono ?_; rintro e w1 ⟨rfl, rfl⟩))
    go_ret
    exact ⟨rfl, unhide HB⟩
  | true =>
    have hb2 : (decide (1 ≤ id) && decide (id ≤ 50)) = true := hb
    rw [hb2] at H1
    clear hb hb2
    go_enter Tryz.func34, Tryz.ntmps34
    go_wp2_with (first
      | (go_at_call 51; refine (unhide H1 _).mono ?_; rintro e w1 ⟨rfl, rfl⟩)
      | (go_at_call 52; refine (number0_calls _).mono ?_; rintro e w1 ⟨rfl, rfl⟩)
      | (go_at_call 53; refine (base0_calls _).mono ?_; rintro e w1 ⟨rfl, rfl⟩))
    go_ret
    exact ⟨rfl, unhide HB⟩

set_option maxRecDepth 10000 in
set_option maxHeartbeats 1000000 in
theorem logOk0_calls (w : World) : Calls Tryz.prog 36 #[.slice none 0 0, .int .i64 0, .int .i64 0] w fun e w' => e = .returned (.bool true) ∧ Below w.heap.size w w' := by
  obtain ⟨w0, rfl⟩ : ∃ w0, w0 = w := ⟨_, rfl⟩
  go_enter Tryz.func36, Tryz.ntmps36
  go_wp2_with fail
  go_loopw [16] (fun i wr => i = .int .i64 0 ∧ wr = w0) (fun _ _ => 0)
  case atStart => exact ⟨rfl, rfl⟩
  case round =>
    obtain ⟨rfl, rfl⟩ := hrel
    go_wp2_with fail
    go_ret
    exact ⟨rfl, Below.refl _ _⟩

set_option maxRecDepth 10000 in
set_option maxHeartbeats 1000000 in
theorem roleOk0_calls (id : Int) (av : Option Addr) (nv cv : Nat) (al : Option Addr) (nl cl : Nat) (w : World) (hid : 1 ≤ id) :
    Calls Tryz.prog 38 #[nnV id (.slice av nv cv) (.slice al nl cl)] w fun e w' => e = .returned (.bool true) ∧ Below w.heap.size w w' := by
  have HB := hide (bel1 w (.cells #[.int .i64 id, .int .i64 0, .int .i64 0, .int .i64 0, .int .i64 0, .slice av nv cv, .slice al nl cl, .string ⟨#[]⟩, .slice none 0 0, .int .i64 0, .int .i64 0, .int .i64 0, .slice none 0 0, .slice none 0 0] 30))
  unfold nnV
  go_enter Tryz.func38, Tryz.ntmps38
  go_wp2_with fail
  go_ret
  exact ⟨by show Ending.returned (.bool (0 != id)) = _; rw [show (0 != id) = true from by simp; omega], unhide HB⟩

namespace Plain
/-- A block that holds a new node. -/
structure NnC (b : Nat) (id : Int) (V L : Value) (W : World) : Prop where
  lt : b < W.heap.size
  c0 : W.cell? ⟨b, 0, none⟩ = some (.int .i64 id)
  c1 : W.cell? ⟨b, 1, none⟩ = some (.int .i64 0)
  c2 : W.cell? ⟨b, 2, none⟩ = some (.int .i64 0)
  c3 : W.cell? ⟨b, 3, none⟩ = some (.int .i64 0)
  c4 : W.cell? ⟨b, 4, none⟩ = some (.int .i64 0)
  c5 : W.cell? ⟨b, 5, none⟩ = some V
  c6 : W.cell? ⟨b, 6, none⟩ = some L
  c7 : W.cell? ⟨b, 7, none⟩ = some (.string ⟨#[]⟩)
  c8 : W.cell? ⟨b, 8, none⟩ = some (.slice none 0 0)
  c9 : W.cell? ⟨b, 9, none⟩ = some (.int .i64 0)
  c10 : W.cell? ⟨b, 10, none⟩ = some (.int .i64 0)
  c11 : W.cell? ⟨b, 11, none⟩ = some (.int .i64 0)
  c12 : W.cell? ⟨b, 12, none⟩ = some (.slice none 0 0)
  c13 : W.cell? ⟨b, 13, none⟩ = some (.slice none 0 0)
  fr : ∀ i, i < 14 → W.frozen? ⟨b, i, none⟩ = false
theorem NnC.below {b B : Nat} {id : Int} {V L : Value} {W W' : World} (h : NnC b id V L W) (hb : Below B W W') (hB : b < B) : NnC b id V L W' :=
  ⟨Nat.lt_of_lt_of_le h.lt hb.size, bcl hb hB h.c0, bcl hb hB h.c1, bcl hb hB h.c2, bcl hb hB h.c3, bcl hb hB h.c4, bcl hb hB h.c5, bcl hb hB h.c6, bcl hb hB h.c7, bcl hb hB h.c8, bcl hb hB h.c9, bcl hb hB h.c10, bcl hb hB h.c11, bcl hb hB h.c12, bcl hb hB h.c13, fun i hi => (hb.frozen (p := ⟨b, i, none⟩) hB).trans (h.fr i hi)⟩
theorem NnC.call {b : Nat} {id : Int} {V L : Value} {W W' : World} (h : NnC b id V L W) (hb : Below W.heap.size W W') : NnC b id V L W' := h.below hb h.lt
theorem NnC.new (W : World) (id : Int) (V L : Value) (t : TypeId) : NnC W.heap.size id V L (W.alloc (.cells (nnL id V L).toArray t)) := by
  refine ⟨by simp, ?_, ?_, ?_, ?_, ?_, ?_, ?_, ?_, ?_, ?_, ?_, ?_, ?_, ?_, fun i hi => by simp [go_sem]⟩
  all_goals simp [go_sem, nnL]
end Plain

set_option maxRecDepth 10000 in
set_option maxHeartbeats 1000000 in
theorem last0_calls (b : Nat) (id : Int) (V L : Value) (w : World) (h : NnC b id V L w) :
    Calls Tryz.prog 37 #[.pointer (some ⟨b, 0, none⟩)] w fun e w' => e = .returned (.int .i64 0) ∧ Below w.heap.size w w' := by
  have c3 := Plain.Grown.cell h.c3 h.lt
  have c8 := Plain.Grown.cell h.c8 h.lt
  clear h
  go_enter Tryz.func37, Tryz.ntmps37
  go_wp2_with fail
  refine region_grown (by kernel_rfl) (by kernel_rfl) w (Below.refl _ _) ?_
  repeat (go_big_quiet_step (exact Eq.refl _))
  refine wpQuiet_nil ?_
  rintro _ ⟨y, rfl⟩
  all_goals (try go_wp2_with fail)
  all_goals (try go_ret)
  all_goals exact ⟨rfl, y.ok⟩

set_option maxRecDepth 10000 in
set_option maxHeartbeats 2000000 in
theorem impl_NodeOk0 (id : Int) (av : Option Addr) (nv cv : Nat) (v : List Int) (al : Option Addr) (nl cl : Nat) (l : List Int) (w : World) (h : ConfAt w av nv v al nl l) :
    Calls Tryz.prog 17 #[nnV id (.slice av nv cv) (.slice al nl cl)] w fun e w' => e = .returned (.bool (idB id && confB v l)) ∧ Below w.heap.size w w' := by
  obtain ⟨W0, hW0⟩ : ∃ W0, W0 = w.alloc (.cells #[.int .i64 id, .int .i64 0, .int .i64 0, .int .i64 0, .int .i64 0, .slice av nv cv, .slice al nl cl, .string ⟨#[]⟩, .slice none 0 0, .int .i64 0, .int .i64 0, .int .i64 0, .slice none 0 0, .slice none 0 0] 30) := ⟨_, rfl⟩
  have hb0 : Below w.heap.size w W0 := by rw [hW0]; exact bel1 _ _
  have B0 : NnC w.heap.size id (.slice av nv cv) (.slice al nl cl) W0 := by rw [hW0]; exact NnC.new w _ _ _ _
  have HA := hide (fun (W : World) (hW : Below W0.heap.size W0 W) => (h.below hb0).below hW)
  have HC := hide (fun (W : World) (hW : Below W0.heap.size W0 W) => B0.call hW)
  have HFIN := hide (fun (W : World) (hW : Below W0.heap.size W0 W) => belOn hb0 hW)
  have H1 := hide (nodeNumbers_calls id av nv cv al nl cl W0)
  have HW0 := hide hW0.symm
  unfold nnV
  unfold nnV at H1
  cases hi : idB id with
  | false =>
    rw [hi] at H1
    rw [Bool.false_and]
    clear hb0 B0 h hW0 hi
    go_enter Tryz.func17, Tryz.ntmps17
    go_wp2_with fail
    rw [unhide HW0]
    refine (unhide H1).mono ?_
    rintro e w1 ⟨rfl, hb1⟩
    have HB1 := hide (unhide HFIN _ hb1)
    clear hb1
    go_wp2_with fail
    go_ret
    exact ⟨rfl, unhide HB1⟩
  | true =>
    rw [hi] at H1
    rw [Bool.true_and]
    have hid : 1 ≤ id := by unfold idB at hi; simp at hi; omega
    have HO := hide (fun (W : World) (hW : Below W0.heap.size W0 W) => impl_ConfOk av nv cv v al nl cl l W (unhide HA _ hW))
    have HRO := hide (fun (W : World) => roleOk0_calls id av nv cv al nl cl W hid)
    unfold nnV at HRO
    generalize confB v l = R at HO
    clear hb0 B0 h hW0 hi hid
    go_enter Tryz.func17, Tryz.ntmps17
    go_wp2_with fail
    rw [unhide HW0]
    refine (unhide H1).mono ?_
    rintro e w1 ⟨rfl, hb1⟩
    have HB1 := hide hb1
    have c5 := (unhide HC _ hb1).c5
    have c6 := (unhide HC _ hb1).c6
    clear hb1
    go_wp2_with fail
    refine (unhide HO _ (unhide HB1)).mono ?_
    rintro e w2 ⟨rfl, hb2⟩
    have HB2 := hide (belOn (unhide HB1) hb2)
    clear hb2 c5 c6
    cases R with
    | false =>
      go_wp2_with fail
      go_ret
      exact ⟨rfl, unhide HFIN _ (unhide HB2)⟩
    | true =>
      obtain ⟨blt, c0, c1, c2, c3, c4, c5, c6, c7, c8, c9, c10, c11, c12, c13, bfr⟩ := unhide HC _ (unhide HB2)
      go_wp2_with fail
      refine (logOk0_calls _).mono ?_
      rintro e w3 ⟨rfl, hb3⟩
      have HB3 := hide (belOn (unhide HB2) hb3)
      clear hb3 blt c0 c1 c2 c3 c4 c5 c6 c7 c8 c9 c10 c11 c12 c13 bfr
      obtain ⟨blt, c0, c1, c2, c3, c4, c5, c6, c7, c8, c9, c10, c11, c12, c13, bfr⟩ := unhide HC _ (unhide HB3)
      clear bfr
      go_wp2_with fail
      obtain ⟨W4, hW4⟩ : ∃ W4, W4 = w3.alloc (.cells #[.int .i64 id, .int .i64 0, .int .i64 0, .int .i64 0, .int .i64 0, .slice av nv cv, .slice al nl cl, .string ⟨#[]⟩, .slice none 0 0, .int .i64 0, .int .i64 0, .int .i64 0, .slice none 0 0, .slice none 0 0] 44) := ⟨_, rfl⟩
      rw [← hW4]
      have hb4 : Below w3.heap.size w3 W4 := by rw [hW4]; exact bel1 _ _
      have R4 : NnC w3.heap.size id (.slice av nv cv) (.slice al nl cl) W4 := by rw [hW4]; exact NnC.new w3 _ _ _ _
      have HB4 := hide (belOn (unhide HB3) hb4)
      have HR4 := hide (fun (y : Plain.Grown W4) => last0_calls w3.heap.size id (.slice av nv cv) (.slice al nl cl) y.w (R4.call y.ok))
      clear hb4 hW4 R4 blt c0 c1 c2 c3 c4 c5 c6 c7 c8 c9 c10 c11 c12 c13
      obtain ⟨blt, c0, c1, c2, c3, c4, c5, c6, c7, c8, c9, c10, c11, c12, c13, bfr⟩ := unhide HC _ (unhide HB4)
      clear bfr
      have G0 := Plain.Grown.cell c0 blt
      have G1 := Plain.Grown.cell c1 blt
      have G2 := Plain.Grown.cell c2 blt
      have G3 := Plain.Grown.cell c3 blt
      have G4 := Plain.Grown.cell c4 blt
      have G5 := Plain.Grown.cell c5 blt
      have G6 := Plain.Grown.cell c6 blt
      have G7 := Plain.Grown.cell c7 blt
      have G8 := Plain.Grown.cell c8 blt
      have G9 := Plain.Grown.cell c9 blt
      have G10 := Plain.Grown.cell c10 blt
      have G11 := Plain.Grown.cell c11 blt
      have G12 := Plain.Grown.cell c12 blt
      have G13 := Plain.Grown.cell c13 blt
      clear blt c0 c1 c2 c3 c4 c5 c6 c7 c8 c9 c10 c11 c12 c13
      refine region_grown (by kernel_rfl) (by kernel_rfl) W4 (Below.refl _ _) ?_
      repeat (go_big_quiet_step (first
        | exact Eq.refl _
        | (go_at_call 37; exact calls_grown _ (unhide HR4 _))
        | (go_at_call 38; exact calls_grown _ (unhide HRO _))))
      refine wpQuiet_nil ?_
      rintro _ ⟨y, rfl⟩
      all_goals (try go_wp2_with fail)
      all_goals (try go_ret)
      all_goals exact ⟨rfl, unhide HFIN _ (belOn (unhide HB4) y.ok)⟩
end Go.Proofs.YtedbjbndddmlhaaGreatDoor
