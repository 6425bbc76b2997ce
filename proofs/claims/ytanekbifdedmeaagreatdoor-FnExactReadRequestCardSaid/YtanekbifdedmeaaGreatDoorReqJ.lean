/- The program's RequestOk. -/
import Derived.Test.YtanekbifdedmeaaGreatDoorTrmI
namespace Go.Proofs.YtanekbifdedmeaaGreatDoor
open Go.RowKit Plain
set_option linter.unusedVariables false

set_option maxRecDepth 10000 in
set_option maxHeartbeats 1000000 in
theorem queryRow_calls (x y : ByteArray) (w : World) (hx : x.size ≤ 1000000000000) (hy : y.size ≤ 1000000000000) :
    Calls Tryz.prog 73 #[.agg #[.string x, .string y]] w fun e w' => e = .returned (.bool (qrwB (x, y))) ∧ Below w.heap.size w w' := by
  have HB := hide (bel1 w (.cells #[.string x, .string y] 45))
  have H1 := hide (fun W => textOk_qry x 1 60 W hx (by decide) (by decide))
  have H2 := hide (fun W => textOk_qry y 0 200 W hy (by decide) (by decide))
  have HE := hide (show qrwB (x, y) = (texB 1 60 qryC x && texB 0 200 qryC y) from rfl)
  generalize texB 1 60 qryC x = b1 at H1 HE
  generalize texB 0 200 qryC y = b2 at H2 HE
  rw [unhide HE]
  cases b1 <;>
  · go_enter Tryz.func73, Tryz.ntmps73
    go_wp2_with (first
      | (go_at_call_of 68 x; refine (unhide H1 _).mono ?_; rintro e w1 ⟨rfl, rfl⟩)
      | (go_at_call_of 68 y; refine (unhide H2 _).mono ?_; rintro e w1 ⟨rfl, rfl⟩))
    go_ret
    exact ⟨rfl, unhide HB⟩

/-- A text without the blanks at its ends. -/
def Plain.trmT (s : ByteArray) : ByteArray := ⟨(trmL s.data.toList).toArray⟩
theorem Plain.trmT_eq {s t : ByteArray} (h : t.data.toList = trmL s.data.toList) : t = trmT s := ByteArray.ext (by unfold trmT; rw [← h])
theorem Plain.trmT_same (s : ByteArray) : (s.toList == (trmT s).toList) = endB s := by
  rw [ByteArray.toList_eq, ByteArray.toList_eq, Bool.eq_iff_iff, trm_end, beq_iff_eq]
  unfold trmT
  exact eq_comm
theorem endsT_calls (s : ByteArray) (w : World) (hs : s.size ≤ 1000000000000) :
    Calls Tryz.prog 112 #[.string s] w fun e w' => e = .returned (.string (trmT s)) ∧ Below w.heap.size w w' :=
  (ends_calls s w hs).mono fun e w' ⟨⟨t, h1, _, h2⟩, h3⟩ => ⟨by rw [h1, trmT_eq h2], h3⟩
theorem Plain.mkBel {f : FuncId} {args : Array Value} {W : World} {v : Value} (h : Calls Tryz.prog f args W fun e w' => e = .returned v ∧ W = w') : Calls Tryz.prog f args W fun e w' => e = .returned v ∧ Below W.heap.size W w' :=
  h.mono fun e w' ⟨h1, h2⟩ => ⟨h1, h2 ▸ Below.refl _ _⟩

set_option maxRecDepth 10000 in
set_option maxHeartbeats 1000000 in
theorem headerOk_calls (x y : ByteArray) (w : World) (hx : x.size ≤ 1000000000000) (hy : y.size ≤ 1000000000000) :
    Calls Tryz.prog 74 #[.agg #[.string x, .string y]] w fun e w' => e = .returned (.bool (hrwB (x, y))) ∧ Below w.heap.size w w' := by
  obtain ⟨W0, hW0⟩ : ∃ W0, W0 = w.alloc (.cells #[.string x, .string y] 45) := ⟨_, rfl⟩
  have hb0 : Below w.heap.size w W0 := by rw [hW0]; exact bel1 _ _
  have HB := hide hb0
  have l1 : w.heap.size < W0.heap.size := by rw [hW0]; simp
  have c0 : W0.cell? ⟨w.heap.size, 0, none⟩ = some (.string x) := by rw [hW0]; simp [go_sem]
  have c1 : W0.cell? ⟨w.heap.size, 1, none⟩ = some (.string y) := by rw [hW0]; simp [go_sem]
  have NE : Nonempty (Grown W0) := ⟨⟨W0, Below.refl _ _⟩⟩
  have G0 := Grown.cell c0 l1
  have G1 := Grown.cell c1 l1
  have HW0 := hide hW0.symm
  have H1 := hide (fun W => mkBel (textOk_nme x 1 60 W hx (by decide) (by decide)))
  have H2 := hide (fun W => mkBel (textOk_val y 0 500 W hy (by decide) (by decide)))
  have H3 := hide (fun W => endsT_calls y W hy)
  have HE := hide (show hrwB (x, y) = (!(x.toList == clenL) && texB 1 60 nmeC x && (texB 0 500 valC y && endB y)) from rfl)
  obtain ⟨z, hz⟩ : ∃ z, trmT y = z := ⟨_, rfl⟩
  have e3 := trmT_same y
  rw [hz] at e3 H3
  obtain ⟨b0, e0⟩ : ∃ b, (x.toList == clenL) = b := ⟨_, rfl⟩
  obtain ⟨b1, e1⟩ : ∃ b, texB 1 60 nmeC x = b := ⟨_, rfl⟩
  obtain ⟨b2, e2⟩ : ∃ b, texB 0 500 valC y = b := ⟨_, rfl⟩
  obtain ⟨b3, e4⟩ : ∃ b, endB y = b := ⟨_, rfl⟩
  rw [e1] at H1 HE
  rw [e2] at H2 HE
  rw [e0, e4] at HE
  rw [e4] at e3
  rw [unhide HE]
  unfold clenL at e0
  clear hW0 hb0 l1 e1 e2 e4 hz c0 c1 HE
  cases b0 with
  | true =>
    have e0n : (x.toList != [99, 111, 110, 116, 101, 110, 116, 45, 108, 101, 110, 103, 116, 104]) = false := by unfold bne; rw [e0]; rfl
    go_enter Tryz.func74, Tryz.ntmps74
    go_wp2_with fail
    rw [unhide HW0]
    refine region_grown (by kernel_rfl) (by kernel_rfl) W0 (Below.refl _ _) ?_
    repeat (go_big_quiet_step (first | (go_at_call_of 68 x; exact calls_grown _ (unhide H1 _))))
    refine wpQuiet_nil ?_
    rintro _ ⟨y, rfl⟩
    all_goals (try go_wp2_with fail)
    all_goals (try go_ret)
    all_goals exact ⟨rfl, belOn (unhide HB) y.ok⟩
  | false =>
    have e0n : (x.toList != [99, 111, 110, 116, 101, 110, 116, 45, 108, 101, 110, 103, 116, 104]) = true := by unfold bne; rw [e0]; rfl
    cases b1 with
    | false =>
      go_enter Tryz.func74, Tryz.ntmps74
      go_wp2_with fail
      rw [unhide HW0]
      refine region_grown (by kernel_rfl) (by kernel_rfl) W0 (Below.refl _ _) ?_
      repeat (go_big_quiet_step (first | (go_at_call_of 68 x; exact calls_grown _ (unhide H1 _))))
      refine wpQuiet_nil ?_
      rintro _ ⟨y, rfl⟩
      all_goals (try go_wp2_with fail)
      all_goals (try go_ret)
      all_goals exact ⟨rfl, belOn (unhide HB) y.ok⟩
    | true =>
      cases b2 with
      | false =>
        go_enter Tryz.func74, Tryz.ntmps74
        go_wp2_with fail
        rw [unhide HW0]
        refine region_grown (by kernel_rfl) (by kernel_rfl) W0 (Below.refl _ _) ?_
        repeat (go_big_quiet_step (first
          | (go_at_call_of 68 x; exact calls_grown _ (unhide H1 _))
          | (go_at_call_of 68 y; exact calls_grown _ (unhide H2 _))))
        refine wpQuiet_nil ?_
        rintro _ ⟨y, rfl⟩
        all_goals (try go_wp2_with fail)
        all_goals (try go_ret)
        all_goals exact ⟨rfl, belOn (unhide HB) y.ok⟩
      | true =>
        go_enter Tryz.func74, Tryz.ntmps74
        go_wp2_with fail
        rw [unhide HW0]
        refine region_grown (by kernel_rfl) (by kernel_rfl) W0 (Below.refl _ _) ?_
        repeat (go_big_quiet_step (first
          | (go_at_call_of 68 x; exact calls_grown _ (unhide H1 _))
          | (go_at_call_of 68 y; exact calls_grown _ (unhide H2 _))
          | (go_at_call_of 112 y; exact calls_grown _ (unhide H3 _))))
        refine wpQuiet_nil ?_
        rintro _ ⟨y, rfl⟩
        all_goals (try go_wp2_with fail)
        all_goals (try go_ret)
        all_goals exact ⟨rfl, belOn (unhide HB) y.ok⟩
end Go.Proofs.YtanekbifdedmeaaGreatDoor
