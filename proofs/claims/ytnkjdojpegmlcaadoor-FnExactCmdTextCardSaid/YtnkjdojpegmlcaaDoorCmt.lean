/- The texts of commands, by both programs. -/
import Derived.Test.YtnkjdojpegmlcaaDoorTxt
import Derived.Test.YtnkjdojpegmlcaaDoorGrw
import Derived.Test.YtnkjdojpegmlcaaDoorFmdS
namespace Go.Proofs.YtnkjdojpegmlcaaDoor
open Go.RowKit Plain
set_option linter.unusedVariables false

namespace Plain
def cmdT (ss sr op : Int) (rp tg dg tx : ByteArray) : ByteArray := if fmB ss sr op rp tg dg tx then putS ss ++ putS sr ++ putS op ++ putT rp ++ putT tg ++ putT dg ++ putT tx else ⟨#[]⟩
theorem strC_add {a b : ByteArray} (W : World) (h : a.size + b.size ≤ 1000000000000) : (Op.stringOp .add a b).run Tryd.prog W = .ok (.string (a ++ b)) W := by
  have h1 : ¬ ((a.size + b.size : Nat) : Int) > IntKind.i64.max := by rw [show IntKind.i64.max = 9223372036854775807 from rfl]; omega
  unfold Op.stringOp
  simp only [if_neg h1]
  rfl
theorem putT_le (s : ByteArray) : (putT s).size ≤ 1000000 := by
  unfold putT
  by_cases h : s.size ≤ 20000
  · rw [if_pos h, ByteArray.size_append]
    have := putS_size (s.size : Int)
    omega
  · rw [if_neg h]; decide
end Plain

set_option maxRecDepth 10000 in
set_option maxHeartbeats 4000000 in
theorem impl_CmdText (ss sr op : Int) (rp tg dg tx : ByteArray) (w : World) (hr : rp.size ≤ 10000000) (hg : tg.size ≤ 10000000) (hd : dg.size ≤ 10000000) (ht : tx.size ≤ 10000000) :
    Calls Tryd.prog 8 #[.agg #[.int .i64 ss, .int .i64 sr, .int .i64 op, .string rp, .string tg, .string dg, .string tx]] w fun e w' => e = .returned (.string (cmdT ss sr op rp tg dg tx)) ∧ Below w.heap.size w w' := by
  obtain ⟨W0, hW0⟩ : ∃ W0, W0 = w.alloc (.cells #[.int .i64 ss, .int .i64 sr, .int .i64 op, .string rp, .string tg, .string dg, .string tx] 26) := ⟨_, rfl⟩
  have hb0 : Below w.heap.size w W0 := by rw [hW0]; exact bel1 _ _
  have hA : Sev w.heap.size ss sr op rp tg dg tx W0 := by rw [hW0]; exact Sev.new w ss sr op rp tg dg tx _
  have HFM := hide (formed_calls ss sr op rp tg dg tx W0 (by omega) (by omega) (by omega) ht)
  have HB0 := hide hb0
  have HA := hide hA
  have HW0 := hide hW0.symm
  clear hb0 hA hW0
  unfold cmdT
  cases he : fmB ss sr op rp tg dg tx with
  | false =>
    rw [if_neg (by simp)]
    rw [he] at HFM
    clear he
    go_enter Tryd.func8, Tryd.ntmps8
    go_wp2_with fail
    rw [unhide HW0]
    refine (unhide HFM).mono ?_
    rintro e w1 ⟨rfl, hb1⟩
    have HB1 := hide (belOn (unhide HB0) hb1)
    clear hb1
    go_wp2_with fail
    go_ret
    exact ⟨rfl, unhide HB1⟩
  | true =>
    rw [if_pos rfl]
    rw [he] at HFM
    have HN1 := hide (fun W => impl_PutNumber ss W)
    have HN2 := hide (fun W => impl_PutNumber sr W)
    have HN3 := hide (fun W => impl_PutNumber op W)
    have HT1 := hide (fun W => impl_PutText rp W (by omega))
    have HT2 := hide (fun W => impl_PutText tg W (by omega))
    have HT3 := hide (fun W => impl_PutText dg W (by omega))
    have HT4 := hide (fun W => impl_PutText tx W (by omega))
    have s1 := putS_size ss
    have s2 := putS_size sr
    have s3 := putS_size op
    have s4 := putT_le rp
    have s5 := putT_le tg
    have s6 := putT_le dg
    have s7 := putT_le tx
    obtain ⟨T1, hT1⟩ : ∃ A, putS ss = A := ⟨_, rfl⟩
    obtain ⟨T2, hT2⟩ : ∃ A, putS sr = A := ⟨_, rfl⟩
    obtain ⟨T3, hT3⟩ : ∃ A, putS op = A := ⟨_, rfl⟩
    obtain ⟨T4, hT4⟩ : ∃ A, putT rp = A := ⟨_, rfl⟩
    obtain ⟨T5, hT5⟩ : ∃ A, putT tg = A := ⟨_, rfl⟩
    obtain ⟨T6, hT6⟩ : ∃ A, putT dg = A := ⟨_, rfl⟩
    obtain ⟨T7, hT7⟩ : ∃ A, putT tx = A := ⟨_, rfl⟩
    rw [hT1] at HN1 s1
    rw [hT2] at HN2 s2
    rw [hT3] at HN3 s3
    rw [hT4] at HT1 s4
    rw [hT5] at HT2 s5
    rw [hT6] at HT3 s6
    rw [hT7] at HT4 s7
    rw [hT1, hT2, hT3, hT4, hT5, hT6, hT7]
    have e1 := fun W => strC_add (a := T1) (b := T2) W (by omega)
    have e2 := fun W => strC_add (a := T1 ++ T2) (b := T3) W (by simp only [ByteArray.size_append]; omega)
    have e3 := fun W => strC_add (a := T1 ++ T2 ++ T3) (b := T4) W (by simp only [ByteArray.size_append]; omega)
    have e4 := fun W => strC_add (a := T1 ++ T2 ++ T3 ++ T4) (b := T5) W (by simp only [ByteArray.size_append]; omega)
    have e5 := fun W => strC_add (a := T1 ++ T2 ++ T3 ++ T4 ++ T5) (b := T6) W (by simp only [ByteArray.size_append]; omega)
    have e6 := fun W => strC_add (a := T1 ++ T2 ++ T3 ++ T4 ++ T5 ++ T6) (b := T7) W (by simp only [ByteArray.size_append]; omega)
    clear he hT1 hT2 hT3 hT4 hT5 hT6 hT7 s1 s2 s3 s4 s5 s6 s7 hr hg hd ht
    go_enter Tryd.func8, Tryd.ntmps8
    go_wp2_with fail
    rw [unhide HW0]
    refine (unhide HFM).mono ?_
    rintro e w1 ⟨rfl, hb1⟩
    obtain ⟨a0, a1, a2, a3, a4, a5, a6⟩ := (unhide HA).keep hb1
    have l1 := lt_of_cell a0
    have HB1 := hide (belOn (unhide HB0) hb1)
    clear hb1
    have NE : Nonempty (Grown w1) := ⟨⟨w1, Below.refl _ _⟩⟩
    have G0 := Grown.cell a0 l1
    have G1 := Grown.cell a1 l1
    have G2 := Grown.cell a2 l1
    have G3 := Grown.cell a3 l1
    have G4 := Grown.cell a4 l1
    have G5 := Grown.cell a5 l1
    have G6 := Grown.cell a6 l1
    clear a0 a1 a2 a3 a4 a5 a6 l1
    go_wp2_with fail
    refine region_grown (by kernel_rfl) (by kernel_rfl) w1 (Below.refl _ _) ?_
    repeat (go_big_quiet_step (first
      | (go_at_call_of 16 ss; exact calls_grown _ (unhide HN1 _))
      | (go_at_call_of 16 sr; exact calls_grown _ (unhide HN2 _))
      | (go_at_call_of 16 op; exact calls_grown _ (unhide HN3 _))
      | (go_at_call_of 17 rp; exact calls_grown _ (unhide HT1 _))
      | (go_at_call_of 17 tg; exact calls_grown _ (unhide HT2 _))
      | (go_at_call_of 17 dg; exact calls_grown _ (unhide HT3 _))
      | (go_at_call_of 17 tx; exact calls_grown _ (unhide HT4 _))))
    refine wpQuiet_nil ?_
    rintro _ ⟨y, rfl⟩
    all_goals (try go_wp2_with fail)
    all_goals (try go_ret)
    all_goals exact ⟨rfl, belOn (unhide HB1) y.ok⟩

set_option maxRecDepth 10000 in
set_option maxHeartbeats 4000000 in
theorem spec_CmdText (ss sr op : Int) (rp tg dg tx : ByteArray) (w : World) (hr : rp.size ≤ 10000000) (hg : tg.size ≤ 10000000) (hd : dg.size ≤ 10000000) (ht : tx.size ≤ 10000000) :
    Calls Tryd.prog 6 #[.agg #[.int .i64 ss, .int .i64 sr, .int .i64 op, .string rp, .string tg, .string dg, .string tx]] w fun e w' => e = .returned (.string (cmdT ss sr op rp tg dg tx)) ∧ Below w.heap.size w w' := by
  obtain ⟨W0, hW0⟩ : ∃ W0, W0 = w.alloc (.cells #[.int .i64 ss, .int .i64 sr, .int .i64 op, .string rp, .string tg, .string dg, .string tx] 26) := ⟨_, rfl⟩
  have hb0 : Below w.heap.size w W0 := by rw [hW0]; exact bel1 _ _
  have hA : Sev w.heap.size ss sr op rp tg dg tx W0 := by rw [hW0]; exact Sev.new w ss sr op rp tg dg tx _
  have HFM := hide (l12Formed_calls ss sr op rp tg dg tx W0 (by omega) (by omega) (by omega) ht)
  have HB0 := hide hb0
  have HA := hide hA
  have HW0 := hide hW0.symm
  clear hb0 hA hW0
  unfold cmdT
  cases he : fmB ss sr op rp tg dg tx with
  | false =>
    rw [if_neg (by simp)]
    rw [he] at HFM
    clear he
    go_enter Tryd.func6, Tryd.ntmps6
    go_wp2_with fail
    rw [unhide HW0]
    refine (unhide HFM).mono ?_
    rintro e w1 ⟨rfl, hb1⟩
    have HB1 := hide (belOn (unhide HB0) hb1)
    clear hb1
    go_wp2_with fail
    go_ret
    exact ⟨rfl, unhide HB1⟩
  | true =>
    rw [if_pos rfl]
    rw [he] at HFM
    have HN1 := hide (fun W => spec_PutNumber ss W)
    have HN2 := hide (fun W => spec_PutNumber sr W)
    have HN3 := hide (fun W => spec_PutNumber op W)
    have HT1 := hide (fun W => spec_PutText rp W (by omega))
    have HT2 := hide (fun W => spec_PutText tg W (by omega))
    have HT3 := hide (fun W => spec_PutText dg W (by omega))
    have HT4 := hide (fun W => spec_PutText tx W (by omega))
    have s1 := putS_size ss
    have s2 := putS_size sr
    have s3 := putS_size op
    have s4 := putT_le rp
    have s5 := putT_le tg
    have s6 := putT_le dg
    have s7 := putT_le tx
    obtain ⟨T1, hT1⟩ : ∃ A, putS ss = A := ⟨_, rfl⟩
    obtain ⟨T2, hT2⟩ : ∃ A, putS sr = A := ⟨_, rfl⟩
    obtain ⟨T3, hT3⟩ : ∃ A, putS op = A := ⟨_, rfl⟩
    obtain ⟨T4, hT4⟩ : ∃ A, putT rp = A := ⟨_, rfl⟩
    obtain ⟨T5, hT5⟩ : ∃ A, putT tg = A := ⟨_, rfl⟩
    obtain ⟨T6, hT6⟩ : ∃ A, putT dg = A := ⟨_, rfl⟩
    obtain ⟨T7, hT7⟩ : ∃ A, putT tx = A := ⟨_, rfl⟩
    rw [hT1] at HN1 s1
    rw [hT2] at HN2 s2
    rw [hT3] at HN3 s3
    rw [hT4] at HT1 s4
    rw [hT5] at HT2 s5
    rw [hT6] at HT3 s6
    rw [hT7] at HT4 s7
    rw [hT1, hT2, hT3, hT4, hT5, hT6, hT7]
    have e1 := fun W => strC_add (a := T1) (b := T2) W (by omega)
    have e2 := fun W => strC_add (a := T1 ++ T2) (b := T3) W (by simp only [ByteArray.size_append]; omega)
    have e3 := fun W => strC_add (a := T1 ++ T2 ++ T3) (b := T4) W (by simp only [ByteArray.size_append]; omega)
    have e4 := fun W => strC_add (a := T1 ++ T2 ++ T3 ++ T4) (b := T5) W (by simp only [ByteArray.size_append]; omega)
    have e5 := fun W => strC_add (a := T1 ++ T2 ++ T3 ++ T4 ++ T5) (b := T6) W (by simp only [ByteArray.size_append]; omega)
    have e6 := fun W => strC_add (a := T1 ++ T2 ++ T3 ++ T4 ++ T5 ++ T6) (b := T7) W (by simp only [ByteArray.size_append]; omega)
    clear he hT1 hT2 hT3 hT4 hT5 hT6 hT7 s1 s2 s3 s4 s5 s6 s7 hr hg hd ht
    go_enter Tryd.func6, Tryd.ntmps6
    go_wp2_with fail
    rw [unhide HW0]
    refine (unhide HFM).mono ?_
    rintro e w1 ⟨rfl, hb1⟩
    obtain ⟨a0, a1, a2, a3, a4, a5, a6⟩ := (unhide HA).keep hb1
    have l1 := lt_of_cell a0
    have HB1 := hide (belOn (unhide HB0) hb1)
    clear hb1
    have NE : Nonempty (Grown w1) := ⟨⟨w1, Below.refl _ _⟩⟩
    have G0 := Grown.cell a0 l1
    have G1 := Grown.cell a1 l1
    have G2 := Grown.cell a2 l1
    have G3 := Grown.cell a3 l1
    have G4 := Grown.cell a4 l1
    have G5 := Grown.cell a5 l1
    have G6 := Grown.cell a6 l1
    clear a0 a1 a2 a3 a4 a5 a6 l1
    go_wp2_with fail
    refine region_grown (by kernel_rfl) (by kernel_rfl) w1 (Below.refl _ _) ?_
    repeat (go_big_quiet_step (first
      | (go_at_call_of 13 ss; exact calls_grown _ (unhide HN1 _))
      | (go_at_call_of 13 sr; exact calls_grown _ (unhide HN2 _))
      | (go_at_call_of 13 op; exact calls_grown _ (unhide HN3 _))
      | (go_at_call_of 14 rp; exact calls_grown _ (unhide HT1 _))
      | (go_at_call_of 14 tg; exact calls_grown _ (unhide HT2 _))
      | (go_at_call_of 14 dg; exact calls_grown _ (unhide HT3 _))
      | (go_at_call_of 14 tx; exact calls_grown _ (unhide HT4 _))))
    refine wpQuiet_nil ?_
    rintro _ ⟨y, rfl⟩
    all_goals (try go_wp2_with fail)
    all_goals (try go_ret)
    all_goals exact ⟨rfl, belOn (unhide HB1) y.ok⟩

end Go.Proofs.YtnkjdojpegmlcaaDoor
