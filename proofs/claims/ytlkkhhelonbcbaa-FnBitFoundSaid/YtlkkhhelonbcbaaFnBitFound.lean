/- For every code, the bytes of the frame that is drawn of it are the specification's, are read back as this one frame, and with one bit turned over, but in the length, are read as no frame; nothing that was there is changed. No condition. -/
import Derived.Test.YtlkkhhelonbcbaaRows
import Derived.Test.YtlkkhhelonbcbaaBitM
import Derived.Test.YtlkkhhelonbcbaaDrawF
import Derived.Test.YtlkkhhelonbcbaaByt
import Derived.Test.YtlkkhhelonbcbaaWfI
import Derived.Test.YtlkkhhelonbcbaaWfS
import Derived.Test.YtlkkhhelonbcbaaRdQ
import Derived.Test.YtlkkhhelonbcbaaBig
import Derived.Deep.QuietTactic
import Derived.BigQuiet
import Derived.WalkKit
import Derived.ProofKit
import Derived.OpenShut
import Derived.ShutString
import Derived.ChangeOld
import Derived.Below
namespace Go.Proofs.Ytlkkhhelonbcbaa.fnBitFound
open Go.ChangeShapes Go.WideShapes Go.ChangeAt Go.RowKit
open Go.ChangeMaps (open_string shut_string)
open Plain
set_option linter.unusedVariables false

theorem own : ownKnob Try.prog.godebug = none := by kernel_rfl
theorem laidOut : laidOutB Try.prog = true := by kernel_rfl

theorem frame_none (k : Int) (b : ByteArray) (h : ¬ (1 ≤ k ∧ k ≤ 100 ∧ b.size ≤ 20000)) : frameB k b = ⟨#[]⟩ := by unfold frameB; rw [if_neg h]; rfl
theorem emp_list : (⟨#[]⟩ : ByteArray).toList = [] := by rw [ByteArray.toList_eq]
theorem list_ne (s : ByteArray) (h : 1 ≤ s.size) : s.toList.isEmpty = false := by
  rw [ByteArray.toList_eq]
  cases hs : s.data.toList with
  | nil => have : s.data.toList.length = s.size := by simp
           rw [hs] at this; simp at this; omega
  | cons x l => rfl

theorem flip_all : ∀ (x : Fin 256) (j : Fin 8), 0 ≤ bits .xor .u8 (x.val : Int) (2 ^ j.val % 256) ∧ bits .xor .u8 (x.val : Int) (2 ^ j.val % 256) < 256 ∧ bits .xor .u8 (x.val : Int) (2 ^ j.val % 256) ≠ (x.val : Int) := by decide +kernel
theorem flip8 (x j : Nat) (hx : x < 256) (hj : j < 8) : 0 ≤ bits .xor .u8 (x : Int) (2 ^ j % 256) ∧ bits .xor .u8 (x : Int) (2 ^ j % 256) < 256 ∧ bits .xor .u8 (x : Int) (2 ^ j % 256) ≠ (x : Int) := flip_all ⟨x, hx⟩ ⟨j, hj⟩
theorem turned (s : ByteArray) (p n : Nat) (y : Int) (hn : s.size = n) (hp : p < n) (y0 : 0 ≤ y) (y1 : y < 256) :
    (strOfNums (((bL s).set p y).take n)).size = n ∧ (bAt (strOfNums (((bL s).set p y).take n)) p : Int) = y ∧ ∀ q, q ≠ p → bAt (strOfNums (((bL s).set p y).take n)) q = bAt s q := by
  have hl : ((bL s).set p y).length = n := by rw [List.length_set, bL_length, hn]
  rw [List.take_of_length_le (by omega)]
  refine ⟨by rw [strOfNums_size, hl], ?_, ?_⟩
  · rw [bAt_strOf _ p (by omega) (by simpa using y0) (by simpa using y1)]
    simp
  · intro q hq
    unfold bAt
    rw [strOfNums_data, List.getD, List.getElem?_map, List.getElem?_set_ne (fun e => hq e.symm)]
    unfold bL
    rw [List.getD, List.getElem?_map]
    cases s.data.toList[q]? with
    | none => rfl
    | some x => simp

theorem bL_bAt (s : ByteArray) (q : Nat) : (bL s).getD q 0 = (bAt s q : Int) := by
  unfold bL bAt
  rw [List.getD, List.getD, List.getElem?_map]
  cases s.data.toList[q]? with
  | none => rfl
  | some x => rfl

set_option maxRecDepth 10000 in
set_option maxHeartbeats 4000000 in
theorem walk (a0 : Option Addr) (len0 cap0 : Nat) (z0 : List Int) (w : World) (w0 : IsRow .u8 w a0 len0 cap0 z0) :
    Calls Try.prog 5 #[.slice a0 len0 cap0] w fun e w' => e = .returned (.bool true) ∧ Below w.heap.size w w' := by
  have hlen := w0.len
  have H := hide w0
  clear w0
  by_cases hbig : len0 ≤ 1048576
  · have hd : decide (1048576 < (len0 : Int)) = false := by simp; omega
    go_enter Try.func5, Try.ntmps5
    go_wp2_with fail
    refine (big_calls a0 len0 cap0 _ hlen).mono ?_
    rintro e w1 ⟨rfl, rfl⟩
    rw [hd]
    go_wp2_with fail
    refine (DrawWriteFrame_calls a0 len0 cap0 z0 _ (unhide H) hbig).mono ?_
    rintro e w1 ⟨k, b, rfl, hb, hb1⟩
    have hz1 := hb1.size
    have hb2 : Below w1.heap.size w1 (w1.alloc (.cells #[.int .i64 k, .string b] 35)) := (Below.refl _ _).alloc (Nat.le_refl _) _
    have HB2 := hide (hb1.trans (hb2.mono hz1))
    have hG2 := h_new w1 (.cells #[.int .i64 k, .string b] 35) rfl
    have hz2 : w1.heap.size < (w1.alloc (.cells #[.int .i64 k, .string b] 35)).heap.size := by simp
    have HG2 := hide hG2
    clear hb1 hb2 hG2 hd H
    go_wp2_with fail
    refine (impl_WriteFrame k b _ (by omega)).mono ?_
    rintro e w3 ⟨rfl, hb3⟩
    have hG3 := (hb3.block _ hz2).trans (unhide HG2)
    have HB3 := hide ((unhide HB2).trans (hb3.mono (unhide HB2).size))
    have hz3 := Nat.lt_of_lt_of_le hz2 hb3.size
    have HG3 := hide hG3
    have c0 : w3.cell? ⟨w1.heap.size, 0, none⟩ = some (.int .i64 k) := cell_of_row w3 _ 0 _ _ _ hG3
    have c1 : w3.cell? ⟨w1.heap.size, 1, none⟩ = some (.string b) := cell_of_row w3 _ 1 _ _ _ hG3
    clear hb3 hG3 HG2 HB2 hz2
    go_wp2_with fail
    refine (spec_WriteFrame k b _ (by omega)).mono ?_
    rintro e w4 ⟨rfl, hb4⟩
    have hG4 := (hb4.block _ hz3).trans (unhide HG3)
    have HB4 := hide ((unhide HB3).trans (hb4.mono (unhide HB3).size))
    have hz4 := Nat.lt_of_lt_of_le hz3 hb4.size
    have HG4 := hide hG4
    clear hb4 hG4 HG3 HB3 c0 c1
    by_cases hv : 1 ≤ k ∧ k ≤ 100 ∧ b.size ≤ 20000
    · obtain ⟨hp1, -⟩ := frame_parts k b hv.1 hv.2.1 hv.2.2
      obtain ⟨hq1, hq2, hq3⟩ := frame_back k b hv.1 hv.2.1 hv.2.2
      have hne := list_ne (frameB k b) (by omega)
      have hr1 := read_one (frameB k b) (by omega) hq2 (by rw [hq1]; exact hp1.symm)
      rw [hq3] at hr1
      generalize frameB k b = s at hp1 hq1 hq2 hne hr1
      obtain ⟨n, hn⟩ : ∃ n, s.size = n := ⟨_, rfl⟩
      obtain ⟨cp, w5, hcv, hO5, hb5⟩ := bytes_own s w4
      have hln : (bL s).length = n := by rw [bL_length]; exact hn
      rw [hn] at hcv hp1
      have HR1 := hide hr1
      have HQ := hide (show szI s = (0, n) by rw [hq1, hp1])
      have HQ2 := hide hq2
      have HSN := hide hn
      have HO5 := hide hO5
      have hG5 := (hb5.block _ hz4).trans (unhide HG4)
      have HG5 := hide hG5
      have HB5 := hide ((unhide HB4).trans (hb5.mono (unhide HB4).size))
      have hz5 := Nat.lt_of_lt_of_le hz4 hb5.size
      obtain ⟨i, hi⟩ : ∃ i, len0 % n = i := ⟨_, rfl⟩
      obtain ⟨j, hj⟩ : ∃ j, len0 % 8 = j := ⟨_, rfl⟩
      have hin : i < n := by rw [← hi]; exact Nat.mod_lt _ (by omega)
      have hj8 : j < 8 := by omega
      have t1 : Int.tmod (len0 : Int) (n : Int) = (i : Int) := by rw [← hi]; rfl
      have t2 : Int.tmod (len0 : Int) 8 = (j : Int) := by rw [← hj]; rfl
      have hn9 : 9 ≤ n := by omega
      have hnn : ¬ (n : Int) = 0 := by omega
      have hnb : (n : Int) ≤ 30000 := by omega
      have hcell : ∀ q, q < n → w5.cell? ⟨w4.heap.size, q, none⟩ = some (.int .u8 (bAt s q : Int)) ∧ w5.frozen? ⟨w4.heap.size, q, none⟩ = false := fun q hq => by
        refine ⟨(hO5.2.2.2.1 q (by omega)).trans ?_, (hO5.2.2.2.2 q (by have := hO5.2.2.1; omega)).2⟩
        rw [bL_bAt]
      have HCL := hide hcell
      clear hr1 hq1 hq2 hq3 hn hO5 hG5 hb5 HG4 HB4 hi hj hcell
      have HP1 := hide hp1
      clear hp1
      have i0 : (0 : Int) ≤ (i : Int) := by omega
      have i1 : (i : Int) < (n : Int) := by omega
      by_cases h14 : 1 ≤ i ∧ i ≤ 4
      · obtain ⟨h1, h4⟩ := h14
        obtain ⟨hc, hf⟩ := unhide HCL 0 (by omega)
        have hx := bAt_lt s 0
        obtain ⟨x, hxe⟩ : ∃ x, bAt s 0 = x := ⟨_, rfl⟩
        rw [hxe] at hc hx
        obtain ⟨y0, y1, yne⟩ := flip8 x j hx hj8
        have hO6 := (unhide HO5).set 0 (by rw [hln]; exact (by omega)) (bits .xor .u8 (x : Int) (2 ^ j % 256))
        have hcv2 := conv_pre _ _ _ _ n cp _ hO6 (by rw [List.length_set, hln]; exact Nat.le_refl _)
        obtain ⟨u1, u2, u3⟩ := turned s 0 n (bits .xor .u8 (x : Int) (2 ^ j % 256)) (unhide HSN) (by omega) y0 y1
        have hbf := bit_found s _ 0 n (unhide HQ) (unhide HSN) u1 (unhide HQ2) (by omega) (by omega) (by rw [hxe]; intro e; exact yne (by rw [← u2, ← e])) (fun q hq => (u3 q hq).symm)
        have hr2 := read_none _ (by rw [u1]; omega) hbf
        generalize strOfNums (((bL s).set 0 (bits .xor .u8 (x : Int) (2 ^ j % 256))).take n) = tt at hcv2 u1 u2 u3 hbf hr2
        generalize frC tt = cd at hbf hr2
        have hIR2 := implRead_calls tt
        rw [hr2] at hIR2
        have hIR1 := implRead_calls s
        rw [unhide HR1] at hIR1
        have HI2 := hide hIR2
        have HI1 := hide hIR1
        have HU1 := hide u1
        have HCD := hide hbf
        have hG6 := (Below.heap_setCell w5 ⟨w4.heap.size, 0, none⟩ (.int .u8 (bits .xor .u8 (x : Int) (2 ^ j % 256))) w1.heap.size (by simp; omega)).trans (unhide HG5)
        have HG6 := hide hG6
        have HB6 := hide ((unhide HB5).setCell (p := ⟨w4.heap.size, 0, none⟩) (by simp; omega) (.int .u8 (bits .xor .u8 (x : Int) (2 ^ j % 256))))
        clear hIR1 hIR2 hr2 u1 u2 u3 yne y0 y1 hxe hO6 hG6 hbf
        go_wp2_with fail
        refine (unhide HI2 _ (by rw [unhide HU1]; omega)).mono ?_
        rintro e w7 ⟨v7, rfl, hO7, hb7⟩
        obtain ⟨fa7, fc7, rfl⟩ := ownF_form hO7
        have hz6 : w1.heap.size < (w5.setCell ⟨w4.heap.size, 0, none⟩ (.int .u8 (bits .xor .u8 (x : Int) (2 ^ j % 256)))).heap.size := by simpa using hz5
        have HG7 := hide ((hb7.block _ hz6).trans (unhide HG6))
        have HB7 := hide ((unhide HB6).trans (hb7.mono (unhide HB6).size))
        have hz7 := Nat.lt_of_lt_of_le hz6 hb7.size
        clear hO7 hb7 HG6 HB6 hz6
        simp only [List.length_nil]
        go_wp2_with fail
        refine (unhide HI1 _ (by rw [unhide HSN]; omega)).mono ?_
        rintro e w8 ⟨v8, rfl, hO8, hb8⟩
        obtain ⟨fa8, fc8, rfl⟩ := ownF_form hO8
        obtain ⟨g8, eg, lg, r1, r2, -, -⟩ := (hO8.at rfl) 0 (by simp)
        subst eg
        have hG8 := (hb8.block _ hz7).trans (unhide HG7)
        have c0 : w8.cell? ⟨w1.heap.size, 0, none⟩ = some (.int .i64 k) := cell_of_row w8 _ 0 _ _ _ hG8
        have c1 : w8.cell? ⟨w1.heap.size, 1, none⟩ = some (.string b) := cell_of_row w8 _ 1 _ _ _ hG8
        have HB8 := hide ((unhide HB7).trans (hb8.mono (unhide HB7).size))
        have hsn := unhide HSN
        have hcd := unhide HCD
        clear hO8 hb8 HG7 HB7 hG8
        simp only [List.length_cons, List.length_nil, List.getElem_cons_zero, Nat.zero_mul, Nat.zero_add] at r1 r2 ⊢
        go_wp2_with fail
        go_quiet (fail)
        go_wp2_with fail
        go_ret
        exact ⟨by rw [show (cd != 0) = true from by simp [hcd]]; rfl, below_drewN (unhide HB8) _⟩
      · rcases (show i < 1 ∨ 4 < i from by omega) with hlo | hlo
        · have k1 : (i : Int) < 1 := by omega
          obtain ⟨hc, hf⟩ := unhide HCL i hin
          have hx := bAt_lt s i
          obtain ⟨x, hxe⟩ : ∃ x, bAt s i = x := ⟨_, rfl⟩
          rw [hxe] at hc hx
          obtain ⟨y0, y1, yne⟩ := flip8 x j hx hj8
          have hO6 := (unhide HO5).set i (by rw [hln]; exact hin) (bits .xor .u8 (x : Int) (2 ^ j % 256))
          have hcv2 := conv_pre _ _ _ _ n cp _ hO6 (by rw [List.length_set, hln]; exact Nat.le_refl _)
          obtain ⟨u1, u2, u3⟩ := turned s i n (bits .xor .u8 (x : Int) (2 ^ j % 256)) (unhide HSN) hin y0 y1
          have hbf := bit_found s _ i n (unhide HQ) (unhide HSN) u1 (unhide HQ2) hin h14 (by rw [hxe]; intro e; exact yne (by rw [← u2, ← e])) (fun q hq => (u3 q hq).symm)
          have hr2 := read_none _ (by rw [u1]; omega) hbf
          generalize strOfNums (((bL s).set i (bits .xor .u8 (x : Int) (2 ^ j % 256))).take n) = tt at hcv2 u1 u2 u3 hbf hr2
          generalize frC tt = cd at hbf hr2
          have hIR2 := implRead_calls tt
          rw [hr2] at hIR2
          have hIR1 := implRead_calls s
          rw [unhide HR1] at hIR1
          have HI2 := hide hIR2
          have HI1 := hide hIR1
          have HU1 := hide u1
          have HCD := hide hbf
          have hG6 := (Below.heap_setCell w5 ⟨w4.heap.size, i, none⟩ (.int .u8 (bits .xor .u8 (x : Int) (2 ^ j % 256))) w1.heap.size (by simp; omega)).trans (unhide HG5)
          have HG6 := hide hG6
          have HB6 := hide ((unhide HB5).setCell (p := ⟨w4.heap.size, i, none⟩) (by simp; omega) (.int .u8 (bits .xor .u8 (x : Int) (2 ^ j % 256))))
          clear hIR1 hIR2 hr2 u1 u2 u3 yne y0 y1 hxe hO6 hG6 hbf
          go_wp2_with fail
          refine (unhide HI2 _ (by rw [unhide HU1]; omega)).mono ?_
          rintro e w7 ⟨v7, rfl, hO7, hb7⟩
          obtain ⟨fa7, fc7, rfl⟩ := ownF_form hO7
          have hz6 : w1.heap.size < (w5.setCell ⟨w4.heap.size, i, none⟩ (.int .u8 (bits .xor .u8 (x : Int) (2 ^ j % 256)))).heap.size := by simpa using hz5
          have HG7 := hide ((hb7.block _ hz6).trans (unhide HG6))
          have HB7 := hide ((unhide HB6).trans (hb7.mono (unhide HB6).size))
          have hz7 := Nat.lt_of_lt_of_le hz6 hb7.size
          clear hO7 hb7 HG6 HB6 hz6
          simp only [List.length_nil]
          go_wp2_with fail
          refine (unhide HI1 _ (by rw [unhide HSN]; omega)).mono ?_
          rintro e w8 ⟨v8, rfl, hO8, hb8⟩
          obtain ⟨fa8, fc8, rfl⟩ := ownF_form hO8
          obtain ⟨g8, eg, lg, r1, r2, -, -⟩ := (hO8.at rfl) 0 (by simp)
          subst eg
          have hG8 := (hb8.block _ hz7).trans (unhide HG7)
          have c0 : w8.cell? ⟨w1.heap.size, 0, none⟩ = some (.int .i64 k) := cell_of_row w8 _ 0 _ _ _ hG8
          have c1 : w8.cell? ⟨w1.heap.size, 1, none⟩ = some (.string b) := cell_of_row w8 _ 1 _ _ _ hG8
          have HB8 := hide ((unhide HB7).trans (hb8.mono (unhide HB7).size))
          have hsn := unhide HSN
          have hcd := unhide HCD
          clear hO8 hb8 HG7 HB7 hG8
          simp only [List.length_cons, List.length_nil, List.getElem_cons_zero, Nat.zero_mul, Nat.zero_add] at r1 r2 ⊢
          go_wp2_with fail
          go_quiet (fail)
          go_wp2_with fail
          go_ret
          exact ⟨by rw [show (cd != 0) = true from by simp [hcd]]; rfl, below_drewN (unhide HB8) _⟩
        · have k1 : (4 : Int) < (i : Int) := by omega
          obtain ⟨hc, hf⟩ := unhide HCL i hin
          have hx := bAt_lt s i
          obtain ⟨x, hxe⟩ : ∃ x, bAt s i = x := ⟨_, rfl⟩
          rw [hxe] at hc hx
          obtain ⟨y0, y1, yne⟩ := flip8 x j hx hj8
          have hO6 := (unhide HO5).set i (by rw [hln]; exact hin) (bits .xor .u8 (x : Int) (2 ^ j % 256))
          have hcv2 := conv_pre _ _ _ _ n cp _ hO6 (by rw [List.length_set, hln]; exact Nat.le_refl _)
          obtain ⟨u1, u2, u3⟩ := turned s i n (bits .xor .u8 (x : Int) (2 ^ j % 256)) (unhide HSN) hin y0 y1
          have hbf := bit_found s _ i n (unhide HQ) (unhide HSN) u1 (unhide HQ2) hin h14 (by rw [hxe]; intro e; exact yne (by rw [← u2, ← e])) (fun q hq => (u3 q hq).symm)
          have hr2 := read_none _ (by rw [u1]; omega) hbf
          generalize strOfNums (((bL s).set i (bits .xor .u8 (x : Int) (2 ^ j % 256))).take n) = tt at hcv2 u1 u2 u3 hbf hr2
          generalize frC tt = cd at hbf hr2
          have hIR2 := implRead_calls tt
          rw [hr2] at hIR2
          have hIR1 := implRead_calls s
          rw [unhide HR1] at hIR1
          have HI2 := hide hIR2
          have HI1 := hide hIR1
          have HU1 := hide u1
          have HCD := hide hbf
          have hG6 := (Below.heap_setCell w5 ⟨w4.heap.size, i, none⟩ (.int .u8 (bits .xor .u8 (x : Int) (2 ^ j % 256))) w1.heap.size (by simp; omega)).trans (unhide HG5)
          have HG6 := hide hG6
          have HB6 := hide ((unhide HB5).setCell (p := ⟨w4.heap.size, i, none⟩) (by simp; omega) (.int .u8 (bits .xor .u8 (x : Int) (2 ^ j % 256))))
          clear hIR1 hIR2 hr2 u1 u2 u3 yne y0 y1 hxe hO6 hG6 hbf
          go_wp2_with fail
          refine (unhide HI2 _ (by rw [unhide HU1]; omega)).mono ?_
          rintro e w7 ⟨v7, rfl, hO7, hb7⟩
          obtain ⟨fa7, fc7, rfl⟩ := ownF_form hO7
          have hz6 : w1.heap.size < (w5.setCell ⟨w4.heap.size, i, none⟩ (.int .u8 (bits .xor .u8 (x : Int) (2 ^ j % 256)))).heap.size := by simpa using hz5
          have HG7 := hide ((hb7.block _ hz6).trans (unhide HG6))
          have HB7 := hide ((unhide HB6).trans (hb7.mono (unhide HB6).size))
          have hz7 := Nat.lt_of_lt_of_le hz6 hb7.size
          clear hO7 hb7 HG6 HB6 hz6
          simp only [List.length_nil]
          go_wp2_with fail
          refine (unhide HI1 _ (by rw [unhide HSN]; omega)).mono ?_
          rintro e w8 ⟨v8, rfl, hO8, hb8⟩
          obtain ⟨fa8, fc8, rfl⟩ := ownF_form hO8
          obtain ⟨g8, eg, lg, r1, r2, -, -⟩ := (hO8.at rfl) 0 (by simp)
          subst eg
          have hG8 := (hb8.block _ hz7).trans (unhide HG7)
          have c0 : w8.cell? ⟨w1.heap.size, 0, none⟩ = some (.int .i64 k) := cell_of_row w8 _ 0 _ _ _ hG8
          have c1 : w8.cell? ⟨w1.heap.size, 1, none⟩ = some (.string b) := cell_of_row w8 _ 1 _ _ _ hG8
          have HB8 := hide ((unhide HB7).trans (hb8.mono (unhide HB7).size))
          have hsn := unhide HSN
          have hcd := unhide HCD
          clear hO8 hb8 HG7 HB7 hG8
          simp only [List.length_cons, List.length_nil, List.getElem_cons_zero, Nat.zero_mul, Nat.zero_add] at r1 r2 ⊢
          go_wp2_with fail
          go_quiet (fail)
          go_wp2_with fail
          go_ret
          exact ⟨by rw [show (cd != 0) = true from by simp [hcd]]; rfl, below_drewN (unhide HB8) _⟩
    · rw [frame_none k b hv]
      have hem := emp_list
      go_wp2_with fail
      go_ret
      exact ⟨rfl, unhide HB4⟩
  · have hd : decide (1048576 < (len0 : Int)) = true := by simp; omega
    go_enter Try.func5, Try.ntmps5
    go_wp2_with fail
    refine (big_calls a0 len0 cap0 _ hlen).mono ?_
    rintro e w1 ⟨rfl, rfl⟩
    rw [hd]
    go_wp2
    go_ret
    exact ⟨rfl, Below.refl _ _⟩

set_option maxRecDepth 100000 in
theorem lifted (os : Os) (started : os.Started) (H : Type) (enc : TypeId × Value → H) :
    ReturnsInHanded {} Try.checked os 5 .any (Rows.fnBitFoundSpec.pre6 enc Try.prog Try.f5 Rows.fnBitFoundRow.domain false) (Rows.fnBitFoundSpec.post enc Try.prog Try.f5 false true false false) := by
  refine returnsInHanded_of_change (C := Try.checked) own started (by kernel_rfl) Try.func5
    (ChangeSpec.witness6 (enc := enc) (C := Try.checked) false ⟨#[], #[.slice none 0 0], []⟩ 8 (by kernel_rfl) (by kernel_rfl) (by kernel_rfl) (by kernel_rfl)) ?_
  intro W base args ds gs before hval0 hW hcnd _
  have hval : ∀ (j : Nat) t v, Try.f5.params[j]? = some t → args[j]? = some v → Value.okWide Try.prog W .any base t v := hval0
  have hW' := hW
  obtain ⟨p, q, hA0, hV, rfl, hfz, hnd⟩ := hW
  have hA : DataW.TrodAll enc Try.prog W 0 (fun _ => true) true Try.f5.params.toList args.toList ds p := hA0
  rw [Try.params5] at hA hval
  obtain ⟨v0, vs0, d0, ds0, p0, q0, hargs, rfl, rfl, h0, r0⟩ := trodAll_cons hA
  obtain ⟨rfl, rfl, rfl⟩ := trodAll_nil r0
  obtain rfl : args = #[v0] := by cases args; simp_all
  obtain ⟨rfl, rfl⟩ := trodVars_none hV
  have k0 := h0
  have lt0 : ∀ x ∈ p0, x.block < W.heap.size := by obtain ⟨m, hm⟩ := k0; exact DataW.trod_lt m _ _ _ hm
  obtain ⟨a0, len0, cap0, rfl⟩ := okWide_slice Try.underlying22 (hval 0 22 v0 rfl rfl)
  obtain ⟨z0, w0⟩ : ∃ zs, IsRow .u8 W a0 len0 cap0 zs := by
    obtain ⟨fuel, hf⟩ := h0
    rcases open_ints Try.underlying22 Try.underlying5 (by kernel_rfl) hf with ⟨hcs, _⟩ | ⟨x, l, c, zs, hcs, _, hl, hm, hz, _, hcell, hwz⟩
    · simp [Value.cells] at hcs
      obtain ⟨rfl, rfl, rfl⟩ := hcs
      exact ⟨[], .inl ⟨rfl, rfl, rfl, rfl⟩⟩
    · simp [Value.cells] at hcs
      obtain ⟨rfl, rfl, rfl⟩ := hcs
      exact ⟨zs, .inr ⟨_, rfl, hl, hm, by simpa using hz, hcell, hwz⟩⟩
  clear hA0 hval0
  refine (walk a0 len0 cap0 z0 W w0).mono fun e W' ⟨he, bel⟩ => ?_
  subst he
  exact ⟨_, rfl, _, _, _, [], _, [], hW', trodAll_mk1 (shut_bool Try.underlying4 _), (trodAll_cons_mk (Below.trod laidOut (by kernel_rfl) (of_decide_eq_true (by kernel_rfl)) k0 bel lt0) trodAll_mk0), rfl, bel.frame _, fun h => by cases h⟩

theorem over : Rows.fnBitFoundRow.holds Try.pinned (OpenSpec.ofChange Rows.fnBitFoundSpec) :=
  OpenClaim.holds_of_wide 5 Try.f5 rfl rfl rfl rfl rfl rfl rfl ⟨rfl, rfl, rfl, rfl, rfl⟩ rfl rfl rfl rfl rfl (by kernel_rfl) Try.func5 (by kernel_rfl)
    (of_decide_eq_true (by kernel_rfl)) (by unfold Func.isWrapper; first | (rw [if_pos (by decide +kernel)]; kernel_rfl) | (rw [if_neg (by decide +kernel)]; exact ⟨rfl, rfl⟩))
    (fun os started H enc _ => lifted os started H enc)

end Go.Proofs.Ytlkkhhelonbcbaa.fnBitFound
namespace Go.Proofs.Ytlkkhhelonbcbaa
theorem fnBitFound_holds : Rows.FnBitFoundSaid := fnBitFound.over
#print axioms fnBitFound_holds
end Go.Proofs.Ytlkkhhelonbcbaa
