/- Responses, as the exact laws copy, measure and compare them. -/
import Derived.Test.YtjjdeffmciknjaaDoorBlk
import Derived.Test.YtjjdeffmciknjaaDoorFitI
namespace Go.Proofs.YtjjdeffmciknjaaDoor
open Go.RowKit Plain
set_option linter.unusedVariables false

/-- A response among the arguments. -/
structure Plain.RspArg (W : World) (st : Int) (ah : Option Addr) (nh ch : Nat) (hs : List Hd) (bd : ByteArray) : Prop where
  s : (Lit.int .i64 st).wf = true
  h : ArgRow 2 hdrL goodH W ah nh ch hs
  b : bd.size ≤ maxLen
theorem Plain.RspArg.below {W W' : World} {st : Int} {ah : Option Addr} {nh ch : Nat} {hs : List Hd} {bd : ByteArray} (h : RspArg W st ah nh ch hs bd) (hb : Below W.heap.size W W') : RspArg W' st ah nh ch hs bd :=
  ⟨h.s, ⟨h.h.len, h.h.le, h.h.good, h.h.row.below hb⟩, h.b⟩
/-- How many bytes and elements a response has. -/
def Plain.totS (hs : List Hd) (bd : ByteArray) : Nat := (hs.length + totH hs) + bd.size
/-- What toResponse leaves. -/
def ToRsp (st : Int) (nh : Nat) (hs : List Hd) (bd : ByteArray) (w : World) (e : Ending) (w' : World) : Prop :=
  ∃ g1, e = .returned (.agg #[.int .i64 st, .slice (some ⟨g1, 0, none⟩) nh nh, .string bd]) ∧ OwnR hdrE w' w.heap.size (.slice (some ⟨g1, 0, none⟩) nh nh) hs ∧ Below w.heap.size w w'

set_option maxRecDepth 10000 in
set_option maxHeartbeats 2000000 in
theorem toResponse_calls (st : Int) (ah : Option Addr) (nh ch : Nat) (hs : List Hd) (bd : ByteArray) (w : World) (h : RspArg w st ah nh ch hs bd) (hh : nh ≤ 1048576) :
    Calls Tryd.prog 15 #[.agg #[.int .i64 st, .slice ah nh ch, .string bd]] w (ToRsp st nh hs bd w) := by
  obtain ⟨W3, hW3⟩ : ∃ W3, W3 = ((w.alloc (.cells #[.int .i64 st, .slice ah nh ch, .string bd] 35)).alloc (.cells #[.int .i64 0, .slice none 0 0, .string ⟨#[]⟩] 39)).alloc (.cells #[.int .i64 st, .slice none 0 0, .string ⟨#[]⟩] 39) := ⟨_, rfl⟩
  have hb3 : Below w.heap.size w W3 := by rw [hW3]; exact belOn (belOn (bel1 _ _) (bel1 _ _)) (bel1 _ _)
  have hz3 : W3.heap.size = w.heap.size + 3 := by rw [hW3]; simp
  have A3 : Blk W3 w.heap.size [.int .i64 st, .slice ah nh ch, .string bd] := by rw [hW3]; exact ((Blk.new w _ _).alloc _).alloc _
  have R3 : Blk W3 (w.heap.size + 1) [.int .i64 0, .slice none 0 0, .string ⟨#[]⟩] := by
    rw [hW3]
    have := (Blk.new (w.alloc (.cells #[.int .i64 st, .slice ah nh ch, .string bd] 35)) [.int .i64 0, .slice none 0 0, .string ⟨#[]⟩] 39).alloc (.cells #[.int .i64 st, .slice none 0 0, .string ⟨#[]⟩] 39)
    simpa using this
  have O3 : Blk W3 (w.heap.size + 2) [.int .i64 st, .slice none 0 0, .string ⟨#[]⟩] := by
    rw [hW3]
    have := Blk.new ((w.alloc (.cells #[.int .i64 st, .slice ah nh ch, .string bd] 35)).alloc (.cells #[.int .i64 0, .slice none 0 0, .string ⟨#[]⟩] 39)) [.int .i64 st, .slice none 0 0, .string ⟨#[]⟩] 39
    simpa using this
  have HW := hide hW3.symm
  have H1 := hide (toHeaderS_calls ah nh ch hs W3 h.h.len hh (h.below hb3).h.row)
  have HB3 := hide hb3
  have HA3 := hide A3
  have HR3 := hide R3
  have HO3 := hide O3
  have HZ3 := hide hz3
  clear hW3 hb3 A3 R3 O3 hz3 h
  go_enter Tryd.func15, Tryd.ntmps15
  go_wp2_with fail
  rw [unhide HW]
  refine (unhide H1).mono ?_
  rintro e w6 ⟨g1, rfl, hO6, hb6⟩
  have hg1 := World.ownsRow.lt hO6 g1 rfl
  have hz3 := unhide HZ3
  have A6 := (unhide HA3).call hb6
  have R6 := (unhide HR3).call hb6
  have O6 := (unhide HO3).call hb6
  have HQ6 := hide hO6
  have HB6 := hide (belOn (unhide HB3) hb6)
  have q2 : w6.cell? ⟨w.heap.size, 2, none⟩ = some (.string bd) := A6.c 2 (by simp)
  have u0 : w6.cell? ⟨w.heap.size + 2, 0, none⟩ = some (.int .i64 st) := O6.c 0 (by simp)
  have u1 : w6.cell? ⟨w.heap.size + 2, 1, none⟩ = some (.slice none 0 0) := O6.c 1 (by simp)
  have u2 : w6.cell? ⟨w.heap.size + 2, 2, none⟩ = some (.string ⟨#[]⟩) := O6.c 2 (by simp)
  have y1 : w6.frozen? ⟨w.heap.size + 2, 1, none⟩ = false := O6.f 1 (by simp)
  have y2 : w6.frozen? ⟨w.heap.size + 2, 2, none⟩ = false := O6.f 2 (by simp)
  have r0 : w6.cell? ⟨w.heap.size + 1, 0, none⟩ = some (.int .i64 0) := R6.c 0 (by simp)
  have r1 : w6.cell? ⟨w.heap.size + 1, 1, none⟩ = some (.slice none 0 0) := R6.c 1 (by simp)
  have r2 : w6.cell? ⟨w.heap.size + 1, 2, none⟩ = some (.string ⟨#[]⟩) := R6.c 2 (by simp)
  have s0 : w6.frozen? ⟨w.heap.size + 1, 0, none⟩ = false := R6.f 0 (by simp)
  have s1 : w6.frozen? ⟨w.heap.size + 1, 1, none⟩ = false := R6.f 1 (by simp)
  have s2 : w6.frozen? ⟨w.heap.size + 1, 2, none⟩ = false := R6.f 2 (by simp)
  have n2 : w.heap.size + 1 ≠ g1 := by omega
  have n4 : w.heap.size + 1 + 1 ≠ g1 := by omega
  have n7 : w.heap.size ≤ W3.heap.size := by omega
  have HN := hide (And.intro n2 (And.intro n4 n7))
  clear A6 R6 O6 hb6 hO6 hz3 hg1 n2 n4 n7 H1
  go_wp2_with fail
  refine bodyPost_ret (v := .agg #[.int .i64 st, .slice (some ⟨g1, 0, none⟩) nh nh, .string bd]) (by simp [results, Tryd.results15, go_sem, r0, r1, r2]) rfl ?_
  obtain ⟨n2, n4, n7⟩ := unhide HN
  refine ⟨g1, rfl, ?_, ?_⟩
  · exact ((((((unhide HQ6).off2 n4).off2 n4).off2 n2).off2 n2).off2 n2).le n7
  · exact (((((unhide HB6).setCell (show w.heap.size ≤ w.heap.size + 1 + 1 by omega) _).setCell (show w.heap.size ≤ w.heap.size + 1 + 1 by omega) _).setCell (show w.heap.size ≤ w.heap.size + 1 by omega) _).setCell (show w.heap.size ≤ w.heap.size + 1 by omega) _).setCell (show w.heap.size ≤ w.heap.size + 1 by omega) _

set_option maxRecDepth 10000 in
set_option maxHeartbeats 2000000 in
theorem szResponse_calls (st : Int) (ah : Option Addr) (nh ch : Nat) (hs : List Hd) (bd : ByteArray) (left : Nat) (w : World) (h : RspArg w st ah nh ch hs bd) (hl : left ≤ 10000000) :
    Calls Tryd.prog 13 #[.agg #[.int .i64 st, .slice ah nh ch, .string bd], .int .i64 left] w fun e w' => e = .returned (.int .i64 (purse left (totS hs bd))) ∧ Below w.heap.size w w' := by
  obtain ⟨W0, hW0⟩ : ∃ W0, W0 = w.alloc (.cells #[.int .i64 st, .slice ah nh ch, .string bd] 35) := ⟨_, rfl⟩
  have hb0 : Below w.heap.size w W0 := by rw [hW0]; exact bel1 _ _
  have B0 : Blk W0 w.heap.size [.int .i64 st, .slice ah nh ch, .string bd] := by rw [hW0]; exact Blk.new w _ _
  have HC := hide (fun (W : World) (hW : Below W0.heap.size W0 W) => (B0.call hW).c 2 (by simp))
  have HFIN := hide (fun (W : World) (hW : Below W0.heap.size W0 W) => belOn hb0 hW)
  have HW0 := hide hW0.symm
  have hbd := h.b
  have hlh := h.h.le
  unfold maxLen at hbd hlh
  unfold totS
  rw [h.h.len]
  have H1 := hide (szHeaderS_calls ah nh ch hs left W0 h.h.len (by omega) h.h.good hl (h.below hb0).h.row)
  generalize nh + totH hs = D at H1
  clear h hb0 B0 hW0 hlh
  by_cases h4 : left < D
  · rw [purse_no (show (left : Int) < ((D + bd.size : Nat) : Int) by omega)]
    rw [purse_no (show (left : Int) < (D : Int) by omega)] at H1
    go_enter Tryd.func13, Tryd.ntmps13
    go_wp2_with fail
    rw [unhide HW0]
    refine (unhide H1).mono ?_
    rintro e w1 ⟨rfl, hb1⟩
    have HB1 := hide (unhide HFIN _ hb1)
    clear hb1
    go_wp2_with fail
    go_ret
    exact ⟨rfl, unhide HB1⟩
  obtain ⟨r4, hr4⟩ : ∃ r4 : Nat, (left : Int) - (D : Int) = (r4 : Int) := ⟨left - D, by omega⟩
  rw [purse_step (by omega), hr4]
  rw [purse_yes (show ¬ (left : Int) < (D : Int) by omega), hr4] at H1
  by_cases h5 : r4 < bd.size
  · rw [purse_no (show (r4 : Int) < _ by omega)]
    go_enter Tryd.func13, Tryd.ntmps13
    go_wp2_with fail
    rw [unhide HW0]
    refine (unhide H1).mono ?_
    rintro e w1 ⟨rfl, hb1⟩
    have HB1 := hide (unhide HFIN _ hb1)
    have q2 := unhide HC _ hb1
    clear hb1
    go_wp2_with fail
    go_ret
    exact ⟨rfl, unhide HB1⟩
  · obtain ⟨r5, hr5⟩ : ∃ r5 : Nat, (r4 : Int) - (bd.size : Int) = (r5 : Int) := ⟨r4 - bd.size, by omega⟩
    rw [purse_yes (show ¬ (r4 : Int) < _ by omega), hr5]
    go_enter Tryd.func13, Tryd.ntmps13
    go_wp2_with fail
    rw [unhide HW0]
    refine (unhide H1).mono ?_
    rintro e w1 ⟨rfl, hb1⟩
    have HB1 := hide (unhide HFIN _ hb1)
    have q2 := unhide HC _ hb1
    clear hb1
    go_wp2_with fail
    go_ret
    exact ⟨rfl, unhide HB1⟩

set_option maxRecDepth 10000 in
set_option maxHeartbeats 1000000 in
theorem eqResponse_calls (st : Int) (ah bh : Option Addr) (nh ch dh : Nat) (hs : List Hd) (bd : ByteArray) (w : World) (hh : hs.length = nh) (zh : nh ≤ 10000000) (h1 : RowAt hdrE w ah hs) (h2 : RowAt hdrE w bh hs) :
    Calls Tryd.prog 17 #[.agg #[.int .i64 st, .slice ah nh ch, .string bd], .agg #[.int .i64 st, .slice bh nh dh, .string bd]] w fun e w' => e = .returned (.bool true) ∧ Below w.heap.size w w' := by
  obtain ⟨W0, hW0⟩ : ∃ W0, W0 = (w.alloc (.cells #[.int .i64 st, .slice ah nh ch, .string bd] 39)).alloc (.cells #[.int .i64 st, .slice bh nh dh, .string bd] 39) := ⟨_, rfl⟩
  have hb0 : Below w.heap.size w W0 := by rw [hW0]; exact belOn (bel1 _ _) (bel1 _ _)
  have B0 : Blk W0 w.heap.size [.int .i64 st, .slice ah nh ch, .string bd] := by rw [hW0]; exact (Blk.new w _ _).alloc _
  have D0 : Blk W0 (w.heap.size + 1) [.int .i64 st, .slice bh nh dh, .string bd] := by
    rw [hW0]
    have := Blk.new (w.alloc (.cells #[.int .i64 st, .slice ah nh ch, .string bd] 39)) [.int .i64 st, .slice bh nh dh, .string bd] 39
    simpa using this
  have HC := hide (fun (W : World) (hW : Below W0.heap.size W0 W) => And.intro ((B0.call hW).c 2 (by simp)) ((D0.call hW).c 2 (by simp)))
  have HEQ := hide (eqHeaderS_calls ah bh ch dh nh hs W0 hh (by omega) (h1.below hb0) (h2.below hb0))
  have HB := hide hb0
  have HW0 := hide hW0.symm
  clear h1 h2 hb0 B0 D0 hW0 hh
  go_enter Tryd.func17, Tryd.ntmps17
  go_wp2_with fail
  rw [unhide HW0]
  refine (unhide HEQ).mono ?_
  rintro e w1 ⟨rfl, hb1⟩
  have HB1 := hide (belOn (unhide HB) hb1)
  obtain ⟨q2, p2⟩ := unhide HC _ hb1
  clear hb1
  go_wp2_with fail
  go_ret
  exact ⟨rfl, unhide HB1⟩

/-- A response's row. -/
structure Plain.RspAt (W : World) (st : Int) (ah : Option Addr) (nh : Nat) (hs : List Hd) (bd : ByteArray) : Prop where
  lh : hs.length = nh
  bh : nh ≤ 1048576
  sh : smallH hs
  sb : bd.size ≤ 1000000000
  rh : RowAt hdrE W ah hs
theorem Plain.RspAt.below {W W' : World} {st : Int} {ah : Option Addr} {nh : Nat} {hs : List Hd} {bd : ByteArray} (h : RspAt W st ah nh hs bd) (hb : Below W.heap.size W W') : RspAt W' st ah nh hs bd := ⟨h.lh, h.bh, h.sh, h.sb, h.rh.below hb⟩
/-- What is known of a response that is not too long. -/
structure Plain.RspSm (st : Int) (nh : Nat) (hs : List Hd) (bd : ByteArray) : Prop where
  lh : hs.length = nh
  bh : nh ≤ 1048576
  sh : smallH hs
  sb : bd.size ≤ 1000000000
theorem Plain.sm_of {W : World} {st : Int} {ah : Option Addr} {nh ch : Nat} {hs : List Hd} {bd : ByteArray} (h : RspArg W st ah nh ch hs bd) (hb : totS hs bd ≤ 1048576) : RspSm st nh hs bd := by
  have h2 := h.h.len
  unfold totS at hb
  exact ⟨h2, by omega, fun x hx => by have := totH_mem hs x hx; omega, by omega⟩
theorem Plain.RspSm.at {W : World} {st : Int} {ah : Option Addr} {nh : Nat} {hs : List Hd} {bd : ByteArray} (h : RspSm st nh hs bd) (h2 : RowAt hdrE W ah hs) : RspAt W st ah nh hs bd := ⟨h.lh, h.bh, h.sh, h.sb, h2⟩
end Go.Proofs.YtjjdeffmciknjaaDoor
