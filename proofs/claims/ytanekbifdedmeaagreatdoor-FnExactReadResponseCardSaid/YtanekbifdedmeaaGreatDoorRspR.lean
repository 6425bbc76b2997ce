/- Responses, as the exact laws copy, measure and compare them. -/
import Derived.Test.YtanekbifdedmeaaGreatDoorGAH
import Derived.Test.YtanekbifdedmeaaGreatDoorFitI
namespace Go.Proofs.YtanekbifdedmeaaGreatDoor
open Go.RowKit Plain
set_option linter.unusedVariables false

/-- A response among the arguments. -/
structure Plain.RspArg (W : World) (st : Int) (ah : Option Addr) (nh ch : Nat) (hs : List Hd) (bd : ByteArray) : Prop where
  s : (Lit.int .i64 st).wf = true
  h : ArgRow 2 hdrL goodH W ah nh ch hs
  b : bd.size ≤ maxLen
theorem Plain.RspArg.below {W W' : World} {st : Int} {ah : Option Addr} {nh ch : Nat} {hs : List Hd} {bd : ByteArray} (h : RspArg W st ah nh ch hs bd) (hb : Below W.heap.size W W') : RspArg W' st ah nh ch hs bd :=
  ⟨h.s, ⟨h.h.len, h.h.le, h.h.good, h.h.row.below hb⟩, h.b⟩
set_option maxRecDepth 10000 in
set_option maxHeartbeats 1000000 in
theorem eqResponse_calls (st : Int) (ah bh : Option Addr) (nh ch dh : Nat) (hs : List Hd) (bd : ByteArray) (w : World) (hh : hs.length = nh) (zh : nh ≤ 10000000) (h1 : RowAt hdrE w ah hs) (h2 : RowAt hdrE w bh hs) :
    Calls Tryz.prog 27 #[.agg #[.int .i64 st, .slice ah nh ch, .string bd], .agg #[.int .i64 st, .slice bh nh dh, .string bd]] w fun e w' => e = .returned (.bool true) ∧ Below w.heap.size w w' := by
  obtain ⟨W0, hW0⟩ : ∃ W0, W0 = (w.alloc (.cells #[.int .i64 st, .slice ah nh ch, .string bd] 36)).alloc (.cells #[.int .i64 st, .slice bh nh dh, .string bd] 36) := ⟨_, rfl⟩
  have hb0 : Below w.heap.size w W0 := by rw [hW0]; exact belOn (bel1 _ _) (bel1 _ _)
  have B0 : Blk W0 w.heap.size [.int .i64 st, .slice ah nh ch, .string bd] := by rw [hW0]; exact (Blk.new w _ _).alloc _
  have D0 : Blk W0 (w.heap.size + 1) [.int .i64 st, .slice bh nh dh, .string bd] := by
    rw [hW0]
    have := Blk.new (w.alloc (.cells #[.int .i64 st, .slice ah nh ch, .string bd] 36)) [.int .i64 st, .slice bh nh dh, .string bd] 36
    simpa using this
  have HC := hide (fun (W : World) (hW : Below W0.heap.size W0 W) => And.intro ((B0.call hW).c 2 (by simp)) ((D0.call hW).c 2 (by simp)))
  have HEQ := hide (eqHeaderS_calls ah bh ch dh nh hs W0 hh (by omega) (h1.below hb0) (h2.below hb0))
  have HB := hide hb0
  have HW0 := hide hW0.symm
  clear h1 h2 hb0 B0 D0 hW0 hh
  go_enter Tryz.func27, Tryz.ntmps27
  go_wp2_with fail
  rw [unhide HW0]
  refine (unhide HEQ).mono ?_
  rintro e w1 ⟨rfl, hb1⟩
  have HB1 := hide (belOn (unhide HB) hb1)
  obtain ⟨q2, p2⟩ := unhide HC _ hb1
  clear hb1
  go_wp2_with fail
  go_ret
  exact ⟨rfl, unhide HB1⟩

/-- A response's row. -/
structure Plain.RspAt (W : World) (st : Int) (ah : Option Addr) (nh : Nat) (hs : List Hd) (bd : ByteArray) : Prop where
  lh : hs.length = nh
  bh : nh ≤ 1048576
  sh : smallH hs
  sb : bd.size ≤ 1000000000
  rh : RowAt hdrE W ah hs
theorem Plain.RspAt.below {W W' : World} {st : Int} {ah : Option Addr} {nh : Nat} {hs : List Hd} {bd : ByteArray} (h : RspAt W st ah nh hs bd) (hb : Below W.heap.size W W') : RspAt W' st ah nh hs bd := ⟨h.lh, h.bh, h.sh, h.sb, h.rh.below hb⟩
/-- What is known of a response that is not too long. -/
structure Plain.RspSm (st : Int) (nh : Nat) (hs : List Hd) (bd : ByteArray) : Prop where
  lh : hs.length = nh
  bh : nh ≤ 1048576
  sh : smallH hs
  sb : bd.size ≤ 1000000000
theorem Plain.RspSm.at {W : World} {st : Int} {ah : Option Addr} {nh : Nat} {hs : List Hd} {bd : ByteArray} (h : RspSm st nh hs bd) (h2 : RowAt hdrE W ah hs) : RspAt W st ah nh hs bd := ⟨h.lh, h.bh, h.sh, h.sb, h2⟩
end Go.Proofs.YtanekbifdedmeaaGreatDoor
