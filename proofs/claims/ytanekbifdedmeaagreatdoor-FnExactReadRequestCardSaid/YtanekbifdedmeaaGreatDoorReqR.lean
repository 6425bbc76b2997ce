/- Requests, as the exact laws copy, measure and compare them. -/
import Derived.Test.YtanekbifdedmeaaGreatDoorGAH
import Derived.Test.YtanekbifdedmeaaGreatDoorReqK
namespace Go.Proofs.YtanekbifdedmeaaGreatDoor
open Go.RowKit Plain
set_option linter.unusedVariables false

/-- A request among the arguments. -/
structure Plain.ReqArg (W : World) (m p : ByteArray) (aq : Option Addr) (nq cq : Nat) (qs : List Hd) (ah : Option Addr) (nh ch : Nat) (hs : List Hd) (bd : ByteArray) : Prop where
  m : m.size ≤ maxLen
  p : p.size ≤ maxLen
  q : ArgRow 2 hdrL goodH W aq nq cq qs
  h : ArgRow 2 hdrL goodH W ah nh ch hs
  b : bd.size ≤ maxLen
theorem Plain.ReqArg.below {W W' : World} {m p : ByteArray} {aq : Option Addr} {nq cq : Nat} {qs : List Hd} {ah : Option Addr} {nh ch : Nat} {hs : List Hd} {bd : ByteArray} (h : ReqArg W m p aq nq cq qs ah nh ch hs bd) (hb : Below W.heap.size W W') : ReqArg W' m p aq nq cq qs ah nh ch hs bd :=
  ⟨h.m, h.p, ⟨h.q.len, h.q.le, h.q.good, h.q.row.below hb⟩, ⟨h.h.len, h.h.le, h.h.good, h.h.row.below hb⟩, h.b⟩
/-- The two rows of a request that is read. -/
structure Plain.ReqRow (W : World) (aq ah : Option Addr) (qs hs : List Hd) : Prop where
  q : RowAt hdrE W aq qs
  h : RowAt hdrE W ah hs
theorem Plain.ReqRow.below {W W' : World} {aq ah : Option Addr} {qs hs : List Hd} (h : ReqRow W aq ah qs hs) (hb : Below W.heap.size W W') : ReqRow W' aq ah qs hs := ⟨h.q.below hb, h.h.below hb⟩

set_option maxRecDepth 10000 in
set_option maxHeartbeats 1000000 in
theorem eqRequest_calls (m p : ByteArray) (aq ah bq bh : Option Addr) (nq nh cq ch dq dh : Nat) (qs hs : List Hd) (bd : ByteArray) (w : World) (hq : qs.length = nq) (hh : hs.length = nh) (zq : nq ≤ 10000000) (zh : nh ≤ 10000000) (h1 : ReqRow w aq ah qs hs) (h2 : ReqRow w bq bh qs hs) :
    Calls Tryz.prog 24 #[.agg #[.string m, .string p, .slice aq nq cq, .slice ah nh ch, .string bd], .agg #[.string m, .string p, .slice bq nq dq, .slice bh nh dh, .string bd]] w fun e w' => e = .returned (.bool true) ∧ Below w.heap.size w w' := by
  obtain ⟨W0, hW0⟩ : ∃ W0, W0 = (w.alloc (.cells #[.string m, .string p, .slice aq nq cq, .slice ah nh ch, .string bd] 26)).alloc (.cells #[.string m, .string p, .slice bq nq dq, .slice bh nh dh, .string bd] 26) := ⟨_, rfl⟩
  have hb0 : Below w.heap.size w W0 := by rw [hW0]; exact belOn (bel1 _ _) (bel1 _ _)
  have B0 : Blk W0 w.heap.size [.string m, .string p, .slice aq nq cq, .slice ah nh ch, .string bd] := by rw [hW0]; exact (Blk.new w _ _).alloc _
  have D0 : Blk W0 (w.heap.size + 1) [.string m, .string p, .slice bq nq dq, .slice bh nh dh, .string bd] := by
    rw [hW0]
    have := Blk.new (w.alloc (.cells #[.string m, .string p, .slice aq nq cq, .slice ah nh ch, .string bd] 26)) [.string m, .string p, .slice bq nq dq, .slice bh nh dh, .string bd] 26
    simpa using this
  have HC := hide (fun (W : World) (hW : Below W0.heap.size W0 W) => And.intro (And.intro ((B0.call hW).c 3 (by simp)) ((B0.call hW).c 4 (by simp))) (And.intro ((D0.call hW).c 3 (by simp)) ((D0.call hW).c 4 (by simp))))
  have HD := hide (fun (W : World) (hW : Below W0.heap.size W0 W) => And.intro (h1.below (belOn hb0 hW)) (h2.below (belOn hb0 hW)))
  have HFIN := hide (fun (W : World) (hW : Below W0.heap.size W0 W) => belOn hb0 hW)
  have HW0 := hide hW0.symm
  have HQ := hide hq
  have HH := hide hh
  clear h1 h2 hb0 B0 D0 hW0 hq hh
  go_enter Tryz.func24, Tryz.ntmps24
  go_wp2_with fail
  rw [unhide HW0]
  refine (eqHeaderS_calls aq bq cq dq nq qs W0 (unhide HQ) (by omega) (unhide HD _ (Below.refl _ _)).1.q (unhide HD _ (Below.refl _ _)).2.q).mono ?_
  rintro e w1 ⟨rfl, hb1⟩
  have HB1 := hide hb1
  obtain ⟨⟨q3, q4⟩, p3, p4⟩ := unhide HC _ hb1
  clear hb1
  go_wp2_with fail
  refine (eqHeaderS_calls ah bh ch dh nh hs w1 (unhide HH) (by omega) (unhide HD _ (unhide HB1)).1.h (unhide HD _ (unhide HB1)).2.h).mono ?_
  rintro e w2 ⟨rfl, hb2⟩
  have HB2 := hide (belOn (unhide HB1) hb2)
  clear hb2 q3 q4 p3 p4
  obtain ⟨⟨q3, q4⟩, p3, p4⟩ := unhide HC _ (unhide HB2)
  go_wp2_with fail
  go_ret
  exact ⟨rfl, unhide HFIN _ (unhide HB2)⟩
end Go.Proofs.YtanekbifdedmeaaGreatDoor
