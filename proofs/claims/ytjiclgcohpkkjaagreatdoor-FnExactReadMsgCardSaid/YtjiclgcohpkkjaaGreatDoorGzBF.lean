/- Texts of one kind, put together. -/
import Derived.Test.YtjiclgcohpkkjaaGreatDoorRmJ
import Derived.Test.YtjiclgcohpkkjaaGreatDoorRmS
import Derived.Test.YtjiclgcohpkkjaaGreatDoorGzBE
import Derived.WalkKit
import Derived.ProofKit
import Derived.Below
import Derived.Test.YtjiclgcohpkkjaaGreatDoorRows
import Derived.Test.YtjiclgcohpkkjaaGreatDoorGzAT
import Derived.LaidMore
import Derived.LaidLaws
import Derived.OpenShut
import Derived.Stop.Joined
import Derived.HandedShaped
import Derived.Shelf.Vars

/- The walk of the law FnExactReadMsg. -/
set_option linter.unusedVariables false
namespace Go.Proofs.YtjiclgcohpkkjaaGreatDoor
open Go.RowKit Plain

namespace Plain
def zM : MsgM := ⟨0, 0, 0, 0, 0, 0, 0, false, ⟨#[]⟩, [], [], []⟩
theorem inB_no {g : Nat} (h : inB none g) : False := by obtain ⟨o, h⟩ := h; cases h
theorem MsgRet.u {o : Option MsgM} {w w' : World} {e : Ending} (h : MsgRet o w e w') : ∃ ae ce av cv al cl, e = .returned (.tuple #[mV (o.getD zM) ae ce av cv al cl, .bool o.isSome]) ∧ MsgOwn (o.getD zM) w.heap.size ae ce av al w' ∧ Below w.heap.size w w' := by
  cases o with
  | none =>
    obtain ⟨rfl, hb⟩ := h
    exact ⟨none, 0, none, 0, none, 0, rfl, ⟨ownR_nil _ _ _, (fun i hi => by cases hi), (fun i hi => by cases hi), fun g hg => (inB_no hg).elim, fun g hg => (inB_no hg).elim, fun g hg => (inB_no hg).elim, fun g hg => (inB_no hg).elim, fun g hg => (inB_no hg).elim⟩, hb⟩
  | some m => exact h
theorem MsgRetS.u {o : Option MsgM} {w w' : World} {e : Ending} (h : MsgRetS o w e w') : ∃ ae ce av cv al cl, e = .returned (.tuple #[mV (o.getD zM) ae ce av cv al cl, .bool o.isSome]) ∧ (RowAt entE w' ae (o.getD zM).es ∧ RowAt i64E w' av (o.getD zM).v ∧ RowAt i64E w' al (o.getD zM).l) ∧ Below w.heap.size w w' := by
  cases o with
  | none =>
    obtain ⟨rfl, hb⟩ := h
    exact ⟨none, 0, none, 0, none, 0, rfl, ⟨(fun i hi => by cases hi), (fun i hi => by cases hi), (fun i hi => by cases hi)⟩, hb⟩
  | some m => exact h
theorem text_few {m : MsgM} (h : 1 ≤ m.text.size) : m.es.length ≤ 8 := by
  unfold MsgM.text at h
  rw [strL_size] at h
  unfold msgL at h
  split at h
  · rename_i hb
    unfold msgB at hb
    simp only [Bool.and_eq_true, decide_eq_true_eq] at hb
    exact hb.1.2.2
  · simp at h
theorem rdI_few (s : ByteArray) : ((rdI s).getD zM).es.length ≤ 8 ∧ ((rdI s).getD zM).v.length ≤ 100 ∧ ((rdI s).getD zM).l.length ≤ 100 := by
  unfold rdI
  cases e : hdA s with
  | none => exact (show zM.es.length ≤ 8 ∧ zM.v.length ≤ 100 ∧ zM.l.length ≤ 100 from ⟨by decide, by decide, by decide⟩)
  | some x =>
    obtain ⟨h, p⟩ := x
    simp only []
    unfold ansM
    split
    · exact (show zM.es.length ≤ 8 ∧ zM.v.length ≤ 100 ∧ zM.l.length ≤ 100 from ⟨by decide, by decide, by decide⟩)
    · rename_i es q hr
      split
      · rename_i hc
        have h1 := hdA_ne e
        refine ⟨?_, ?_⟩
        · show (mOf h es).es.length ≤ 8
          exact text_few (by rw [hc.2]; exact h1)
        · obtain ⟨⟨⟨⟨⟨⟨⟨⟨⟨⟨⟨⟨⟩, a0⟩, a1⟩, a2⟩, a3⟩, a4⟩, a5⟩, a6⟩, a7⟩, tx⟩, cf⟩, c⟩ := h
          exact rdC_few numF cf.data.toList
      · exact (show zM.es.length ≤ 8 ∧ zM.v.length ≤ 100 ∧ zM.l.length ≤ 100 from ⟨by decide, by decide, by decide⟩)
end Plain
end Go.Proofs.YtjiclgcohpkkjaaGreatDoor
namespace Go.Proofs.YtjiclgcohpkkjaaGreatDoor.fnExactReadMsg
open Go.RowKit
open Plain

set_option maxRecDepth 10000 in
set_option maxHeartbeats 8000000 in
theorem walk0 (s : ByteArray) (w : World) (hs : s.size ≤ maxLen) (hv : RdVars w) :
    Calls Tryz.prog 3 #[.string s] w fun e w' => e = .returned (.bool true) ∧ Below w.heap.size w w' := by
  unfold maxLen at hs
  by_cases hbig : 1048576 < s.size
  · go_enter Tryz.func3, Tryz.ntmps3
    go_wp2_with fail
    go_ret
    exact ⟨rfl, Below.refl _ _⟩
  · have HSP := hide (fun (W : World) => (spec_ReadMsg s W (by omega)).mono fun e w' h => MsgRetS.u h)
    have HIM := hide (fun (W : World) (hW : Below w.heap.size w W) => (impl_ReadMsg s W (by omega) (hv.at hW)).mono fun e w' h => MsgRet.u h)
    rw [rdS_rdI] at HSP
    have hfew := rdI_few s
    obtain ⟨G, hG⟩ : ∃ G, (rdI s).isSome = G := ⟨_, rfl⟩
    rw [hG] at HSP HIM
    clear hG
    generalize (rdI s).getD zM = mm at HSP HIM hfew
    obtain ⟨k0, k1, k2, k3, k4, k5, k6, ok, tx, es, X, Y⟩ := mm
    unfold mV msgC at HSP HIM
    simp only at HSP HIM hfew
    obtain ⟨ne, hne⟩ : ∃ m, es.length = m := ⟨_, rfl⟩
    obtain ⟨m1, hm1⟩ : ∃ m, X.length = m := ⟨_, rfl⟩
    obtain ⟨m3, hm3⟩ : ∃ m, Y.length = m := ⟨_, rfl⟩
    rw [hne, hm1, hm3] at hfew HSP HIM
    have z0 : ne ≤ 1048576 := by omega
    have z1 : m1 ≤ 1048576 := by omega
    have z3 : m3 ≤ 1048576 := by omega
    have HNE := hide hne
    have HCF := hide (fun (W : World) (a b : Option Addr) (h1 : RowAt i64E W a X) (h2 : RowAt i64E W b Y) => (show ConfAt W a m1 X b m3 Y from ⟨⟨h1, hm1, z1⟩, ⟨h2, hm3, z3⟩⟩))
    have hs2 : s.size ≤ 1048576 := by omega
    clear hbig hfew hne hm1 hm3 hv hs
    go_enter Tryz.func3, Tryz.ntmps3
    go_wp2_with fail
    refine (unhide HSP w).mono ?_
    rintro e w3 ⟨xE, kE, xL, kL, xS, kS, rfl, ⟨o0, o1, o2⟩, hb3⟩
    obtain ⟨Wq, hWq⟩ : ∃ Wq, Wq = w3.alloc (.cells #[.int .i64 k0, .int .i64 k1, .int .i64 k2, .int .i64 k3, .int .i64 k4, .int .i64 k5, .slice xE ne kE, .int .i64 k6, .bool ok, .string tx, .slice xL m1 kL, .slice xS m3 kS] 27) := ⟨_, rfl⟩
    have hbq : Below w3.heap.size w3 Wq := by rw [hWq]; exact bel1 _ _
    have DW := hide (show Blk Wq w3.heap.size [.int .i64 k0, .int .i64 k1, .int .i64 k2, .int .i64 k3, .int .i64 k4, .int .i64 k5, .slice xE ne kE, .int .i64 k6, .bool ok, .string tx, .slice xL m1 kL, .slice xS m3 kS] from by rw [hWq]; exact Blk.new _ _ _)
    have HB3 := hide (belOn hb3 hbq)
    have hq3 : w3.heap.size < Wq.heap.size := (unhide DW).lt
    have HX := hide (And.intro (o0.below hbq) (And.intro (o1.below hbq) (o2.below hbq)))
    have HWq := hide hWq.symm
    clear hb3 o0 o1 o2 hWq hbq
    go_wp2_with fail
    rw [unhide HWq]
    refine (unhide HIM Wq (unhide HB3)).mono ?_
    rintro e w6 ⟨yE, jE, yL, jL, yS, jS, rfl, hO6, hb6⟩
    obtain ⟨Wg, hWg⟩ : ∃ Wg, Wg = w6.alloc (.cells #[.int .i64 k0, .int .i64 k1, .int .i64 k2, .int .i64 k3, .int .i64 k4, .int .i64 k5, .slice yE ne jE, .int .i64 k6, .bool ok, .string tx, .slice yL m1 jL, .slice yS m3 jS] 27) := ⟨_, rfl⟩
    have hbg : Below w6.heap.size w6 Wg := by rw [hWg]; exact bel1 _ _
    have hb6g := belOn hb6 hbg
    have DG := hide (show Blk Wg w6.heap.size [.int .i64 k0, .int .i64 k1, .int .i64 k2, .int .i64 k3, .int .i64 k4, .int .i64 k5, .slice yE ne jE, .int .i64 k6, .bool ok, .string tx, .slice yL m1 jL, .slice yS m3 jS] from by rw [hWg]; exact Blk.new _ _ _)
    have HT6 := hide hb6g
    have HV6 := hide (show ∀ g, inM yE yL yS g → Wq.heap.size ≤ g ∧ g < w6.heap.size from fun g hg => by
      rcases hg with h | h | h
      · exact hO6.ents.bl g h
      · exact hO6.vb g h
      · exact hO6.lb g h)
    have HY6 := hide (And.intro (hO6.ents.at.below hbg) (And.intro (hO6.v.below hbg) (hO6.l.below hbg)))
    have HAY := hide (And.intro hO6.vl (And.intro hO6.ev hO6.el))
    have DW6 := hide ((unhide DW).below hb6g (unhide DW).lt)
    have hz6 := hb6g.size
    have hz56 := hb6.size
    have hz6g : w6.heap.size < Wg.heap.size := (unhide DG).lt
    have HWg := hide hWg.symm
    have e0 : Wg.cell? ⟨w6.heap.size, 0, none⟩ = some (.int .i64 k0) := (unhide DG).c 0 (by simp)
    have e1 : Wg.cell? ⟨w6.heap.size, 1, none⟩ = some (.int .i64 k1) := (unhide DG).c 1 (by simp)
    have e2 : Wg.cell? ⟨w6.heap.size, 2, none⟩ = some (.int .i64 k2) := (unhide DG).c 2 (by simp)
    have e3 : Wg.cell? ⟨w6.heap.size, 3, none⟩ = some (.int .i64 k3) := (unhide DG).c 3 (by simp)
    have e4 : Wg.cell? ⟨w6.heap.size, 4, none⟩ = some (.int .i64 k4) := (unhide DG).c 4 (by simp)
    have e5 : Wg.cell? ⟨w6.heap.size, 5, none⟩ = some (.int .i64 k5) := (unhide DG).c 5 (by simp)
    have e6 : Wg.cell? ⟨w6.heap.size, 6, none⟩ = some (.slice yE ne jE) := (unhide DG).c 6 (by simp)
    have e7 : Wg.cell? ⟨w6.heap.size, 7, none⟩ = some (.int .i64 k6) := (unhide DG).c 7 (by simp)
    have e8 : Wg.cell? ⟨w6.heap.size, 8, none⟩ = some (.bool ok) := (unhide DG).c 8 (by simp)
    have e9 : Wg.cell? ⟨w6.heap.size, 9, none⟩ = some (.string tx) := (unhide DG).c 9 (by simp)
    have e10 : Wg.cell? ⟨w6.heap.size, 10, none⟩ = some (.slice yL m1 jL) := (unhide DG).c 10 (by simp)
    have e11 : Wg.cell? ⟨w6.heap.size, 11, none⟩ = some (.slice yS m3 jS) := (unhide DG).c 11 (by simp)
    have f0 : Wg.cell? ⟨w3.heap.size, 0, none⟩ = some (.int .i64 k0) := (unhide DW6).c 0 (by simp)
    have f1 : Wg.cell? ⟨w3.heap.size, 1, none⟩ = some (.int .i64 k1) := (unhide DW6).c 1 (by simp)
    have f2 : Wg.cell? ⟨w3.heap.size, 2, none⟩ = some (.int .i64 k2) := (unhide DW6).c 2 (by simp)
    have f3 : Wg.cell? ⟨w3.heap.size, 3, none⟩ = some (.int .i64 k3) := (unhide DW6).c 3 (by simp)
    have f4 : Wg.cell? ⟨w3.heap.size, 4, none⟩ = some (.int .i64 k4) := (unhide DW6).c 4 (by simp)
    have f5 : Wg.cell? ⟨w3.heap.size, 5, none⟩ = some (.int .i64 k5) := (unhide DW6).c 5 (by simp)
    have f6 : Wg.cell? ⟨w3.heap.size, 6, none⟩ = some (.slice xE ne kE) := (unhide DW6).c 6 (by simp)
    have f7 : Wg.cell? ⟨w3.heap.size, 7, none⟩ = some (.int .i64 k6) := (unhide DW6).c 7 (by simp)
    have f8 : Wg.cell? ⟨w3.heap.size, 8, none⟩ = some (.bool ok) := (unhide DW6).c 8 (by simp)
    have f9 : Wg.cell? ⟨w3.heap.size, 9, none⟩ = some (.string tx) := (unhide DW6).c 9 (by simp)
    have f10 : Wg.cell? ⟨w3.heap.size, 10, none⟩ = some (.slice xL m1 kL) := (unhide DW6).c 10 (by simp)
    have f11 : Wg.cell? ⟨w3.heap.size, 11, none⟩ = some (.slice xS m3 kS) := (unhide DW6).c 11 (by simp)
    clear hb6 hbg hb6g hO6 DW hWg
    rw [← unhide HWg] at e0 e1 e2 e3 e4 e5 e6 e7 e8 e9 e10 e11 f0 f1 f2 f3 f4 f5 f6 f7 f8 f9 f10 f11
    go_wp2_with fail
    rw [unhide HWg]
    clear e0 e1 e2 e3 e4 e5 e6 e7 e8 e9 e10 e11 f0 f1 f2 f3 f4 f5 f6 f7 f8 f9 f10 f11
    refine (eqMsg_calls k0 k1 k2 k3 k4 k5 k6 ok tx yE xE ne jE kE es yL xL m1 jL kL X yS xS m3 jS kS Y _ (unhide HNE) z0 (unhide HY6).1 ((unhide HX).1.below (unhide HT6)) (unhide HCF _ _ _ (unhide HY6).2.1 (unhide HY6).2.2) (unhide HCF _ _ _ ((unhide HX).2.1.below (unhide HT6)) ((unhide HX).2.2.below (unhide HT6)))).mono ?_
    rintro e wb ⟨rfl, hbb⟩
    have HTb := hide (belOn (unhide HT6) hbb)
    have HYb := hide (And.intro ((unhide HY6).1.below hbb) (And.intro ((unhide HY6).2.1.below hbb) ((unhide HY6).2.2.below hbb)))
    have hzb := hbb.size
    have DGb := hide ((unhide DG).below hbb (unhide DG).lt)
    have DWb := hide ((unhide DW6).below hbb (unhide DW6).lt)
    have e0 : wb.cell? ⟨w6.heap.size, 0, none⟩ = some (.int .i64 k0) := (unhide DGb).c 0 (by simp)
    have e1 : wb.cell? ⟨w6.heap.size, 1, none⟩ = some (.int .i64 k1) := (unhide DGb).c 1 (by simp)
    have e2 : wb.cell? ⟨w6.heap.size, 2, none⟩ = some (.int .i64 k2) := (unhide DGb).c 2 (by simp)
    have e3 : wb.cell? ⟨w6.heap.size, 3, none⟩ = some (.int .i64 k3) := (unhide DGb).c 3 (by simp)
    have e4 : wb.cell? ⟨w6.heap.size, 4, none⟩ = some (.int .i64 k4) := (unhide DGb).c 4 (by simp)
    have e5 : wb.cell? ⟨w6.heap.size, 5, none⟩ = some (.int .i64 k5) := (unhide DGb).c 5 (by simp)
    have e6 : wb.cell? ⟨w6.heap.size, 6, none⟩ = some (.slice yE ne jE) := (unhide DGb).c 6 (by simp)
    have e7 : wb.cell? ⟨w6.heap.size, 7, none⟩ = some (.int .i64 k6) := (unhide DGb).c 7 (by simp)
    have e8 : wb.cell? ⟨w6.heap.size, 8, none⟩ = some (.bool ok) := (unhide DGb).c 8 (by simp)
    have e9 : wb.cell? ⟨w6.heap.size, 9, none⟩ = some (.string tx) := (unhide DGb).c 9 (by simp)
    have e10 : wb.cell? ⟨w6.heap.size, 10, none⟩ = some (.slice yL m1 jL) := (unhide DGb).c 10 (by simp)
    have e11 : wb.cell? ⟨w6.heap.size, 11, none⟩ = some (.slice yS m3 jS) := (unhide DGb).c 11 (by simp)
    clear hbb HT6 HY6 DG DW6
    go_wp2_with fail
    clear e0 e1 e2 e3 e4 e5 e6 e7 e8 e9 e10 e11
    refine (markMsg_calls k0 k1 k2 k3 k4 k5 k6 ok tx ne m1 m3 es X Y yE yL yS jE jL jS wb (unhide HNE) (by omega) (unhide HYb).1 (unhide HCF _ _ _ (unhide HYb).2.1 (unhide HYb).2.2) (unhide HAY).1 (unhide HAY).2.1 (unhide HAY).2.2 (fun g hg => by have := unhide HV6 g hg; omega)).mono ?_
    rintro e wc ⟨rfl, hMc, hoc⟩
    have HTc := hide ((unhide HTb).trans (hoc.below (B := Wq.heap.size) (fun g hg => by have := unhide HV6 g hg; omega) (unhide HTb).size))
    have HKc := hide hMc
    have hzc := hoc.size
    have DGc := hide ((unhide DGb).onlyP hoc (fun h2 => by have := (unhide HV6 _ h2).2; omega))
    have DWc := hide ((unhide DWb).onlyP hoc (fun h2 => by have := (unhide HV6 _ h2).1; omega))
    have e0 : wc.cell? ⟨w6.heap.size, 0, none⟩ = some (.int .i64 k0) := (unhide DGc).c 0 (by simp)
    have e1 : wc.cell? ⟨w6.heap.size, 1, none⟩ = some (.int .i64 k1) := (unhide DGc).c 1 (by simp)
    have e2 : wc.cell? ⟨w6.heap.size, 2, none⟩ = some (.int .i64 k2) := (unhide DGc).c 2 (by simp)
    have e3 : wc.cell? ⟨w6.heap.size, 3, none⟩ = some (.int .i64 k3) := (unhide DGc).c 3 (by simp)
    have e4 : wc.cell? ⟨w6.heap.size, 4, none⟩ = some (.int .i64 k4) := (unhide DGc).c 4 (by simp)
    have e5 : wc.cell? ⟨w6.heap.size, 5, none⟩ = some (.int .i64 k5) := (unhide DGc).c 5 (by simp)
    have e6 : wc.cell? ⟨w6.heap.size, 6, none⟩ = some (.slice yE ne jE) := (unhide DGc).c 6 (by simp)
    have e7 : wc.cell? ⟨w6.heap.size, 7, none⟩ = some (.int .i64 k6) := (unhide DGc).c 7 (by simp)
    have e8 : wc.cell? ⟨w6.heap.size, 8, none⟩ = some (.bool ok) := (unhide DGc).c 8 (by simp)
    have e9 : wc.cell? ⟨w6.heap.size, 9, none⟩ = some (.string tx) := (unhide DGc).c 9 (by simp)
    have e10 : wc.cell? ⟨w6.heap.size, 10, none⟩ = some (.slice yL m1 jL) := (unhide DGc).c 10 (by simp)
    have e11 : wc.cell? ⟨w6.heap.size, 11, none⟩ = some (.slice yS m3 jS) := (unhide DGc).c 11 (by simp)
    clear hoc hMc HTb HYb DGb DWb
    obtain ⟨K, hK⟩ : ∃ K, 1 + ne * 3 + m1 + m3 = K := ⟨_, rfl⟩
    rw [hK]
    have HK := hide hK
    clear hK
    go_wp2_with fail
    clear e0 e1 e2 e3 e4 e5 e6 e7 e8 e9 e10 e11
    refine (heldMsg_calls k0 k1 k2 k3 k4 k5 k6 ok tx ne m1 m3 yE yL yS jE jL jS wc (by omega) z1 z3 (unhide HKc)).mono ?_
    rintro e wd ⟨rfl, hbd⟩
    rw [unhide HK]
    have HTd := hide (belOn (unhide HTc) hbd)
    have HKd := hide ((unhide HKc).below hbd)
    have DGd := hide ((unhide DGc).below hbd (unhide DGc).lt)
    have DWd := hide ((unhide DWc).below hbd (unhide DWc).lt)
    clear hbd HTc HKc DGc DWc
    go_wp2_with fail
    refine (unhide HIM wd (belOn (unhide HB3) (unhide HTd))).mono ?_
    rintro e wf ⟨uE, iE, uL, iL, uS, iS, rfl, hOf, hbf⟩
    obtain ⟨Wh, hWh⟩ : ∃ Wh, Wh = wf.alloc (.cells #[.int .i64 k0, .int .i64 k1, .int .i64 k2, .int .i64 k3, .int .i64 k4, .int .i64 k5, .slice uE ne iE, .int .i64 k6, .bool ok, .string tx, .slice uL m1 iL, .slice uS m3 iS] 27) := ⟨_, rfl⟩
    have hbh : Below wf.heap.size wf Wh := by rw [hWh]; exact bel1 _ _
    have hbfh := belOn hbf hbh
    have DH := hide (show Blk Wh wf.heap.size [.int .i64 k0, .int .i64 k1, .int .i64 k2, .int .i64 k3, .int .i64 k4, .int .i64 k5, .slice uE ne iE, .int .i64 k6, .bool ok, .string tx, .slice uL m1 iL, .slice uS m3 iS] from by rw [hWh]; exact Blk.new _ _ _)
    have HTf := hide (belOn (unhide HTd) hbfh)
    have HKf := hide ((unhide HKd).below hbfh)
    have DGf := hide ((unhide DGd).below hbfh (unhide DGd).lt)
    have DWf := hide ((unhide DWd).below hbfh (unhide DWd).lt)
    have HU := hide (And.intro (hOf.ents.at.below hbh) (And.intro (hOf.v.below hbh) (hOf.l.below hbh)))
    have HWh := hide hWh.symm
    have e0 : Wh.cell? ⟨wf.heap.size, 0, none⟩ = some (.int .i64 k0) := (unhide DH).c 0 (by simp)
    have e1 : Wh.cell? ⟨wf.heap.size, 1, none⟩ = some (.int .i64 k1) := (unhide DH).c 1 (by simp)
    have e2 : Wh.cell? ⟨wf.heap.size, 2, none⟩ = some (.int .i64 k2) := (unhide DH).c 2 (by simp)
    have e3 : Wh.cell? ⟨wf.heap.size, 3, none⟩ = some (.int .i64 k3) := (unhide DH).c 3 (by simp)
    have e4 : Wh.cell? ⟨wf.heap.size, 4, none⟩ = some (.int .i64 k4) := (unhide DH).c 4 (by simp)
    have e5 : Wh.cell? ⟨wf.heap.size, 5, none⟩ = some (.int .i64 k5) := (unhide DH).c 5 (by simp)
    have e6 : Wh.cell? ⟨wf.heap.size, 6, none⟩ = some (.slice uE ne iE) := (unhide DH).c 6 (by simp)
    have e7 : Wh.cell? ⟨wf.heap.size, 7, none⟩ = some (.int .i64 k6) := (unhide DH).c 7 (by simp)
    have e8 : Wh.cell? ⟨wf.heap.size, 8, none⟩ = some (.bool ok) := (unhide DH).c 8 (by simp)
    have e9 : Wh.cell? ⟨wf.heap.size, 9, none⟩ = some (.string tx) := (unhide DH).c 9 (by simp)
    have e10 : Wh.cell? ⟨wf.heap.size, 10, none⟩ = some (.slice uL m1 iL) := (unhide DH).c 10 (by simp)
    have e11 : Wh.cell? ⟨wf.heap.size, 11, none⟩ = some (.slice uS m3 iS) := (unhide DH).c 11 (by simp)
    have f0 : Wh.cell? ⟨w3.heap.size, 0, none⟩ = some (.int .i64 k0) := (unhide DWf).c 0 (by simp)
    have f1 : Wh.cell? ⟨w3.heap.size, 1, none⟩ = some (.int .i64 k1) := (unhide DWf).c 1 (by simp)
    have f2 : Wh.cell? ⟨w3.heap.size, 2, none⟩ = some (.int .i64 k2) := (unhide DWf).c 2 (by simp)
    have f3 : Wh.cell? ⟨w3.heap.size, 3, none⟩ = some (.int .i64 k3) := (unhide DWf).c 3 (by simp)
    have f4 : Wh.cell? ⟨w3.heap.size, 4, none⟩ = some (.int .i64 k4) := (unhide DWf).c 4 (by simp)
    have f5 : Wh.cell? ⟨w3.heap.size, 5, none⟩ = some (.int .i64 k5) := (unhide DWf).c 5 (by simp)
    have f6 : Wh.cell? ⟨w3.heap.size, 6, none⟩ = some (.slice xE ne kE) := (unhide DWf).c 6 (by simp)
    have f7 : Wh.cell? ⟨w3.heap.size, 7, none⟩ = some (.int .i64 k6) := (unhide DWf).c 7 (by simp)
    have f8 : Wh.cell? ⟨w3.heap.size, 8, none⟩ = some (.bool ok) := (unhide DWf).c 8 (by simp)
    have f9 : Wh.cell? ⟨w3.heap.size, 9, none⟩ = some (.string tx) := (unhide DWf).c 9 (by simp)
    have f10 : Wh.cell? ⟨w3.heap.size, 10, none⟩ = some (.slice xL m1 kL) := (unhide DWf).c 10 (by simp)
    have f11 : Wh.cell? ⟨w3.heap.size, 11, none⟩ = some (.slice xS m3 kS) := (unhide DWf).c 11 (by simp)
    clear hbf hbh hbfh hOf HTd HKd hWh DGd DWd
    rw [← unhide HWh] at e0 e1 e2 e3 e4 e5 e6 e7 e8 e9 e10 e11 f0 f1 f2 f3 f4 f5 f6 f7 f8 f9 f10 f11
    go_wp2_with fail
    rw [unhide HWh]
    clear e0 e1 e2 e3 e4 e5 e6 e7 e8 e9 e10 e11 f0 f1 f2 f3 f4 f5 f6 f7 f8 f9 f10 f11
    refine (eqMsg_calls k0 k1 k2 k3 k4 k5 k6 ok tx uE xE ne iE kE es uL xL m1 iL kL X uS xS m3 iS kS Y _ (unhide HNE) z0 (unhide HU).1 ((unhide HX).1.below (unhide HTf)) (unhide HCF _ _ _ (unhide HU).2.1 (unhide HU).2.2) (unhide HCF _ _ _ ((unhide HX).2.1.below (unhide HTf)) ((unhide HX).2.2.below (unhide HTf)))).mono ?_
    rintro e wg ⟨rfl, hbg⟩
    have HTg := hide (belOn (unhide HTf) hbg)
    have HKg := hide ((unhide HKf).below hbg)
    have DGg := hide ((unhide DGf).below hbg (unhide DGf).lt)
    have e0 : wg.cell? ⟨w6.heap.size, 0, none⟩ = some (.int .i64 k0) := (unhide DGg).c 0 (by simp)
    have e1 : wg.cell? ⟨w6.heap.size, 1, none⟩ = some (.int .i64 k1) := (unhide DGg).c 1 (by simp)
    have e2 : wg.cell? ⟨w6.heap.size, 2, none⟩ = some (.int .i64 k2) := (unhide DGg).c 2 (by simp)
    have e3 : wg.cell? ⟨w6.heap.size, 3, none⟩ = some (.int .i64 k3) := (unhide DGg).c 3 (by simp)
    have e4 : wg.cell? ⟨w6.heap.size, 4, none⟩ = some (.int .i64 k4) := (unhide DGg).c 4 (by simp)
    have e5 : wg.cell? ⟨w6.heap.size, 5, none⟩ = some (.int .i64 k5) := (unhide DGg).c 5 (by simp)
    have e6 : wg.cell? ⟨w6.heap.size, 6, none⟩ = some (.slice yE ne jE) := (unhide DGg).c 6 (by simp)
    have e7 : wg.cell? ⟨w6.heap.size, 7, none⟩ = some (.int .i64 k6) := (unhide DGg).c 7 (by simp)
    have e8 : wg.cell? ⟨w6.heap.size, 8, none⟩ = some (.bool ok) := (unhide DGg).c 8 (by simp)
    have e9 : wg.cell? ⟨w6.heap.size, 9, none⟩ = some (.string tx) := (unhide DGg).c 9 (by simp)
    have e10 : wg.cell? ⟨w6.heap.size, 10, none⟩ = some (.slice yL m1 jL) := (unhide DGg).c 10 (by simp)
    have e11 : wg.cell? ⟨w6.heap.size, 11, none⟩ = some (.slice yS m3 jS) := (unhide DGg).c 11 (by simp)
    clear hbg HTf HKf HU DGf DWf
    go_wp2_with fail
    clear e0 e1 e2 e3 e4 e5 e6 e7 e8 e9 e10 e11
    refine (heldMsg_calls k0 k1 k2 k3 k4 k5 k6 ok tx ne m1 m3 yE yL yS jE jL jS wg (by omega) z1 z3 (unhide HKg)).mono ?_
    rintro e wh ⟨rfl, hbh⟩
    rw [unhide HK]
    have HTh := hide (belOn (unhide HTg) hbh)
    clear hbh HTg HKg
    go_wp2_with fail
    go_ret
    exact ⟨rfl, belOn (unhide HB3) (unhide HTh)⟩
end Go.Proofs.YtjiclgcohpkkjaaGreatDoor.fnExactReadMsg


/- What the library's variables hold that ReadMsg's road reads: two errors as the rows lay them, and a number of which the world's shape alone is known. -/
namespace Go.Proofs.YtjiclgcohpkkjaaGreatDoor
open Go.ChangeShapes Go.WideShapes Go.ChangeAt Go.WideMaps Go.WideElems Go.RowKit Plain
set_option linter.unusedVariables false

theorem laidVars_at {P : Program} {w : World} : ∀ (laid : List (String × DataW Unit)) (ps : List MemPlace) (i : Nat) (n : String) (d : DataW Unit), DataW.LaidVars P w laid ps → laid[i]? = some (n, d) →
    ∃ g t cs fuel p, P.globalNamed n = some g ∧ (P.globals[g]?).map (·.type) = some t ∧ w.var? P n = some cs ∧ DataW.trod (fun _ => ()) P w 0 (fun _ => true) false fuel t cs.toList = some (d, p) := by
  intro laid
  induction laid with
  | nil => intro ps i n d _ h; simp at h
  | cons x r ih =>
    obtain ⟨n0, d0⟩ := x
    intro ps i n d h hi
    obtain ⟨g, t, cs, fuel, p, q, h1, h2, h3, h4, h5, _⟩ := h
    cases i with
    | zero =>
      obtain ⟨rfl, rfl⟩ : n0 = n ∧ d0 = d := by simpa using hi
      exact ⟨g, t, cs, fuel, p, h1, h2, h3, h4⟩
    | succ i => exact ih q i n d h5 (by simpa using hi)
theorem err_cell {W : World} {laid : List (String × DataW Unit)} {ps : List MemPlace} {i G : Nat} {n nm : String} {d : DataW Unit} (h : DataW.LaidVars Tryz.prog W laid ps) (hi : laid[i]? = some (n, .iface nm d)) (hG : Tryz.prog.globalNamed n = some G) (hT : (Tryz.prog.globals[G]?).map (·.type) = some 81) :
    ∃ te pe, W.cell? ⟨G, 0, none⟩ = some (.iface te pe) := by
  obtain ⟨g, t, cs, fuel, p, h1, h2, h3, h4⟩ := laidVars_at laid ps i n _ h hi
  obtain rfl := Option.some.inj (hG.symm.trans h1)
  obtain rfl := Option.some.inj (hT.symm.trans h2)
  obtain ⟨_, u, v, e, _, _⟩ := iface_of_trod Tryz.underlying81 h4
  refine ⟨u, v, ?_⟩
  rw [World.var?_cell h1 h3 0]
  have : cs[0]? = cs.toList[0]? := by simp
  rw [this, e]
  rfl
theorem k_of_laid {W : World} (h : laidMetH Tryz.prog Rows.fnExactReadMsgRow.laid W) (hs : W.ShapedOpen Tryz.prog) : RdVars W := by
  rw [MakeChecks.laidMetH_plain _ _ _ (by kernel_rfl)] at h
  obtain ⟨ps, hlv, _, _⟩ := h
  have h1 := err_cell (i := 5) (G := 0) (n := "strconv.ErrSyntax") hlv rfl (by kernel_rfl) (by kernel_rfl)
  have h2 := err_cell (i := 4) (G := 1) (n := "strconv.ErrRange") hlv rfl (by kernel_rfl) (by kernel_rfl)
  have h0 : ∃ m, W.cell? ⟨2, 0, none⟩ = some (.int .i64 m) := cell_of_shapedOpen_int (t := 3) (zero := #[.int .i64 0]) hs (by decide +kernel) (by kernel_rfl) rfl (by kernel_rfl) (by kernel_rfl) Tryz.underlying3
  refine ⟨h0, h1, h2, ?_, ?_, ?_⟩
  · obtain ⟨m, q⟩ := h0; exact lt_of_cell q
  · obtain ⟨t, p, q⟩ := h1; exact lt_of_cell q
  · obtain ⟨t, p, q⟩ := h2; exact lt_of_cell q
/-- The frame's door, the world's shape kept beside what the listed variables hold. -/
theorem returnsInHanded_of_change_and_shaped {H : Type} {enc : TypeId × Value → H} {a : Assume} {C : Checked} {os : Os} {f : FuncId} {fn : Func} {s : ChangeSpec} {conds : List PathCond} {apart fresh handsOn again : Bool} {X : World → Array Value → Prop}
    (hX : ∀ (w w' : World) (args : Array Value), w.heap = w'.heap → X w args → X w' args)
    (own : ownKnob C.prog.godebug = none) (started : os.Started) (noInit : C.prog.inits.idxOf? f = none) (hfn : C.prog.funcs[f]? = some fn)
    (witness : ∃ (w : World) (tape : Tape) (i : Input), w.os = os ∧ (w.forCall tape i).Shaped C.prog ∧ i.vars = [] ∧ Input.okWide C.prog (w.forCall tape i) .any w.heap.size f i ∧
      ((s.pre enc C.prog fn conds apart (w.forCall tape i).memory i.args ∧ X (w.forCall tape i).memory i.args) ∧ sizedMet enc C.prog fn (OpenSpec.ofChange s) apart (w.forCall tape i).memory i.args) ∧ a.holds C.prog (lone (Frame.enter C.prog f i.args .normal) [] (w.forCall tape i)))
    (contract : ∀ (W : World) (base : Nat) (args : Array Value) (ds gs : List (DataW H)) (before : List MemPlace),
      (∀ (j : Nat) t v, fn.params[j]? = some t → args[j]? = some v → Value.okWide C.prog W .any base t v) →
      DataW.Whole enc C.prog fn.params.toList s.vars apart W args.toList ds gs before → X W args → W.ShapedOpen C.prog →
      Calls C.prog f args W fun e W' => ∃ v, e = .returned v ∧ s.post enc C.prog fn apart fresh handsOn again W args v W') :
    ReturnsInHanded a C os f .any (fun w args => (s.pre enc C.prog fn conds apart w args ∧ X w args) ∧ sizedMet enc C.prog fn (OpenSpec.ofChange s) apart w args) (s.post enc C.prog fn apart fresh handsOn again) := by
  refine returnsInHanded_of_calls own started noInit witness ?_
  intro w tape i _ hsh _ hok hpre hholds
  obtain ⟨_, _, _, fn', hfn', _, _, _, _, hval⟩ := hok
  have e : fn' = fn := Option.some.inj (hfn'.symm.trans hfn)
  subst e
  obtain ⟨⟨⟨ds, gs, before, hw, hc⟩, hx⟩, hz⟩ := hpre
  have hw' := DataW.Whole.of_heap (w' := w.forCall tape i) (by rfl) hw
  refine (contract (w.forCall tape i) w.heap.size i.args ds gs before hval hw' (hX _ _ _ (by rfl) hx) hsh).mono fun e W' ⟨v, he, hp⟩ => ?_
  subst he
  exact ChangeSpec.post_blind hp
end Go.Proofs.YtjiclgcohpkkjaaGreatDoor

