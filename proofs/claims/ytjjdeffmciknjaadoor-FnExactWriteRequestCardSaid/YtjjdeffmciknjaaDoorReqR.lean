/- Requests, as the exact laws copy, measure and compare them. -/
import Derived.Test.YtjjdeffmciknjaaDoorBlk
import Derived.Test.YtjjdeffmciknjaaDoorReqK
namespace Go.Proofs.YtjjdeffmciknjaaDoor
open Go.RowKit Plain
set_option linter.unusedVariables false

/-- A request among the arguments. -/
structure Plain.ReqArg (W : World) (m p : ByteArray) (aq : Option Addr) (nq cq : Nat) (qs : List Hd) (ah : Option Addr) (nh ch : Nat) (hs : List Hd) (bd : ByteArray) : Prop where
  m : m.size ≤ maxLen
  p : p.size ≤ maxLen
  q : ArgRow 2 hdrL goodH W aq nq cq qs
  h : ArgRow 2 hdrL goodH W ah nh ch hs
  b : bd.size ≤ maxLen
theorem Plain.ReqArg.below {W W' : World} {m p : ByteArray} {aq : Option Addr} {nq cq : Nat} {qs : List Hd} {ah : Option Addr} {nh ch : Nat} {hs : List Hd} {bd : ByteArray} (h : ReqArg W m p aq nq cq qs ah nh ch hs bd) (hb : Below W.heap.size W W') : ReqArg W' m p aq nq cq qs ah nh ch hs bd :=
  ⟨h.m, h.p, ⟨h.q.len, h.q.le, h.q.good, h.q.row.below hb⟩, ⟨h.h.len, h.h.le, h.h.good, h.h.row.below hb⟩, h.b⟩
/-- How many bytes and elements a request has. -/
def Plain.totR (m p : ByteArray) (qs hs : List Hd) (bd : ByteArray) : Nat := m.size + (p.size + ((qs.length + totH qs) + ((hs.length + totH hs) + bd.size)))
/-- What toRequest leaves. -/
def ToReq (m p : ByteArray) (nq nh : Nat) (qs hs : List Hd) (bd : ByteArray) (w : World) (e : Ending) (w' : World) : Prop :=
  ∃ g1 g2, e = .returned (.agg #[.string m, .string p, .slice (some ⟨g1, 0, none⟩) nq nq, .slice (some ⟨g2, 0, none⟩) nh nh, .string bd]) ∧ g1 < g2 ∧ OwnR hdrE w' w.heap.size (.slice (some ⟨g1, 0, none⟩) nq nq) qs ∧ OwnR hdrE w' w.heap.size (.slice (some ⟨g2, 0, none⟩) nh nh) hs ∧ Below w.heap.size w w'

set_option maxRecDepth 10000 in
set_option maxHeartbeats 2000000 in
theorem toRequest_calls (m p : ByteArray) (aq : Option Addr) (nq cq : Nat) (qs : List Hd) (ah : Option Addr) (nh ch : Nat) (hs : List Hd) (bd : ByteArray) (w : World) (h : ReqArg w m p aq nq cq qs ah nh ch hs bd) (hq : nq ≤ 1048576) (hh : nh ≤ 1048576) :
    Calls Tryd.prog 8 #[.agg #[.string m, .string p, .slice aq nq cq, .slice ah nh ch, .string bd]] w (ToReq m p nq nh qs hs bd w) := by
  obtain ⟨W3, hW3⟩ : ∃ W3, W3 = (((w.alloc (.cells #[.string m, .string p, .slice aq nq cq, .slice ah nh ch, .string bd] 24)).alloc (.cells #[.string ⟨#[]⟩, .string ⟨#[]⟩, .slice none 0 0, .slice none 0 0, .string ⟨#[]⟩] 29)).alloc (.cells #[.string m, .string p, .slice none 0 0, .slice none 0 0, .string ⟨#[]⟩] 29)) := ⟨_, rfl⟩
  have hb3 : Below w.heap.size w W3 := by rw [hW3]; exact belOn (belOn (bel1 _ _) (bel1 _ _)) (bel1 _ _)
  have hz3 : W3.heap.size = w.heap.size + 3 := by rw [hW3]; simp
  have A3 : Blk W3 w.heap.size [.string m, .string p, .slice aq nq cq, .slice ah nh ch, .string bd] := by rw [hW3]; exact ((Blk.new w _ _).alloc _).alloc _
  have R3 : Blk W3 (w.heap.size + 1) [.string ⟨#[]⟩, .string ⟨#[]⟩, .slice none 0 0, .slice none 0 0, .string ⟨#[]⟩] := by
    rw [hW3]
    have := (Blk.new (w.alloc (.cells #[.string m, .string p, .slice aq nq cq, .slice ah nh ch, .string bd] 24)) [.string ⟨#[]⟩, .string ⟨#[]⟩, .slice none 0 0, .slice none 0 0, .string ⟨#[]⟩] 29).alloc (.cells #[.string m, .string p, .slice none 0 0, .slice none 0 0, .string ⟨#[]⟩] 29)
    simpa using this
  have O3 : Blk W3 (w.heap.size + 2) [.string m, .string p, .slice none 0 0, .slice none 0 0, .string ⟨#[]⟩] := by
    rw [hW3]
    have := Blk.new ((w.alloc (.cells #[.string m, .string p, .slice aq nq cq, .slice ah nh ch, .string bd] 24)).alloc (.cells #[.string ⟨#[]⟩, .string ⟨#[]⟩, .slice none 0 0, .slice none 0 0, .string ⟨#[]⟩] 29)) [.string m, .string p, .slice none 0 0, .slice none 0 0, .string ⟨#[]⟩] 29
    simpa using this
  have HW := hide hW3.symm
  have H1 := hide (toHeaderS_calls aq nq cq qs W3 h.q.len hq (h.below hb3).q.row)
  have H2 := hide (fun W hW => toHeaderS_calls ah nh ch hs W h.h.len hh (h.below hW).h.row)
  have HB3 := hide hb3
  have HA3 := hide A3
  have HR3 := hide R3
  have HO3 := hide O3
  have HZ3 := hide hz3
  clear hW3 hb3 A3 R3 O3 hz3 h
  go_enter Tryd.func8, Tryd.ntmps8
  go_wp2_with fail
  rw [unhide HW]
  refine (unhide H1).mono ?_
  rintro e w4 ⟨g1, rfl, hO4, hb4⟩
  have hg1 := World.ownsRow.lt hO4 g1 rfl
  have hz3 := unhide HZ3
  have hz4 := hb4.size
  have A4 := (unhide HA3).call hb4
  have R4 := (unhide HR3).call hb4
  have O4 := (unhide HO3).call hb4
  obtain ⟨W5, hW5⟩ : ∃ W5, W5 = w4.setCell ⟨w.heap.size + 1 + 1, 2, none⟩ (.slice (some ⟨g1, 0, none⟩) nq nq) := ⟨_, rfl⟩
  have A5 : Blk W5 w.heap.size [.string m, .string p, .slice aq nq cq, .slice ah nh ch, .string bd] := by rw [hW5]; exact A4.off (by omega) _
  have R5 : Blk W5 (w.heap.size + 1) [.string ⟨#[]⟩, .string ⟨#[]⟩, .slice none 0 0, .slice none 0 0, .string ⟨#[]⟩] := by rw [hW5]; exact R4.off (by omega) _
  have O5 : Blk W5 (w.heap.size + 2) [.string m, .string p, .slice (some ⟨g1, 0, none⟩) nq nq, .slice none 0 0, .string ⟨#[]⟩] := by rw [hW5]; exact O4.set 2 (by simp) (.slice (some ⟨g1, 0, none⟩) nq nq)
  have P5 : OwnR hdrE W5 W3.heap.size (.slice (some ⟨g1, 0, none⟩) nq nq) qs := by rw [hW5]; exact hO4.off2 (by omega)
  have hz5 : W5.heap.size = w4.heap.size := by rw [hW5]; simp
  have hb5 : Below w.heap.size w W5 := by rw [hW5]; exact ((unhide HB3).trans (hb4.mono (by omega))).setCell (by simp; omega) _
  have q3 : w4.cell? ⟨w.heap.size, 3, none⟩ = some (.slice ah nh ch) := A4.c 3 (by simp)
  have u2 : w4.cell? ⟨w.heap.size + 2, 2, none⟩ = some (.slice none 0 0) := O4.c 2 (by simp)
  have y2 : w4.frozen? ⟨w.heap.size + 2, 2, none⟩ = false := O4.f 2 (by simp)
  have HW5 := hide hW5.symm
  have HA5 := hide A5
  have HR5 := hide R5
  have HO5 := hide O5
  have HP5 := hide P5
  have HB5 := hide hb5
  have H3 := hide (unhide H2 _ hb5)
  have HZ5 := hide (show W3.heap.size ≤ W5.heap.size by omega)
  clear A4 R4 O4 A5 R5 O5 P5 hW5 hb5 hz5 hb4 hO4 H1 H2 hz4 hz3
  go_wp2_with fail
  rw [unhide HW5]
  refine (unhide H3).mono ?_
  rintro e w6 ⟨g2, rfl, hO6, hb6⟩
  have hg2 := World.ownsRow.lt hO6 g2 rfl
  have hz3 := unhide HZ3
  have hz5 := unhide HZ5
  have hz6 := hb6.size
  have hg12 := World.ownsRow.lt (unhide HP5) g1 rfl
  have A6 := (unhide HA5).call hb6
  have R6 := (unhide HR5).call hb6
  have O6 := (unhide HO5).call hb6
  have HP6 := hide ((unhide HP5).keep hb6)
  have HQ6 := hide hO6
  have HB6 := hide (belOn (unhide HB5) hb6)
  have q4 : w6.cell? ⟨w.heap.size, 4, none⟩ = some (.string bd) := A6.c 4 (by simp)
  have u0 : w6.cell? ⟨w.heap.size + 2, 0, none⟩ = some (.string m) := O6.c 0 (by simp)
  have u1 : w6.cell? ⟨w.heap.size + 2, 1, none⟩ = some (.string p) := O6.c 1 (by simp)
  have u2 : w6.cell? ⟨w.heap.size + 2, 2, none⟩ = some (.slice (some ⟨g1, 0, none⟩) nq nq) := O6.c 2 (by simp)
  have u3 : w6.cell? ⟨w.heap.size + 2, 3, none⟩ = some (.slice none 0 0) := O6.c 3 (by simp)
  have u4 : w6.cell? ⟨w.heap.size + 2, 4, none⟩ = some (.string ⟨#[]⟩) := O6.c 4 (by simp)
  have y3 : w6.frozen? ⟨w.heap.size + 2, 3, none⟩ = false := O6.f 3 (by simp)
  have y4 : w6.frozen? ⟨w.heap.size + 2, 4, none⟩ = false := O6.f 4 (by simp)
  have r0 : w6.cell? ⟨w.heap.size + 1, 0, none⟩ = some (.string ⟨#[]⟩) := R6.c 0 (by simp)
  have r1 : w6.cell? ⟨w.heap.size + 1, 1, none⟩ = some (.string ⟨#[]⟩) := R6.c 1 (by simp)
  have r2 : w6.cell? ⟨w.heap.size + 1, 2, none⟩ = some (.slice none 0 0) := R6.c 2 (by simp)
  have r3 : w6.cell? ⟨w.heap.size + 1, 3, none⟩ = some (.slice none 0 0) := R6.c 3 (by simp)
  have r4 : w6.cell? ⟨w.heap.size + 1, 4, none⟩ = some (.string ⟨#[]⟩) := R6.c 4 (by simp)
  have s0 : w6.frozen? ⟨w.heap.size + 1, 0, none⟩ = false := R6.f 0 (by simp)
  have s1 : w6.frozen? ⟨w.heap.size + 1, 1, none⟩ = false := R6.f 1 (by simp)
  have s2 : w6.frozen? ⟨w.heap.size + 1, 2, none⟩ = false := R6.f 2 (by simp)
  have s3 : w6.frozen? ⟨w.heap.size + 1, 3, none⟩ = false := R6.f 3 (by simp)
  have s4 : w6.frozen? ⟨w.heap.size + 1, 4, none⟩ = false := R6.f 4 (by simp)
  have n1 : w.heap.size + 1 ≠ g1 := by omega
  have n2 : w.heap.size + 1 ≠ g2 := by omega
  have n3 : w.heap.size + 1 + 1 ≠ g1 := by omega
  have n4 : w.heap.size + 1 + 1 ≠ g2 := by omega
  have n5 : g1 < g2 := by omega
  have n6 : w.heap.size ≤ W3.heap.size := by omega
  have n7 : w.heap.size ≤ W5.heap.size := by omega
  have HN := hide (And.intro n1 (And.intro n2 (And.intro n3 (And.intro n4 (And.intro n5 (And.intro n6 n7))))))
  clear A6 R6 O6 hb6 hO6 hz3 hz5 hz6 hg1 hg2 hg12 n1 n2 n3 n4 n5 n6 n7 H3
  go_wp2_with fail
  refine bodyPost_ret (v := .agg #[.string m, .string p, .slice (some ⟨g1, 0, none⟩) nq nq, .slice (some ⟨g2, 0, none⟩) nh nh, .string bd]) (by simp [results, Tryd.results8, go_sem, r0, r1, r2, r3, r4]) rfl ?_
  obtain ⟨n1, n2, n3, n4, n5, n6, n7⟩ := unhide HN
  refine ⟨g1, g2, rfl, n5, ?_, ?_, ?_⟩
  · exact (((((((((unhide HP6).off2 n3).off2 n3).off2 n1).off2 n1).off2 n1).off2 n1).off2 n1).le n6)
  · exact (((((((((unhide HQ6).off2 n4).off2 n4).off2 n2).off2 n2).off2 n2).off2 n2).off2 n2).le n7)
  · exact (((((((unhide HB6).setCell (show w.heap.size ≤ w.heap.size + 1 + 1 by omega) _).setCell (show w.heap.size ≤ w.heap.size + 1 + 1 by omega) _).setCell (show w.heap.size ≤ w.heap.size + 1 by omega) _).setCell (show w.heap.size ≤ w.heap.size + 1 by omega) _).setCell (show w.heap.size ≤ w.heap.size + 1 by omega) _).setCell (show w.heap.size ≤ w.heap.size + 1 by omega) _).setCell (show w.heap.size ≤ w.heap.size + 1 by omega) _

/-- A purse, step by step. -/
theorem Plain.purse_ge (left : Int) (n : Nat) (h : ¬ left < n) : purse left n = left - n := purse_yes h

set_option maxRecDepth 10000 in
set_option maxHeartbeats 2000000 in
theorem szRequest_calls (m p : ByteArray) (aq : Option Addr) (nq cq : Nat) (qs : List Hd) (ah : Option Addr) (nh ch : Nat) (hs : List Hd) (bd : ByteArray) (left : Nat) (w : World) (h : ReqArg w m p aq nq cq qs ah nh ch hs bd) (hl : left ≤ 10000000) :
    Calls Tryd.prog 6 #[.agg #[.string m, .string p, .slice aq nq cq, .slice ah nh ch, .string bd], .int .i64 left] w fun e w' => e = .returned (.int .i64 (purse left (totR m p qs hs bd))) ∧ Below w.heap.size w w' := by
  obtain ⟨W0, hW0⟩ : ∃ W0, W0 = w.alloc (.cells #[.string m, .string p, .slice aq nq cq, .slice ah nh ch, .string bd] 24) := ⟨_, rfl⟩
  have hb0 : Below w.heap.size w W0 := by rw [hW0]; exact bel1 _ _
  have B0 : Blk W0 w.heap.size [.string m, .string p, .slice aq nq cq, .slice ah nh ch, .string bd] := by rw [hW0]; exact Blk.new w _ _
  have HC := hide (fun (W : World) (hW : Below W0.heap.size W0 W) => And.intro ((B0.call hW).c 3 (by simp)) ((B0.call hW).c 4 (by simp)))
  have HFIN := hide (fun (W : World) (hW : Below W0.heap.size W0 W) => belOn hb0 hW)
  have HW0 := hide hW0.symm
  have hm := h.m
  have hp := h.p
  have hbd := h.b
  have hlq := h.q.le
  have hlh := h.h.le
  unfold maxLen at hm hp hbd hlq hlh
  unfold totR
  rw [h.q.len, h.h.len]
  have H1 := hide (fun (r : Nat) (hr : r ≤ 10000000) => szHeaderS_calls aq nq cq qs r W0 h.q.len (by omega) h.q.good hr (h.below hb0).q.row)
  have H2 := hide (fun (W : World) (hW : Below W0.heap.size W0 W) (r : Nat) (hr : r ≤ 10000000) => szHeaderS_calls ah nh ch hs r W h.h.len (by omega) h.h.good hr (h.below (belOn hb0 hW)).h.row)
  generalize nq + totH qs = C at H1
  generalize nh + totH hs = D at H2
  clear h hb0 B0 hW0 hlq hlh
  by_cases h1 : left < m.size
  · rw [purse_no (show (left : Int) < _ by omega)]
    go_enter Tryd.func6, Tryd.ntmps6
    go_wp2_with fail
    rw [unhide HW0]
    go_ret
    exact ⟨rfl, unhide HFIN _ (Below.refl _ _)⟩
  obtain ⟨r1, hr1⟩ : ∃ r1 : Nat, (left : Int) - (m.size : Int) = (r1 : Int) := ⟨left - m.size, by omega⟩
  rw [purse_step (by omega), hr1]
  by_cases h2 : r1 < p.size
  · rw [purse_no (show (r1 : Int) < _ by omega)]
    go_enter Tryd.func6, Tryd.ntmps6
    go_wp2_with fail
    rw [unhide HW0]
    go_ret
    exact ⟨rfl, unhide HFIN _ (Below.refl _ _)⟩
  obtain ⟨r2, hr2⟩ : ∃ r2 : Nat, (r1 : Int) - (p.size : Int) = (r2 : Int) := ⟨r1 - p.size, by omega⟩
  rw [purse_step (by omega), hr2]
  have hr2b : r2 ≤ 10000000 := by omega
  have H1' := hide (unhide H1 r2 hr2b)
  clear H1
  by_cases h3 : r2 < C
  · rw [purse_no (show (r2 : Int) < _ by omega)]
    rw [purse_no (show (r2 : Int) < (C : Int) by omega)] at H1'
    go_enter Tryd.func6, Tryd.ntmps6
    go_wp2_with fail
    rw [unhide HW0]
    refine (unhide H1').mono ?_
    rintro e w1 ⟨rfl, hb1⟩
    have HB1 := hide (unhide HFIN _ hb1)
    clear hb1
    go_wp2_with fail
    go_ret
    exact ⟨rfl, unhide HB1⟩
  obtain ⟨r3, hr3⟩ : ∃ r3 : Nat, (r2 : Int) - (C : Int) = (r3 : Int) := ⟨r2 - C, by omega⟩
  rw [purse_step (by omega), hr3]
  rw [purse_yes (show ¬ (r2 : Int) < (C : Int) by omega), hr3] at H1'
  have hr3b : r3 ≤ 10000000 := by omega
  have H2' := hide (fun W hW => unhide H2 W hW r3 hr3b)
  clear H2
  by_cases h4 : r3 < D
  · rw [purse_no (show (r3 : Int) < _ by omega)]
    rw [purse_no (show (r3 : Int) < (D : Int) by omega)] at H2'
    go_enter Tryd.func6, Tryd.ntmps6
    go_wp2_with fail
    rw [unhide HW0]
    refine (unhide H1').mono ?_
    rintro e w1 ⟨rfl, hb1⟩
    have HB1 := hide hb1
    obtain ⟨q3, q4⟩ := unhide HC _ hb1
    clear hb1
    go_wp2_with fail
    refine (unhide H2' _ (unhide HB1)).mono ?_
    rintro e w2 ⟨rfl, hb2⟩
    have HB2 := hide (unhide HFIN _ (belOn (unhide HB1) hb2))
    clear hb2
    go_wp2_with fail
    go_ret
    exact ⟨rfl, unhide HB2⟩
  obtain ⟨r4, hr4⟩ : ∃ r4 : Nat, (r3 : Int) - (D : Int) = (r4 : Int) := ⟨r3 - D, by omega⟩
  rw [purse_step (by omega), hr4]
  rw [purse_yes (show ¬ (r3 : Int) < (D : Int) by omega), hr4] at H2'
  by_cases h5 : r4 < bd.size
  · rw [purse_no (show (r4 : Int) < _ by omega)]
    go_enter Tryd.func6, Tryd.ntmps6
    go_wp2_with fail
    rw [unhide HW0]
    refine (unhide H1').mono ?_
    rintro e w1 ⟨rfl, hb1⟩
    have HB1 := hide hb1
    obtain ⟨q3, q4⟩ := unhide HC _ hb1
    clear hb1
    go_wp2_with fail
    refine (unhide H2' _ (unhide HB1)).mono ?_
    rintro e w2 ⟨rfl, hb2⟩
    have HB2 := hide (unhide HFIN _ (belOn (unhide HB1) hb2))
    obtain ⟨s3, s4⟩ := unhide HC _ (belOn (unhide HB1) hb2)
    clear hb2 q3 q4
    go_wp2_with fail
    go_ret
    exact ⟨rfl, unhide HB2⟩
  · obtain ⟨r5, hr5⟩ : ∃ r5 : Nat, (r4 : Int) - (bd.size : Int) = (r5 : Int) := ⟨r4 - bd.size, by omega⟩
    rw [purse_yes (show ¬ (r4 : Int) < _ by omega), hr5]
    go_enter Tryd.func6, Tryd.ntmps6
    go_wp2_with fail
    rw [unhide HW0]
    refine (unhide H1').mono ?_
    rintro e w1 ⟨rfl, hb1⟩
    have HB1 := hide hb1
    obtain ⟨q3, q4⟩ := unhide HC _ hb1
    clear hb1
    go_wp2_with fail
    refine (unhide H2' _ (unhide HB1)).mono ?_
    rintro e w2 ⟨rfl, hb2⟩
    have HB2 := hide (unhide HFIN _ (belOn (unhide HB1) hb2))
    obtain ⟨s3, s4⟩ := unhide HC _ (belOn (unhide HB1) hb2)
    clear hb2 q3 q4
    go_wp2_with fail
    go_ret
    exact ⟨rfl, unhide HB2⟩

/-- The two rows of a request that is read. -/
structure Plain.ReqRow (W : World) (aq ah : Option Addr) (qs hs : List Hd) : Prop where
  q : RowAt hdrE W aq qs
  h : RowAt hdrE W ah hs
theorem Plain.ReqRow.below {W W' : World} {aq ah : Option Addr} {qs hs : List Hd} (h : ReqRow W aq ah qs hs) (hb : Below W.heap.size W W') : ReqRow W' aq ah qs hs := ⟨h.q.below hb, h.h.below hb⟩

set_option maxRecDepth 10000 in
set_option maxHeartbeats 1000000 in
theorem eqRequest_calls (m p : ByteArray) (aq ah bq bh : Option Addr) (nq nh cq ch dq dh : Nat) (qs hs : List Hd) (bd : ByteArray) (w : World) (hq : qs.length = nq) (hh : hs.length = nh) (zq : nq ≤ 10000000) (zh : nh ≤ 10000000) (h1 : ReqRow w aq ah qs hs) (h2 : ReqRow w bq bh qs hs) :
    Calls Tryd.prog 10 #[.agg #[.string m, .string p, .slice aq nq cq, .slice ah nh ch, .string bd], .agg #[.string m, .string p, .slice bq nq dq, .slice bh nh dh, .string bd]] w fun e w' => e = .returned (.bool true) ∧ Below w.heap.size w w' := by
  obtain ⟨W0, hW0⟩ : ∃ W0, W0 = (w.alloc (.cells #[.string m, .string p, .slice aq nq cq, .slice ah nh ch, .string bd] 29)).alloc (.cells #[.string m, .string p, .slice bq nq dq, .slice bh nh dh, .string bd] 29) := ⟨_, rfl⟩
  have hb0 : Below w.heap.size w W0 := by rw [hW0]; exact belOn (bel1 _ _) (bel1 _ _)
  have B0 : Blk W0 w.heap.size [.string m, .string p, .slice aq nq cq, .slice ah nh ch, .string bd] := by rw [hW0]; exact (Blk.new w _ _).alloc _
  have D0 : Blk W0 (w.heap.size + 1) [.string m, .string p, .slice bq nq dq, .slice bh nh dh, .string bd] := by
    rw [hW0]
    have := Blk.new (w.alloc (.cells #[.string m, .string p, .slice aq nq cq, .slice ah nh ch, .string bd] 29)) [.string m, .string p, .slice bq nq dq, .slice bh nh dh, .string bd] 29
    simpa using this
  have HC := hide (fun (W : World) (hW : Below W0.heap.size W0 W) => And.intro (And.intro ((B0.call hW).c 3 (by simp)) ((B0.call hW).c 4 (by simp))) (And.intro ((D0.call hW).c 3 (by simp)) ((D0.call hW).c 4 (by simp))))
  have HD := hide (fun (W : World) (hW : Below W0.heap.size W0 W) => And.intro (h1.below (belOn hb0 hW)) (h2.below (belOn hb0 hW)))
  have HFIN := hide (fun (W : World) (hW : Below W0.heap.size W0 W) => belOn hb0 hW)
  have HW0 := hide hW0.symm
  have HQ := hide hq
  have HH := hide hh
  clear h1 h2 hb0 B0 D0 hW0 hq hh
  go_enter Tryd.func10, Tryd.ntmps10
  go_wp2_with fail
  rw [unhide HW0]
  refine (eqHeaderS_calls aq bq cq dq nq qs W0 (unhide HQ) (by omega) (unhide HD _ (Below.refl _ _)).1.q (unhide HD _ (Below.refl _ _)).2.q).mono ?_
  rintro e w1 ⟨rfl, hb1⟩
  have HB1 := hide hb1
  obtain ⟨⟨q3, q4⟩, p3, p4⟩ := unhide HC _ hb1
  clear hb1
  go_wp2_with fail
  refine (eqHeaderS_calls ah bh ch dh nh hs w1 (unhide HH) (by omega) (unhide HD _ (unhide HB1)).1.h (unhide HD _ (unhide HB1)).2.h).mono ?_
  rintro e w2 ⟨rfl, hb2⟩
  have HB2 := hide (belOn (unhide HB1) hb2)
  clear hb2 q3 q4 p3 p4
  obtain ⟨⟨q3, q4⟩, p3, p4⟩ := unhide HC _ (unhide HB2)
  go_wp2_with fail
  go_ret
  exact ⟨rfl, unhide HFIN _ (unhide HB2)⟩
end Go.Proofs.YtjjdeffmciknjaaDoor
