/- Nets, as the exact laws copy, measure and compare them. -/
import Derived.Test.YtkpnnchgngcppaaPktR
import Derived.Test.YtkpnnchgngcppaaNetU
namespace Go.Proofs.Ytkpnnchgngcppaa
open Go.RowKit Plain
set_option linter.unusedVariables false

set_option maxRecDepth 10000 in
set_option maxHeartbeats 2000000 in
theorem toNet_calls (t : Int) (a : Option Addr) (n c : Nat) (es : List Pkt) (w : World) (h : ArgRow 4 pktL goodP w a n c es) (hn : n ≤ 1048576) :
    Calls Try.prog 9 #[.agg #[.int .i64 t, .slice a n c]] w fun e w' => ∃ g, e = .returned (.agg #[.int .i64 t, .slice (some ⟨g, 0, none⟩) n n]) ∧ OwnR pktE w' w.heap.size (.slice (some ⟨g, 0, none⟩) n n) es ∧ Below w.heap.size w w' := by
  obtain ⟨Wa, hWa⟩ : ∃ Wa, Wa = w.alloc (.cells #[.int .i64 t, .slice a n c] 24) := ⟨_, rfl⟩
  obtain ⟨W3, hW3⟩ : ∃ W3, W3 = (Wa.alloc (.cells #[.int .i64 0, .slice none 0 0] 28)).alloc (.cells #[.int .i64 t, .slice none 0 0] 28) := ⟨_, rfl⟩
  have hba : Below w.heap.size w Wa := by rw [hWa]; exact bel1 _ _
  have hsa : Wa.heap.size = w.heap.size + 1 := by rw [hWa]; simp
  have hs3 : W3.heap.size = w.heap.size + 3 := by rw [hW3]; simp [hsa]
  have hb3 : Below Wa.heap.size Wa W3 := by rw [hW3]; exact belOn (bel1 _ _) (bel1 _ _)
  have hbw := belOn hba hb3
  have r0 : W3.cell? ⟨w.heap.size + 1, 0, none⟩ = some (.int .i64 0) ∧ W3.frozen? ⟨w.heap.size + 1, 0, none⟩ = false := by rw [hW3, ← hsa]; simp [go_sem]
  have r2 : W3.cell? ⟨w.heap.size + 1, 1, none⟩ = some (.slice none 0 0) ∧ W3.frozen? ⟨w.heap.size + 1, 1, none⟩ = false := by rw [hW3, ← hsa]; simp [go_sem]
  have u0 : W3.cell? ⟨w.heap.size + 2, 0, none⟩ = some (.int .i64 t) := by rw [hW3, show w.heap.size + 2 = Wa.heap.size + 1 by omega]; simp [go_sem]
  have u2 : W3.cell? ⟨w.heap.size + 2, 1, none⟩ = some (.slice none 0 0) ∧ W3.frozen? ⟨w.heap.size + 2, 1, none⟩ = false := by rw [hW3, show w.heap.size + 2 = Wa.heap.size + 1 by omega]; simp [go_sem]
  have HW3 := hide (hW3.trans (by rw [hWa])).symm
  have H := hide h
  have l1 : w.heap.size + 1 < W3.heap.size := by omega
  have l2 : w.heap.size + 2 < W3.heap.size := by omega
  have HBW := hide hbw
  clear hba hb3 hWa hW3 hsa h hbw
  go_enter Try.func9, Try.ntmps9
  go_wp2_with fail
  rw [unhide HW3]
  refine (toPacketS_calls a n c es W3 (unhide H).len (by omega) ((unhide H).row.below (unhide HBW))).mono ?_
  rintro e w4 ⟨g, rfl, hO4, hb4⟩
  have x0 := bcl hb4 l1 r0.1
  have x2 := bcl hb4 l1 r2.1
  have y0 := (hb4.frozen (p := ⟨w.heap.size + 1, 0, none⟩) l1).trans r0.2
  have y2 := (hb4.frozen (p := ⟨w.heap.size + 1, 1, none⟩) l1).trans r2.2
  have z0 := bcl hb4 l2 u0
  have z2 := bcl hb4 l2 u2.1
  have f2 := (hb4.frozen (p := ⟨w.heap.size + 2, 1, none⟩) l2).trans u2.2
  have hg := World.ownsRow.lt hO4 g rfl
  have HB4 := hide (belOn (unhide HBW) hb4)
  have HP := hide hO4
  clear r0 r2 u0 u2 hb4 hO4
  go_wp2_with fail
  refine bodyPost_ret (v := .agg #[.int .i64 t, .slice (some ⟨g, 0, none⟩) n n]) (by simp [results, Try.results9, go_sem, x0, x2]) rfl ?_
  refine ⟨g, rfl, ((unhide HP).otherN ?_).le (by omega), ?_⟩
  · intro g' hg'; obtain rfl := own_blkN hg'; rw [heap_setN (by omega), heap_setN (by omega), heap_setN (by omega)]
  · exact (((unhide HB4).setCell (show w.heap.size ≤ w.heap.size + 1 + 1 by omega) _).setCell (show w.heap.size ≤ w.heap.size + 1 by omega) _).setCell (show w.heap.size ≤ w.heap.size + 1 by omega) _

set_option maxRecDepth 10000 in
set_option maxHeartbeats 1000000 in
theorem szNet_calls (t : Int) (a : Option Addr) (n c : Nat) (es : List Pkt) (left : Nat) (w : World) (h : ArgRow 4 pktL goodP w a n c es) (hl : left ≤ 10000000) :
    Calls Try.prog 7 #[.agg #[.int .i64 t, .slice a n c], .int .i64 left] w fun e w' => e = .returned (.int .i64 (purse left (n + totP es))) ∧ Below w.heap.size w w' := by
  obtain ⟨W0, hW0⟩ : ∃ W0, W0 = w.alloc (.cells #[.int .i64 t, .slice a n c] 24) := ⟨_, rfl⟩
  have hb0 : Below w.heap.size w W0 := by rw [hW0]; exact bel1 _ _
  have hle := h.le
  unfold maxLen at hle
  have H1 := hide (szPacketS_calls a n c es left W0 h.len (by omega) h.good hl (h.row.below hb0))
  have HB0 := hide hb0
  have HW0 := hide hW0.symm
  obtain ⟨A, hA⟩ : ∃ A, n + totP es = A := ⟨_, rfl⟩
  rw [hA] at H1 ⊢
  clear hb0 hW0 hA h hle
  by_cases h1 : left < A
  · rw [purse_no (show (left : Int) < (A : Int) by omega)] at H1 ⊢
    go_enter Try.func7, Try.ntmps7
    go_wp2_with fail
    rw [unhide HW0]
    refine (unhide H1).mono ?_
    rintro e w1 ⟨rfl, hb1⟩
    have HB1 := hide (belOn (unhide HB0) hb1)
    clear hb1
    go_wp2_with fail
    go_ret
    exact ⟨rfl, unhide HB1⟩
  · obtain ⟨r, hr⟩ : ∃ r : Nat, (left : Int) - (A : Int) = (r : Int) := ⟨left - A, by omega⟩
    rw [purse_yes (show ¬ (left : Int) < (A : Int) by omega), hr] at H1 ⊢
    go_enter Try.func7, Try.ntmps7
    go_wp2_with fail
    rw [unhide HW0]
    refine (unhide H1).mono ?_
    rintro e w1 ⟨rfl, hb1⟩
    have HB1 := hide (belOn (unhide HB0) hb1)
    clear hb1
    go_wp2_with fail
    go_ret
    exact ⟨rfl, unhide HB1⟩

set_option maxRecDepth 10000 in
set_option maxHeartbeats 1000000 in
theorem eqNet_calls (t : Int) (a b : Option Addr) (n c d : Nat) (es : List Pkt) (w : World) (hn : es.length = n) (hn2 : n ≤ 10000000) (h1 : RowAt pktE w a es) (h2 : RowAt pktE w b es) :
    Calls Try.prog 11 #[.agg #[.int .i64 t, .slice a n c], .agg #[.int .i64 t, .slice b n d]] w fun e w' => e = .returned (.bool true) ∧ Below w.heap.size w w' := by
  obtain ⟨W0, hW0⟩ : ∃ W0, W0 = (w.alloc (.cells #[.int .i64 t, .slice a n c] 28)).alloc (.cells #[.int .i64 t, .slice b n d] 28) := ⟨_, rfl⟩
  have hb0 : Below w.heap.size w W0 := by rw [hW0]; exact belOn (bel1 _ _) (bel1 _ _)
  have HB0 := hide hb0
  have HW0 := hide hW0.symm
  have H1 := hide (eqPacketS_calls a b c d n es W0 hn (by omega) (h1.below hb0) (h2.below hb0))
  clear hb0 hW0 h1 h2 hn
  go_enter Try.func11, Try.ntmps11
  go_wp2_with fail
  rw [unhide HW0]
  refine (unhide H1).mono ?_
  rintro e w1 ⟨rfl, hb1⟩
  have HB1 := hide (belOn (unhide HB0) hb1)
  clear hb1
  go_wp2_with fail
  go_ret
  exact ⟨rfl, unhide HB1⟩
end Go.Proofs.Ytkpnnchgngcppaa
