/- NodeNew, by the specification. -/
import Derived.Test.YtedbjbndddmlhaaGreatDoorNnwS
import Derived.Test.YtedbjbndddmlhaaGreatDoorNnwN
namespace Go.Proofs.YtedbjbndddmlhaaGreatDoor
open Go.RowKit Plain
set_option linter.unusedVariables false

namespace Plain
def SwPost (id : Int) (v l : List Int) (b : Bool) (w : World) (e : Ending) (w' : World) : Prop := ∃ a1 c1 a2 c2, e = .returned (.tuple #[nnV id (.slice a1 v.length c1) (.slice a2 l.length c2), .bool b]) ∧ CcPost v l w a1 c1 a2 c2 w'
theorem sw_nil {w W : World} (hb : Below w.heap.size w W) : SwPost 0 [] [] false w (.returned (.tuple #[nnV 0 (.slice none 0 0) (.slice none 0 0), .bool false])) W :=
  ⟨none, 0, none, 0, rfl, fun i hi => by simp at hi, fun i hi => by simp at hi, fun g hg => (inB_none hg).elim, fun g hg => (inB_none hg).elim, hb⟩
def sw0 (w : World) (V L : Value) : World := (w.alloc (.cells #[V, L] 26)).alloc (.cells #[.int .i64 0, .int .i64 0, .int .i64 0, .int .i64 0, .int .i64 0, .slice none 0 0, .slice none 0 0, .string ⟨#[]⟩, .slice none 0 0, .int .i64 0, .int .i64 0, .int .i64 0, .slice none 0 0, .slice none 0 0] 30)
theorem sw0_facts (w : World) (V L : Value) : Below w.heap.size w (sw0 w V L) ∧ (sw0 w V L).heap.size = w.heap.size + 2 ∧ NnC (w.heap.size + 1) 0 (.slice none 0 0) (.slice none 0 0) (sw0 w V L) ∧ (sw0 w V L).cell? ⟨w.heap.size, 0, none⟩ = some V ∧ (sw0 w V L).cell? ⟨w.heap.size, 1, none⟩ = some L := by
  have e1 : (w.alloc (.cells #[V, L] 26)).heap.size = w.heap.size + 1 := by simp
  have h1 := NnC.new (w.alloc (.cells #[V, L] 26)) 0 (.slice none 0 0) (.slice none 0 0) 30
  rw [e1] at h1
  have hb : Below (w.alloc (.cells #[V, L] 26)).heap.size (w.alloc (.cells #[V, L] 26)) (sw0 w V L) := bel1 _ _
  refine ⟨belOn (bel1 _ _) hb, by unfold sw0; simp, h1, bcl hb (by simp) (by simp [go_sem]), bcl hb (by simp) (by simp [go_sem])⟩
end Plain

set_option maxRecDepth 10000 in
set_option maxHeartbeats 4000000 in
theorem spec_NodeNew (id : Int) (g1 nv cv : Nat) (v : List Int) (g2 nl cl : Nat) (l : List Int) (w : World) (h : ConfAt w (some ⟨g1, 0, none⟩) nv v (some ⟨g2, 0, none⟩) nl l) :
    Calls Tryz.prog 5 #[.int .i64 id, .agg #[.slice (some ⟨g1, 0, none⟩) nv cv, .slice (some ⟨g2, 0, none⟩) nl cl]] w (SwPost (nnF id v l).1 (nnF id v l).2.1 (nnF id v l).2.2.1 (nnF id v l).2.2.2 w) := by
  obtain ⟨hb0, hs0, R0, x0, x1⟩ := sw0_facts w (.slice (some ⟨g1, 0, none⟩) nv cv) (.slice (some ⟨g2, 0, none⟩) nl cl)
  obtain ⟨W0, hW0⟩ : ∃ W0, sw0 w (.slice (some ⟨g1, 0, none⟩) nv cv) (.slice (some ⟨g2, 0, none⟩) nl cl) = W0 := ⟨_, rfl⟩
  rw [hW0] at hb0 hs0 R0 x0 x1
  unfold sw0 at hW0
  have hA := h.below hb0
  have HCP := hide (l9Copy_callsA (some ⟨g1, 0, none⟩) nv cv v (some ⟨g2, 0, none⟩) nl cl l W0 hA (.inr ⟨g1, rfl⟩) (.inr ⟨g2, rfl⟩))
  have bv : v.length ≤ 1048576 := by rw [h.v.len]; exact h.v.bn
  have bl : l.length ≤ 1048576 := by rw [h.l.len]; exact h.l.bn
  have HRR := hide (fun (W : World) (hW : Below W0.heap.size W0 W) => R0.call hW)
  have HB0 := hide hb0
  have HW0 := hide hW0
  clear hb0 R0 hW0 h hA x0 x1
  go_enter Tryz.func5, Tryz.ntmps5
  go_wp2_with fail
  rw [unhide HW0]
  refine (unhide HCP).mono ?_
  rintro e w1 ⟨a1, k1, a2, k2, rfl, q1, q2, m1, m2, hb1⟩
  obtain ⟨Wn, hWn⟩ : ∃ Wn, Wn = w1.alloc (.cells #[.int .i64 id, .int .i64 0, .int .i64 0, .int .i64 0, .int .i64 0, .slice a1 v.length k1, .slice a2 l.length k2, .string ⟨#[]⟩, .slice none 0 0, .int .i64 0, .int .i64 0, .int .i64 0, .slice none 0 0, .slice none 0 0] 30) := ⟨_, rfl⟩
  have hbn : Below w1.heap.size w1 Wn := by rw [hWn]; exact bel1 _ _
  have Bn : NnC w1.heap.size id (.slice a1 v.length k1) (.slice a2 l.length k2) Wn := by rw [hWn]; exact NnC.new w1 _ _ _ _
  have HOK := hide (spec_NodeOk0 id a1 v.length k1 v a2 l.length k2 l Wn ⟨⟨q1.below hbn, rfl, bv⟩, ⟨q2.below hbn, rfl, bl⟩⟩)
  unfold nnV at HOK
  have HNN := hide (fun (W : World) (hW : Below Wn.heap.size Wn W) => Bn.call hW)
  have HB1 := hide (belOn hb1 hbn)
  have hz1 := hb1.size
  have hzn := hbn.size
  have HQ := hide (fun (W : World) (hW : Below Wn.heap.size Wn W) => And.intro ((q1.below hbn).below hW) ((q2.below hbn).below hW))
  have HM := hide (And.intro m1 m2)
  have HWn := hide hWn.symm
  clear hb1 hbn Bn hWn q1 q2 m1 m2 HCP bv bl
  go_wp2_with fail
  rw [unhide HWn]
  refine (unhide HOK).mono ?_
  rintro e w2 ⟨rfl, hb2⟩
  have HB2 := hide (belOn (unhide HB1) hb2)
  have HNX := hide (unhide HNN _ hb2)
  have HQ2 := hide (unhide HQ _ hb2)
  have hz2 := hb2.size
  clear hb2 HOK HNN HQ
  cases hB : (idB id && confB v l) with
  | false =>
    have R1 := unhide HRR _ (unhide HB2)
    have HN := hide (nnc_put14 0 (.slice none 0 0) (.slice none 0 0) R1)
    obtain ⟨blt, c0, c1, c2, c3, c4, c5, c6, c7, c8, c9, c10, c11, c12, c13, bfr⟩ := R1
    have f0 := bfr 0 (by decide)
    have f1 := bfr 1 (by decide)
    have f2 := bfr 2 (by decide)
    have f3 := bfr 3 (by decide)
    have f4 := bfr 4 (by decide)
    have f5 := bfr 5 (by decide)
    have f6 := bfr 6 (by decide)
    have f7 := bfr 7 (by decide)
    have f8 := bfr 8 (by decide)
    have f9 := bfr 9 (by decide)
    have f10 := bfr 10 (by decide)
    have f11 := bfr 11 (by decide)
    have f12 := bfr 12 (by decide)
    have f13 := bfr 13 (by decide)
    have HE := hide (show nnF id v l = (0, [], [], false) from by unfold nnF nnB; rw [hB]; rfl)
    clear bfr hB
    go_wp2_with fail
    clear c0 c1 c2 c3 c4 c5 c6 c7 c8 c9 c10 c11 c12 c13 f0 f1 f2 f3 f4 f5 f6 f7 f8 f9 f10 f11 f12 f13
    change bodyPost _ _ _ _ _ (put14 w2 (w.heap.size + 1) 0 (.slice none 0 0) (.slice none 0 0))
    have HBX := hide (below_put14 (id := 0) (V := .slice none 0 0) (L := .slice none 0 0) (belOn (unhide HB0) (unhide HB2)) (show w.heap.size ≤ w.heap.size + 1 by omega))
    generalize put14 w2 (w.heap.size + 1) 0 (.slice none 0 0) (.slice none 0 0) = X at HN HBX ⊢
    obtain ⟨-, c0, c1, c2, c3, c4, c5, c6, c7, c8, c9, c10, c11, c12, c13, -⟩ := unhide HN
    refine bodyPost_ret (v := .tuple #[.agg #[.int .i64 0, .int .i64 0, .int .i64 0, .int .i64 0, .int .i64 0, .slice none 0 0, .slice none 0 0, .string ⟨#[]⟩, .slice none 0 0, .int .i64 0, .int .i64 0, .int .i64 0, .slice none 0 0, .slice none 0 0], .bool false]) (by simp [results, Tryz.results5, go_sem, c0, c1, c2, c3, c4, c5, c6, c7, c8, c9, c10, c11, c12, c13]) rfl ?_
    rw [unhide HE]
    exact sw_nil (unhide HBX)
  | true =>
    have R2 := unhide HRR _ (unhide HB2)
    have HN := hide (nnc_put14 id (.slice a1 v.length k1) (.slice a2 l.length k2) R2)
    obtain ⟨-, d0, d1, d2, d3, d4, d5, d6, d7, d8, d9, d10, d11, d12, d13, -⟩ := unhide HNX
    obtain ⟨blt, c0, c1, c2, c3, c4, c5, c6, c7, c8, c9, c10, c11, c12, c13, bfr⟩ := R2
    have f0 := bfr 0 (by decide)
    have f1 := bfr 1 (by decide)
    have f2 := bfr 2 (by decide)
    have f3 := bfr 3 (by decide)
    have f4 := bfr 4 (by decide)
    have f5 := bfr 5 (by decide)
    have f6 := bfr 6 (by decide)
    have f7 := bfr 7 (by decide)
    have f8 := bfr 8 (by decide)
    have f9 := bfr 9 (by decide)
    have f10 := bfr 10 (by decide)
    have f11 := bfr 11 (by decide)
    have f12 := bfr 12 (by decide)
    have f13 := bfr 13 (by decide)
    have HE := hide (show nnF id v l = (id, v, l, true) from by unfold nnF nnB; rw [hB]; rfl)
    clear bfr hB
    go_wp2_with fail
    clear c0 c1 c2 c3 c4 c5 c6 c7 c8 c9 c10 c11 c12 c13 f0 f1 f2 f3 f4 f5 f6 f7 f8 f9 f10 f11 f12 f13 d0 d1 d2 d3 d4 d5 d6 d7 d8 d9 d10 d11 d12 d13
    change bodyPost _ _ _ _ _ (put14 w2 (w.heap.size + 1) id (.slice a1 v.length k1) (.slice a2 l.length k2))
    obtain ⟨q1, q2⟩ := unhide HQ2
    obtain ⟨m1, m2⟩ := unhide HM
    have hz3 := size_put14 w2 (w.heap.size + 1) id (.slice a1 v.length k1) (.slice a2 l.length k2)
    have HP := hide (show CcPost v l w a1 k1 a2 k2 (put14 w2 (w.heap.size + 1) id (.slice a1 v.length k1) (.slice a2 l.length k2)) from
      ⟨row_put14 q1 (fun g hg => by have := m1 g hg; omega), row_put14 q2 (fun g hg => by have := m2 g hg; omega), fun g hg => by have := m1 g hg; omega, fun g hg => by have := m2 g hg; omega, below_put14 (belOn (unhide HB0) (unhide HB2)) (by omega)⟩)
    clear hz3 q1 q2 m1 m2 HQ2
    generalize put14 w2 (w.heap.size + 1) id (.slice a1 v.length k1) (.slice a2 l.length k2) = X at HN HP ⊢
    obtain ⟨-, c0, c1, c2, c3, c4, c5, c6, c7, c8, c9, c10, c11, c12, c13, -⟩ := unhide HN
    refine bodyPost_ret (v := .tuple #[.agg #[.int .i64 id, .int .i64 0, .int .i64 0, .int .i64 0, .int .i64 0, .slice a1 v.length k1, .slice a2 l.length k2, .string ⟨#[]⟩, .slice none 0 0, .int .i64 0, .int .i64 0, .int .i64 0, .slice none 0 0, .slice none 0 0], .bool true]) (by simp [results, Tryz.results5, go_sem, c0, c1, c2, c3, c4, c5, c6, c7, c8, c9, c10, c11, c12, c13]) rfl ?_
    rw [unhide HE]
    exact ⟨a1, k1, a2, k2, rfl, unhide HP⟩
end Go.Proofs.YtedbjbndddmlhaaGreatDoor
