/- NodeNew, by the program. -/
import Derived.Test.YtedbjbndddmlhaaGreatDoorNnwK
namespace Go.Proofs.YtedbjbndddmlhaaGreatDoor
open Go.RowKit Plain
set_option linter.unusedVariables false

namespace Plain
def nnB (id : Int) (v l : List Int) : Bool := idB id && confB v l
/-- What NodeNew answers: the node's id, its members, whether it is one. -/
def nnF (id : Int) (v l : List Int) : Int × List Int × List Int × Bool := if nnB id v l = true then (id, v, l, true) else (0, [], [], false)
def NwPost (id : Int) (v l : List Int) (b : Bool) (w : World) (e : Ending) (w' : World) : Prop := ∃ a1 c1 a2 c2, e = .returned (.tuple #[nnV id (.slice a1 v.length c1) (.slice a2 l.length c2), .bool b]) ∧ NfPost v l w a1 c1 a2 c2 w'
theorem nw_nil {w W : World} (hb : Below w.heap.size w W) : NwPost 0 [] [] false w (.returned (.tuple #[nnV 0 (.slice none 0 0) (.slice none 0 0), .bool false])) W :=
  ⟨none, 0, none, 0, rfl, fun i hi => by simp at hi, fun i hi => by simp at hi, fun g hg => (inB_none hg).elim, fun g hg => (inB_none hg).elim, fun g hg => (inB_none hg).elim, hb⟩
/-- A node written whole. -/
def put14 (W : World) (b : Nat) (id : Int) (V L : Value) : World := ((((((((((((((W.setCell ⟨b, 0, none⟩ (.int .i64 id)).setCell ⟨b, 1, none⟩ (.int .i64 0)).setCell ⟨b, 2, none⟩ (.int .i64 0)).setCell ⟨b, 3, none⟩ (.int .i64 0)).setCell ⟨b, 4, none⟩ (.int .i64 0)).setCell ⟨b, 5, none⟩ V).setCell ⟨b, 6, none⟩ L).setCell ⟨b, 7, none⟩ (.string ⟨#[]⟩)).setCell ⟨b, 8, none⟩ (.slice none 0 0)).setCell ⟨b, 9, none⟩ (.int .i64 0)).setCell ⟨b, 10, none⟩ (.int .i64 0)).setCell ⟨b, 11, none⟩ (.int .i64 0)).setCell ⟨b, 12, none⟩ (.slice none 0 0)).setCell ⟨b, 13, none⟩ (.slice none 0 0))
theorem size_put14 (W : World) (b : Nat) (id : Int) (V L : Value) : (put14 W b id V L).heap.size = W.heap.size := by unfold put14; simp
theorem below_put14 {B : Nat} {w W : World} {b : Nat} {id : Int} {V L : Value} (h : Below B w W) (hb : B ≤ b) : Below B w (put14 W b id V L) := ((((((((((((((h.setCell hb _).setCell hb _).setCell hb _).setCell hb _).setCell hb _).setCell hb _).setCell hb _).setCell hb _).setCell hb _).setCell hb _).setCell hb _).setCell hb _).setCell hb _).setCell hb _)
theorem row_put14 {W : World} {a : Option Addr} {xs : List Int} {b : Nat} {id : Int} {V L : Value} (h : RowAt i64E W a xs) (hne : ∀ g, inB a g → g ≠ b) : RowAt i64E (put14 W b id V L) a xs := (rowSet (rowSet (rowSet (rowSet (rowSet (rowSet (rowSet (rowSet (rowSet (rowSet (rowSet (rowSet (rowSet (rowSet h hne) hne) hne) hne) hne) hne) hne) hne) hne) hne) hne) hne) hne) hne)
theorem nnc_put14 {W : World} {b : Nat} {id : Int} {V L : Value} (id' : Int) (V' L' : Value) (h : NnC b id V L W) : NnC b id' V' L' (put14 W b id' V' L') := (NnC.put (NnC.put (NnC.put (NnC.put (NnC.put (NnC.put (NnC.put (NnC.put (NnC.put (NnC.put (NnC.put (NnC.put (NnC.put (NnC.put h (id' := id') (V' := V) (L' := L) 0 (by decide) _ rfl) (id' := id') (V' := V) (L' := L) 1 (by decide) _ rfl) (id' := id') (V' := V) (L' := L) 2 (by decide) _ rfl) (id' := id') (V' := V) (L' := L) 3 (by decide) _ rfl) (id' := id') (V' := V) (L' := L) 4 (by decide) _ rfl) (id' := id') (V' := V') (L' := L) 5 (by decide) _ rfl) (id' := id') (V' := V') (L' := L') 6 (by decide) _ rfl) (id' := id') (V' := V') (L' := L') 7 (by decide) _ rfl) (id' := id') (V' := V') (L' := L') 8 (by decide) _ rfl) (id' := id') (V' := V') (L' := L') 9 (by decide) _ rfl) (id' := id') (V' := V') (L' := L') 10 (by decide) _ rfl) (id' := id') (V' := V') (L' := L') 11 (by decide) _ rfl) (id' := id') (V' := V') (L' := L') 12 (by decide) _ rfl) (id' := id') (V' := V') (L' := L') 13 (by decide) _ rfl)
/-- Where NodeNew begins. -/
def nw0 (w : World) (id : Int) (V L : Value) : World := ((w.alloc (.cells #[V, L] 26)).alloc (.cells #[.int .i64 0, .int .i64 0, .int .i64 0, .int .i64 0, .int .i64 0, .slice none 0 0, .slice none 0 0, .string ⟨#[]⟩, .slice none 0 0, .int .i64 0, .int .i64 0, .int .i64 0, .slice none 0 0, .slice none 0 0] 30)).alloc (.cells #[.int .i64 id, .int .i64 0, .int .i64 0, .int .i64 0, .int .i64 0, V, L, .string ⟨#[]⟩, .slice none 0 0, .int .i64 0, .int .i64 0, .int .i64 0, .slice none 0 0, .slice none 0 0] 30)
theorem nw0_facts (w : World) (id : Int) (V L : Value) : Below w.heap.size w (nw0 w id V L) ∧ (nw0 w id V L).heap.size = w.heap.size + 3 ∧ NnC (w.heap.size + 1) 0 (.slice none 0 0) (.slice none 0 0) (nw0 w id V L) ∧ NnC (w.heap.size + 1 + 1) id V L (nw0 w id V L) := by
  have e1 : (w.alloc (.cells #[V, L] 26)).heap.size = w.heap.size + 1 := by simp
  have h1 := NnC.new (w.alloc (.cells #[V, L] 26)) 0 (.slice none 0 0) (.slice none 0 0) 30
  rw [e1] at h1
  have e2 : ((w.alloc (.cells #[V, L] 26)).alloc (.cells (nnL 0 (.slice none 0 0) (.slice none 0 0)).toArray 30)).heap.size = w.heap.size + 1 + 1 := by simp
  have h2 := NnC.new ((w.alloc (.cells #[V, L] 26)).alloc (.cells (nnL 0 (.slice none 0 0) (.slice none 0 0)).toArray 30)) id V L 30
  rw [e2] at h2
  refine ⟨belOn (belOn (bel1 _ _) (bel1 _ _)) (bel1 _ _), by unfold nw0; simp, ?_, h2⟩
  exact h1.call (bel1 _ _)
end Plain

set_option maxRecDepth 10000 in
set_option maxHeartbeats 2000000 in
theorem impl_NodeNew_no (id : Int) (g1 nv cv : Nat) (v : List Int) (g2 nl cl : Nat) (l : List Int) (w : World) (h : ConfAt w (some ⟨g1, 0, none⟩) nv v (some ⟨g2, 0, none⟩) nl l) (hB : nnB id v l = false) :
    Calls Tryz.prog 7 #[.int .i64 id, .agg #[.slice (some ⟨g1, 0, none⟩) nv cv, .slice (some ⟨g2, 0, none⟩) nl cl]] w (NwPost 0 [] [] false w) := by
  have HOK := hide (fun (W : World) (hW : ConfAt W (some ⟨g1, 0, none⟩) nv v (some ⟨g2, 0, none⟩) nl l) => impl_NodeOk0 id (some ⟨g1, 0, none⟩) nv cv v (some ⟨g2, 0, none⟩) nl cl l W hW)
  rw [show (idB id && confB v l) = false from hB] at HOK
  obtain ⟨hb0, hs0, R0, N0⟩ := nw0_facts w id (.slice (some ⟨g1, 0, none⟩) nv cv) (.slice (some ⟨g2, 0, none⟩) nl cl)
  obtain ⟨W0, hW0⟩ : ∃ W0, nw0 w id (.slice (some ⟨g1, 0, none⟩) nv cv) (.slice (some ⟨g2, 0, none⟩) nl cl) = W0 := ⟨_, rfl⟩
  rw [hW0] at hb0 hs0 R0 N0
  unfold nw0 at hW0
  have HH := hide (unhide HOK W0 (h.below hb0))
  have HRR := hide (fun (W : World) (hW : Below W0.heap.size W0 W) => R0.call hW)
  have HB0 := hide hb0
  have HW0 := hide hW0
  unfold nnV at HH
  clear hb0 hs0 R0 N0 hW0 h hB HOK
  go_enter Tryz.func7, Tryz.ntmps7
  go_wp2_with fail
  rw [unhide HW0]
  refine (unhide HH).mono ?_
  rintro e w1 ⟨rfl, hb1⟩
  have HB1 := hide hb1
  have R1 := unhide HRR _ hb1
  have HN := hide (nnc_put14 0 (.slice none 0 0) (.slice none 0 0) R1)
  obtain ⟨blt, c0, c1, c2, c3, c4, c5, c6, c7, c8, c9, c10, c11, c12, c13, bfr⟩ := R1
  have f0 := bfr 0 (by decide)
  have f1 := bfr 1 (by decide)
  have f2 := bfr 2 (by decide)
  have f3 := bfr 3 (by decide)
  have f4 := bfr 4 (by decide)
  have f5 := bfr 5 (by decide)
  have f6 := bfr 6 (by decide)
  have f7 := bfr 7 (by decide)
  have f8 := bfr 8 (by decide)
  have f9 := bfr 9 (by decide)
  have f10 := bfr 10 (by decide)
  have f11 := bfr 11 (by decide)
  have f12 := bfr 12 (by decide)
  have f13 := bfr 13 (by decide)
  clear bfr hb1
  go_wp2_with fail
  clear c0 c1 c2 c3 c4 c5 c6 c7 c8 c9 c10 c11 c12 c13 f0 f1 f2 f3 f4 f5 f6 f7 f8 f9 f10 f11 f12 f13
  change bodyPost _ _ _ _ _ (put14 w1 (w.heap.size + 1) 0 (.slice none 0 0) (.slice none 0 0))
  have HBX := hide (below_put14 (id := 0) (V := .slice none 0 0) (L := .slice none 0 0) (belOn (unhide HB0) (unhide HB1)) (show w.heap.size ≤ w.heap.size + 1 by omega))
  generalize put14 w1 (w.heap.size + 1) 0 (.slice none 0 0) (.slice none 0 0) = X at HN HBX ⊢
  obtain ⟨-, c0, c1, c2, c3, c4, c5, c6, c7, c8, c9, c10, c11, c12, c13, -⟩ := unhide HN
  refine bodyPost_ret (v := .tuple #[.agg #[.int .i64 0, .int .i64 0, .int .i64 0, .int .i64 0, .int .i64 0, .slice none 0 0, .slice none 0 0, .string ⟨#[]⟩, .slice none 0 0, .int .i64 0, .int .i64 0, .int .i64 0, .slice none 0 0, .slice none 0 0], .bool false]) (by simp [results, Tryz.results7, go_sem, c0, c1, c2, c3, c4, c5, c6, c7, c8, c9, c10, c11, c12, c13]) rfl ?_
  exact nw_nil (unhide HBX)

set_option maxRecDepth 10000 in
set_option maxHeartbeats 2000000 in
theorem impl_NodeNew_yes (id : Int) (g1 nv cv : Nat) (v : List Int) (g2 nl cl : Nat) (l : List Int) (w : World) (h : ConfAt w (some ⟨g1, 0, none⟩) nv v (some ⟨g2, 0, none⟩) nl l) (hB : nnB id v l = true) :
    Calls Tryz.prog 7 #[.int .i64 id, .agg #[.slice (some ⟨g1, 0, none⟩) nv cv, .slice (some ⟨g2, 0, none⟩) nl cl]] w (NwPost id v l true w) := by
  have HOK := hide (fun (W : World) (hW : ConfAt W (some ⟨g1, 0, none⟩) nv v (some ⟨g2, 0, none⟩) nl l) => impl_NodeOk0 id (some ⟨g1, 0, none⟩) nv cv v (some ⟨g2, 0, none⟩) nl cl l W hW)
  rw [show (idB id && confB v l) = true from hB] at HOK
  obtain ⟨hb0, hs0, R0, N0⟩ := nw0_facts w id (.slice (some ⟨g1, 0, none⟩) nv cv) (.slice (some ⟨g2, 0, none⟩) nl cl)
  obtain ⟨W0, hW0⟩ : ∃ W0, nw0 w id (.slice (some ⟨g1, 0, none⟩) nv cv) (.slice (some ⟨g2, 0, none⟩) nl cl) = W0 := ⟨_, rfl⟩
  rw [hW0] at hb0 hs0 R0 N0
  unfold nw0 at hW0
  have HH := hide (unhide HOK W0 (h.below hb0))
  have HRP := hide (fun (W : World) (hW : Below W0.heap.size W0 W) => replicaOf_calls id g1 nv cv v g2 nl cl l W ((h.below hb0).below hW))
  have HRR := hide (fun (W : World) (hW : Below W0.heap.size W0 W) => And.intro (R0.call hW) (N0.call hW))
  have HB0 := hide hb0
  have HW0 := hide hW0
  unfold nnV at HH HRP
  clear hb0 R0 N0 hW0 h hB HOK
  go_enter Tryz.func7, Tryz.ntmps7
  go_wp2_with fail
  rw [unhide HW0]
  refine (unhide HH).mono ?_
  rintro e w1 ⟨rfl, hb1⟩
  have HB1 := hide hb1
  obtain ⟨blt, c0, c1, c2, c3, c4, c5, c6, c7, c8, c9, c10, c11, c12, c13, bfr⟩ := (unhide HRR _ hb1).2
  clear bfr hb1
  go_wp2_with fail
  clear c0 c1 c2 c3 c4 c5 c6 c7 c8 c9 c10 c11 c12 c13 blt
  refine (unhide HRP w1 (unhide HB1)).mono ?_
  rintro e w2 ⟨rb, y1, k1, y2, k2, rfl, hrb, NR, q1, q2, m1, m2, ap, hb2⟩
  have hz1 := (unhide HB1).size
  have HB2 := hide (belOn (unhide HB1) hb2)
  have R2 := (unhide HRR _ (unhide HB2)).1
  have HN := hide (nnc_put14 id (.slice y1 v.length k1) (.slice y2 l.length k2) R2)
  obtain ⟨-, d0, d1, d2, d3, d4, d5, d6, d7, d8, d9, d10, d11, d12, d13, -⟩ := NR
  obtain ⟨blt, c0, c1, c2, c3, c4, c5, c6, c7, c8, c9, c10, c11, c12, c13, bfr⟩ := R2
  have f0 := bfr 0 (by decide)
  have f1 := bfr 1 (by decide)
  have f2 := bfr 2 (by decide)
  have f3 := bfr 3 (by decide)
  have f4 := bfr 4 (by decide)
  have f5 := bfr 5 (by decide)
  have f6 := bfr 6 (by decide)
  have f7 := bfr 7 (by decide)
  have f8 := bfr 8 (by decide)
  have f9 := bfr 9 (by decide)
  have f10 := bfr 10 (by decide)
  have f11 := bfr 11 (by decide)
  have f12 := bfr 12 (by decide)
  have f13 := bfr 13 (by decide)
  have HQ := hide (And.intro q1 (And.intro q2 (And.intro m1 (And.intro m2 ap))))
  clear bfr hb2 q1 q2 m1 m2 ap
  go_wp2_with fail
  clear c0 c1 c2 c3 c4 c5 c6 c7 c8 c9 c10 c11 c12 c13 f0 f1 f2 f3 f4 f5 f6 f7 f8 f9 f10 f11 f12 f13 d0 d1 d2 d3 d4 d5 d6 d7 d8 d9 d10 d11 d12 d13
  change bodyPost _ _ _ _ _ (put14 w2 (w.heap.size + 1) id (.slice y1 v.length k1) (.slice y2 l.length k2))
  obtain ⟨q1, q2, m1, m2, ap⟩ := unhide HQ
  have hz2 := size_put14 w2 (w.heap.size + 1) id (.slice y1 v.length k1) (.slice y2 l.length k2)
  have HP := hide (show NfPost v l w y1 k1 y2 k2 (put14 w2 (w.heap.size + 1) id (.slice y1 v.length k1) (.slice y2 l.length k2)) from
    ⟨row_put14 q1 (fun g hg => by have := m1 g hg; omega), row_put14 q2 (fun g hg => by have := m2 g hg; omega), fun g hg => by have := m1 g hg; omega, fun g hg => by have := m2 g hg; omega, ap, below_put14 (belOn (unhide HB0) (unhide HB2)) (by omega)⟩)
  clear hz2 q1 q2 m1 m2 ap HQ
  generalize put14 w2 (w.heap.size + 1) id (.slice y1 v.length k1) (.slice y2 l.length k2) = X at HN HP ⊢
  obtain ⟨-, c0, c1, c2, c3, c4, c5, c6, c7, c8, c9, c10, c11, c12, c13, -⟩ := unhide HN
  refine bodyPost_ret (v := .tuple #[.agg #[.int .i64 id, .int .i64 0, .int .i64 0, .int .i64 0, .int .i64 0, .slice y1 v.length k1, .slice y2 l.length k2, .string ⟨#[]⟩, .slice none 0 0, .int .i64 0, .int .i64 0, .int .i64 0, .slice none 0 0, .slice none 0 0], .bool true]) (by simp [results, Tryz.results7, go_sem, c0, c1, c2, c3, c4, c5, c6, c7, c8, c9, c10, c11, c12, c13]) rfl ?_
  exact ⟨y1, k1, y2, k2, rfl, unhide HP⟩

theorem impl_NodeNew (id : Int) (g1 nv cv : Nat) (v : List Int) (g2 nl cl : Nat) (l : List Int) (w : World) (h : ConfAt w (some ⟨g1, 0, none⟩) nv v (some ⟨g2, 0, none⟩) nl l) :
    Calls Tryz.prog 7 #[.int .i64 id, .agg #[.slice (some ⟨g1, 0, none⟩) nv cv, .slice (some ⟨g2, 0, none⟩) nl cl]] w (NwPost (nnF id v l).1 (nnF id v l).2.1 (nnF id v l).2.2.1 (nnF id v l).2.2.2 w) := by
  unfold nnF
  cases hB : nnB id v l with
  | false => exact impl_NodeNew_no id g1 nv cv v g2 nl cl l w h hB
  | true => exact impl_NodeNew_yes id g1 nv cv v g2 nl cl l w h hB
end Go.Proofs.YtedbjbndddmlhaaGreatDoor
