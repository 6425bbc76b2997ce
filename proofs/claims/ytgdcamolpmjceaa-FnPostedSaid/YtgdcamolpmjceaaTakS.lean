/- A packet taken, by the specification. -/
import Derived.Test.YtgdcamolpmjceaaTakM
import Derived.Test.YtgdcamolpmjceaaPstS
namespace Go.Proofs.Ytgdcamolpmjceaa
open Go.RowKit Go.Maps Plain
set_option linter.unusedVariables false

namespace Plain
/-- The block of a result that is a packet. -/
structure PB (g : Nat) (w : World) : Prop where
  c0 : w.cell? ⟨g, 0, none⟩ = some (.int .i64 0)
  c1 : w.cell? ⟨g, 1, none⟩ = some (.int .i64 0)
  c2 : w.cell? ⟨g, 2, none⟩ = some (.int .i64 0)
  c3 : w.cell? ⟨g, 3, none⟩ = some (.string ⟨#[]⟩)
  z0 : w.frozen? ⟨g, 0, none⟩ = false
  z1 : w.frozen? ⟨g, 1, none⟩ = false
  z2 : w.frozen? ⟨g, 2, none⟩ = false
  z3 : w.frozen? ⟨g, 3, none⟩ = false
theorem RB.gr {g : Nat} {w w' : World} (h : RB g w) (hb : w'.heap[g]? = w.heap[g]?) : RB g w' := ⟨(World.cell?_of_block (a := ⟨g, 0, none⟩) hb).trans h.c0, (World.cell?_of_block (a := ⟨g, 1, none⟩) hb).trans h.c1, (World.frozen?_of_block (a := ⟨g, 0, none⟩) hb).trans h.z0, (World.frozen?_of_block (a := ⟨g, 1, none⟩) hb).trans h.z1⟩
theorem PB.gr {g : Nat} {w w' : World} (h : PB g w) (hb : w'.heap[g]? = w.heap[g]?) : PB g w' := ⟨(World.cell?_of_block (a := ⟨g, 0, none⟩) hb).trans h.c0, (World.cell?_of_block (a := ⟨g, 1, none⟩) hb).trans h.c1, (World.cell?_of_block (a := ⟨g, 2, none⟩) hb).trans h.c2, (World.cell?_of_block (a := ⟨g, 3, none⟩) hb).trans h.c3, (World.frozen?_of_block (a := ⟨g, 0, none⟩) hb).trans h.z0, (World.frozen?_of_block (a := ⟨g, 1, none⟩) hb).trans h.z1, (World.frozen?_of_block (a := ⟨g, 2, none⟩) hb).trans h.z2, (World.frozen?_of_block (a := ⟨g, 3, none⟩) hb).trans h.z3⟩
theorem PB.below {g B : Nat} {w w' : World} (h : PB g w) (hb : Below B w w') (hg : g < B) : PB g w' := ⟨bcl hb hg h.c0, bcl hb hg h.c1, bcl hb hg h.c2, bcl hb hg h.c3, (hb.frozen (p := ⟨g, 0, none⟩) hg).trans h.z0, (hb.frozen (p := ⟨g, 1, none⟩) hg).trans h.z1, (hb.frozen (p := ⟨g, 2, none⟩) hg).trans h.z2, (hb.frozen (p := ⟨g, 3, none⟩) hg).trans h.z3⟩
/-- All but the results' blocks is as it was. -/
structure TS (g : Nat) (W X : World) : Prop where
  h : ∀ k, k ≠ g → k ≠ g + 1 → X.heap[k]? = W.heap[k]?
theorem TS.refl (g : Nat) (W : World) : TS g W W.drew := ⟨fun _ _ _ => rfl⟩
theorem TS.net {g : Nat} {W X : World} {u v : Value} (h : TS g W X.drew) : TS g W ((X.setCell ⟨g, 0, none⟩ u).setCell ⟨g, 1, none⟩ v).drew := ⟨fun k h1 h2 => (heap_setN (fun e => h1 e.symm)).trans ((heap_setN (fun e => h1 e.symm)).trans (h.h k h1 h2))⟩
theorem TS.pkt {g : Nat} {W X : World} {a b c d : Value} (h : TS g W X.drew) : TS g W ((((X.setCell ⟨g + 1, 0, none⟩ a).setCell ⟨g + 1, 1, none⟩ b).setCell ⟨g + 1, 2, none⟩ c).setCell ⟨g + 1, 3, none⟩ d).drew := ⟨fun k h1 h2 => (heap_setN (fun e => h2 e.symm)).trans ((heap_setN (fun e => h2 e.symm)).trans ((heap_setN (fun e => h2 e.symm)).trans ((heap_setN (fun e => h2 e.symm)).trans (h.h k h1 h2))))⟩
theorem TS.cell {g b i : Nat} {W X : World} {v : Value} (h : TS g W X) (h1 : b ≠ g) (h2 : b ≠ g + 1) (hc : W.cell? ⟨b, i, none⟩ = some v) : X.cell? ⟨b, i, none⟩ = some v := (World.cell?_of_block (a := ⟨b, i, none⟩) (h.h b h1 h2)).trans hc
/-- The world behind the results' stores. -/
def fin6 (w : World) (g : Nat) (u v : Value) (p : Pkt) : World := (((((w.setCell ⟨g, 0, none⟩ u).setCell ⟨g, 1, none⟩ v).setCell ⟨g + 1, 0, none⟩ (.int .i64 p.id)).setCell ⟨g + 1, 1, none⟩ (.int .i64 p.src)).setCell ⟨g + 1, 2, none⟩ (.int .i64 p.dst)).setCell ⟨g + 1, 3, none⟩ (.string p.body)
theorem fin6_read {w : World} {g : Nat} {u v : Value} {p : Pkt} (h : RB g w) (hp : PB (g + 1) w) : (fin6 w g u v p).cell? ⟨g, 0, none⟩ = some u ∧ (fin6 w g u v p).cell? ⟨g, 1, none⟩ = some v ∧ (fin6 w g u v p).cell? ⟨g + 1, 0, none⟩ = some (.int .i64 p.id) ∧ (fin6 w g u v p).cell? ⟨g + 1, 1, none⟩ = some (.int .i64 p.src) ∧ (fin6 w g u v p).cell? ⟨g + 1, 2, none⟩ = some (.int .i64 p.dst) ∧ (fin6 w g u v p).cell? ⟨g + 1, 3, none⟩ = some (.string p.body) := by
  obtain ⟨r0, r1⟩ := h.read (u := u) (v := v)
  have k0 : ((w.setCell ⟨g, 0, none⟩ u).setCell ⟨g, 1, none⟩ v).cell? ⟨g + 1, 0, none⟩ = _ := (cell_offN (.inl (by omega))).trans ((cell_offN (.inl (by omega))).trans hp.c0)
  have k1 : ((w.setCell ⟨g, 0, none⟩ u).setCell ⟨g, 1, none⟩ v).cell? ⟨g + 1, 1, none⟩ = _ := (cell_offN (.inl (by omega))).trans ((cell_offN (.inl (by omega))).trans hp.c1)
  have k2 : ((w.setCell ⟨g, 0, none⟩ u).setCell ⟨g, 1, none⟩ v).cell? ⟨g + 1, 2, none⟩ = _ := (cell_offN (.inl (by omega))).trans ((cell_offN (.inl (by omega))).trans hp.c2)
  have k3 : ((w.setCell ⟨g, 0, none⟩ u).setCell ⟨g, 1, none⟩ v).cell? ⟨g + 1, 3, none⟩ = _ := (cell_offN (.inl (by omega))).trans ((cell_offN (.inl (by omega))).trans hp.c3)
  unfold fin6
  generalize (w.setCell ⟨g, 0, none⟩ u).setCell ⟨g, 1, none⟩ v = X at *
  refine ⟨?_, ?_, ?_, ?_, ?_, ?_⟩
  · exact (cell_offN (.inl (by omega))).trans ((cell_offN (.inl (by omega))).trans ((cell_offN (.inl (by omega))).trans ((cell_offN (.inl (by omega))).trans r0)))
  · exact (cell_offN (.inl (by omega))).trans ((cell_offN (.inl (by omega))).trans ((cell_offN (.inl (by omega))).trans ((cell_offN (.inl (by omega))).trans r1)))
  · exact (cell_offN (.inr (by omega))).trans ((cell_offN (.inr (by omega))).trans ((cell_offN (.inr (by omega))).trans (cell_setN k0)))
  · exact (cell_offN (.inr (by omega))).trans ((cell_offN (.inr (by omega))).trans (cell_setN (v := .int .i64 0) ((cell_offN (.inr (by omega))).trans k1)))
  · exact (cell_offN (.inr (by omega))).trans (cell_setN (v := .int .i64 0) ((cell_offN (.inr (by omega))).trans ((cell_offN (.inr (by omega))).trans k2)))
  · exact cell_setN (v := .string ⟨#[]⟩) ((cell_offN (.inr (by omega))).trans ((cell_offN (.inr (by omega))).trans ((cell_offN (.inr (by omega))).trans k3)))
theorem fin6_own {w : World} {B g : Nat} {a : Option Addr} {m c : Nat} {es : List Pkt} {u v : Value} {p : Pkt} (ho : OwnR pktE w B (.slice a m c) es) (hg : g + 1 < B) : OwnR pktE (fin6 w g u v p) B (.slice a m c) es :=
  ho.otherN (fun k hk => by
    have := (World.ownsRow.lt ho k hk).1
    have h1 : g ≠ k := by omega
    have h2 : g + 1 ≠ k := by omega
    exact (heap_setN h2).trans ((heap_setN h2).trans ((heap_setN h2).trans ((heap_setN h2).trans ((heap_setN h1).trans (heap_setN h1))))))
theorem fin6_below {w w' : World} {B g : Nat} {u v : Value} {p : Pkt} (h : Below B w w') (hg : B ≤ g) : Below B w (fin6 w' g u v p) :=
  ((((((h.setCell (p := ⟨g, 0, none⟩) hg _).setCell (p := ⟨g, 1, none⟩) hg _).setCell (p := ⟨g + 1, 0, none⟩) (Nat.le_succ_of_le hg) _).setCell (p := ⟨g + 1, 1, none⟩) (Nat.le_succ_of_le hg) _).setCell (p := ⟨g + 1, 2, none⟩) (Nat.le_succ_of_le hg) _).setCell (p := ⟨g + 1, 3, none⟩) (Nat.le_succ_of_le hg) _)
end Plain

set_option maxRecDepth 10000 in
set_option maxHeartbeats 4000000 in
theorem spec_Take (nx : Int) (a : Option Addr) (n c : Nat) (es : List Pkt) (id : Int) (keep : Bool) (w : World) (h : NetAt w a n c es) (hnc : n ≤ c) (had : AdG a c) :
    Calls Try.prog 38 #[.agg #[.int .i64 nx, .slice a n c], .int .i64 id, .bool keep] w (TakPost (takF nx es id keep) w) := by
  obtain ⟨W0, hW0⟩ : ∃ W0, W0 = ((w.alloc (.cells #[.int .i64 nx, .slice a n c] 26)).alloc (.cells #[.int .i64 0, .slice none 0 0] 26)).alloc (.cells #[.int .i64 0, .int .i64 0, .int .i64 0, .string ⟨#[]⟩] 34) := ⟨_, rfl⟩
  have hb0 : Below w.heap.size w W0 := by rw [hW0]; exact belOn (belOn (bel1 _ _) (bel1 _ _)) (bel1 _ _)
  have hz : W0.heap.size = w.heap.size + 3 := by rw [hW0]; simp
  have hlt : w.heap.size < W0.heap.size := by omega
  have c0 : W0.cell? ⟨w.heap.size, 0, none⟩ = some (.int .i64 nx) := by rw [hW0]; simp [go_sem]
  have c1 : W0.cell? ⟨w.heap.size, 1, none⟩ = some (.slice a n c) := by rw [hW0]; simp [go_sem]
  have hRB : RB (w.heap.size + 1) W0 := ⟨by rw [hW0]; simp [go_sem], by rw [hW0]; simp [go_sem], by rw [hW0]; simp [go_sem], by rw [hW0]; simp [go_sem]⟩
  have hPB : PB (w.heap.size + 1 + 1) W0 := ⟨by rw [hW0]; simp [go_sem], by rw [hW0]; simp [go_sem], by rw [hW0]; simp [go_sem], by rw [hW0]; simp [go_sem], by rw [hW0]; simp [go_sem], by rw [hW0]; simp [go_sem], by rw [hW0]; simp [go_sem], by rw [hW0]; simp [go_sem]⟩
  have HN := hide (spec_NetOk nx a n c es W0 (h.below hb0) hnc)
  have HC := hide (fun (W : World) (hW : Below W0.heap.size W0 W) => And.intro (bcl hW hlt c0) (bcl hW hlt c1))
  have HRB := hide (fun (W : World) (hW : Below W0.heap.size W0 W) => And.intro (hRB.below hW (by omega)) (hPB.below hW (by omega)))
  have HFIN := hide (fun (X : World) (u v : Value) (p : Pkt) (hX : Below W0.heap.size W0 X) => show Below w.heap.size w (fin6 X (w.heap.size + 1) u v p) from fin6_below (hb0.trans (hX.mono (by omega))) (Nat.le_succ _))
  have HOWN := hide (fun (X : World) (u v : Value) (p : Pkt) (k : Nat) (x : Option Addr) (m d : Nat) (l : List Pkt) (hk : W0.heap.size ≤ k) (ho : OwnR pktE X k (.slice x m d) l) => show OwnR pktE (fin6 X (w.heap.size + 1) u v p) w.heap.size (.slice x m d) l from (fin6_own ho (by omega)).le (by omega))
  have HW0 := hide hW0.symm
  have HCP := hide (fun (W : World) (hW : Below W0.heap.size W0 W) => l8Copy_calls nx a n c es W ((h.below hb0).below hW) had)
  have HD := hide (fun (W : World) (hW : Below W0.heap.size W0 W) => (h.below hb0).below hW)
  have HG := h.row
  have hlen := h.len
  have hbn := h.bn
  obtain ⟨R, hR⟩ : ∃ R, takF nx es id keep = R := ⟨_, rfl⟩
  rw [hR]
  unfold takF at hR
  unfold TakPost
  cases hnet : netB nx es with
  | false =>
    rw [hnet, if_pos rfl] at hR
    subst hR
    rw [hnet] at HN
    clear h hb0 hW0 hnet hRB hPB
    go_enter Try.func38, Try.ntmps38
    go_wp2_with fail
    rw [unhide HW0]
    go_wp2_with fail
    refine (unhide HN).mono ?_
    rintro e w1 ⟨rfl, hb1⟩
    obtain ⟨⟨e0, e1, f0, f1⟩, ⟨m0, m1, m2, m3, y0, y1, y2, y3⟩⟩ := unhide HRB _ hb1
    have HR := hide (unhide HRB _ hb1)
    have HB1 := hide hb1
    clear hb1 c0 c1
    go_wp2_with fail
    obtain ⟨r0, r1, r2, r3, r4, r5⟩ := fin6_read (u := .int .i64 0) (v := .slice none 0 0) (p := zPkt) (unhide HR).1 (unhide HR).2
    change bodyPost _ _ _ _ _ (fin6 w1 (w.heap.size + 1) (.int .i64 0) (.slice none 0 0) zPkt)
    have hfin := unhide HFIN w1 (.int .i64 0) (.slice none 0 0) zPkt (unhide HB1)
    generalize fin6 w1 (w.heap.size + 1) (.int .i64 0) (.slice none 0 0) zPkt = X at r0 r1 r2 r3 r4 r5 hfin ⊢
    exact bodyPost_ret (v := .tuple #[.agg #[.int .i64 0, .slice none 0 0], pktV zPkt, .bool false]) (by simp [results, Try.results38, go_sem, r0, r1, r2, r3, r4, r5, pktV]) rfl ⟨none, 0, rfl, ownR_nil _ _ _, hfin⟩
  | true =>
    rw [hnet, if_neg (by decide)] at hR
    have HR0 := hide hR
    clear hR
    rw [hnet] at HN
    obtain ⟨f1, f2⟩ := netB_facts hnet
    obtain ⟨g1, -, -, -⟩ := netB_ris hnet
    clear h hb0 hW0 hnet hRB hPB f2
    go_enter Try.func38, Try.ntmps38
    go_wp2_with fail
    rw [unhide HW0]
    go_wp2_with fail
    refine (unhide HN).mono ?_
    rintro e w1 ⟨rfl, hb1⟩
    obtain ⟨q0, q1⟩ := unhide HC _ hb1
    have HB1 := hide hb1
    clear hb1 c0 c1
    go_wp2_with fail
    refine (unhide HCP _ (unhide HB1)).mono ?_
    rintro e w2 ⟨x, d, rfl, ho, hb2⟩
    obtain ⟨W3, hW3⟩ : ∃ W3, W3 = w2.alloc (.cells #[.int .i64 nx, .slice x n d] 26) := ⟨_, rfl⟩
    have hb3 : Below w2.heap.size w2 W3 := by rw [hW3]; exact bel1 _ _
    have HO3 := hide (ho.keep hb3)
    have HXB := hide (fun g hg => World.ownsRow.lt ho g hg)
    have HN3 := hide (show W3.heap[w2.heap.size]? = some (.cells #[.int .i64 nx, .slice x n d] 26) from by rw [hW3]; exact heap_alloc_new w2 _)
    have n0 : W3.cell? ⟨w2.heap.size, 0, none⟩ = some (.int .i64 nx) := by rw [hW3]; simp [go_sem]
    have n1 : W3.cell? ⟨w2.heap.size, 1, none⟩ = some (.slice x n d) := by rw [hW3]; simp [go_sem]
    have y1 : W3.frozen? ⟨w2.heap.size, 1, none⟩ = false := by rw [hW3]; simp [go_sem]
    have HB3 := hide (belOn (unhide HB1) (belOn hb2 hb3))
    have hs1 := (unhide HB1).size
    have hs2 := hb2.size
    have hs3 : W3.heap.size = w2.heap.size + 1 := by rw [hW3]; simp
    have HW3 := hide hW3.symm
    clear hW3 hb3 hb2 ho q0 q1
    go_wp2_with fail
    rw [unhide HW3]
    obtain ⟨q0, q1⟩ := unhide HC _ (unhide HB3)
    go_loopw [10] (fun i wr => ∃ k : Nat, i = .int .i64 k ∧ k ≤ n ∧ Hid (∀ j (hj : j < es.length), j < k → es[j].id ≠ id) ∧ wr = W3) (fun i _ => n - (intOf i).toNat)
    case atStart => exact ⟨0, rfl, by omega, hide (fun j _ hj => by omega), rfl⟩
    case round =>
      obtain ⟨k, rfl, hk, HNO, rfl⟩ := hrel
      by_cases hkn : k < n
      · have hkl : k < es.length := by omega
        obtain ⟨g, e1, l1, p0, p1, p2, p3⟩ := (unhide HD _ (unhide HB3)).row.px k hkl
        have i0 : (0 : Int) ≤ (k : Int) := by omega
        have i1 : (k : Int) < (n : Int) := by omega
        by_cases hid : es[k].id = id
        · have hfd := find_at g1 hkl hid
          have hdr := drop_at g1 hkl hid
          have hRe := unhide HR0
          rw [hfd] at hRe
          simp only at hRe
          rw [hdr] at hRe
          have hgl : g < w.heap.size := by
            obtain ⟨g', e2, l2, -⟩ := HG k hkl
            rw [e1] at e2
            cases e2
            exact l2
          generalize es[k] = y at p0 p1 p2 p3 hid hRe
          obtain ⟨pi, fr, ds, bd⟩ := y
          simp only at p0 p1 p2 p3 hid
          subst e1 hid
          have HR := hide (unhide HRB _ (unhide HB3))
          obtain ⟨⟨e0, e1, f0, f1⟩, ⟨m0, m1, m2, m3, y0, y1', y2, y3⟩⟩ := unhide HRB _ (unhide HB3)
          clear hfd hdr HR0 HNO
          cases keep with
          | true =>
            rw [if_pos rfl] at hRe
            have HRE := hide hRe.symm
            have A0 := fun (X : World) (hX : TS (w.heap.size + 1) wr X) => hX.cell (b := w2.heap.size) (by omega) (by omega) n0
            have A1 := fun (X : World) (hX : TS (w.heap.size + 1) wr X) => hX.cell (b := w2.heap.size) (by omega) (by omega) n1
            have A2 := fun (X : World) (hX : TS (w.heap.size + 1) wr X) => hX.cell (b := w.heap.size) (by omega) (by omega) q1
            have B0 := fun (X : World) (hX : TS (w.heap.size + 1) wr X) => hX.cell (b := g) (by omega) (by omega) p0
            have B1 := fun (X : World) (hX : TS (w.heap.size + 1) wr X) => hX.cell (b := g) (by omega) (by omega) p1
            have B2 := fun (X : World) (hX : TS (w.heap.size + 1) wr X) => hX.cell (b := g) (by omega) (by omega) p2
            have B3 := fun (X : World) (hX : TS (w.heap.size + 1) wr X) => hX.cell (b := g) (by omega) (by omega) p3
            have HTS := hide (TS.refl (w.heap.size + 1) wr)
            clear hRe
            go_wp2_with fail
            go_region_held3 (fun w' => TS (w.heap.size + 1) wr w') (first | with_reducible exact unhide HTS | with_reducible exact TS.net (by assumption) | with_reducible exact TS.pkt (by assumption)) (fail)
            all_goals (try go_wp2_with fail)
            have HBX := hide (unhide HB3)
            have HOX := hide (unhide HO3)
            all_goals
              obtain ⟨r0, r1, r2, r3, r4, r5⟩ := fin6_read (u := .int .i64 nx) (v := .slice x n d) (p := ⟨pi, fr, ds, bd⟩) (unhide HR).1 (unhide HR).2
              change bodyPost _ _ _ _ _ (fin6 wr (w.heap.size + 1) (.int .i64 nx) (.slice x n d) ⟨pi, fr, ds, bd⟩).drew
              have hfin := unhide HFIN wr (.int .i64 nx) (.slice x n d) ⟨pi, fr, ds, bd⟩ (unhide HBX)
              have how := unhide HOWN wr (.int .i64 nx) (.slice x n d) ⟨pi, fr, ds, bd⟩ _ _ _ _ _ hs1 (unhide HOX)
              generalize fin6 wr (w.heap.size + 1) (.int .i64 nx) (.slice x n d) ⟨pi, fr, ds, bd⟩ = X at r0 r1 r2 r3 r4 r5 hfin how ⊢
              exact bodyPost_ret (v := .tuple #[.agg #[.int .i64 nx, .slice x n d], pktV ⟨pi, fr, ds, bd⟩, .bool true]) (by simp [results, Try.results38, go_sem, r0, r1, r2, r3, r4, r5, pktV]) rfl ⟨x, d, by rw [unhide HRE]; simp only [hlen], by rw [unhide HRE]; simp only [hlen]; exact how, belDrw hfin⟩
          | false =>
            rw [if_neg (by decide)] at hRe
            have HRE := hide hRe.symm
            obtain ⟨gx, hgx⟩ : ∃ gx, x = some ⟨gx, 0, none⟩ := by
              rcases (unhide HO3).2 with ⟨q, q0⟩ | ⟨g', cap', cur, q, _⟩
              · omega
              · injection q with q1; exact ⟨g', q1⟩
            subst hgx
            have hgx2 := unhide HXB gx rfl
            have hnd : n ≤ d := by
              rcases (unhide HO3).2 with ⟨q, q0⟩ | ⟨g', cap', cur, q, _, _, q2, _⟩
              · omega
              · injection q with q1 q3 q4
                omega
            have j0 : (k : Int) ≤ (d : Int) := by omega
            have j1 : (k : Int) + 1 ≤ (n : Int) := by omega
            have j2 : (0 : Int) ≤ (k : Int) + 1 := by omega
            have hw1 : IntKind.i64.wrap ((k : Int) + 1) = (k : Int) + 1 := by rw [IntKind.wrap_i64]; omega
            have hn8 : n < 100000000 := by omega
            have hbA : w2.heap.size < wr.heap.size := by omega
            have hbB : w2.heap.size ≠ gx := by omega
            have hz8 : w1.heap.size ≤ wr.drew.heap.size := by show w1.heap.size ≤ wr.heap.size; omega
            have HK6 := hide (fun (w6 : World) (hg : wr.drew.grownBy w6 (some gx)) (b : Nat) (hb : b < wr.heap.size) (hne : b ≠ gx) => show w6.heap[b]? = wr.heap[b]? from hg.block b hb (fun e => hne (Option.some.inj e)))
            clear hRe
            go_wp2_with fail
            go_region_law ((refine stepCut (e := pktE) rfl (.tmp 38) (.tmp 43) rfl (show OwnR pktE wr.drew w1.heap.size _ es from unhide HO3) hkn rfl rfl hn8 hz8 ?_; intro v' w6 ho6 hg6; obtain ⟨x6, d6, hv'⟩ := ho6.form; subst hv'; have B6 := unhide HK6 w6 hg6; have t1 := (World.cell?_of_block (a := ⟨w2.heap.size, 1, none⟩) (B6 w2.heap.size hbA hbB)).trans n1; have t2 := (World.frozen?_of_block (a := ⟨w2.heap.size, 1, none⟩) (B6 w2.heap.size hbA hbB)).trans y1))
            all_goals
              generalize (if d = k + 1 then some (⟨gx, 0, none⟩ : Addr) else some ⟨gx, (k + 1) * 4, none⟩) = iv
              obtain ⟨L, hL⟩ : ∃ L, L = k + (n - (k + 1)) := ⟨_, rfl⟩
              have hll : (es.take k ++ es.drop (k + 1)).length = L := by rw [List.length_append, List.length_take, List.length_drop, hL]; omega
              rw [hll] at ho6
              rw [← hL]
              obtain ⟨V, hV⟩ : ∃ V, V = w6.setCell ⟨w2.heap.size, 1, none⟩ (.slice x6 L d6) := ⟨_, rfl⟩
              rw [← hV]
              have HVB : ∀ b, b < wr.heap.size → b ≠ gx → b ≠ w2.heap.size → V.heap[b]? = wr.heap[b]? := fun b h1 h2 h3 => by rw [hV]; exact (heap_setN (fun e => h3 e.symm)).trans (B6 b h1 h2)
              have u0 : V.cell? ⟨w2.heap.size, 0, none⟩ = some (.int .i64 nx) := by rw [hV]; exact (cell_offN (.inr (by omega))).trans ((World.cell?_of_block (a := ⟨w2.heap.size, 0, none⟩) (B6 w2.heap.size hbA hbB)).trans n0)
              have u1 : V.cell? ⟨w2.heap.size, 1, none⟩ = some (.slice x6 L d6) := by rw [hV]; exact cell_setN t1
              have u2 := (World.cell?_of_block (a := ⟨w.heap.size, 1, none⟩) (HVB w.heap.size (by omega) (by omega) (by omega))).trans q1
              have v0 := (World.cell?_of_block (a := ⟨g, k * 4, none⟩) (HVB g (by omega) (by omega) (by omega))).trans p0
              have v1 := (World.cell?_of_block (a := ⟨g, k * 4 + 1, none⟩) (HVB g (by omega) (by omega) (by omega))).trans p1
              have v2 := (World.cell?_of_block (a := ⟨g, k * 4 + 2, none⟩) (HVB g (by omega) (by omega) (by omega))).trans p2
              have v3 := (World.cell?_of_block (a := ⟨g, k * 4 + 3, none⟩) (HVB g (by omega) (by omega) (by omega))).trans p3
              have HRV := hide (And.intro ((unhide HR).1.gr (HVB (w.heap.size + 1) (by omega) (by omega) (by omega))) ((unhide HR).2.gr (HVB (w.heap.size + 1 + 1) (by omega) (by omega) (by omega))))
              have HBX := hide (show Below W0.heap.size W0 V from by rw [hV]; exact ((unhide HB3).trans ⟨hg6.os, hg6.tape, hg6.output, hg6.size, fun b hb => B6 b (by omega) (by omega)⟩).setCell (p := ⟨w2.heap.size, 1, none⟩) (show W0.heap.size ≤ w2.heap.size by omega) _)
              have HOX := hide (show OwnR pktE V w1.heap.size (.slice x6 L d6) (es.take k ++ es.drop (k + 1)) from by
                rw [hV]
                refine ho6.otherN (fun b hb => heap_setN (fun e => ?_))
                rcases ho6.2 with ⟨q, _⟩ | ⟨g', cap', cur, q, _, q2, _⟩
                · rw [q] at hb; cases hb
                · rw [q] at hb
                  have := own_blkN hb
                  subst this
                  rw [← e, B6 w2.heap.size hbA hbB, unhide HN3] at q2
                  simp [pktE] at q2)
              have HLL := hide hll
              clear hV hL hll ho6 B6 hg6 t1 t2 HVB n0 n1 y1 q0 q1 p0 p1 p2 p3 e0 e1 f0 f1 m0 m1 m2 m3 y0 y1' y2 y3
              obtain ⟨⟨e0, e1, f0, f1⟩, ⟨m0, m1, m2, m3, y0, y1', y2, y3⟩⟩ := unhide HRV
              have A0 := fun (X : World) (hX : TS (w.heap.size + 1) V X) => hX.cell (b := w2.heap.size) (by omega) (by omega) u0
              have A1 := fun (X : World) (hX : TS (w.heap.size + 1) V X) => hX.cell (b := w2.heap.size) (by omega) (by omega) u1
              have A2 := fun (X : World) (hX : TS (w.heap.size + 1) V X) => hX.cell (b := w.heap.size) (by omega) (by omega) u2
              have B0 := fun (X : World) (hX : TS (w.heap.size + 1) V X) => hX.cell (b := g) (by omega) (by omega) v0
              have B1 := fun (X : World) (hX : TS (w.heap.size + 1) V X) => hX.cell (b := g) (by omega) (by omega) v1
              have B2 := fun (X : World) (hX : TS (w.heap.size + 1) V X) => hX.cell (b := g) (by omega) (by omega) v2
              have B3 := fun (X : World) (hX : TS (w.heap.size + 1) V X) => hX.cell (b := g) (by omega) (by omega) v3
              have HTS := hide (TS.refl (w.heap.size + 1) V)
              go_wp2_with fail
              go_region_held3 (fun w' => TS (w.heap.size + 1) V w') (first | with_reducible exact unhide HTS | with_reducible exact TS.net (by assumption) | with_reducible exact TS.pkt (by assumption)) (fail)
              all_goals (try go_wp2_with fail)
              obtain ⟨r0, r1, r2, r3, r4, r5⟩ := fin6_read (u := .int .i64 nx) (v := .slice x6 L d6) (p := ⟨pi, fr, ds, bd⟩) (unhide HRV).1 (unhide HRV).2
              change bodyPost _ _ _ _ _ (fin6 V (w.heap.size + 1) (.int .i64 nx) (.slice x6 L d6) ⟨pi, fr, ds, bd⟩).drew
              have hfin := unhide HFIN V (.int .i64 nx) (.slice x6 L d6) ⟨pi, fr, ds, bd⟩ (unhide HBX)
              have how := unhide HOWN V (.int .i64 nx) (.slice x6 L d6) ⟨pi, fr, ds, bd⟩ _ _ _ _ _ hs1 (unhide HOX)
              generalize fin6 V (w.heap.size + 1) (.int .i64 nx) (.slice x6 L d6) ⟨pi, fr, ds, bd⟩ = X at r0 r1 r2 r3 r4 r5 hfin how ⊢
              exact bodyPost_ret (v := .tuple #[.agg #[.int .i64 nx, .slice x6 L d6], pktV ⟨pi, fr, ds, bd⟩, .bool true]) (by simp [results, Try.results38, go_sem, r0, r1, r2, r3, r4, r5, pktV]) rfl ⟨x6, d6, by rw [unhide HRE]; simp only [unhide HLL], by rw [unhide HRE]; simp only [unhide HLL]; exact how, belDrw hfin⟩
        · have HNO2 := hide (show ∀ j (hj : j < es.length), j < k + 1 → es[j].id ≠ id from fun j hj h1 => by
            rcases Nat.lt_or_ge j k with h2 | h2
            · exact unhide HNO j hj h2
            · obtain rfl : j = k := by omega
              exact hid)
          generalize es[k] = y at p0 p1 p2 p3 hid
          obtain ⟨pi, fr, ds, bd⟩ := y
          simp only at p0 p1 p2 p3 hid
          subst e1
          clear HNO
          go_wp2_with fail
          go_roundw
          case rel => exact ⟨k + 1, by go_num, by omega, HNO2, trivial⟩
          case measure => simp [intOf]; omega
      · obtain rfl : k = n := by omega
        have hfd := find_no (es := es) (id := id) (fun p hp => by
          obtain ⟨j, hj, rfl⟩ := List.mem_iff_getElem.1 hp
          exact unhide HNO j hj (by omega))
        have hRe := unhide HR0
        rw [hfd] at hRe
        have HRE := hide hRe.symm
        clear hRe hfd
        obtain ⟨⟨e0, e1, f0, f1⟩, ⟨m0, m1, m2, m3, y0, y1, y2, y3⟩⟩ := unhide HRB _ (unhide HB3)
        have HR := hide (unhide HRB _ (unhide HB3))
        have HL := hide hlen
        go_wp2_with fail
        obtain ⟨r0, r1, r2, r3, r4, r5⟩ := fin6_read (u := .int .i64 nx) (v := .slice x k d) (p := zPkt) (unhide HR).1 (unhide HR).2
        change bodyPost _ _ _ _ _ (fin6 wr (w.heap.size + 1) (.int .i64 nx) (.slice x k d) zPkt)
        have hfin := unhide HFIN wr (.int .i64 nx) (.slice x k d) zPkt (unhide HB3)
        have how := unhide HOWN wr (.int .i64 nx) (.slice x k d) zPkt _ _ _ _ _ hs1 (unhide HO3)
        generalize fin6 wr (w.heap.size + 1) (.int .i64 nx) (.slice x k d) zPkt = X at r0 r1 r2 r3 r4 r5 hfin how ⊢
        exact bodyPost_ret (v := .tuple #[.agg #[.int .i64 nx, .slice x k d], pktV zPkt, .bool false]) (by simp [results, Try.results38, go_sem, r0, r1, r2, r3, r4, r5, pktV]) rfl ⟨x, d, by rw [unhide HRE]; simp only [unhide HL], by rw [unhide HRE]; simp only [unhide HL]; exact how, hfin⟩
end Go.Proofs.Ytgdcamolpmjceaa
