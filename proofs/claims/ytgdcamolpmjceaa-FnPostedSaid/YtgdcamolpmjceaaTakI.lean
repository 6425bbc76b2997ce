/- A packet taken, by the program. -/
import Derived.Test.YtgdcamolpmjceaaTzA
import Derived.Test.YtgdcamolpmjceaaTakS
namespace Go.Proofs.Ytgdcamolpmjceaa
open Go.RowKit Go.Maps Plain
set_option linter.unusedVariables false

namespace Plain
/-- All that was there but the results' blocks is as it was. -/
structure TB (g : Nat) (W X : World) : Prop where
  h : ∀ k, k < W.heap.size → k ≠ g → k ≠ g + 1 → X.heap[k]? = W.heap[k]?
theorem TB.refl (g : Nat) (W : World) : TB g W W.drew := ⟨fun _ _ _ _ => rfl⟩
theorem TB.call {g : Nat} {W X : World} (h : Below W.heap.size W X) : TB g W X := ⟨fun k hk _ _ => h.block k hk⟩
theorem TB.net {g : Nat} {W X : World} {u v : Value} (h : TB g W X) : TB g W ((X.setCell ⟨g, 0, none⟩ u).setCell ⟨g, 1, none⟩ v) := ⟨fun k hk h1 h2 => (heap_setN (fun e => h1 e.symm)).trans ((heap_setN (fun e => h1 e.symm)).trans (h.h k hk h1 h2))⟩
theorem TB.pkt {g : Nat} {W X : World} {a b c d : Value} (h : TB g W X) : TB g W ((((X.setCell ⟨g + 1, 0, none⟩ a).setCell ⟨g + 1, 1, none⟩ b).setCell ⟨g + 1, 2, none⟩ c).setCell ⟨g + 1, 3, none⟩ d) := ⟨fun k hk h1 h2 => (heap_setN (fun e => h2 e.symm)).trans ((heap_setN (fun e => h2 e.symm)).trans ((heap_setN (fun e => h2 e.symm)).trans ((heap_setN (fun e => h2 e.symm)).trans (h.h k hk h1 h2))))⟩
theorem TB.cell {g b i : Nat} {W X : World} {v : Value} (h : TB g W X) (h0 : b < W.heap.size) (h1 : b ≠ g) (h2 : b ≠ g + 1) (hc : W.cell? ⟨b, i, none⟩ = some v) : X.cell? ⟨b, i, none⟩ = some v := (World.cell?_of_block (a := ⟨b, i, none⟩) (h.h b h0 h1 h2)).trans hc
end Plain

set_option maxRecDepth 10000 in
set_option maxHeartbeats 4000000 in
theorem impl_Take (nx : Int) (a : Option Addr) (n c : Nat) (es : List Pkt) (id : Int) (keep : Bool) (w : World) (h : NetAt w a n c es) (hnc : n ≤ c) :
    Calls Try.prog 14 #[.agg #[.int .i64 nx, .slice a n c], .int .i64 id, .bool keep] w (TakPost (takF nx es id keep) w) := by
  obtain ⟨W0, hW0⟩ : ∃ W0, W0 = ((w.alloc (.cells #[.int .i64 nx, .slice a n c] 26)).alloc (.cells #[.int .i64 0, .slice none 0 0] 26)).alloc (.cells #[.int .i64 0, .int .i64 0, .int .i64 0, .string ⟨#[]⟩] 34) := ⟨_, rfl⟩
  have hb0 : Below w.heap.size w W0 := by rw [hW0]; exact belOn (belOn (bel1 _ _) (bel1 _ _)) (bel1 _ _)
  have hz : W0.heap.size = w.heap.size + 3 := by rw [hW0]; simp
  have hlt : w.heap.size < W0.heap.size := by omega
  have c0 : W0.cell? ⟨w.heap.size, 0, none⟩ = some (.int .i64 nx) := by rw [hW0]; simp [go_sem]
  have c1 : W0.cell? ⟨w.heap.size, 1, none⟩ = some (.slice a n c) := by rw [hW0]; simp [go_sem]
  have hRB : RB (w.heap.size + 1) W0 := ⟨by rw [hW0]; simp [go_sem], by rw [hW0]; simp [go_sem], by rw [hW0]; simp [go_sem], by rw [hW0]; simp [go_sem]⟩
  have hPB : PB (w.heap.size + 1 + 1) W0 := ⟨by rw [hW0]; simp [go_sem], by rw [hW0]; simp [go_sem], by rw [hW0]; simp [go_sem], by rw [hW0]; simp [go_sem], by rw [hW0]; simp [go_sem], by rw [hW0]; simp [go_sem], by rw [hW0]; simp [go_sem], by rw [hW0]; simp [go_sem]⟩
  have HN := hide (impl_NetOk nx a n c es W0 (h.below hb0) hnc)
  have HC := hide (fun (W : World) (hW : Below W0.heap.size W0 W) => And.intro (bcl hW hlt c0) (bcl hW hlt c1))
  have HRB := hide (fun (W : World) (hW : Below W0.heap.size W0 W) => And.intro (hRB.below hW (by omega)) (hPB.below hW (by omega)))
  have HFIN := hide (fun (X : World) (u v : Value) (p : Pkt) (hX : Below W0.heap.size W0 X) => show Below w.heap.size w (fin6 X (w.heap.size + 1) u v p) from fin6_below (hb0.trans (hX.mono (by omega))) (Nat.le_succ _))
  have HOWN := hide (fun (X : World) (u v : Value) (p : Pkt) (k : Nat) (x : Option Addr) (m d : Nat) (l : List Pkt) (hk : W0.heap.size ≤ k) (ho : OwnR pktE X k (.slice x m d) l) => show OwnR pktE (fin6 X (w.heap.size + 1) u v p) w.heap.size (.slice x m d) l from (fin6_own ho (by omega)).le (by omega))
  have HW0 := hide hW0.symm
  have HD := hide (fun (W : World) (hW : Below W0.heap.size W0 W) => (h.below hb0).below hW)
  have HG := h.row
  have hlen := h.len
  have hbn := h.bn
  obtain ⟨R, hR⟩ : ∃ R, takF nx es id keep = R := ⟨_, rfl⟩
  rw [hR]
  unfold takF at hR
  unfold TakPost
  cases hnet : netB nx es with
  | false =>
    rw [hnet, if_pos rfl] at hR
    subst hR
    rw [hnet] at HN
    clear h hb0 hW0 hnet hRB hPB
    go_enter Try.func14, Try.ntmps14
    go_wp2_with fail
    rw [unhide HW0]
    go_wp2_with fail
    refine (unhide HN).mono ?_
    rintro e w1 ⟨rfl, hb1⟩
    obtain ⟨⟨e0, e1, f0, f1⟩, ⟨m0, m1, m2, m3, y0, y1, y2, y3⟩⟩ := unhide HRB _ hb1
    have HR := hide (unhide HRB _ hb1)
    have HB1 := hide hb1
    clear hb1 c0 c1
    go_wp2_with fail
    obtain ⟨r0, r1, r2, r3, r4, r5⟩ := fin6_read (u := .int .i64 0) (v := .slice none 0 0) (p := zPkt) (unhide HR).1 (unhide HR).2
    change bodyPost _ _ _ _ _ (fin6 w1 (w.heap.size + 1) (.int .i64 0) (.slice none 0 0) zPkt)
    have hfin := unhide HFIN w1 (.int .i64 0) (.slice none 0 0) zPkt (unhide HB1)
    generalize fin6 w1 (w.heap.size + 1) (.int .i64 0) (.slice none 0 0) zPkt = X at r0 r1 r2 r3 r4 r5 hfin ⊢
    exact bodyPost_ret (v := .tuple #[.agg #[.int .i64 0, .slice none 0 0], pktV zPkt, .bool false]) (by simp [results, Try.results14, go_sem, r0, r1, r2, r3, r4, r5, pktV]) rfl ⟨none, 0, rfl, ownR_nil _ _ _, hfin⟩
  | true =>
    rw [hnet, if_neg (by decide)] at hR
    have HR0 := hide hR
    clear hR
    rw [hnet] at HN
    obtain ⟨f1, f2⟩ := netB_facts hnet
    obtain ⟨g1, -, -, -⟩ := netB_ris hnet
    have HM := hide (fun (W : World) (hW : Below W0.heap.size W0 W) => meshOf_calls nx a n c es W (unhide HD _ hW) (by omega) f2)
    have HBS := hide (fun (W : World) (hW : Below W0.heap.size W0 W) => bsf_calls a n c es id W (unhide HD _ hW).row hlen hbn g1)
    have hrow := h.row
    clear h hb0 hW0 hnet hRB hPB
    go_enter Try.func14, Try.ntmps14
    go_wp2_with fail
    rw [unhide HW0]
    go_wp2_with fail
    refine (unhide HN).mono ?_
    rintro e w1 ⟨rfl, hb1⟩
    obtain ⟨q0, q1⟩ := unhide HC _ hb1
    have HB1 := hide hb1
    clear hb1 c0 c1
    go_wp2_with fail
    refine (unhide HM _ (unhide HB1)).mono ?_
    rintro e w2 ⟨M, b, H, rfl, hm, hb2⟩
    have HB2 := hide (belOn (unhide HB1) hb2)
    have HMM := hide hm
    have hs1 := (unhide HB1).size
    have hs2 := hb2.size
    obtain ⟨q0, q1⟩ := unhide HC _ (unhide HB2)
    clear hm hb2
    go_wp2_with fail
    refine (unhide HBS _ (unhide HB2)).mono ?_
    rintro e w3 ⟨at', rfl, ⟨hbl, hb4, hb5⟩, hb3⟩
    have HB3 := hide (belOn (unhide HB2) hb3)
    have HM3 := hide ((unhide HMM).below hb3)
    have hs3 := hb3.size
    clear hb3 q0 q1
    obtain ⟨q0, q1⟩ := unhide HC _ (unhide HB3)
    cases hbs : bsB es id at' with
    | false =>
      have hfd := find_no (es := es) (id := id) (fun p hp => by
        obtain ⟨j, hj, rfl⟩ := List.mem_iff_getElem.1 hp
        intro he
        rcases Nat.lt_trichotomy j at' with q | q | q
        · have := hb4 j hj q; omega
        · subst q
          unfold bsB at hbs
          rw [List.getElem?_eq_getElem hj] at hbs
          simp at hbs
          exact hbs he
        · have h1 := hb5 at' (by omega) (Nat.le_refl _)
          have h2 := (List.pairwise_iff_getElem.1 g1) at' j (by omega) hj q
          omega)
      have hRe := unhide HR0
      rw [hfd] at hRe
      have HRE := hide hRe.symm
      have HNT := hide (net_calls (unhide HM3) g1 (fun e he => (f2 e he).1) (by omega))
      rw [hlen] at HNT
      clear hRe hfd hb4 hb5 HR0
      go_wp2_with fail
      refine (unhide HNT).mono ?_
      rintro e w5 ⟨x, d, rfl, ho5, hb5⟩
      have HB5 := hide (belOn (unhide HB3) hb5)
      have HO5 := hide ho5
      obtain ⟨⟨e0, e1, f0, f1⟩, ⟨m0, m1, m2, m3, y0, y1, y2, y3⟩⟩ := unhide HRB _ (unhide HB5)
      have HR := hide (unhide HRB _ (unhide HB5))
      clear hb5 ho5 q0 q1
      go_wp2_with fail
      obtain ⟨r0, r1, r2, r3, r4, r5⟩ := fin6_read (u := .int .i64 nx) (v := .slice x n d) (p := zPkt) (unhide HR).1 (unhide HR).2
      change bodyPost _ _ _ _ _ (fin6 w5 (w.heap.size + 1) (.int .i64 nx) (.slice x n d) zPkt)
      have hfin := unhide HFIN w5 (.int .i64 nx) (.slice x n d) zPkt (unhide HB5)
      have how := unhide HOWN w5 (.int .i64 nx) (.slice x n d) zPkt _ _ _ _ _ (by omega) (unhide HO5)
      generalize fin6 w5 (w.heap.size + 1) (.int .i64 nx) (.slice x n d) zPkt = X at r0 r1 r2 r3 r4 r5 hfin how ⊢
      exact bodyPost_ret (v := .tuple #[.agg #[.int .i64 nx, .slice x n d], pktV zPkt, .bool false]) (by simp [results, Try.results14, go_sem, r0, r1, r2, r3, r4, r5, pktV]) rfl ⟨x, d, by rw [unhide HRE]; simp only [hlen], by rw [unhide HRE]; simp only [hlen]; exact how, hfin⟩
    | true =>
      have hal : at' < es.length := by
        rcases Nat.lt_or_ge at' es.length with q | q
        · exact q
        · unfold bsB at hbs; rw [List.getElem?_eq_none q] at hbs; simp at hbs
      have hid : es[at'].id = id := by
        unfold bsB at hbs
        rw [List.getElem?_eq_getElem hal] at hbs
        simpa using hbs
      have hfd := find_at g1 hal hid
      have hRe := unhide HR0
      rw [hfd] at hRe
      simp only at hRe
      obtain ⟨g, e1, l1, p0, p1, p2, p3⟩ := (unhide HD _ (unhide HB3)).row.px at' hal
      have hgl : g < w.heap.size := by
        obtain ⟨g', e2, l2, -⟩ := hrow at' hal
        rw [e1] at e2
        cases e2
        exact l2
      have hmem : es[at'] ∈ es := List.getElem_mem hal
      have hwp := f2 _ hmem
      generalize es[at'] = y at p0 p1 p2 p3 hid hRe hmem hwp
      obtain ⟨pi, fr, ds, bd⟩ := y
      simp only at p0 p1 p2 p3 hid hwp
      subst e1 hid
      have i0 : (0 : Int) ≤ (at' : Int) := by omega
      have i1 : (at' : Int) < (n : Int) := by omega
      clear hfd hb4 hb5 HR0 hbs
      cases keep with
      | true =>
        rw [if_pos rfl] at hRe
        have HRE := hide hRe.symm
        have HNT := hide (net_calls ((unhide HM3).below (belDrw (Below.refl _ w3))) g1 (fun e he => (f2 e he).1) (by omega))
        rw [hlen] at HNT
        clear hRe
        go_wp2_with fail
        have hVl : W0.heap.size ≤ w3.heap.size := (unhide HB3).size
        have A2 := fun (X : World) (hX : TB (w.heap.size + 1) w3 X) => hX.cell (b := w.heap.size) (by omega) (by omega) (by omega) q1
        have B0 := fun (X : World) (hX : TB (w.heap.size + 1) w3 X) => hX.cell (b := g) (by omega) (by omega) (by omega) p0
        have B1 := fun (X : World) (hX : TB (w.heap.size + 1) w3 X) => hX.cell (b := g) (by omega) (by omega) (by omega) p1
        have B2 := fun (X : World) (hX : TB (w.heap.size + 1) w3 X) => hX.cell (b := g) (by omega) (by omega) (by omega) p2
        have B3 := fun (X : World) (hX : TB (w.heap.size + 1) w3 X) => hX.cell (b := g) (by omega) (by omega) (by omega) p3
        have HT0 := hide (TB.refl (w.heap.size + 1) w3)
        have HT1 := hide (fun (X : World) (hX : Below w3.drew.heap.size w3.drew X) => show TB (w.heap.size + 1) w3 X from TB.call (belOfDrw hX))
        have HB9 := hide (fun (X : World) (hX : Below w3.drew.heap.size w3.drew X) => belOn (unhide HB3) (belOfDrw hX))
        clear q0 q1 p0 p1 p2 p3
        go_region_held3 (fun w' => TB (w.heap.size + 1) w3 w') (first | with_reducible exact unhide HT0 | with_reducible exact unhide HT1 _ (by assumption) | with_reducible exact TB.net (by assumption) | with_reducible exact TB.pkt (by assumption)) (first | (go_at_call 25; refine (unhide HNT).mono ?_; rintro e w5 ⟨x, d, rfl, ho5, hb5⟩; have HB5 := hide (unhide HB9 _ hb5); have HO5 := hide ho5; have HR := hide (unhide HRB _ (unhide HB5)); obtain ⟨⟨e0, e1, f0, f1⟩, ⟨m0, m1, m2, m3, y0, y1, y2, y3⟩⟩ := unhide HR; clear ho5))
        all_goals (try go_wp2_with fail)
        all_goals
          obtain ⟨r0, r1, r2, r3, r4, r5⟩ := fin6_read (u := .int .i64 nx) (v := .slice x n d) (p := ⟨pi, fr, ds, bd⟩) (unhide HR).1 (unhide HR).2
          change bodyPost _ _ _ _ _ (fin6 w5 (w.heap.size + 1) (.int .i64 nx) (.slice x n d) ⟨pi, fr, ds, bd⟩)
          have hfin := unhide HFIN w5 (.int .i64 nx) (.slice x n d) ⟨pi, fr, ds, bd⟩ (unhide HB5)
          have how := unhide HOWN w5 (.int .i64 nx) (.slice x n d) ⟨pi, fr, ds, bd⟩ _ _ _ _ _ hVl (unhide HO5)
          generalize fin6 w5 (w.heap.size + 1) (.int .i64 nx) (.slice x n d) ⟨pi, fr, ds, bd⟩ = X at r0 r1 r2 r3 r4 r5 hfin how ⊢
          exact bodyPost_ret (v := .tuple #[.agg #[.int .i64 nx, .slice x n d], pktV ⟨pi, fr, ds, bd⟩, .bool true]) (by simp [results, Try.results14, go_sem, r0, r1, r2, r3, r4, r5, pktV]) rfl ⟨x, d, by rw [unhide HRE]; simp only [hlen], by rw [unhide HRE]; simp only [hlen]; exact how, hfin⟩
      | false =>
        rw [if_neg (by decide)] at hRe
        have HRE := hide hRe.symm
        have HDR := hide (drop_calls (unhide HM3) g1 pi fr ds bd hmem hwp.1 (by omega) (by omega))
        clear hRe
        go_wp2_with fail
        refine (unhide HDR).mono ?_
        rintro e w4 ⟨rfl, ⟨H4, hm4⟩, hb4⟩
        have hdl : (dropI es pi).length ≤ es.length := List.length_filter_le _ _
        have HNT := hide (net_calls (hm4.below (belDrw (Below.refl _ w4))) (g1.sublist List.filter_sublist) (fun e he => (f2 e (List.mem_filter.1 he).1).1) (by omega))
        have HB4 := hide ((unhide HB3).trans (hb4.mono hs1))
        have hs4 := hb4.size
        have p0 := bcl hb4 (show g < w1.heap.size by omega) p0
        have p1 := bcl hb4 (show g < w1.heap.size by omega) p1
        have p2 := bcl hb4 (show g < w1.heap.size by omega) p2
        have p3 := bcl hb4 (show g < w1.heap.size by omega) p3
        obtain ⟨q0, q1⟩ := unhide HC _ (unhide HB4)
        obtain ⟨m, hmm⟩ : ∃ m, (dropI es pi).length = m := ⟨_, rfl⟩
        rw [hmm] at HNT
        have HMM2 := hide hmm
        clear hm4 hb4 hdl hmm
        go_wp2_with fail
        have hVl : W0.heap.size ≤ w4.heap.size := (unhide HB4).size
        have A2 := fun (X : World) (hX : TB (w.heap.size + 1) w4 X) => hX.cell (b := w.heap.size) (by omega) (by omega) (by omega) q1
        have B0 := fun (X : World) (hX : TB (w.heap.size + 1) w4 X) => hX.cell (b := g) (by omega) (by omega) (by omega) p0
        have B1 := fun (X : World) (hX : TB (w.heap.size + 1) w4 X) => hX.cell (b := g) (by omega) (by omega) (by omega) p1
        have B2 := fun (X : World) (hX : TB (w.heap.size + 1) w4 X) => hX.cell (b := g) (by omega) (by omega) (by omega) p2
        have B3 := fun (X : World) (hX : TB (w.heap.size + 1) w4 X) => hX.cell (b := g) (by omega) (by omega) (by omega) p3
        have HT0 := hide (TB.refl (w.heap.size + 1) w4)
        have HT1 := hide (fun (X : World) (hX : Below w4.drew.heap.size w4.drew X) => show TB (w.heap.size + 1) w4 X from TB.call (belOfDrw hX))
        have HB9 := hide (fun (X : World) (hX : Below w4.drew.heap.size w4.drew X) => belOn (unhide HB4) (belOfDrw hX))
        clear q0 q1 p0 p1 p2 p3
        go_region_held3 (fun w' => TB (w.heap.size + 1) w4 w') (first | with_reducible exact unhide HT0 | with_reducible exact unhide HT1 _ (by assumption) | with_reducible exact TB.net (by assumption) | with_reducible exact TB.pkt (by assumption)) (first | (go_at_call 25; refine (unhide HNT).mono ?_; rintro e w5 ⟨x, d, rfl, ho5, hb5⟩; have HB5 := hide (unhide HB9 _ hb5); have HO5 := hide ho5; have HR := hide (unhide HRB _ (unhide HB5)); obtain ⟨⟨e0, e1, f0, f1⟩, ⟨m0, m1, m2, m3, y0, y1, y2, y3⟩⟩ := unhide HR; clear ho5))
        all_goals (try go_wp2_with fail)
        all_goals
          obtain ⟨r0, r1, r2, r3, r4, r5⟩ := fin6_read (u := .int .i64 nx) (v := .slice x m d) (p := ⟨pi, fr, ds, bd⟩) (unhide HR).1 (unhide HR).2
          change bodyPost _ _ _ _ _ (fin6 w5 (w.heap.size + 1) (.int .i64 nx) (.slice x m d) ⟨pi, fr, ds, bd⟩)
          have hfin := unhide HFIN w5 (.int .i64 nx) (.slice x m d) ⟨pi, fr, ds, bd⟩ (unhide HB5)
          have how := unhide HOWN w5 (.int .i64 nx) (.slice x m d) ⟨pi, fr, ds, bd⟩ _ _ _ _ _ hVl (unhide HO5)
          generalize fin6 w5 (w.heap.size + 1) (.int .i64 nx) (.slice x m d) ⟨pi, fr, ds, bd⟩ = X at r0 r1 r2 r3 r4 r5 hfin how ⊢
          exact bodyPost_ret (v := .tuple #[.agg #[.int .i64 nx, .slice x m d], pktV ⟨pi, fr, ds, bd⟩, .bool true]) (by simp [results, Try.results14, go_sem, r0, r1, r2, r3, r4, r5, pktV]) rfl ⟨x, d, by rw [unhide HRE]; simp only [unhide HMM2], by rw [unhide HRE]; simp only [unhide HMM2]; exact how, hfin⟩
end Go.Proofs.Ytgdcamolpmjceaa
