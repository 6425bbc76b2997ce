/- A net copied, a packet posted, by the specification. -/
import Derived.Test.YtgdcamolpmjceaaPstI
import Derived.Test.YtgdcamolpmjceaaNetS
namespace Go.Proofs.Ytgdcamolpmjceaa
open Go.RowKit Go.Maps Plain
set_option linter.unusedVariables false

set_option maxRecDepth 10000 in
set_option maxHeartbeats 4000000 in
theorem l8Copy_calls (nx : Int) (a : Option Addr) (n c : Nat) (es : List Pkt) (w : World) (h : NetAt w a n c es) (had : AdG a c) :
    Calls Try.prog 29 #[.agg #[.int .i64 nx, .slice a n c]] w fun e w' => ∃ x d, e = .returned (.agg #[.int .i64 nx, .slice x n d]) ∧ OwnR pktE w' w.heap.size (.slice x n d) es ∧ Below w.heap.size w w' := by
  obtain ⟨W0, hW0⟩ : ∃ W0, W0 = (w.alloc (.cells #[.int .i64 nx, .slice a n c] 26)).alloc (.cells #[.int .i64 0, .slice none 0 0] 26) := ⟨_, rfl⟩
  have hb0 : Below w.heap.size w W0 := by rw [hW0]; exact belOn (bel1 _ _) (bel1 _ _)
  have hz : W0.heap.size = w.heap.size + 2 := by rw [hW0]; simp
  obtain ⟨W1, hW1⟩ : ∃ W1, W1 = W0.alloc (.cells #[] pktE.E) := ⟨_, rfl⟩
  have hb1 : Below W0.heap.size W0 W1 := by rw [hW1]; exact bel1 _ _
  have ho1 : OwnR pktE W1 W0.heap.size (.slice (some ⟨W0.heap.size, 0, none⟩) 0 0) [] := by rw [hW1]; exact ownR_empty pktE W0 _ (Nat.le_refl _)
  have c0 : W1.cell? ⟨w.heap.size, 0, none⟩ = some (.int .i64 nx) := by rw [hW1, hW0]; simp [go_sem]
  have c1 : W1.cell? ⟨w.heap.size, 1, none⟩ = some (.slice a n c) := by rw [hW1, hW0]; simp [go_sem]
  have f1 : W1.frozen? ⟨w.heap.size, 1, none⟩ = false := by rw [hW1, hW0]; simp [go_sem]
  have hRB : RB (w.heap.size + 1) W1 := ⟨by rw [hW1, hW0]; simp [go_sem], by rw [hW1, hW0]; simp [go_sem], by rw [hW1, hW0]; simp [go_sem], by rw [hW1, hW0]; simp [go_sem]⟩
  have h1 := (h.below hb0).below hb1
  have HROW := hide h1.row
  have HAD := hide had
  have hlen := h.len
  have hbn := h.bn
  have HW1 := hide (show ((w.alloc (.cells #[.int .i64 nx, .slice a n c] 26)).alloc (.cells #[.int .i64 0, .slice none 0 0] 26)).alloc (.cells #[] 34) = W1 from by rw [hW1, hW0]; rfl)
  have HO1 := hide ho1
  rw [hz] at HO1
  have HB1 := hide (belOn hb0 hb1)
  have hl5 : ([] : List Pkt).length + n < 100000000 := by simp; omega
  have hz1 : w.heap.size + 2 ≤ W1.heap.size := by have := hb1.size; omega
  have HRB := hide hRB
  clear h hW0 hW1 h1 hb0 hb1 ho1 had hRB
  go_enter Try.func29, Try.ntmps29
  go_wp2_with (at_builtin; rw [unhide HW1]; go_must (refine appGG (e := pktE) rfl _ _ rfl (unhide HO1) rfl a n c rfl hlen (unhide HROW) (unhide HAD) hl5 hz1 ?_); intro v' w6 hown6 hb6; obtain ⟨x, d, hv'⟩ := hown6.form; subst hv'; rw [List.nil_append] at hown6 ⊢; rw [hlen] at hown6 ⊢; have g1 := bcl hb6 (show w.heap.size < w.heap.size + 2 by omega) c1; have g2 := (hb6.frozen (p := ⟨w.heap.size, 1, none⟩) (show w.heap.size < w.heap.size + 2 by omega)).trans f1; have g0 := bcl hb6 (show w.heap.size < w.heap.size + 2 by omega) c0; obtain ⟨k0, k1, k2, k3⟩ := (unhide HRB).below hb6 (show w.heap.size + 1 < w.heap.size + 2 by omega))
  have R6 : RB (w.heap.size + 1) (w6.setCell ⟨w.heap.size, 1, none⟩ (.slice x n d)) := ⟨(cell_offN (.inl (by omega))).trans k0, (cell_offN (.inl (by omega))).trans k1, (World.frozen?_setCell _ _ _ _).trans k2, (World.frozen?_setCell _ _ _ _).trans k3⟩
  obtain ⟨r0, r1⟩ := R6.read (u := .int .i64 nx) (v := .slice x n d)
  have ho7 : OwnR pktE (w6.setCell ⟨w.heap.size, 1, none⟩ (.slice x n d)) (w.heap.size + 2) (.slice x n d) es := hown6.otherN (fun k hk => heap_setN (by have := (World.ownsRow.lt hown6 k hk).1; omega))
  have hb7 : Below w.heap.size w (w6.setCell ⟨w.heap.size, 1, none⟩ (.slice x n d)) := ((unhide HB1).trans (hb6.mono (by omega))).setCell (p := ⟨w.heap.size, 1, none⟩) (Nat.le_refl _) _
  have hb8 := (hb7.setCell (p := ⟨w.heap.size + 1, 0, none⟩) (Nat.le_succ _) (.int .i64 nx)).setCell (p := ⟨w.heap.size + 1, 1, none⟩) (Nat.le_succ _) (.slice x n d)
  exact bodyPost_ret (v := .agg #[.int .i64 nx, .slice x n d]) (by simp [results, Try.results29, go_sem, r0, r1]) rfl ⟨x, d, rfl, (own_past ho7 (by omega)).le (by omega), hb8⟩

set_option maxRecDepth 10000 in
set_option maxHeartbeats 4000000 in
theorem spec_Post (nx : Int) (a : Option Addr) (n c : Nat) (es : List Pkt) (fr ds : Int) (bd : ByteArray) (w : World) (h : NetAt w a n c es) (hnc : n ≤ c) (had : AdG a c) (hbd : bd.size ≤ 1048576) :
    Calls Try.prog 11 #[.agg #[.int .i64 nx, .slice a n c], .int .i64 fr, .int .i64 ds, .string bd] w (NetPost (pstF nx es fr ds bd) w) := by
  obtain ⟨W0, hW0⟩ : ∃ W0, W0 = (w.alloc (.cells #[.int .i64 nx, .slice a n c] 26)).alloc (.cells #[.int .i64 0, .slice none 0 0] 26) := ⟨_, rfl⟩
  have hb0 : Below w.heap.size w W0 := by rw [hW0]; exact belOn (bel1 _ _) (bel1 _ _)
  have hz : W0.heap.size = w.heap.size + 2 := by rw [hW0]; simp
  have hlt : w.heap.size < W0.heap.size := by omega
  have hlt1 : w.heap.size + 1 < W0.heap.size := by omega
  have c0 : W0.cell? ⟨w.heap.size, 0, none⟩ = some (.int .i64 nx) := by rw [hW0]; simp [go_sem]
  have c1 : W0.cell? ⟨w.heap.size, 1, none⟩ = some (.slice a n c) := by rw [hW0]; simp [go_sem]
  have hRB : RB (w.heap.size + 1) W0 := ⟨by rw [hW0]; simp [go_sem], by rw [hW0]; simp [go_sem], by rw [hW0]; simp [go_sem], by rw [hW0]; simp [go_sem]⟩
  have HN := hide (spec_NetOk nx a n c es W0 (h.below hb0) hnc)
  have HC := hide (fun (W : World) (hW : Below W0.heap.size W0 W) => And.intro (bcl hW hlt c0) (bcl hW hlt c1))
  have HRB := hide (fun (W : World) (hW : Below W0.heap.size W0 W) => hRB.below hW hlt1)
  have HFIN := hide (fun (X : World) (u v : Value) (hX : Below W0.heap.size W0 X) => show Below w.heap.size w ((X.setCell ⟨w.heap.size + 1, 0, none⟩ u).setCell ⟨w.heap.size + 1, 1, none⟩ v) from ((hb0.trans (hX.mono (by omega))).setCell (p := ⟨w.heap.size + 1, 0, none⟩) (Nat.le_succ _) _).setCell (p := ⟨w.heap.size + 1, 1, none⟩) (Nat.le_succ _) _)
  have HOWN := hide (fun (X : World) (u v : Value) (k : Nat) (x : Option Addr) (m d : Nat) (l : List Pkt) (hk : W0.heap.size ≤ k) (ho : OwnR pktE X k (.slice x m d) l) => show OwnR pktE ((X.setCell ⟨w.heap.size + 1, 0, none⟩ u).setCell ⟨w.heap.size + 1, 1, none⟩ v) w.heap.size (.slice x m d) l from (own_past ho (by omega)).le (by omega))
  have HW0 := hide hW0.symm
  have HCP := hide (fun (W : World) (hW : Below W0.heap.size W0 W) => l8Copy_calls nx a n c es W ((h.below hb0).below hW) had)
  have hlen := h.len
  unfold NetPost pstF
  cases hnet : netB nx es with
  | false =>
    rw [if_pos rfl]
    rw [hnet] at HN
    clear h hb0 hW0 hnet hRB
    go_enter Try.func11, Try.ntmps11
    go_wp2_with fail
    rw [unhide HW0]
    go_wp2_with fail
    refine (unhide HN).mono ?_
    rintro e w1 ⟨rfl, hb1⟩
    obtain ⟨e0, e1, f0, f1⟩ := unhide HRB _ hb1
    have HR := hide (unhide HRB _ hb1)
    have HB1 := hide hb1
    clear hb1 c0 c1
    go_wp2_with fail
    obtain ⟨r0, r1⟩ := (unhide HR).read (u := .int .i64 0) (v := .slice none 0 0)
    exact bodyPost_ret (v := .tuple #[.agg #[.int .i64 0, .slice none 0 0], .int .i64 1]) (by simp [results, Try.results11, go_sem, r0, r1]) rfl ⟨none, 0, rfl, ownR_nil _ _ _, unhide HFIN _ _ _ (unhide HB1)⟩
  | true =>
    rw [if_neg (by decide)]
    rw [hnet] at HN
    obtain ⟨f1, f2⟩ := netB_facts hnet
    obtain ⟨g1, g2, g3, g4⟩ := netB_ris hnet
    have HF := hide (fun W => l8Ends_calls fr ds bd W (by omega))
    generalize hL : es.length = L at hlen ⊢
    obtain rfl : L = n := hlen
    clear h hb0 hW0 hnet hRB f2 g1 g2
    cases hen : endsB fr ds bd with
    | false =>
      rw [if_pos rfl]
      rw [hen] at HF
      clear hen
      have HL := hide hL
      clear hL
      go_enter Try.func11, Try.ntmps11
      go_wp2_with fail
      rw [unhide HW0]
      go_wp2_with fail
      refine (unhide HN).mono ?_
      rintro e w1 ⟨rfl, hb1⟩
      obtain ⟨q0, q1⟩ := unhide HC _ hb1
      have HB1 := hide hb1
      clear hb1 c0 c1
      go_wp2_with fail
      refine (unhide HCP _ (unhide HB1)).mono ?_
      rintro e w2 ⟨x, d, rfl, ho, hb2⟩
      obtain ⟨W3, hW3⟩ : ∃ W3, W3 = w2.alloc (.cells #[.int .i64 nx, .slice x L d] 26) := ⟨_, rfl⟩
      have hb3 : Below w2.heap.size w2 W3 := by rw [hW3]; exact bel1 _ _
      have HO3 := hide (ho.keep hb3)
      have HXB := hide (fun g hg => World.ownsRow.lt ho g hg)
      have n0 : W3.cell? ⟨w2.heap.size, 0, none⟩ = some (.int .i64 nx) := by rw [hW3]; simp [go_sem]
      have n1 : W3.cell? ⟨w2.heap.size, 1, none⟩ = some (.slice x L d) := by rw [hW3]; simp [go_sem]
      have y0 : W3.frozen? ⟨w2.heap.size, 0, none⟩ = false := by rw [hW3]; simp [go_sem]
      have y1 : W3.frozen? ⟨w2.heap.size, 1, none⟩ = false := by rw [hW3]; simp [go_sem]
      have HB3 := hide (belOn (unhide HB1) (belOn hb2 hb3))
      have hs1 := (unhide HB1).size
      have hs2 := hb2.size
      have hs3 : W3.heap.size = w2.heap.size + 1 := by rw [hW3]; simp
      have HW3 := hide hW3.symm
      clear hW3 hb3 hb2 ho q0 q1
      go_wp2_with fail
      rw [unhide HW3]
      refine (unhide HF _).mono ?_
      rintro e w9 ⟨rfl, rfl⟩
      obtain ⟨q0, q1⟩ := unhide HC _ (unhide HB3)
      obtain ⟨e0, e1, k0, k1⟩ := unhide HRB _ (unhide HB3)
      go_wp2_with fail
      obtain ⟨r0, r1⟩ := (unhide HRB _ (unhide HB3)).read (u := .int .i64 nx) (v := .slice x L d)
      exact bodyPost_ret (v := .tuple #[.agg #[.int .i64 nx, .slice x L d], .int .i64 2]) (by simp [results, Try.results11, go_sem, r0, r1]) rfl ⟨x, d, by rw [unhide HL], by rw [unhide HL]; exact unhide HOWN _ _ _ _ _ _ _ _ hs1 (unhide HO3), unhide HFIN _ _ _ (unhide HB3)⟩
    | true =>
      rw [if_neg (by decide)]
      rw [hen] at HF
      clear hen
      by_cases hfull : 300 ≤ L ∨ 1000000000000 ≤ nx
      · rw [if_pos hfull]
        have f1' : L ≤ 300 := by omega
        by_cases h300 : 300 ≤ L
        · have i3 : (300 : Int) ≤ (L : Int) := by omega
          have i5 : (L : Int) ≤ 300 := by omega
          have HL := hide hL
          clear hL
          go_enter Try.func11, Try.ntmps11
          go_wp2_with fail
          rw [unhide HW0]
          go_wp2_with fail
          refine (unhide HN).mono ?_
          rintro e w1 ⟨rfl, hb1⟩
          obtain ⟨q0, q1⟩ := unhide HC _ hb1
          have HB1 := hide hb1
          clear hb1 c0 c1
          go_wp2_with fail
          refine (unhide HCP _ (unhide HB1)).mono ?_
          rintro e w2 ⟨x, d, rfl, ho, hb2⟩
          obtain ⟨W3, hW3⟩ : ∃ W3, W3 = w2.alloc (.cells #[.int .i64 nx, .slice x L d] 26) := ⟨_, rfl⟩
          have hb3 : Below w2.heap.size w2 W3 := by rw [hW3]; exact bel1 _ _
          have HO3 := hide (ho.keep hb3)
          have HXB := hide (fun g hg => World.ownsRow.lt ho g hg)
          have n0 : W3.cell? ⟨w2.heap.size, 0, none⟩ = some (.int .i64 nx) := by rw [hW3]; simp [go_sem]
          have n1 : W3.cell? ⟨w2.heap.size, 1, none⟩ = some (.slice x L d) := by rw [hW3]; simp [go_sem]
          have y0 : W3.frozen? ⟨w2.heap.size, 0, none⟩ = false := by rw [hW3]; simp [go_sem]
          have y1 : W3.frozen? ⟨w2.heap.size, 1, none⟩ = false := by rw [hW3]; simp [go_sem]
          have HB3 := hide (belOn (unhide HB1) (belOn hb2 hb3))
          have hs1 := (unhide HB1).size
          have hs2 := hb2.size
          have hs3 : W3.heap.size = w2.heap.size + 1 := by rw [hW3]; simp
          have HW3 := hide hW3.symm
          clear hW3 hb3 hb2 ho q0 q1
          go_wp2_with fail
          rw [unhide HW3]
          refine (unhide HF _).mono ?_
          rintro e w9 ⟨rfl, rfl⟩
          obtain ⟨q0, q1⟩ := unhide HC _ (unhide HB3)
          obtain ⟨e0, e1, k0, k1⟩ := unhide HRB _ (unhide HB3)
          go_wp2_with fail
          obtain ⟨r0, r1⟩ := (unhide HRB _ (unhide HB3)).read (u := .int .i64 nx) (v := .slice x L d)
          exact bodyPost_ret (v := .tuple #[.agg #[.int .i64 nx, .slice x L d], .int .i64 3]) (by simp [results, Try.results11, go_sem, r0, r1]) rfl ⟨x, d, by rw [unhide HL], by rw [unhide HL]; exact unhide HOWN _ _ _ _ _ _ _ _ hs1 (unhide HO3), unhide HFIN _ _ _ (unhide HB3)⟩
        · have i3 : (L : Int) < 300 := by omega
          obtain rfl : nx = 1000000000000 := by omega
          have HL := hide hL
          clear hL
          go_enter Try.func11, Try.ntmps11
          go_wp2_with fail
          rw [unhide HW0]
          go_wp2_with fail
          refine (unhide HN).mono ?_
          rintro e w1 ⟨rfl, hb1⟩
          obtain ⟨q0, q1⟩ := unhide HC _ hb1
          have HB1 := hide hb1
          clear hb1 c0 c1
          go_wp2_with fail
          refine (unhide HCP _ (unhide HB1)).mono ?_
          rintro e w2 ⟨x, d, rfl, ho, hb2⟩
          obtain ⟨W3, hW3⟩ : ∃ W3, W3 = w2.alloc (.cells #[.int .i64 1000000000000, .slice x L d] 26) := ⟨_, rfl⟩
          have hb3 : Below w2.heap.size w2 W3 := by rw [hW3]; exact bel1 _ _
          have HO3 := hide (ho.keep hb3)
          have HXB := hide (fun g hg => World.ownsRow.lt ho g hg)
          have n0 : W3.cell? ⟨w2.heap.size, 0, none⟩ = some (.int .i64 1000000000000) := by rw [hW3]; simp [go_sem]
          have n1 : W3.cell? ⟨w2.heap.size, 1, none⟩ = some (.slice x L d) := by rw [hW3]; simp [go_sem]
          have y0 : W3.frozen? ⟨w2.heap.size, 0, none⟩ = false := by rw [hW3]; simp [go_sem]
          have y1 : W3.frozen? ⟨w2.heap.size, 1, none⟩ = false := by rw [hW3]; simp [go_sem]
          have HB3 := hide (belOn (unhide HB1) (belOn hb2 hb3))
          have hs1 := (unhide HB1).size
          have hs2 := hb2.size
          have hs3 : W3.heap.size = w2.heap.size + 1 := by rw [hW3]; simp
          have HW3 := hide hW3.symm
          clear hW3 hb3 hb2 ho q0 q1
          go_wp2_with fail
          rw [unhide HW3]
          refine (unhide HF _).mono ?_
          rintro e w9 ⟨rfl, rfl⟩
          obtain ⟨q0, q1⟩ := unhide HC _ (unhide HB3)
          obtain ⟨e0, e1, k0, k1⟩ := unhide HRB _ (unhide HB3)
          go_wp2_with fail
          obtain ⟨r0, r1⟩ := (unhide HRB _ (unhide HB3)).read (u := .int .i64 1000000000000) (v := .slice x L d)
          exact bodyPost_ret (v := .tuple #[.agg #[.int .i64 1000000000000, .slice x L d], .int .i64 3]) (by simp [results, Try.results11, go_sem, r0, r1]) rfl ⟨x, d, by rw [unhide HL], by rw [unhide HL]; exact unhide HOWN _ _ _ _ _ _ _ _ hs1 (unhide HO3), unhide HFIN _ _ _ (unhide HB3)⟩
      · rw [if_neg hfull]
        have i3 : (L : Int) < 300 := by omega
        have i4 : nx < 1000000000000 := by omega
        have i6 : ¬ nx = 1000000000000 := by omega
        have i7 : ¬ (L : Int) = 300 := by omega
        have HL := hide hL
        clear hL
        go_enter Try.func11, Try.ntmps11
        go_wp2_with fail
        rw [unhide HW0]
        go_wp2_with fail
        refine (unhide HN).mono ?_
        rintro e w1 ⟨rfl, hb1⟩
        obtain ⟨q0, q1⟩ := unhide HC _ hb1
        have HB1 := hide hb1
        clear hb1 c0 c1
        go_wp2_with fail
        refine (unhide HCP _ (unhide HB1)).mono ?_
        rintro e w2 ⟨x, d, rfl, ho, hb2⟩
        obtain ⟨W3, hW3⟩ : ∃ W3, W3 = w2.alloc (.cells #[.int .i64 nx, .slice x L d] 26) := ⟨_, rfl⟩
        have hb3 : Below w2.heap.size w2 W3 := by rw [hW3]; exact bel1 _ _
        have HO3 := hide (ho.keep hb3)
        have HXB := hide (fun g hg => World.ownsRow.lt ho g hg)
        have n0 : W3.cell? ⟨w2.heap.size, 0, none⟩ = some (.int .i64 nx) := by rw [hW3]; simp [go_sem]
        have n1 : W3.cell? ⟨w2.heap.size, 1, none⟩ = some (.slice x L d) := by rw [hW3]; simp [go_sem]
        have y0 : W3.frozen? ⟨w2.heap.size, 0, none⟩ = false := by rw [hW3]; simp [go_sem]
        have y1 : W3.frozen? ⟨w2.heap.size, 1, none⟩ = false := by rw [hW3]; simp [go_sem]
        have HB3 := hide (belOn (unhide HB1) (belOn hb2 hb3))
        have hs1 := (unhide HB1).size
        have hs2 := hb2.size
        have hs3 : W3.heap.size = w2.heap.size + 1 := by rw [hW3]; simp
        have HW3 := hide hW3.symm
        clear hW3 hb3 hb2 ho q0 q1
        go_wp2_with fail
        rw [unhide HW3]
        refine (unhide HF _).mono ?_
        rintro e w9 ⟨rfl, rfl⟩
        obtain ⟨q0, q1⟩ := unhide HC _ (unhide HB3)
        obtain ⟨e0, e1, k0, k1⟩ := unhide HRB _ (unhide HB3)
        have hl9 : es.length < 100000000 := by rw [unhide HL]; omega
        have hz9 : w1.heap.size ≤ W3.heap.size := by omega
        have HK6 := hide (fun (w6 : World) (hg : (W3.alloc (.cells #[.int .i64 nx, .int .i64 fr, .int .i64 ds, .string bd] pktE.E)).grownBy w6 (Value.slice x L d).ownBlock) (k : Nat) (hk : k = w.heap.size ∨ k = w.heap.size + 1 ∨ k = w2.heap.size) => show w6.heap[k]? = W3.heap[k]? from
          (hg.block k (by simp; omega) (fun e => by have := unhide HXB k e.symm; omega)).trans ((bel1 W3 _).block k (by omega)))
        have HR3 := hide (unhide HRB _ (unhide HB3))
        have HN3 := hide (show W3.heap[w2.heap.size]? = some (.cells #[.int .i64 nx, .slice x L d] 26) from by rw [← unhide HW3]; exact heap_alloc_new w2 _)
        have HE6 := hide (fun (w6 : World) (x6 : Option Addr) (m6 d6 : Nat) (l6 : List Pkt) (ho : OwnR pktE w6 w1.heap.size (.slice x6 m6 d6) l6) (hb : w6.heap[w2.heap.size]? = W3.heap[w2.heap.size]?) => show ∀ g, (Value.slice x6 m6 d6).ownBlock = some g → w2.heap.size ≠ g from fun g hg e => by
          rcases ho.2 with ⟨q, _⟩ | ⟨g', cap, cur, q, _, q2, _⟩
          · rw [q] at hg; cases hg
          · rw [q] at hg
            have := own_blkN hg
            subst this
            rw [← e, hb, unhide HN3] at q2
            simp [pktE] at q2)
        go_wp2_with (at_builtin; go_must (refine appR (e := pktE) rfl _ _ rfl (unhide HO3) rfl ⟨nx, fr, ds, bd⟩ rfl (w2.heap.size + 1) rfl hs3.symm hl9 hz9 ?_); intro v' w6 hown6 hb6 hg6; obtain ⟨x6, d6, hv'⟩ := hown6.form; subst hv'; have B6 := unhide HK6 w6 hg6; have m0 := (World.cell?_of_block (a := ⟨w2.heap.size, 0, none⟩) (B6 _ (.inr (.inr rfl)))).trans n0; have m1 := (World.cell?_of_block (a := ⟨w2.heap.size, 1, none⟩) (B6 _ (.inr (.inr rfl)))).trans n1; have p0 := (World.frozen?_of_block (a := ⟨w2.heap.size, 0, none⟩) (B6 _ (.inr (.inr rfl)))).trans y0; have p1 := (World.frozen?_of_block (a := ⟨w2.heap.size, 1, none⟩) (B6 _ (.inr (.inr rfl)))).trans y1; have s0 := (World.cell?_of_block (a := ⟨w.heap.size, 0, none⟩) (B6 _ (.inl rfl))).trans q0; have R6 : RB (w.heap.size + 1) w6 := ⟨(World.cell?_of_block (a := ⟨w.heap.size + 1, 0, none⟩) (B6 _ (.inr (.inl rfl)))).trans (unhide HR3).c0, (World.cell?_of_block (a := ⟨w.heap.size + 1, 1, none⟩) (B6 _ (.inr (.inl rfl)))).trans (unhide HR3).c1, (World.frozen?_of_block (a := ⟨w.heap.size + 1, 0, none⟩) (B6 _ (.inr (.inl rfl)))).trans (unhide HR3).z0, (World.frozen?_of_block (a := ⟨w.heap.size + 1, 1, none⟩) (B6 _ (.inr (.inl rfl)))).trans (unhide HR3).z1⟩; have HR6 := hide R6; obtain ⟨t0, t1, v0, v1⟩ := R6; have HG6 := hide (unhide HE6 _ _ _ _ _ hown6 (B6 _ (.inr (.inr rfl)))); rw [List.length_append] at hown6 HG6; clear n0 n1 y0 y1 q0 q1 e0 e1 k0 k1 B6)
        all_goals (first | (exfalso; simp_all; done) | (exfalso; rename_i hq; simp at hq; omega) | (rw [unhide HL] at hown6 HG6 ⊢))
        all_goals
          obtain ⟨X7, hX7⟩ : ∃ X7, X7 = (w6.setCell ⟨w2.heap.size, 1, none⟩ (.slice x6 (L + 1) d6)).setCell ⟨w2.heap.size, 0, none⟩ (.int .i64 (nx + 1)) := ⟨_, rfl⟩
          rw [← hX7]
          have R7 : RB (w.heap.size + 1) X7 := by
            rw [hX7]
            exact ⟨(cell_offN (.inl (by omega))).trans ((cell_offN (.inl (by omega))).trans t0), (cell_offN (.inl (by omega))).trans ((cell_offN (.inl (by omega))).trans t1), (World.frozen?_setCell _ _ _ _).trans ((World.frozen?_setCell _ _ _ _).trans v0), (World.frozen?_setCell _ _ _ _).trans ((World.frozen?_setCell _ _ _ _).trans v1)⟩
          have ho7 : OwnR pktE X7 w1.heap.size (.slice x6 (L + 1) d6) (es ++ [⟨nx, fr, ds, bd⟩]) := by
            rw [hX7]
            exact hown6.otherN (fun k hk => (heap_setN (unhide HG6 k hk)).trans (heap_setN (unhide HG6 k hk)))
          have hb7 : Below W0.heap.size W0 X7 := by
            rw [hX7]
            exact (((unhide HB3).trans (hb6.mono hs1)).setCell (p := ⟨w2.heap.size, 1, none⟩) (by show W0.heap.size ≤ w2.heap.size; omega) _).setCell (p := ⟨w2.heap.size, 0, none⟩) (by show W0.heap.size ≤ w2.heap.size; omega) _
          obtain ⟨r0, r1⟩ := R7.read (u := .int .i64 (nx + 1)) (v := .slice x6 (L + 1) d6)
          exact bodyPost_ret (v := .tuple #[.agg #[.int .i64 (nx + 1), .slice x6 (L + 1) d6], .int .i64 0]) (by simp [results, Try.results11, go_sem, r0, r1]) rfl ⟨x6, d6, by rw [List.length_append, unhide HL]; rfl, by rw [List.length_append, unhide HL]; exact unhide HOWN _ _ _ _ _ _ _ _ hs1 ho7, unhide HFIN _ _ _ hb7⟩
end Go.Proofs.Ytgdcamolpmjceaa
