/- Changes of members, by the specification: the whole call. -/
import Derived.Test.YtmokpgmehaakgaaGreatDoorRzX
namespace Go.Proofs.YtmokpgmehaakgaaGreatDoor
open Go.RowKit Plain
set_option linter.unusedVariables false

namespace Plain
/-- What holds while a change is made: the lists as they are in block O. -/
structure Chg (w : World) (p q : Value) (O : Nat) (a1 : Option Addr) (k1 : Nat) (x : List Int) (a2 : Option Addr) (k2 : Nat) (y : List Int) (W : World) : Prop where
  m : CB w.heap.size p q W
  r : CB (w.heap.size + 1) (.slice none 0 0) (.slice none 0 0) W
  o : CB O (.slice a1 x.length k1) (.slice a2 y.length k2) W
  p1 : RowAt i64E W a1 x
  p2 : RowAt i64E W a2 y
  b1 : ∀ g, inB a1 g → w.heap.size + 2 ≤ g ∧ g < W.heap.size ∧ g ≠ O
  b2 : ∀ g, inB a2 g → w.heap.size + 2 ≤ g ∧ g < W.heap.size ∧ g ≠ O
  bo : w.heap.size + 2 ≤ O
  below : Below w.heap.size w W
theorem Chg.step {w : World} {p q : Value} {O : Nat} {a1 : Option Addr} {k1 : Nat} {x : List Int} {a2 : Option Addr} {k2 : Nat} {y : List Int} {W W' : World} (h : Chg w p q O a1 k1 x a2 k2 y W) (hb : Below W.heap.size W W') : Chg w p q O a1 k1 x a2 k2 y W' :=
  ⟨h.m.below hb h.m.lt, h.r.below hb h.r.lt, h.o.below hb h.o.lt, h.p1.below hb, h.p2.below hb, fun g hg => by have := h.b1 g hg; have := hb.size; omega, fun g hg => by have := h.b2 g hg; have := hb.size; omega, h.bo, belOn h.below hb⟩
theorem Chg.setL {w : World} {p q : Value} {O : Nat} {a1 : Option Addr} {k1 : Nat} {x : List Int} {a2 : Option Addr} {k2 : Nat} {y : List Int} {W : World} (h : Chg w p q O a1 k1 x a2 k2 y W) {a3 : Option Addr} {k3 : Nat} {z : List Int} (p3 : RowAt i64E W a3 z) (b3 : ∀ g, inB a3 g → w.heap.size + 2 ≤ g ∧ g < W.heap.size ∧ g ≠ O) :
    Chg w p q O a1 k1 x a3 k3 z (W.setCell ⟨O, 1, none⟩ (.slice a3 z.length k3)) :=
  have hO := h.bo
  ⟨h.m.far (by omega) _, h.r.far (by omega) _, h.o.set1 _, rowSet h.p1 (fun g hg => (h.b1 g hg).2.2), rowSet p3 (fun g hg => (b3 g hg).2.2), fun g hg => by simpa using h.b1 g hg, fun g hg => by simpa using b3 g hg, h.bo, h.below.setCell (show w.heap.size ≤ O by omega) _⟩
theorem Chg.setV {w : World} {p q : Value} {O : Nat} {a1 : Option Addr} {k1 : Nat} {x : List Int} {a2 : Option Addr} {k2 : Nat} {y : List Int} {W : World} (h : Chg w p q O a1 k1 x a2 k2 y W) {a3 : Option Addr} {k3 : Nat} {z : List Int} (p3 : RowAt i64E W a3 z) (b3 : ∀ g, inB a3 g → w.heap.size + 2 ≤ g ∧ g < W.heap.size ∧ g ≠ O) :
    Chg w p q O a3 k3 z a2 k2 y (W.setCell ⟨O, 0, none⟩ (.slice a3 z.length k3)) :=
  have hO := h.bo
  ⟨h.m.far (by omega) _, h.r.far (by omega) _, h.o.set0 _, rowSet p3 (fun g hg => (b3 g hg).2.2), rowSet h.p2 (fun g hg => (h.b2 g hg).2.2), fun g hg => by simpa using b3 g hg, fun g hg => by simpa using h.b2 g hg, h.bo, h.below.setCell (show w.heap.size ≤ O by omega) _⟩
theorem Chg.fin {w : World} {p q : Value} {O : Nat} {a1 : Option Addr} {k1 : Nat} {x : List Int} {a2 : Option Addr} {k2 : Nat} {y : List Int} {W : World} (h : Chg w p q O a1 k1 x a2 k2 y W) {u1 u2 : Value} :
    CcPost x y w a1 k1 a2 k2 ((W.setCell ⟨w.heap.size + 1, 0, none⟩ u1).setCell ⟨w.heap.size + 1, 1, none⟩ u2) :=
  ⟨h.p1.set2 (fun g hg => by have := h.b1 g hg; omega), h.p2.set2 (fun g hg => by have := h.b2 g hg; omega), fun g hg => by have := h.b1 g hg; simp; omega, fun g hg => by have := h.b2 g hg; simp; omega, (h.below.setCell (show w.heap.size ≤ w.heap.size + 1 by omega) _).setCell (show w.heap.size ≤ w.heap.size + 1 by omega) _⟩
theorem Chg.fin2 {w : World} {p q : Value} {O : Nat} {a1 : Option Addr} {k1 : Nat} {x : List Int} {a2 : Option Addr} {k2 : Nat} {y : List Int} {W W' : World} (h : Chg w p q O a1 k1 x a2 k2 y W) {a3 : Option Addr} {k3 : Nat} {v : List Int} {a4 : Option Addr} {k4 : Nat} {l : List Int} (hc : CcPost v l W a3 k3 a4 k4 W') {u1 u2 : Value} :
    CcPost v l w a3 k3 a4 k4 ((W'.setCell ⟨w.heap.size + 1, 0, none⟩ u1).setCell ⟨w.heap.size + 1, 1, none⟩ u2) := by
  obtain ⟨c1, c2, c3, c4, c5⟩ := hc
  have hr := h.r.lt
  exact ⟨c1.set2 (fun g hg => by have := c3 g hg; omega), c2.set2 (fun g hg => by have := c4 g hg; omega), fun g hg => by have := c3 g hg; simp; omega, fun g hg => by have := c4 g hg; simp; omega, ((belOn h.below c5).setCell (show w.heap.size ≤ w.heap.size + 1 by omega) _).setCell (show w.heap.size ≤ w.heap.size + 1 by omega) _⟩
theorem Chg.ls {w : World} {p q : Value} {O : Nat} {a1 : Option Addr} {k1 : Nat} {x : List Int} {a2 : Option Addr} {k2 : Nat} {y : List Int} {W W' : World} (h : Chg w p q O a1 k1 x a2 k2 y W) {a3 : Option Addr} (hb : ∀ g, inB a3 g → W.heap.size ≤ g ∧ g < W'.heap.size) : ∀ g, inB a3 g → w.heap.size + 2 ≤ g ∧ g < W'.heap.size ∧ g ≠ O := fun g hg => by
  have := hb g hg
  have h1 := h.r.lt
  have h2 := h.o.lt
  omega
theorem Chg.new {w : World} {p q : Value} {a1 : Option Addr} {k1 : Nat} {x : List Int} {a2 : Option Addr} {k2 : Nat} {y : List Int} {W1 W : World} (m : CB w.heap.size p q W) (r : CB (w.heap.size + 1) (.slice none 0 0) (.slice none 0 0) W) (hz : w.heap.size + 2 ≤ W1.heap.size) (hb : Below w.heap.size w W) (hc : CcPost x y W1 a1 k1 a2 k2 W) :
    Chg w p q W.heap.size a1 k1 x a2 k2 y (W.alloc (.cells #[.slice a1 x.length k1, .slice a2 y.length k2] 26)) := by
  obtain ⟨c1, c2, c3, c4, c5⟩ := hc
  have hz2 := c5.size
  have b := bel1 W (.cells #[.slice a1 x.length k1, .slice a2 y.length k2] 26)
  exact ⟨m.below b m.lt, r.below b r.lt, CB.new _ _ _, c1.below b, c2.below b, fun g hg => by have := c3 g hg; simp; omega, fun g hg => by have := c4 g hg; simp; omega, by omega, belOn hb b⟩
end Plain

set_option maxRecDepth 10000 in
set_option maxHeartbeats 4000000 in
theorem spec_ChangedA (aV : Option Addr) (nv cv : Nat) (v : List Int) (aL : Option Addr) (nl cl : Nat) (l : List Int) (kind id : Int) (w : World) (h : ConfAt w aV nv v aL nl l) (dV : AdG aV cv) (dL : AdG aL cl) :
    Calls Tryz.prog 6 #[.agg #[.slice aV nv cv, .slice aL nl cl], .int .i64 kind, .int .i64 id] w fun e w' => ∃ a1 c1 a2 c2, e = .returned (.tuple #[.agg #[.slice a1 (chgF kind id v l).1.length c1, .slice a2 (chgF kind id v l).2.1.length c2], .int .i64 (chgF kind id v l).2.2]) ∧ CcPost (chgF kind id v l).1 (chgF kind id v l).2.1 w a1 c1 a2 c2 w' := by
  obtain ⟨W0, hW0⟩ : ∃ W0, W0 = (w.alloc (.cells #[.slice aV nv cv, .slice aL nl cl] 26)).alloc (.cells #[.slice none 0 0, .slice none 0 0] 26) := ⟨_, rfl⟩
  have hb0 : Below w.heap.size w W0 := by rw [hW0]; exact belOn (bel1 _ _) (bel1 _ _)
  have hs0 : W0.heap.size = w.heap.size + 2 := by rw [hW0]; simp
  have M0 : CB w.heap.size (.slice aV nv cv) (.slice aL nl cl) W0 := by rw [hW0]; exact (CB.new w _ _).below (bel1 _ _) (by simp)
  have R0 : CB (w.heap.size + 1) (.slice none 0 0) (.slice none 0 0) W0 := by rw [hW0, show w.heap.size + 1 = (w.alloc (.cells #[.slice aV nv cv, .slice aL nl cl] 26)).heap.size from by simp]; exact CB.new _ _ _
  have hA0 := h.below hb0
  have HDW := hide h
  have HDV := hide dV
  have HDL := hide dL
  have c0 := M0.c0
  have c1 := M0.c1
  have HOK := hide (spec_ConfOk _ nv cv v _ nl cl l W0 hA0)
  have HD := hide hA0
  have HM := hide M0
  have HR := hide R0
  have HS0 := hide hs0
  have HB0 := hide hb0
  have HW0 := hide hW0.symm
  clear hb0 hW0 h hs0 M0 R0 hA0 dV dL
  cases hc : confB v l with
  | false =>
    have HX := hide (show chgF kind id v l = ([], [], 10) from by unfold chgF; rw [hc]; rfl)
    rw [unhide HX]
    simp only [List.length_nil]
    rw [hc] at HOK
    clear hc
    go_enter Tryz.func6, Tryz.ntmps6
    go_wp2_with fail
    rw [unhide HW0]
    refine (unhide HOK).mono ?_
    rintro e w1 ⟨rfl, hb1⟩
    have R1 := (unhide HR).below hb1 (by have := unhide HS0; omega)
    have x0 := R1.c0
    have x1 := R1.c1
    have y0 := R1.f0
    have y1 := R1.f1
    have HB1 := hide hb1
    clear hb1 c0 c1 R1
    go_wp2_with fail
    refine bodyPost_ret (v := .tuple #[.agg #[.slice none 0 0, .slice none 0 0], .int .i64 10]) (by simp [results, Tryz.results6, go_sem, x0, x1]) rfl ?_
    refine ⟨none, 0, none, 0, rfl, fun i hi => by simp at hi, fun i hi => by simp at hi, fun g hg => (inB_none hg).elim, fun g hg => (inB_none hg).elim, ?_⟩
    exact ((belOn (unhide HB0) (unhide HB1)).setCell (show w.heap.size ≤ w.heap.size + 1 by omega) _).setCell (show w.heap.size ≤ w.heap.size + 1 by omega) _
  | true =>
    rw [hc] at HOK
    have HX := hide (show chgF kind id v l = chgS kind id v l from by unfold chgF; rw [hc]; rfl)
    rw [unhide HX]
    have HCB := hide hc
    clear hc HX
    go_enter Tryz.func6, Tryz.ntmps6
    go_wp2_with fail
    rw [unhide HW0]
    refine (unhide HOK).mono ?_
    rintro e w1 ⟨rfl, hb1⟩
    have M1 := (unhide HM).below hb1 (by have := unhide HS0; omega)
    have c0 := M1.c0
    have c1 := M1.c1
    have HM1 := hide M1
    have HR1 := hide ((unhide HR).below hb1 (by have := unhide HS0; omega))
    have HB1 := hide (belOn (unhide HB0) hb1)
    have HD1 := hide ((unhide HD).below hb1)
    have hz1 := hb1.size
    clear hb1 M1 HM HR
    go_wp2_with fail
    refine (l9Copy_callsA aV nv cv v aL nl cl l _ (unhide HD1) (unhide HDV) (unhide HDL)).mono ?_
    rintro e w2 ⟨a1, k1, a2, k2, rfl, hcc⟩
    have hb2 := hcc.2.2.2.2
    obtain ⟨W3, hW3⟩ : ∃ W3, W3 = w2.alloc (.cells #[.slice a1 v.length k1, .slice a2 l.length k2] 26) := ⟨_, rfl⟩
    obtain ⟨O, hO⟩ : ∃ O, O = w2.heap.size := ⟨_, rfl⟩
    have H3 : Chg w (.slice aV nv cv) (.slice aL nl cl) O a1 k1 v a2 k2 l W3 := by
      rw [hW3, hO]
      exact Chg.new ((unhide HM1).below hb2 (unhide HM1).lt) ((unhide HR1).below hb2 (unhide HR1).lt) (by have := unhide HS0; omega) (belOn (unhide HB1) hb2) hcc
    have HH3 := hide H3
    have HW3 := hide hW3.symm
    have HO3 := hide hO.symm
    have m0 := H3.m.c0
    have m1 := H3.m.c1
    have r0 := H3.r.c0
    have r1 := H3.r.c1
    have z0 := H3.r.f0
    have z1 := H3.r.f1
    have o0 := H3.o.c0
    have o1 := H3.o.c1
    have y0 := H3.o.f0
    have y1 := H3.o.f1
    clear hcc hb2 c0 c1 HM1 HR1 HD1 HD HOK H3 hW3 hO hz1 HB1
    go_wp2_with fail
    rw [unhide HW3]
    rw [unhide HO3]
    by_cases hform : ((decide (1 ≤ kind) && decide (kind ≤ 3)) && (decide (1 ≤ id) && decide (id ≤ 50))) = true
    case neg =>
      have hff : ((decide (1 ≤ kind) && decide (kind ≤ 3)) && (decide (1 ≤ id) && decide (id ≤ 50))) = false := by simpa only [Bool.not_eq_true] using hform
      have HX := hide (chg_form kind id v l hff)
      refine (l1In_calls kind 1 3 _).mono ?_
      rintro e w4 ⟨rfl, rfl⟩
      cases hK : (decide (1 ≤ kind) && decide (kind ≤ 3)) with
      | false =>
        clear hform hff hK
        go_wp2_with fail
        refine bodyPost_ret (v := .tuple #[.agg #[.slice a1 v.length k1, .slice a2 l.length k2], .int .i64 11]) (by simp [results, Tryz.results6, go_sem, r0, r1]) rfl ?_
        rw [unhide HX]
        exact ⟨a1, k1, a2, k2, rfl, (unhide HH3).fin⟩
      | true =>
        rw [hK, Bool.true_and] at hff
        clear hform hK
        go_wp2_with fail
        refine (l1In_calls id 1 50 _).mono ?_
        rintro e w4 ⟨rfl, rfl⟩
        rw [hff]
        clear hff
        go_wp2_with fail
        refine bodyPost_ret (v := .tuple #[.agg #[.slice a1 v.length k1, .slice a2 l.length k2], .int .i64 11]) (by simp [results, Tryz.results6, go_sem, r0, r1]) rfl ?_
        rw [unhide HX]
        exact ⟨a1, k1, a2, k2, rfl, (unhide HH3).fin⟩
    case pos =>
--BEGIN
      have hf2 : (1 ≤ kind ∧ kind ≤ 3) ∧ (1 ≤ id ∧ id ≤ 50) := by simpa using hform
      obtain ⟨⟨k1', k3'⟩, i1, i50⟩ := hf2
      have hK : (decide (1 ≤ kind) && decide (kind ≤ 3)) = true := by simp [k1', k3']
      have hI : (decide (1 ≤ id) && decide (id ≤ 50)) = true := by simp [i1, i50]
      obtain ⟨-, -, -, -, n7, m7⟩ := cf_facts v l (unhide HCB)
      have HI := hide (And.intro i1 i50)
      have e1 := putZ_len id v
      have e2 := putZ_len id l
      have e3 := cutZ_len id v
      have e4 := cutZ_len id l
      have HE := hide (And.intro (And.intro e1 e2) (And.intro e3 e4))
      clear e1 e2 e3 e4 hform
      refine (l1In_calls kind 1 3 _).mono ?_
      rintro e w4 ⟨rfl, rfl⟩
      rw [hK]
      go_wp2_with fail
      refine (l1In_calls id 1 50 _).mono ?_
      rintro e w4 ⟨rfl, rfl⟩
      rw [hI]
      go_wp2_with fail
      refine (l1Ints_calls _ nv cv v id _ ((unhide HDW).below (unhide HH3).below).v).mono ?_
      rintro e w4 ⟨rfl, rfl⟩
      obtain ⟨hnv⟩ : Nonempty (v.length = nv) := ⟨(unhide HDW).v.len⟩
      have HNV := hide hnv
      clear hK hI i1 i50 hnv
      rcases (show kind = 1 ∨ kind = 2 ∨ kind = 3 by omega) with rfl | rfl | rfl
      · clear k1' k3'
        cases hv : decide (id ∈ v) with
        | false =>
          go_wp2_with fail
          refine (l1Ints_calls _ nl cl l id _ ((unhide HDW).below (unhide HH3).below).l).mono ?_
          rintro e w4 ⟨rfl, rfl⟩
          cases hl : decide (id ∈ l) with
          | false =>
            have hv2 := of_decide_eq_false hv
            have hl2 := of_decide_eq_false hl
            clear hv hl
            have HX := hide (chg_1 id v l (unhide HCB) (unhide HI).1 (unhide HI).2 hv2 hl2)
            clear hv2 hl2
            have H3 := unhide HH3
            clear HH3
            go_wp2_with fail
            refine (l9Put_calls a2 _ k2 l id _ ⟨H3.p2, rfl, by have hh := unhide HE; omega⟩).mono ?_
            rintro e u6 ⟨b6, j6, rfl, q6, hb6, d6⟩
            have G6 := H3.step hb6
            have S6 := G6.setL (k3 := j6) q6 (H3.ls d6)
            clear m0 m1 r0 r1 z0 z1 o0 o1 y0 y1
            have m0 := G6.m.c0
            have m1 := G6.m.c1
            have r0 := G6.r.c0
            have r1 := G6.r.c1
            have z0 := G6.r.f0
            have z1 := G6.r.f1
            have o0 := G6.o.c0
            have o1 := G6.o.c1
            have y0 := G6.o.f0
            have y1 := G6.o.f1
            have t0 := S6.o.c0
            have t1 := S6.o.c1
            obtain ⟨W6, hW6⟩ : ∃ W6, W6 = u6.setCell ⟨O, 1, none⟩ (.slice b6 (putZ id l).length j6) := ⟨_, rfl⟩
            have HS6 := hide S6
            rw [← hW6] at HS6
            have HW6 := hide hW6.symm
            clear G6 S6 q6 d6 hb6 H3 hW6
            go_wp2_with fail
            rw [unhide HW6]
            have Z6 := unhide HS6
            clear m0 m1 r0 r1 z0 z1 o0 o1 y0 y1 t0 t1
            have m0 := Z6.m.c0
            have m1 := Z6.m.c1
            have r0 := Z6.r.c0
            have r1 := Z6.r.c1
            have z0 := Z6.r.f0
            have z1 := Z6.r.f1
            have o0 := Z6.o.c0
            have o1 := Z6.o.c1
            have y0 := Z6.o.f0
            have y1 := Z6.o.f1
            have hbX : v.length ≤ 1048576 := by have hh := unhide HE; omega
            have hbY : (putZ id l).length ≤ 1048576 := by have hh := unhide HE; omega
            refine (spec_ConfOk a1 _ k1 v b6 _ j6 (putZ id l) _ ⟨⟨Z6.p1, rfl, hbX⟩, ⟨Z6.p2, rfl, hbY⟩⟩).mono ?_
            rintro e w8 ⟨rfl, hb8⟩
            have H8 := Z6.step hb8
            clear m0 m1 r0 r1 z0 z1 o0 o1 y0 y1
            have m0 := H8.m.c0
            have m1 := H8.m.c1
            have r0 := H8.r.c0
            have r1 := H8.r.c1
            have z0 := H8.r.f0
            have z1 := H8.r.f1
            have o0 := H8.o.c0
            have o1 := H8.o.c1
            have y0 := H8.o.f0
            have y1 := H8.o.f1
            have HH8 := hide H8
            clear Z6 H8 hb8
            cases hcf : confB v (putZ id l) with
            | true =>
              go_wp2_with fail
              refine bodyPost_ret (v := .tuple #[.agg #[.slice a1 v.length k1, .slice b6 (putZ id l).length j6], .int .i64 0]) (by simp [results, Tryz.results6, go_sem, r0, r1]) rfl ?_
              rw [unhide HX, if_pos hcf]
              exact ⟨a1, k1, b6, j6, rfl, (unhide HH8).fin⟩
            | false =>
              go_wp2_with fail
              refine (l9Copy_callsA aV nv cv v aL nl cl l _ ((unhide HDW).below (unhide HH8).below) (unhide HDV) (unhide HDL)).mono ?_
              rintro e w9 ⟨a5, k5, a6, k6, rfl, hc9⟩
              have R9 := (unhide HH8).r.below hc9.2.2.2.2 (unhide HH8).r.lt
              clear m0 m1 r0 r1 z0 z1 o0 o1 y0 y1
              have r0 := R9.c0
              have r1 := R9.c1
              have z0 := R9.f0
              have z1 := R9.f1
              have HC9 := hide hc9
              clear R9 hc9
              go_wp2_with fail
              refine bodyPost_ret (v := .tuple #[.agg #[.slice a5 v.length k5, .slice a6 l.length k6], .int .i64 14]) (by simp [results, Tryz.results6, go_sem, r0, r1]) rfl ?_
              rw [unhide HX, if_neg (by rw [hcf]; decide)]
              exact ⟨a5, k5, a6, k6, rfl, (unhide HH8).fin2 (unhide HC9)⟩
          | true =>
            have hv2 := of_decide_eq_false hv
            have hl2 := of_decide_eq_true hl
            clear hv hl
            have HX := hide (chg_there 1 id v l (by decide) (by decide) (unhide HI).1 (unhide HI).2 (by unfold findB; simp [hv2, hl2]))
            clear hv2 hl2
            go_wp2_with fail
            refine bodyPost_ret (v := .tuple #[.agg #[.slice a1 v.length k1, .slice a2 l.length k2], .int .i64 12]) (by simp [results, Tryz.results6, go_sem, r0, r1]) rfl ?_
            rw [unhide HX]
            exact ⟨a1, k1, a2, k2, rfl, (unhide HH3).fin⟩
        | true =>
          go_wp2_with fail
          refine (l1Ints_calls _ nl cl l id _ ((unhide HDW).below (unhide HH3).below).l).mono ?_
          rintro e w4 ⟨rfl, rfl⟩
          cases hl : decide (id ∈ l) with
          | false =>
            have hv2 := of_decide_eq_true hv
            have hl2 := of_decide_eq_false hl
            clear hv hl
            have HX := hide (chg_there 1 id v l (by decide) (by decide) (unhide HI).1 (unhide HI).2 (by unfold findB; simp [hv2, hl2]))
            clear hv2 hl2
            go_wp2_with fail
            refine bodyPost_ret (v := .tuple #[.agg #[.slice a1 v.length k1, .slice a2 l.length k2], .int .i64 12]) (by simp [results, Tryz.results6, go_sem, r0, r1]) rfl ?_
            rw [unhide HX]
            exact ⟨a1, k1, a2, k2, rfl, (unhide HH3).fin⟩
          | true =>
            have hv2 := of_decide_eq_true hv
            have hl2 := of_decide_eq_true hl
            clear hv hl
            have HX := hide (chg_there 1 id v l (by decide) (by decide) (unhide HI).1 (unhide HI).2 (by unfold findB; simp [hv2, hl2]))
            clear hv2 hl2
            go_wp2_with fail
            refine bodyPost_ret (v := .tuple #[.agg #[.slice a1 v.length k1, .slice a2 l.length k2], .int .i64 12]) (by simp [results, Tryz.results6, go_sem, r0, r1]) rfl ?_
            rw [unhide HX]
            exact ⟨a1, k1, a2, k2, rfl, (unhide HH3).fin⟩
      · clear k1' k3'
        cases hv : decide (id ∈ v) with
        | false =>
          go_wp2_with fail
          refine (l1Ints_calls _ nl cl l id _ ((unhide HDW).below (unhide HH3).below).l).mono ?_
          rintro e w4 ⟨rfl, rfl⟩
          cases hl : decide (id ∈ l) with
          | false =>
            have hv2 := of_decide_eq_false hv
            have hl2 := of_decide_eq_false hl
            clear hv hl
            have HX := hide (chg_there 2 id v l (by decide) (by decide) (unhide HI).1 (unhide HI).2 (by unfold findB; simp [hl2]))
            clear hv2 hl2
            go_wp2_with fail
            refine bodyPost_ret (v := .tuple #[.agg #[.slice a1 v.length k1, .slice a2 l.length k2], .int .i64 12]) (by simp [results, Tryz.results6, go_sem, r0, r1]) rfl ?_
            rw [unhide HX]
            exact ⟨a1, k1, a2, k2, rfl, (unhide HH3).fin⟩
          | true =>
            have hv2 := of_decide_eq_false hv
            have hl2 := of_decide_eq_true hl
            clear hv hl
            have HX := hide (chg_2 id v l (unhide HCB) (unhide HI).1 (unhide HI).2 hl2)
            clear hv2 hl2
            have H3 := unhide HH3
            clear HH3
            go_wp2_with fail
            refine (l9Cut_calls a2 _ k2 l id _ ⟨H3.p2, rfl, by have hh := unhide HE; omega⟩).mono ?_
            rintro e u6 ⟨b6, j6, rfl, q6, hb6, d6⟩
            have G6 := H3.step hb6
            have S6 := G6.setL (k3 := j6) q6 (H3.ls d6)
            clear m0 m1 r0 r1 z0 z1 o0 o1 y0 y1
            have m0 := G6.m.c0
            have m1 := G6.m.c1
            have r0 := G6.r.c0
            have r1 := G6.r.c1
            have z0 := G6.r.f0
            have z1 := G6.r.f1
            have o0 := G6.o.c0
            have o1 := G6.o.c1
            have y0 := G6.o.f0
            have y1 := G6.o.f1
            have t0 := S6.o.c0
            have t1 := S6.o.c1
            obtain ⟨W6, hW6⟩ : ∃ W6, W6 = u6.setCell ⟨O, 1, none⟩ (.slice b6 (cutZ id l).length j6) := ⟨_, rfl⟩
            have HS6 := hide S6
            rw [← hW6] at HS6
            have HW6 := hide hW6.symm
            clear G6 S6 q6 d6 hb6 H3 hW6
            go_wp2_with fail
            rw [unhide HW6]
            have Z6 := unhide HS6
            clear m0 m1 r0 r1 z0 z1 o0 o1 y0 y1 t0 t1
            have m0 := Z6.m.c0
            have m1 := Z6.m.c1
            have r0 := Z6.r.c0
            have r1 := Z6.r.c1
            have z0 := Z6.r.f0
            have z1 := Z6.r.f1
            have o0 := Z6.o.c0
            have o1 := Z6.o.c1
            have y0 := Z6.o.f0
            have y1 := Z6.o.f1
            refine (l9Put_calls a1 _ k1 v id _ ⟨Z6.p1, rfl, by have hh := unhide HE; omega⟩).mono ?_
            rintro e u7 ⟨b7, j7, rfl, q7, hb7, d7⟩
            have G7 := Z6.step hb7
            have S7 := G7.setV (k3 := j7) q7 (Z6.ls d7)
            clear m0 m1 r0 r1 z0 z1 o0 o1 y0 y1
            have m0 := G7.m.c0
            have m1 := G7.m.c1
            have r0 := G7.r.c0
            have r1 := G7.r.c1
            have z0 := G7.r.f0
            have z1 := G7.r.f1
            have o0 := G7.o.c0
            have o1 := G7.o.c1
            have y0 := G7.o.f0
            have y1 := G7.o.f1
            have t0 := S7.o.c0
            have t1 := S7.o.c1
            obtain ⟨W7, hW7⟩ : ∃ W7, W7 = u7.setCell ⟨O, 0, none⟩ (.slice b7 (putZ id v).length j7) := ⟨_, rfl⟩
            have HS7 := hide S7
            rw [← hW7] at HS7
            have HW7 := hide hW7.symm
            clear G7 S7 q7 d7 hb7 Z6 hW7
            go_wp2_with fail
            rw [unhide HW7]
            have Z7 := unhide HS7
            clear m0 m1 r0 r1 z0 z1 o0 o1 y0 y1 t0 t1
            have m0 := Z7.m.c0
            have m1 := Z7.m.c1
            have r0 := Z7.r.c0
            have r1 := Z7.r.c1
            have z0 := Z7.r.f0
            have z1 := Z7.r.f1
            have o0 := Z7.o.c0
            have o1 := Z7.o.c1
            have y0 := Z7.o.f0
            have y1 := Z7.o.f1
            have hbX : (putZ id v).length ≤ 1048576 := by have hh := unhide HE; omega
            have hbY : (cutZ id l).length ≤ 1048576 := by have hh := unhide HE; omega
            refine (spec_ConfOk b7 _ j7 (putZ id v) b6 _ j6 (cutZ id l) _ ⟨⟨Z7.p1, rfl, hbX⟩, ⟨Z7.p2, rfl, hbY⟩⟩).mono ?_
            rintro e w8 ⟨rfl, hb8⟩
            have H8 := Z7.step hb8
            clear m0 m1 r0 r1 z0 z1 o0 o1 y0 y1
            have m0 := H8.m.c0
            have m1 := H8.m.c1
            have r0 := H8.r.c0
            have r1 := H8.r.c1
            have z0 := H8.r.f0
            have z1 := H8.r.f1
            have o0 := H8.o.c0
            have o1 := H8.o.c1
            have y0 := H8.o.f0
            have y1 := H8.o.f1
            have HH8 := hide H8
            clear Z7 H8 hb8
            cases hcf : confB (putZ id v) (cutZ id l) with
            | true =>
              go_wp2_with fail
              refine bodyPost_ret (v := .tuple #[.agg #[.slice b7 (putZ id v).length j7, .slice b6 (cutZ id l).length j6], .int .i64 0]) (by simp [results, Tryz.results6, go_sem, r0, r1]) rfl ?_
              rw [unhide HX, if_pos hcf]
              exact ⟨b7, j7, b6, j6, rfl, (unhide HH8).fin⟩
            | false =>
              go_wp2_with fail
              refine (l9Copy_callsA aV nv cv v aL nl cl l _ ((unhide HDW).below (unhide HH8).below) (unhide HDV) (unhide HDL)).mono ?_
              rintro e w9 ⟨a5, k5, a6, k6, rfl, hc9⟩
              have R9 := (unhide HH8).r.below hc9.2.2.2.2 (unhide HH8).r.lt
              clear m0 m1 r0 r1 z0 z1 o0 o1 y0 y1
              have r0 := R9.c0
              have r1 := R9.c1
              have z0 := R9.f0
              have z1 := R9.f1
              have HC9 := hide hc9
              clear R9 hc9
              go_wp2_with fail
              refine bodyPost_ret (v := .tuple #[.agg #[.slice a5 v.length k5, .slice a6 l.length k6], .int .i64 14]) (by simp [results, Tryz.results6, go_sem, r0, r1]) rfl ?_
              rw [unhide HX, if_neg (by rw [hcf]; decide)]
              exact ⟨a5, k5, a6, k6, rfl, (unhide HH8).fin2 (unhide HC9)⟩
        | true =>
          go_wp2_with fail
          refine (l1Ints_calls _ nl cl l id _ ((unhide HDW).below (unhide HH3).below).l).mono ?_
          rintro e w4 ⟨rfl, rfl⟩
          cases hl : decide (id ∈ l) with
          | false =>
            have hv2 := of_decide_eq_true hv
            have hl2 := of_decide_eq_false hl
            clear hv hl
            have HX := hide (chg_there 2 id v l (by decide) (by decide) (unhide HI).1 (unhide HI).2 (by unfold findB; simp [hl2]))
            clear hv2 hl2
            go_wp2_with fail
            refine bodyPost_ret (v := .tuple #[.agg #[.slice a1 v.length k1, .slice a2 l.length k2], .int .i64 12]) (by simp [results, Tryz.results6, go_sem, r0, r1]) rfl ?_
            rw [unhide HX]
            exact ⟨a1, k1, a2, k2, rfl, (unhide HH3).fin⟩
          | true =>
            have hv2 := of_decide_eq_true hv
            have hl2 := of_decide_eq_true hl
            clear hv hl
            have HX := hide (chg_2 id v l (unhide HCB) (unhide HI).1 (unhide HI).2 hl2)
            clear hv2 hl2
            have H3 := unhide HH3
            clear HH3
            go_wp2_with fail
            refine (l9Cut_calls a2 _ k2 l id _ ⟨H3.p2, rfl, by have hh := unhide HE; omega⟩).mono ?_
            rintro e u6 ⟨b6, j6, rfl, q6, hb6, d6⟩
            have G6 := H3.step hb6
            have S6 := G6.setL (k3 := j6) q6 (H3.ls d6)
            clear m0 m1 r0 r1 z0 z1 o0 o1 y0 y1
            have m0 := G6.m.c0
            have m1 := G6.m.c1
            have r0 := G6.r.c0
            have r1 := G6.r.c1
            have z0 := G6.r.f0
            have z1 := G6.r.f1
            have o0 := G6.o.c0
            have o1 := G6.o.c1
            have y0 := G6.o.f0
            have y1 := G6.o.f1
            have t0 := S6.o.c0
            have t1 := S6.o.c1
            obtain ⟨W6, hW6⟩ : ∃ W6, W6 = u6.setCell ⟨O, 1, none⟩ (.slice b6 (cutZ id l).length j6) := ⟨_, rfl⟩
            have HS6 := hide S6
            rw [← hW6] at HS6
            have HW6 := hide hW6.symm
            clear G6 S6 q6 d6 hb6 H3 hW6
            go_wp2_with fail
            rw [unhide HW6]
            have Z6 := unhide HS6
            clear m0 m1 r0 r1 z0 z1 o0 o1 y0 y1 t0 t1
            have m0 := Z6.m.c0
            have m1 := Z6.m.c1
            have r0 := Z6.r.c0
            have r1 := Z6.r.c1
            have z0 := Z6.r.f0
            have z1 := Z6.r.f1
            have o0 := Z6.o.c0
            have o1 := Z6.o.c1
            have y0 := Z6.o.f0
            have y1 := Z6.o.f1
            refine (l9Put_calls a1 _ k1 v id _ ⟨Z6.p1, rfl, by have hh := unhide HE; omega⟩).mono ?_
            rintro e u7 ⟨b7, j7, rfl, q7, hb7, d7⟩
            have G7 := Z6.step hb7
            have S7 := G7.setV (k3 := j7) q7 (Z6.ls d7)
            clear m0 m1 r0 r1 z0 z1 o0 o1 y0 y1
            have m0 := G7.m.c0
            have m1 := G7.m.c1
            have r0 := G7.r.c0
            have r1 := G7.r.c1
            have z0 := G7.r.f0
            have z1 := G7.r.f1
            have o0 := G7.o.c0
            have o1 := G7.o.c1
            have y0 := G7.o.f0
            have y1 := G7.o.f1
            have t0 := S7.o.c0
            have t1 := S7.o.c1
            obtain ⟨W7, hW7⟩ : ∃ W7, W7 = u7.setCell ⟨O, 0, none⟩ (.slice b7 (putZ id v).length j7) := ⟨_, rfl⟩
            have HS7 := hide S7
            rw [← hW7] at HS7
            have HW7 := hide hW7.symm
            clear G7 S7 q7 d7 hb7 Z6 hW7
            go_wp2_with fail
            rw [unhide HW7]
            have Z7 := unhide HS7
            clear m0 m1 r0 r1 z0 z1 o0 o1 y0 y1 t0 t1
            have m0 := Z7.m.c0
            have m1 := Z7.m.c1
            have r0 := Z7.r.c0
            have r1 := Z7.r.c1
            have z0 := Z7.r.f0
            have z1 := Z7.r.f1
            have o0 := Z7.o.c0
            have o1 := Z7.o.c1
            have y0 := Z7.o.f0
            have y1 := Z7.o.f1
            have hbX : (putZ id v).length ≤ 1048576 := by have hh := unhide HE; omega
            have hbY : (cutZ id l).length ≤ 1048576 := by have hh := unhide HE; omega
            refine (spec_ConfOk b7 _ j7 (putZ id v) b6 _ j6 (cutZ id l) _ ⟨⟨Z7.p1, rfl, hbX⟩, ⟨Z7.p2, rfl, hbY⟩⟩).mono ?_
            rintro e w8 ⟨rfl, hb8⟩
            have H8 := Z7.step hb8
            clear m0 m1 r0 r1 z0 z1 o0 o1 y0 y1
            have m0 := H8.m.c0
            have m1 := H8.m.c1
            have r0 := H8.r.c0
            have r1 := H8.r.c1
            have z0 := H8.r.f0
            have z1 := H8.r.f1
            have o0 := H8.o.c0
            have o1 := H8.o.c1
            have y0 := H8.o.f0
            have y1 := H8.o.f1
            have HH8 := hide H8
            clear Z7 H8 hb8
            cases hcf : confB (putZ id v) (cutZ id l) with
            | true =>
              go_wp2_with fail
              refine bodyPost_ret (v := .tuple #[.agg #[.slice b7 (putZ id v).length j7, .slice b6 (cutZ id l).length j6], .int .i64 0]) (by simp [results, Tryz.results6, go_sem, r0, r1]) rfl ?_
              rw [unhide HX, if_pos hcf]
              exact ⟨b7, j7, b6, j6, rfl, (unhide HH8).fin⟩
            | false =>
              go_wp2_with fail
              refine (l9Copy_callsA aV nv cv v aL nl cl l _ ((unhide HDW).below (unhide HH8).below) (unhide HDV) (unhide HDL)).mono ?_
              rintro e w9 ⟨a5, k5, a6, k6, rfl, hc9⟩
              have R9 := (unhide HH8).r.below hc9.2.2.2.2 (unhide HH8).r.lt
              clear m0 m1 r0 r1 z0 z1 o0 o1 y0 y1
              have r0 := R9.c0
              have r1 := R9.c1
              have z0 := R9.f0
              have z1 := R9.f1
              have HC9 := hide hc9
              clear R9 hc9
              go_wp2_with fail
              refine bodyPost_ret (v := .tuple #[.agg #[.slice a5 v.length k5, .slice a6 l.length k6], .int .i64 14]) (by simp [results, Tryz.results6, go_sem, r0, r1]) rfl ?_
              rw [unhide HX, if_neg (by rw [hcf]; decide)]
              exact ⟨a5, k5, a6, k6, rfl, (unhide HH8).fin2 (unhide HC9)⟩
      · clear k1' k3'
        cases hv : decide (id ∈ v) with
        | false =>
          go_wp2_with fail
          refine (l1Ints_calls _ nl cl l id _ ((unhide HDW).below (unhide HH3).below).l).mono ?_
          rintro e w4 ⟨rfl, rfl⟩
          cases hl : decide (id ∈ l) with
          | false =>
            have hv2 := of_decide_eq_false hv
            have hl2 := of_decide_eq_false hl
            clear hv hl
            have HX := hide (chg_there 3 id v l (by decide) (by decide) (unhide HI).1 (unhide HI).2 (by unfold findB; simp [hv2, hl2]))
            clear hv2 hl2
            go_wp2_with fail
            refine bodyPost_ret (v := .tuple #[.agg #[.slice a1 v.length k1, .slice a2 l.length k2], .int .i64 12]) (by simp [results, Tryz.results6, go_sem, r0, r1]) rfl ?_
            rw [unhide HX]
            exact ⟨a1, k1, a2, k2, rfl, (unhide HH3).fin⟩
          | true =>
            have hv2 := of_decide_eq_false hv
            have hl2 := of_decide_eq_true hl
            clear hv hl
            have HX := hide (chg_3 id v l (unhide HCB) (unhide HI).1 (unhide HI).2 (.inr hl2) (fun q => hv2 q.1))
            clear hv2 hl2
            have H3 := unhide HH3
            clear HH3
            go_wp2_with fail
            refine (l9Cut_calls a2 _ k2 l id _ ⟨H3.p2, rfl, by have hh := unhide HE; omega⟩).mono ?_
            rintro e u6 ⟨b6, j6, rfl, q6, hb6, d6⟩
            have G6 := H3.step hb6
            have S6 := G6.setL (k3 := j6) q6 (H3.ls d6)
            clear m0 m1 r0 r1 z0 z1 o0 o1 y0 y1
            have m0 := G6.m.c0
            have m1 := G6.m.c1
            have r0 := G6.r.c0
            have r1 := G6.r.c1
            have z0 := G6.r.f0
            have z1 := G6.r.f1
            have o0 := G6.o.c0
            have o1 := G6.o.c1
            have y0 := G6.o.f0
            have y1 := G6.o.f1
            have t0 := S6.o.c0
            have t1 := S6.o.c1
            obtain ⟨W6, hW6⟩ : ∃ W6, W6 = u6.setCell ⟨O, 1, none⟩ (.slice b6 (cutZ id l).length j6) := ⟨_, rfl⟩
            have HS6 := hide S6
            rw [← hW6] at HS6
            have HW6 := hide hW6.symm
            clear G6 S6 q6 d6 hb6 H3 hW6
            go_wp2_with fail
            rw [unhide HW6]
            have Z6 := unhide HS6
            clear m0 m1 r0 r1 z0 z1 o0 o1 y0 y1 t0 t1
            have m0 := Z6.m.c0
            have m1 := Z6.m.c1
            have r0 := Z6.r.c0
            have r1 := Z6.r.c1
            have z0 := Z6.r.f0
            have z1 := Z6.r.f1
            have o0 := Z6.o.c0
            have o1 := Z6.o.c1
            have y0 := Z6.o.f0
            have y1 := Z6.o.f1
            refine (l9Cut_calls a1 _ k1 v id _ ⟨Z6.p1, rfl, by have hh := unhide HE; omega⟩).mono ?_
            rintro e u7 ⟨b7, j7, rfl, q7, hb7, d7⟩
            have G7 := Z6.step hb7
            have S7 := G7.setV (k3 := j7) q7 (Z6.ls d7)
            clear m0 m1 r0 r1 z0 z1 o0 o1 y0 y1
            have m0 := G7.m.c0
            have m1 := G7.m.c1
            have r0 := G7.r.c0
            have r1 := G7.r.c1
            have z0 := G7.r.f0
            have z1 := G7.r.f1
            have o0 := G7.o.c0
            have o1 := G7.o.c1
            have y0 := G7.o.f0
            have y1 := G7.o.f1
            have t0 := S7.o.c0
            have t1 := S7.o.c1
            obtain ⟨W7, hW7⟩ : ∃ W7, W7 = u7.setCell ⟨O, 0, none⟩ (.slice b7 (cutZ id v).length j7) := ⟨_, rfl⟩
            have HS7 := hide S7
            rw [← hW7] at HS7
            have HW7 := hide hW7.symm
            clear G7 S7 q7 d7 hb7 Z6 hW7
            go_wp2_with fail
            rw [unhide HW7]
            have Z7 := unhide HS7
            clear m0 m1 r0 r1 z0 z1 o0 o1 y0 y1 t0 t1
            have m0 := Z7.m.c0
            have m1 := Z7.m.c1
            have r0 := Z7.r.c0
            have r1 := Z7.r.c1
            have z0 := Z7.r.f0
            have z1 := Z7.r.f1
            have o0 := Z7.o.c0
            have o1 := Z7.o.c1
            have y0 := Z7.o.f0
            have y1 := Z7.o.f1
            have hbX : (cutZ id v).length ≤ 1048576 := by have hh := unhide HE; omega
            have hbY : (cutZ id l).length ≤ 1048576 := by have hh := unhide HE; omega
            refine (spec_ConfOk b7 _ j7 (cutZ id v) b6 _ j6 (cutZ id l) _ ⟨⟨Z7.p1, rfl, hbX⟩, ⟨Z7.p2, rfl, hbY⟩⟩).mono ?_
            rintro e w8 ⟨rfl, hb8⟩
            have H8 := Z7.step hb8
            clear m0 m1 r0 r1 z0 z1 o0 o1 y0 y1
            have m0 := H8.m.c0
            have m1 := H8.m.c1
            have r0 := H8.r.c0
            have r1 := H8.r.c1
            have z0 := H8.r.f0
            have z1 := H8.r.f1
            have o0 := H8.o.c0
            have o1 := H8.o.c1
            have y0 := H8.o.f0
            have y1 := H8.o.f1
            have HH8 := hide H8
            clear Z7 H8 hb8
            cases hcf : confB (cutZ id v) (cutZ id l) with
            | true =>
              go_wp2_with fail
              refine bodyPost_ret (v := .tuple #[.agg #[.slice b7 (cutZ id v).length j7, .slice b6 (cutZ id l).length j6], .int .i64 0]) (by simp [results, Tryz.results6, go_sem, r0, r1]) rfl ?_
              rw [unhide HX, if_pos hcf]
              exact ⟨b7, j7, b6, j6, rfl, (unhide HH8).fin⟩
            | false =>
              go_wp2_with fail
              refine (l9Copy_callsA aV nv cv v aL nl cl l _ ((unhide HDW).below (unhide HH8).below) (unhide HDV) (unhide HDL)).mono ?_
              rintro e w9 ⟨a5, k5, a6, k6, rfl, hc9⟩
              have R9 := (unhide HH8).r.below hc9.2.2.2.2 (unhide HH8).r.lt
              clear m0 m1 r0 r1 z0 z1 o0 o1 y0 y1
              have r0 := R9.c0
              have r1 := R9.c1
              have z0 := R9.f0
              have z1 := R9.f1
              have HC9 := hide hc9
              clear R9 hc9
              go_wp2_with fail
              refine bodyPost_ret (v := .tuple #[.agg #[.slice a5 v.length k5, .slice a6 l.length k6], .int .i64 14]) (by simp [results, Tryz.results6, go_sem, r0, r1]) rfl ?_
              rw [unhide HX, if_neg (by rw [hcf]; decide)]
              exact ⟨a5, k5, a6, k6, rfl, (unhide HH8).fin2 (unhide HC9)⟩
        | true =>
          go_wp2_with fail
          refine (l1Ints_calls _ nl cl l id _ ((unhide HDW).below (unhide HH3).below).l).mono ?_
          rintro e w4 ⟨rfl, rfl⟩
          cases hl : decide (id ∈ l) with
          | false =>
            have hv2 := of_decide_eq_true hv
            have hl2 := of_decide_eq_false hl
            clear hv hl
            by_cases h1 : nv = 1
            · have HX := hide (chg_last id v l (unhide HI).1 (unhide HI).2 hv2 (by rw [unhide HNV]; exact h1))
              subst h1
              clear hv2 hl2
              go_wp2_with fail
              refine bodyPost_ret (v := .tuple #[.agg #[.slice a1 v.length k1, .slice a2 l.length k2], .int .i64 13]) (by simp [results, Tryz.results6, go_sem, r0, r1]) rfl ?_
              rw [unhide HX]
              exact ⟨a1, k1, a2, k2, rfl, (unhide HH3).fin⟩
            · have hne1 : ((nv : Int) == 1) = false := by rw [beq_eq_false_iff_ne]; omega
              have HX := hide (chg_3 id v l (unhide HCB) (unhide HI).1 (unhide HI).2 (.inl hv2) (fun q => h1 (by rw [← unhide HNV]; exact q.2)))
              clear hv2 hl2
              have H3 := unhide HH3
              clear HH3
              go_wp2_with fail
              refine (l9Cut_calls a2 _ k2 l id _ ⟨H3.p2, rfl, by have hh := unhide HE; omega⟩).mono ?_
              rintro e u6 ⟨b6, j6, rfl, q6, hb6, d6⟩
              have G6 := H3.step hb6
              have S6 := G6.setL (k3 := j6) q6 (H3.ls d6)
              clear m0 m1 r0 r1 z0 z1 o0 o1 y0 y1
              have m0 := G6.m.c0
              have m1 := G6.m.c1
              have r0 := G6.r.c0
              have r1 := G6.r.c1
              have z0 := G6.r.f0
              have z1 := G6.r.f1
              have o0 := G6.o.c0
              have o1 := G6.o.c1
              have y0 := G6.o.f0
              have y1 := G6.o.f1
              have t0 := S6.o.c0
              have t1 := S6.o.c1
              obtain ⟨W6, hW6⟩ : ∃ W6, W6 = u6.setCell ⟨O, 1, none⟩ (.slice b6 (cutZ id l).length j6) := ⟨_, rfl⟩
              have HS6 := hide S6
              rw [← hW6] at HS6
              have HW6 := hide hW6.symm
              clear G6 S6 q6 d6 hb6 H3 hW6
              go_wp2_with fail
              rw [unhide HW6]
              have Z6 := unhide HS6
              clear m0 m1 r0 r1 z0 z1 o0 o1 y0 y1 t0 t1
              have m0 := Z6.m.c0
              have m1 := Z6.m.c1
              have r0 := Z6.r.c0
              have r1 := Z6.r.c1
              have z0 := Z6.r.f0
              have z1 := Z6.r.f1
              have o0 := Z6.o.c0
              have o1 := Z6.o.c1
              have y0 := Z6.o.f0
              have y1 := Z6.o.f1
              refine (l9Cut_calls a1 _ k1 v id _ ⟨Z6.p1, rfl, by have hh := unhide HE; omega⟩).mono ?_
              rintro e u7 ⟨b7, j7, rfl, q7, hb7, d7⟩
              have G7 := Z6.step hb7
              have S7 := G7.setV (k3 := j7) q7 (Z6.ls d7)
              clear m0 m1 r0 r1 z0 z1 o0 o1 y0 y1
              have m0 := G7.m.c0
              have m1 := G7.m.c1
              have r0 := G7.r.c0
              have r1 := G7.r.c1
              have z0 := G7.r.f0
              have z1 := G7.r.f1
              have o0 := G7.o.c0
              have o1 := G7.o.c1
              have y0 := G7.o.f0
              have y1 := G7.o.f1
              have t0 := S7.o.c0
              have t1 := S7.o.c1
              obtain ⟨W7, hW7⟩ : ∃ W7, W7 = u7.setCell ⟨O, 0, none⟩ (.slice b7 (cutZ id v).length j7) := ⟨_, rfl⟩
              have HS7 := hide S7
              rw [← hW7] at HS7
              have HW7 := hide hW7.symm
              clear G7 S7 q7 d7 hb7 Z6 hW7
              go_wp2_with fail
              rw [unhide HW7]
              have Z7 := unhide HS7
              clear m0 m1 r0 r1 z0 z1 o0 o1 y0 y1 t0 t1
              have m0 := Z7.m.c0
              have m1 := Z7.m.c1
              have r0 := Z7.r.c0
              have r1 := Z7.r.c1
              have z0 := Z7.r.f0
              have z1 := Z7.r.f1
              have o0 := Z7.o.c0
              have o1 := Z7.o.c1
              have y0 := Z7.o.f0
              have y1 := Z7.o.f1
              have hbX : (cutZ id v).length ≤ 1048576 := by have hh := unhide HE; omega
              have hbY : (cutZ id l).length ≤ 1048576 := by have hh := unhide HE; omega
              refine (spec_ConfOk b7 _ j7 (cutZ id v) b6 _ j6 (cutZ id l) _ ⟨⟨Z7.p1, rfl, hbX⟩, ⟨Z7.p2, rfl, hbY⟩⟩).mono ?_
              rintro e w8 ⟨rfl, hb8⟩
              have H8 := Z7.step hb8
              clear m0 m1 r0 r1 z0 z1 o0 o1 y0 y1
              have m0 := H8.m.c0
              have m1 := H8.m.c1
              have r0 := H8.r.c0
              have r1 := H8.r.c1
              have z0 := H8.r.f0
              have z1 := H8.r.f1
              have o0 := H8.o.c0
              have o1 := H8.o.c1
              have y0 := H8.o.f0
              have y1 := H8.o.f1
              have HH8 := hide H8
              clear Z7 H8 hb8
              cases hcf : confB (cutZ id v) (cutZ id l) with
              | true =>
                go_wp2_with fail
                refine bodyPost_ret (v := .tuple #[.agg #[.slice b7 (cutZ id v).length j7, .slice b6 (cutZ id l).length j6], .int .i64 0]) (by simp [results, Tryz.results6, go_sem, r0, r1]) rfl ?_
                rw [unhide HX, if_pos hcf]
                exact ⟨b7, j7, b6, j6, rfl, (unhide HH8).fin⟩
              | false =>
                go_wp2_with fail
                refine (l9Copy_callsA aV nv cv v aL nl cl l _ ((unhide HDW).below (unhide HH8).below) (unhide HDV) (unhide HDL)).mono ?_
                rintro e w9 ⟨a5, k5, a6, k6, rfl, hc9⟩
                have R9 := (unhide HH8).r.below hc9.2.2.2.2 (unhide HH8).r.lt
                clear m0 m1 r0 r1 z0 z1 o0 o1 y0 y1
                have r0 := R9.c0
                have r1 := R9.c1
                have z0 := R9.f0
                have z1 := R9.f1
                have HC9 := hide hc9
                clear R9 hc9
                go_wp2_with fail
                refine bodyPost_ret (v := .tuple #[.agg #[.slice a5 v.length k5, .slice a6 l.length k6], .int .i64 14]) (by simp [results, Tryz.results6, go_sem, r0, r1]) rfl ?_
                rw [unhide HX, if_neg (by rw [hcf]; decide)]
                exact ⟨a5, k5, a6, k6, rfl, (unhide HH8).fin2 (unhide HC9)⟩
          | true =>
            have hv2 := of_decide_eq_true hv
            have hl2 := of_decide_eq_true hl
            clear hv hl
            by_cases h1 : nv = 1
            · have HX := hide (chg_last id v l (unhide HI).1 (unhide HI).2 hv2 (by rw [unhide HNV]; exact h1))
              subst h1
              clear hv2 hl2
              go_wp2_with fail
              refine bodyPost_ret (v := .tuple #[.agg #[.slice a1 v.length k1, .slice a2 l.length k2], .int .i64 13]) (by simp [results, Tryz.results6, go_sem, r0, r1]) rfl ?_
              rw [unhide HX]
              exact ⟨a1, k1, a2, k2, rfl, (unhide HH3).fin⟩
            · have hne1 : ((nv : Int) == 1) = false := by rw [beq_eq_false_iff_ne]; omega
              have HX := hide (chg_3 id v l (unhide HCB) (unhide HI).1 (unhide HI).2 (.inl hv2) (fun q => h1 (by rw [← unhide HNV]; exact q.2)))
              clear hv2 hl2
              have H3 := unhide HH3
              clear HH3
              go_wp2_with fail
              refine (l9Cut_calls a2 _ k2 l id _ ⟨H3.p2, rfl, by have hh := unhide HE; omega⟩).mono ?_
              rintro e u6 ⟨b6, j6, rfl, q6, hb6, d6⟩
              have G6 := H3.step hb6
              have S6 := G6.setL (k3 := j6) q6 (H3.ls d6)
              clear m0 m1 r0 r1 z0 z1 o0 o1 y0 y1
              have m0 := G6.m.c0
              have m1 := G6.m.c1
              have r0 := G6.r.c0
              have r1 := G6.r.c1
              have z0 := G6.r.f0
              have z1 := G6.r.f1
              have o0 := G6.o.c0
              have o1 := G6.o.c1
              have y0 := G6.o.f0
              have y1 := G6.o.f1
              have t0 := S6.o.c0
              have t1 := S6.o.c1
              obtain ⟨W6, hW6⟩ : ∃ W6, W6 = u6.setCell ⟨O, 1, none⟩ (.slice b6 (cutZ id l).length j6) := ⟨_, rfl⟩
              have HS6 := hide S6
              rw [← hW6] at HS6
              have HW6 := hide hW6.symm
              clear G6 S6 q6 d6 hb6 H3 hW6
              go_wp2_with fail
              rw [unhide HW6]
              have Z6 := unhide HS6
              clear m0 m1 r0 r1 z0 z1 o0 o1 y0 y1 t0 t1
              have m0 := Z6.m.c0
              have m1 := Z6.m.c1
              have r0 := Z6.r.c0
              have r1 := Z6.r.c1
              have z0 := Z6.r.f0
              have z1 := Z6.r.f1
              have o0 := Z6.o.c0
              have o1 := Z6.o.c1
              have y0 := Z6.o.f0
              have y1 := Z6.o.f1
              refine (l9Cut_calls a1 _ k1 v id _ ⟨Z6.p1, rfl, by have hh := unhide HE; omega⟩).mono ?_
              rintro e u7 ⟨b7, j7, rfl, q7, hb7, d7⟩
              have G7 := Z6.step hb7
              have S7 := G7.setV (k3 := j7) q7 (Z6.ls d7)
              clear m0 m1 r0 r1 z0 z1 o0 o1 y0 y1
              have m0 := G7.m.c0
              have m1 := G7.m.c1
              have r0 := G7.r.c0
              have r1 := G7.r.c1
              have z0 := G7.r.f0
              have z1 := G7.r.f1
              have o0 := G7.o.c0
              have o1 := G7.o.c1
              have y0 := G7.o.f0
              have y1 := G7.o.f1
              have t0 := S7.o.c0
              have t1 := S7.o.c1
              obtain ⟨W7, hW7⟩ : ∃ W7, W7 = u7.setCell ⟨O, 0, none⟩ (.slice b7 (cutZ id v).length j7) := ⟨_, rfl⟩
              have HS7 := hide S7
              rw [← hW7] at HS7
              have HW7 := hide hW7.symm
              clear G7 S7 q7 d7 hb7 Z6 hW7
              go_wp2_with fail
              rw [unhide HW7]
              have Z7 := unhide HS7
              clear m0 m1 r0 r1 z0 z1 o0 o1 y0 y1 t0 t1
              have m0 := Z7.m.c0
              have m1 := Z7.m.c1
              have r0 := Z7.r.c0
              have r1 := Z7.r.c1
              have z0 := Z7.r.f0
              have z1 := Z7.r.f1
              have o0 := Z7.o.c0
              have o1 := Z7.o.c1
              have y0 := Z7.o.f0
              have y1 := Z7.o.f1
              have hbX : (cutZ id v).length ≤ 1048576 := by have hh := unhide HE; omega
              have hbY : (cutZ id l).length ≤ 1048576 := by have hh := unhide HE; omega
              refine (spec_ConfOk b7 _ j7 (cutZ id v) b6 _ j6 (cutZ id l) _ ⟨⟨Z7.p1, rfl, hbX⟩, ⟨Z7.p2, rfl, hbY⟩⟩).mono ?_
              rintro e w8 ⟨rfl, hb8⟩
              have H8 := Z7.step hb8
              clear m0 m1 r0 r1 z0 z1 o0 o1 y0 y1
              have m0 := H8.m.c0
              have m1 := H8.m.c1
              have r0 := H8.r.c0
              have r1 := H8.r.c1
              have z0 := H8.r.f0
              have z1 := H8.r.f1
              have o0 := H8.o.c0
              have o1 := H8.o.c1
              have y0 := H8.o.f0
              have y1 := H8.o.f1
              have HH8 := hide H8
              clear Z7 H8 hb8
              cases hcf : confB (cutZ id v) (cutZ id l) with
              | true =>
                go_wp2_with fail
                refine bodyPost_ret (v := .tuple #[.agg #[.slice b7 (cutZ id v).length j7, .slice b6 (cutZ id l).length j6], .int .i64 0]) (by simp [results, Tryz.results6, go_sem, r0, r1]) rfl ?_
                rw [unhide HX, if_pos hcf]
                exact ⟨b7, j7, b6, j6, rfl, (unhide HH8).fin⟩
              | false =>
                go_wp2_with fail
                refine (l9Copy_callsA aV nv cv v aL nl cl l _ ((unhide HDW).below (unhide HH8).below) (unhide HDV) (unhide HDL)).mono ?_
                rintro e w9 ⟨a5, k5, a6, k6, rfl, hc9⟩
                have R9 := (unhide HH8).r.below hc9.2.2.2.2 (unhide HH8).r.lt
                clear m0 m1 r0 r1 z0 z1 o0 o1 y0 y1
                have r0 := R9.c0
                have r1 := R9.c1
                have z0 := R9.f0
                have z1 := R9.f1
                have HC9 := hide hc9
                clear R9 hc9
                go_wp2_with fail
                refine bodyPost_ret (v := .tuple #[.agg #[.slice a5 v.length k5, .slice a6 l.length k6], .int .i64 14]) (by simp [results, Tryz.results6, go_sem, r0, r1]) rfl ?_
                rw [unhide HX, if_neg (by rw [hcf]; decide)]
                exact ⟨a5, k5, a6, k6, rfl, (unhide HH8).fin2 (unhide HC9)⟩
--END

theorem spec_Changed (g1 nv cv : Nat) (v : List Int) (g2 nl cl : Nat) (l : List Int) (kind id : Int) (w : World) (h : ConfAt w (some ⟨g1, 0, none⟩) nv v (some ⟨g2, 0, none⟩) nl l) :
    Calls Tryz.prog 6 #[.agg #[.slice (some ⟨g1, 0, none⟩) nv cv, .slice (some ⟨g2, 0, none⟩) nl cl], .int .i64 kind, .int .i64 id] w fun e w' => ∃ a1 c1 a2 c2, e = .returned (.tuple #[.agg #[.slice a1 (chgF kind id v l).1.length c1, .slice a2 (chgF kind id v l).2.1.length c2], .int .i64 (chgF kind id v l).2.2]) ∧ CcPost (chgF kind id v l).1 (chgF kind id v l).2.1 w a1 c1 a2 c2 w' := spec_ChangedA _ nv cv v _ nl cl l kind id w h (.inr ⟨g1, rfl⟩) (.inr ⟨g2, rfl⟩)
end Go.Proofs.YtmokpgmehaakgaaGreatDoor
