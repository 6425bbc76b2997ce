/- One piece read, by the program. -/
import Derived.Test.YtnkjdojpegmlcaaWhP
namespace Go.Proofs.Ytnkjdojpegmlcaa
open Go.RowKit Plain
set_option linter.unusedVariables false

namespace Plain
theorem num_openW (s : ByteArray) (p : Nat) (hp : p ≤ s.size) : ∃ (v : Int) (g : Bool) (p' : Nat), numV (tkN s p) = .tuple #[.int .i64 v, .bool g] ∧ numAt p (tkN s p) = p' ∧ p' ≤ s.size ∧ ∀ f, MoR (stp s p) p' f (f || !g) v := by
  cases h : tkN s p with
  | none => exact ⟨0, false, p, rfl, rfl, hp, fun f => .inl ⟨by simp, .inr (by unfold stp; rw [h]; rfl)⟩⟩
  | some y =>
    obtain ⟨v, l⟩ := y
    have := tkN_le h
    refine ⟨v, true, p + l, rfl, rfl, by omega, fun f => ?_⟩
    cases f with
    | true => exact .inl ⟨rfl, .inl rfl⟩
    | false => exact .inr ⟨rfl, rfl, by unfold stp; rw [h]; rfl⟩
theorem fld_openW (s : ByteArray) (p : Nat) (hp : p ≤ s.size) : ∃ (v : ByteArray) (g : Bool) (p' : Nat), fldV s p (tkT s p) = .tuple #[.string v, .bool g] ∧ fldAt p (tkT s p) = p' ∧ p' ≤ s.size ∧ v.size ≤ 20000 ∧ ∀ f, MoR (txp s p) p' f (f || !g) v := by
  cases h : tkT s p with
  | none => exact ⟨⟨#[]⟩, false, p, rfl, rfl, hp, by decide, fun f => .inl ⟨by simp, .inr (by unfold txp; rw [h]; rfl)⟩⟩
  | some y =>
    obtain ⟨l, v⟩ := y
    have := tkT_le h
    refine ⟨s.extract (p + l) (p + l + v), true, p + l + v, rfl, rfl, by omega, by rw [ByteArray.size_extract]; omega, fun f => ?_⟩
    cases f with
    | true => exact .inl ⟨rfl, .inl rfl⟩
    | false => exact .inr ⟨rfl, rfl, by unfold txp; rw [h]; rfl⟩
/-- A reader at R that stands at p. -/
structure CurA (W : World) (R : Nat) (b : ByteArray) (p : Nat) : Prop where
  t0 : W.cell? ⟨R, 0, none⟩ = some (.string b)
  t1 : W.cell? ⟨R, 1, none⟩ = some (.int .i64 p)
  z1 : W.frozen? ⟨R, 1, none⟩ = false
theorem CurA.only {W W' : World} {R : Nat} {b : ByteArray} {p p' : Nat} (h : CurA W R b p) (ho : OnlyAt ⟨R, 1, none⟩ W W') (hq : W'.cell? ⟨R, 1, none⟩ = some (.int .i64 p')) : CurA W' R b p' :=
  have l := lt_of_cell h.t0
  ⟨(ho.cell ⟨R, 0, none⟩ l (by simp)).trans h.t0, hq, (ho.frozen ⟨R, 1, none⟩ l).trans h.z1⟩
theorem CurA.new (w : World) (b : ByteArray) (T : TypeId) : CurA (w.alloc (.cells #[.string b, .int .i64 0] T)) w.heap.size b 0 := ⟨by simp [go_sem], by simp [go_sem], by simp [go_sem]⟩
/-- A piece at C, nought. -/
structure Zp (W : World) (C : Nat) : Prop where
  z0 : W.cell? ⟨C, 0, none⟩ = some (.int .i64 0)
  z1 : W.cell? ⟨C, 1, none⟩ = some (.int .i64 0)
  z2 : W.cell? ⟨C, 2, none⟩ = some (.string ⟨#[]⟩)
  f : ∀ i, W.frozen? ⟨C, i, none⟩ = false
theorem Zp.new (w : World) (T : TypeId) : Zp (w.alloc (.cells #[.int .i64 0, .int .i64 0, .string ⟨#[]⟩] T)) w.heap.size := ⟨by simp [go_sem], by simp [go_sem], by simp [go_sem], fun i => by simp [go_sem]⟩
theorem Zp.keep {W W' : World} {C : Nat} (h : Zp W C) (hb : Below W.heap.size W W') : Zp W' C :=
  have l := lt_of_cell h.z0
  ⟨bcl hb l h.z0, bcl hb l h.z1, bcl hb l h.z2, fun i => (hb.frozen (p := ⟨C, i, none⟩) l).trans (h.f i)⟩
theorem Zp.only {W W' : World} {C R : Nat} (h : Zp W C) (ho : OnlyAt ⟨R, 1, none⟩ W W') (hne : C ≠ R) : Zp W' C :=
  have l := lt_of_cell h.z0
  have n : ∀ i, (⟨C, i, none⟩ : Addr) ≠ ⟨R, 1, none⟩ := fun i e => hne (congrArg Addr.block e)
  ⟨(ho.cell ⟨C, 0, none⟩ l (n 0)).trans h.z0, (ho.cell ⟨C, 1, none⟩ l (n 1)).trans h.z1, (ho.cell ⟨C, 2, none⟩ l (n 2)).trans h.z2, fun i => (ho.frozen ⟨C, i, none⟩ l).trans (h.f i)⟩
theorem three_below {K : Nat} {w w' : World} {C : Nat} (h : Below K w w') (hC : K ≤ C) (v0 v1 v2 : Value) : Below K w (((w'.setCell ⟨C, 0, none⟩ v0).setCell ⟨C, 1, none⟩ v1).setCell ⟨C, 2, none⟩ v2) :=
  ((h.setCell (p := ⟨C, 0, none⟩) hC _).setCell (p := ⟨C, 1, none⟩) hC _).setCell (p := ⟨C, 2, none⟩) hC _
def piV (a c : Int) (x : ByteArray) (g : Bool) : Value := .tuple #[.agg #[.int .i64 a, .int .i64 c, .string x], .bool g]
end Plain

set_option maxRecDepth 10000 in
set_option maxHeartbeats 4000000 in
theorem readPiece_calls (s : ByteArray) (w : World) (hs : s.size ≤ 100000000) (hz : ∀ k b, (k, b) ∈ (readF s).1 → b.size ≤ 100000000) :
    Calls Try.prog 30 #[.string s] w (PiPost s piV w) := by
  obtain ⟨W0, hW0⟩ : ∃ W0, W0 = w.alloc (.cells #[.int .i64 0, .int .i64 0, .string ⟨#[]⟩] 54) := ⟨_, rfl⟩
  have HZ0 := hide (show Zp W0 w.heap.size by rw [hW0]; exact Zp.new w _)
  have HB0 := hide (show Below w.heap.size w W0 by rw [hW0]; exact bel1 _ _)
  have HW0 := hide hW0.symm
  have HR := hide (implRead_calls s W0 (by omega))
  obtain ⟨⟨fs, pos, cd⟩, hrd⟩ : ∃ r, readF s = r := ⟨_, rfl⟩
  rw [hrd] at HR hz
  have HRD := hide hrd
  clear hW0
  by_cases hl : fs.length = 1
  · by_cases hc : cd = 0
    · subst hc
      obtain ⟨⟨k, b⟩, rfl⟩ := List.length_eq_one_iff.1 hl
      have hb := hz k b (by simp)
      clear hl hz
      have hp1 := pieceR_one hrd
      by_cases hk : k = 3
      · subst hk
        rw [if_pos ⟨rfl, rfl⟩] at hp1
        obtain ⟨a, g1, p1, e1, e1', l1, m1⟩ := num_openW b 0 (by omega)
        obtain ⟨c, g2, p2, e2, e2', l2, m2⟩ := num_openW b p1 l1
        obtain ⟨x, g3, p3, e3, e3', l3, hx, m3⟩ := fld_openW b p2 l2
        have hH := bodR_is (((HasR.start.num (m1 _)).num (m2 _)).txt (m3 _))
        rw [← hp1] at hH
        have hn := rest_nil b p3 l3
        have N1 := hide (fun (W : World) (R : Nat) (h : CurA W R b 0) => number_ok R 0 b 0 W h.t0 h.t1 h.z1 (by omega) (by omega))
        have N2 := hide (fun (W : World) (R : Nat) (h : CurA W R b p1) => number_ok R 0 b p1 W h.t0 h.t1 h.z1 (by omega) l1)
        have N3 := hide (fun (W : World) (R : Nat) (h : CurA W R b p2) => field_ok R 0 b p2 W h.t0 h.t1 h.z1 (by omega) l2)
        have N4 := hide (fun (W : World) (R : Nat) (h : CurA W R b p3) => rest_ok R 0 b p3 W h.t0 h.t1 (by omega) l3)
        rw [e1, e1'] at N1
        rw [e2, e2'] at N2
        rw [e3, e3'] at N3
        generalize b.extract p3 b.size = T at N4 hn
        clear e1 e1' e2 e2' e3 e3' l1 l2 l3 m1 m2 m3 hp1 hrd
        cases g1 with
        | false =>
          have HQ : PcIs (pieceR s) false a c x := hH
          clear hH
          go_enter Try.func30, Try.ntmps30
          go_wp2_with fail
          rw [unhide HW0]
          refine (unhide HR).mono ?_
          rintro e w1 ⟨v, rfl, ho, hb1⟩
          obtain ⟨fa, fc, rfl⟩ := ownF_form ho
          obtain ⟨g, eg, lg, q0, q1, -⟩ := (ho.at rfl) 0 (by simp)
          subst eg
          simp only [Nat.zero_mul, Nat.zero_add, List.getElem_cons_zero] at q0 q1
          have HZ1 := hide ((unhide HZ0).keep hb1)
          have HB1 := hide (belOn (unhide HB0) hb1)
          have lC : w.heap.size < w1.heap.size := lt_of_cell (unhide HZ1).z0
          clear ho hb1
          obtain ⟨W2, hW2⟩ : ∃ W2, W2 = w1.alloc (.cells #[.string b, .int .i64 0] 75) := ⟨_, rfl⟩
          have HC2 := hide (show CurA W2 w1.heap.size b 0 by rw [hW2]; exact CurA.new w1 b _)
          have HZ2 := hide (show Zp W2 w.heap.size by rw [hW2]; exact (unhide HZ1).keep (bel1 _ _))
          have HB2 := hide (show Below w.heap.size w W2 by rw [hW2]; exact belOn (unhide HB1) (bel1 _ _))
          have HW2 := hide hW2.symm
          clear hW2
          go_wp2_with fail
          rw [unhide HW2]
          refine (unhide N1 _ _ (unhide HC2)).mono ?_
          rintro e w3 ⟨rfl, ho3, hc3⟩
          have HC3 := hide ((unhide HC2).only ho3 hc3)
          have HZ3 := hide ((unhide HZ2).only ho3 (by omega))
          have HB3 := hide ((unhide HB2).trans (ho3.below (B := w.heap.size) (Nat.le_of_lt lC) (unhide HB2).size))
          clear ho3 hc3
          go_wp2_with fail
          refine (unhide N2 _ _ (unhide HC3)).mono ?_
          rintro e w4 ⟨rfl, ho4, hc4⟩
          have HC4 := hide ((unhide HC3).only ho4 hc4)
          have HZ4 := hide ((unhide HZ3).only ho4 (by omega))
          have HB4 := hide ((unhide HB3).trans (ho4.below (B := w.heap.size) (Nat.le_of_lt lC) (unhide HB3).size))
          clear ho4 hc4
          go_wp2_with fail
          refine (unhide N3 _ _ (unhide HC4)).mono ?_
          rintro e w5 ⟨rfl, ho5, hc5⟩
          have HC5 := hide ((unhide HC4).only ho5 hc5)
          have hz5 := (unhide HZ4).only ho5 (by omega)
          have HB5 := hide ((unhide HB4).trans (ho5.below (B := w.heap.size) (Nat.le_of_lt lC) (unhide HB4).size))
          obtain ⟨x0, x1, x2, xf⟩ := hz5
          clear ho5 hc5 q0 q1
          go_wp2_with fail
          exact bodyPost_ret (v := piV a c x false) (by simp [results, Try.results30, go_sem, x0, x1, x2, piV]) rfl ⟨a, c, x, _, rfl, HQ, hx, three_below (unhide HB5) (Nat.le_refl _) _ _ _⟩
        | true =>
          cases g2 with
          | false =>
            have HQ : PcIs (pieceR s) false a c x := hH
            clear hH
            go_enter Try.func30, Try.ntmps30
            go_wp2_with fail
            rw [unhide HW0]
            refine (unhide HR).mono ?_
            rintro e w1 ⟨v, rfl, ho, hb1⟩
            obtain ⟨fa, fc, rfl⟩ := ownF_form ho
            obtain ⟨g, eg, lg, q0, q1, -⟩ := (ho.at rfl) 0 (by simp)
            subst eg
            simp only [Nat.zero_mul, Nat.zero_add, List.getElem_cons_zero] at q0 q1
            have HZ1 := hide ((unhide HZ0).keep hb1)
            have HB1 := hide (belOn (unhide HB0) hb1)
            have lC : w.heap.size < w1.heap.size := lt_of_cell (unhide HZ1).z0
            clear ho hb1
            obtain ⟨W2, hW2⟩ : ∃ W2, W2 = w1.alloc (.cells #[.string b, .int .i64 0] 75) := ⟨_, rfl⟩
            have HC2 := hide (show CurA W2 w1.heap.size b 0 by rw [hW2]; exact CurA.new w1 b _)
            have HZ2 := hide (show Zp W2 w.heap.size by rw [hW2]; exact (unhide HZ1).keep (bel1 _ _))
            have HB2 := hide (show Below w.heap.size w W2 by rw [hW2]; exact belOn (unhide HB1) (bel1 _ _))
            have HW2 := hide hW2.symm
            clear hW2
            go_wp2_with fail
            rw [unhide HW2]
            refine (unhide N1 _ _ (unhide HC2)).mono ?_
            rintro e w3 ⟨rfl, ho3, hc3⟩
            have HC3 := hide ((unhide HC2).only ho3 hc3)
            have HZ3 := hide ((unhide HZ2).only ho3 (by omega))
            have HB3 := hide ((unhide HB2).trans (ho3.below (B := w.heap.size) (Nat.le_of_lt lC) (unhide HB2).size))
            clear ho3 hc3
            go_wp2_with fail
            refine (unhide N2 _ _ (unhide HC3)).mono ?_
            rintro e w4 ⟨rfl, ho4, hc4⟩
            have HC4 := hide ((unhide HC3).only ho4 hc4)
            have HZ4 := hide ((unhide HZ3).only ho4 (by omega))
            have HB4 := hide ((unhide HB3).trans (ho4.below (B := w.heap.size) (Nat.le_of_lt lC) (unhide HB3).size))
            clear ho4 hc4
            go_wp2_with fail
            refine (unhide N3 _ _ (unhide HC4)).mono ?_
            rintro e w5 ⟨rfl, ho5, hc5⟩
            have HC5 := hide ((unhide HC4).only ho5 hc5)
            have hz5 := (unhide HZ4).only ho5 (by omega)
            have HB5 := hide ((unhide HB4).trans (ho5.below (B := w.heap.size) (Nat.le_of_lt lC) (unhide HB4).size))
            obtain ⟨x0, x1, x2, xf⟩ := hz5
            clear ho5 hc5 q0 q1
            go_wp2_with fail
            exact bodyPost_ret (v := piV a c x false) (by simp [results, Try.results30, go_sem, x0, x1, x2, piV]) rfl ⟨a, c, x, _, rfl, HQ, hx, three_below (unhide HB5) (Nat.le_refl _) _ _ _⟩
          | true =>
            cases g3 with
            | false =>
              have HQ : PcIs (pieceR s) false a c x := hH
              clear hH
              go_enter Try.func30, Try.ntmps30
              go_wp2_with fail
              rw [unhide HW0]
              refine (unhide HR).mono ?_
              rintro e w1 ⟨v, rfl, ho, hb1⟩
              obtain ⟨fa, fc, rfl⟩ := ownF_form ho
              obtain ⟨g, eg, lg, q0, q1, -⟩ := (ho.at rfl) 0 (by simp)
              subst eg
              simp only [Nat.zero_mul, Nat.zero_add, List.getElem_cons_zero] at q0 q1
              have HZ1 := hide ((unhide HZ0).keep hb1)
              have HB1 := hide (belOn (unhide HB0) hb1)
              have lC : w.heap.size < w1.heap.size := lt_of_cell (unhide HZ1).z0
              clear ho hb1
              obtain ⟨W2, hW2⟩ : ∃ W2, W2 = w1.alloc (.cells #[.string b, .int .i64 0] 75) := ⟨_, rfl⟩
              have HC2 := hide (show CurA W2 w1.heap.size b 0 by rw [hW2]; exact CurA.new w1 b _)
              have HZ2 := hide (show Zp W2 w.heap.size by rw [hW2]; exact (unhide HZ1).keep (bel1 _ _))
              have HB2 := hide (show Below w.heap.size w W2 by rw [hW2]; exact belOn (unhide HB1) (bel1 _ _))
              have HW2 := hide hW2.symm
              clear hW2
              go_wp2_with fail
              rw [unhide HW2]
              refine (unhide N1 _ _ (unhide HC2)).mono ?_
              rintro e w3 ⟨rfl, ho3, hc3⟩
              have HC3 := hide ((unhide HC2).only ho3 hc3)
              have HZ3 := hide ((unhide HZ2).only ho3 (by omega))
              have HB3 := hide ((unhide HB2).trans (ho3.below (B := w.heap.size) (Nat.le_of_lt lC) (unhide HB2).size))
              clear ho3 hc3
              go_wp2_with fail
              refine (unhide N2 _ _ (unhide HC3)).mono ?_
              rintro e w4 ⟨rfl, ho4, hc4⟩
              have HC4 := hide ((unhide HC3).only ho4 hc4)
              have HZ4 := hide ((unhide HZ3).only ho4 (by omega))
              have HB4 := hide ((unhide HB3).trans (ho4.below (B := w.heap.size) (Nat.le_of_lt lC) (unhide HB3).size))
              clear ho4 hc4
              go_wp2_with fail
              refine (unhide N3 _ _ (unhide HC4)).mono ?_
              rintro e w5 ⟨rfl, ho5, hc5⟩
              have HC5 := hide ((unhide HC4).only ho5 hc5)
              have hz5 := (unhide HZ4).only ho5 (by omega)
              have HB5 := hide ((unhide HB4).trans (ho5.below (B := w.heap.size) (Nat.le_of_lt lC) (unhide HB4).size))
              obtain ⟨x0, x1, x2, xf⟩ := hz5
              clear ho5 hc5 q0 q1
              go_wp2_with fail
              exact bodyPost_ret (v := piV a c x false) (by simp [results, Try.results30, go_sem, x0, x1, x2, piV]) rfl ⟨a, c, x, _, rfl, HQ, hx, three_below (unhide HB5) (Nat.le_refl _) _ _ _⟩
            | true =>
              by_cases hT : T.toList = []
              · rw [decide_eq_true (hn.1 hT)] at hH
                have HQ : PcIs (pieceR s) (decide (a < c)) a c x := hH
                clear hH hn
                go_enter Try.func30, Try.ntmps30
                go_wp2_with fail
                rw [unhide HW0]
                refine (unhide HR).mono ?_
                rintro e w1 ⟨v, rfl, ho, hb1⟩
                obtain ⟨fa, fc, rfl⟩ := ownF_form ho
                obtain ⟨g, eg, lg, q0, q1, -⟩ := (ho.at rfl) 0 (by simp)
                subst eg
                simp only [Nat.zero_mul, Nat.zero_add, List.getElem_cons_zero] at q0 q1
                have HZ1 := hide ((unhide HZ0).keep hb1)
                have HB1 := hide (belOn (unhide HB0) hb1)
                have lC : w.heap.size < w1.heap.size := lt_of_cell (unhide HZ1).z0
                clear ho hb1
                obtain ⟨W2, hW2⟩ : ∃ W2, W2 = w1.alloc (.cells #[.string b, .int .i64 0] 75) := ⟨_, rfl⟩
                have HC2 := hide (show CurA W2 w1.heap.size b 0 by rw [hW2]; exact CurA.new w1 b _)
                have HZ2 := hide (show Zp W2 w.heap.size by rw [hW2]; exact (unhide HZ1).keep (bel1 _ _))
                have HB2 := hide (show Below w.heap.size w W2 by rw [hW2]; exact belOn (unhide HB1) (bel1 _ _))
                have HW2 := hide hW2.symm
                clear hW2
                go_wp2_with fail
                rw [unhide HW2]
                refine (unhide N1 _ _ (unhide HC2)).mono ?_
                rintro e w3 ⟨rfl, ho3, hc3⟩
                have HC3 := hide ((unhide HC2).only ho3 hc3)
                have HZ3 := hide ((unhide HZ2).only ho3 (by omega))
                have HB3 := hide ((unhide HB2).trans (ho3.below (B := w.heap.size) (Nat.le_of_lt lC) (unhide HB2).size))
                clear ho3 hc3
                go_wp2_with fail
                refine (unhide N2 _ _ (unhide HC3)).mono ?_
                rintro e w4 ⟨rfl, ho4, hc4⟩
                have HC4 := hide ((unhide HC3).only ho4 hc4)
                have HZ4 := hide ((unhide HZ3).only ho4 (by omega))
                have HB4 := hide ((unhide HB3).trans (ho4.below (B := w.heap.size) (Nat.le_of_lt lC) (unhide HB3).size))
                clear ho4 hc4
                go_wp2_with fail
                refine (unhide N3 _ _ (unhide HC4)).mono ?_
                rintro e w5 ⟨rfl, ho5, hc5⟩
                have HC5 := hide ((unhide HC4).only ho5 hc5)
                have hz5 := (unhide HZ4).only ho5 (by omega)
                have HB5 := hide ((unhide HB4).trans (ho5.below (B := w.heap.size) (Nat.le_of_lt lC) (unhide HB4).size))
                obtain ⟨x0, x1, x2, xf⟩ := hz5
                clear ho5 hc5 q0 q1
                go_wp2_with fail
                refine (unhide N4 _ _ (unhide HC5)).mono ?_
                rintro e w6 ⟨rfl, k6, rfl⟩
                go_wp2_with fail
                exact bodyPost_ret (v := piV a c x (decide (a < c))) (by simp [results, Try.results30, go_sem, x0, x1, x2, piV]) rfl ⟨a, c, x, _, rfl, HQ, hx, three_below (show Below w.heap.size w (w5.drewN k6) from ⟨(unhide HB5).os, (unhide HB5).tape, (unhide HB5).output, (unhide HB5).size, (unhide HB5).block⟩) (Nat.le_refl _) _ _ _⟩
              · rw [decide_eq_false (fun q => hT (hn.2 q))] at hH
                have HQ : PcIs (pieceR s) false a c x := hH
                have hT2 : T.toList.isEmpty = false := by simpa using hT
                clear hH hn
                go_enter Try.func30, Try.ntmps30
                go_wp2_with fail
                rw [unhide HW0]
                refine (unhide HR).mono ?_
                rintro e w1 ⟨v, rfl, ho, hb1⟩
                obtain ⟨fa, fc, rfl⟩ := ownF_form ho
                obtain ⟨g, eg, lg, q0, q1, -⟩ := (ho.at rfl) 0 (by simp)
                subst eg
                simp only [Nat.zero_mul, Nat.zero_add, List.getElem_cons_zero] at q0 q1
                have HZ1 := hide ((unhide HZ0).keep hb1)
                have HB1 := hide (belOn (unhide HB0) hb1)
                have lC : w.heap.size < w1.heap.size := lt_of_cell (unhide HZ1).z0
                clear ho hb1
                obtain ⟨W2, hW2⟩ : ∃ W2, W2 = w1.alloc (.cells #[.string b, .int .i64 0] 75) := ⟨_, rfl⟩
                have HC2 := hide (show CurA W2 w1.heap.size b 0 by rw [hW2]; exact CurA.new w1 b _)
                have HZ2 := hide (show Zp W2 w.heap.size by rw [hW2]; exact (unhide HZ1).keep (bel1 _ _))
                have HB2 := hide (show Below w.heap.size w W2 by rw [hW2]; exact belOn (unhide HB1) (bel1 _ _))
                have HW2 := hide hW2.symm
                clear hW2
                go_wp2_with fail
                rw [unhide HW2]
                refine (unhide N1 _ _ (unhide HC2)).mono ?_
                rintro e w3 ⟨rfl, ho3, hc3⟩
                have HC3 := hide ((unhide HC2).only ho3 hc3)
                have HZ3 := hide ((unhide HZ2).only ho3 (by omega))
                have HB3 := hide ((unhide HB2).trans (ho3.below (B := w.heap.size) (Nat.le_of_lt lC) (unhide HB2).size))
                clear ho3 hc3
                go_wp2_with fail
                refine (unhide N2 _ _ (unhide HC3)).mono ?_
                rintro e w4 ⟨rfl, ho4, hc4⟩
                have HC4 := hide ((unhide HC3).only ho4 hc4)
                have HZ4 := hide ((unhide HZ3).only ho4 (by omega))
                have HB4 := hide ((unhide HB3).trans (ho4.below (B := w.heap.size) (Nat.le_of_lt lC) (unhide HB3).size))
                clear ho4 hc4
                go_wp2_with fail
                refine (unhide N3 _ _ (unhide HC4)).mono ?_
                rintro e w5 ⟨rfl, ho5, hc5⟩
                have HC5 := hide ((unhide HC4).only ho5 hc5)
                have hz5 := (unhide HZ4).only ho5 (by omega)
                have HB5 := hide ((unhide HB4).trans (ho5.below (B := w.heap.size) (Nat.le_of_lt lC) (unhide HB4).size))
                obtain ⟨x0, x1, x2, xf⟩ := hz5
                clear ho5 hc5 q0 q1
                go_wp2_with fail
                refine (unhide N4 _ _ (unhide HC5)).mono ?_
                rintro e w6 ⟨rfl, k6, rfl⟩
                go_wp2_with fail
                exact bodyPost_ret (v := piV a c x false) (by simp [results, Try.results30, go_sem, x0, x1, x2, piV]) rfl ⟨a, c, x, _, rfl, HQ, hx, three_below (show Below w.heap.size w (w5.drewN k6) from ⟨(unhide HB5).os, (unhide HB5).tape, (unhide HB5).output, (unhide HB5).size, (unhide HB5).block⟩) (Nat.le_refl _) _ _ _⟩
      · rw [if_neg (fun q => hk q.2)] at hp1
        have hpc : PcIs (pieceR s) false 0 0 ⟨#[]⟩ := .inl ⟨rfl, hp1⟩
        clear hp1 hrd
        go_enter Try.func30, Try.ntmps30
        go_wp2_with fail
        rw [unhide HW0]
        refine (unhide HR).mono ?_
        rintro e w1 ⟨v, rfl, ho, hb1⟩
        obtain ⟨fa, fc, rfl⟩ := ownF_form ho
        obtain ⟨g, eg, lg, q0, q1, -⟩ := (ho.at rfl) 0 (by simp)
        subst eg
        simp only [Nat.zero_mul, Nat.zero_add, List.getElem_cons_zero] at q0 q1
        obtain ⟨x0, x1, x2, xf⟩ := (unhide HZ0).keep hb1
        have HB1 := hide (belOn (unhide HB0) hb1)
        clear ho hb1
        go_wp2_with fail
        exact bodyPost_ret (v := piV 0 0 ⟨#[]⟩ false) (by simp [results, Try.results30, go_sem, x0, x1, x2, piV]) rfl ⟨0, 0, ⟨#[]⟩, _, rfl, hpc, by decide, three_below (unhide HB1) (Nat.le_refl _) _ _ _⟩
    · obtain ⟨⟨k, b⟩, rfl⟩ := List.length_eq_one_iff.1 hl
      have hpc : PcIs (pieceR s) false 0 0 ⟨#[]⟩ := .inl ⟨rfl, by rw [pieceR_one hrd, if_neg (fun q => hc q.1)]⟩
      clear hrd hz hl
      go_enter Try.func30, Try.ntmps30
      go_wp2_with fail
      rw [unhide HW0]
      refine (unhide HR).mono ?_
      rintro e w1 ⟨v, rfl, ho, hb1⟩
      obtain ⟨fa, fc, rfl⟩ := ownF_form ho
      skip
      obtain ⟨x0, x1, x2, xf⟩ := (unhide HZ0).keep hb1
      have HB1 := hide (belOn (unhide HB0) hb1)
      clear ho hb1
      go_wp2_with fail
      exact bodyPost_ret (v := piV 0 0 ⟨#[]⟩ false) (by simp [results, Try.results30, go_sem, x0, x1, x2, piV]) rfl ⟨0, 0, ⟨#[]⟩, _, rfl, hpc, by decide, three_below (unhide HB1) (Nat.le_refl _) _ _ _⟩
  · have hpc : PcIs (pieceR s) false 0 0 ⟨#[]⟩ := .inl ⟨rfl, pieceR_len hrd hl⟩
    obtain ⟨n, hn⟩ : ∃ n, fs.length = n := ⟨_, rfl⟩
    rw [hn] at hl
    have HN := hide hn
    have hl2 : ¬ (n : Int) = 1 := by omega
    clear hrd hn hz
    go_enter Try.func30, Try.ntmps30
    go_wp2_with fail
    rw [unhide HW0]
    refine (unhide HR).mono ?_
    rintro e w1 ⟨v, rfl, ho, hb1⟩
    obtain ⟨fa, fc, rfl⟩ := ownF_form ho
    rw [unhide HN]
    obtain ⟨x0, x1, x2, xf⟩ := (unhide HZ0).keep hb1
    have HB1 := hide (belOn (unhide HB0) hb1)
    clear ho hb1
    go_wp2_with fail
    exact bodyPost_ret (v := piV 0 0 ⟨#[]⟩ false) (by simp [results, Try.results30, go_sem, x0, x1, x2, piV]) rfl ⟨0, 0, ⟨#[]⟩, _, rfl, hpc, by decide, three_below (unhide HB1) (Nat.le_refl _) _ _ _⟩

end Go.Proofs.Ytnkjdojpegmlcaa
