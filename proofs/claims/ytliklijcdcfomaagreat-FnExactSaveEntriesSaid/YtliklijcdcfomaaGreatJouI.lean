/- Which journals are right, by both programs. -/
import Derived.Test.YtliklijcdcfomaaGreatRzA
namespace Go.Proofs.YtliklijcdcfomaaGreat
open Go.RowKit Plain
set_option linter.unusedVariables false

/-- A journal in memory. -/
structure Plain.JouAt (W : World) (a : Option Addr) (n c : Nat) (es : List Ent) : Prop where
  row : RowAt entE W a es
  len : es.length = n
  bn : n ≤ 2000000
  fit : ∀ e ∈ es, e.body.size ≤ 1000000000
theorem Plain.JouAt.below {W W' : World} {a : Option Addr} {n c : Nat} {es : List Ent} (h : JouAt W a n c es) (hb : Below W.heap.size W W') : JouAt W' a n c es := ⟨h.row.below hb, h.len, h.bn, h.fit⟩

set_option maxRecDepth 10000 in
set_option maxHeartbeats 4000000 in
theorem impl_JournalOk (t v : Int) (a : Option Addr) (n c : Nat) (es : List Ent) (w : World) (h : JouAt w a n c es) (hnc : n ≤ c) :
    Calls Tryz.prog 50 #[.agg #[.int .i64 t, .int .i64 v, .slice a n c]] w fun e w' => e = .returned (.bool (jouB t v es)) ∧ Below w.heap.size w w' := by
  obtain ⟨W0, hW0⟩ : ∃ W0, W0 = w.alloc (.cells #[.int .i64 t, .int .i64 v, .slice a n c] 49) := ⟨_, rfl⟩
  have hb0 : Below w.heap.size w W0 := by rw [hW0]; exact bel1 _ _
  have hlt : w.heap.size < W0.heap.size := by rw [hW0]; simp
  have c0 : W0.cell? ⟨w.heap.size, 0, none⟩ = some (.int .i64 t) := by rw [hW0]; simp [go_sem]
  have c1 : W0.cell? ⟨w.heap.size, 1, none⟩ = some (.int .i64 v) := by rw [hW0]; simp [go_sem]
  have c2 : W0.cell? ⟨w.heap.size, 2, none⟩ = some (.slice a n c) := by rw [hW0]; simp [go_sem]
  have HC := hide (fun (W : World) (hW : Below W0.heap.size W0 W) => And.intro (bcl hW hlt c0) (And.intro (bcl hW hlt c1) (bcl hW hlt c2)))
  have HFIN := hide (fun (W : World) (hW : Below W0.heap.size W0 W) => belOn hb0 hW)
  have HD := hide (fun (W : World) (hW : Below W0.heap.size W0 W) => (h.below hb0).below hW)
  have HW0 := hide hW0.symm
  have hbn := h.bn
  have HH := hide h
  clear hb0 hlt hW0 h
  unfold jouB
  cases ht : numB t with
  | false =>
    have HT := hide ht
    clear ht c0 c1 c2
    go_enter Tryz.func50, Tryz.ntmps50
    go_wp2_with fail
    rw [unhide HW0]
    refine (numberOk_calls t _).mono ?_
    rintro e w1 ⟨rfl, rfl⟩
    rw [unhide HT]
    go_wp2_with fail
    go_ret
    exact ⟨rfl, unhide HFIN _ (Below.refl _ _)⟩
  | true =>
    have HT := hide ht
    cases hv : numB v with
    | false =>
      have HV := hide hv
      clear ht hv
      go_enter Tryz.func50, Tryz.ntmps50
      go_wp2_with fail
      rw [unhide HW0]
      refine (numberOk_calls t _).mono ?_
      rintro e w1 ⟨rfl, rfl⟩
      rw [unhide HT]
      go_wp2_with fail
      refine (numberOk_calls v _).mono ?_
      rintro e w1 ⟨rfl, rfl⟩
      rw [unhide HV]
      go_wp2_with fail
      go_ret
      exact ⟨rfl, unhide HFIN _ (Below.refl _ _)⟩
    | true =>
      have HV := hide hv
      clear ht hv
      rw [Bool.and_self, Bool.true_and, (unhide HH).len]
      obtain ⟨R, hR⟩ : ∃ R, (decide (n ≤ 500) && okE t 0 es) = R := ⟨_, rfl⟩
      rw [hR]
      have HR := hide hR
      clear hR
      go_enter Tryz.func50, Tryz.ntmps50
      go_wp2_with fail
      rw [unhide HW0]
      refine (numberOk_calls t _).mono ?_
      rintro e w1 ⟨rfl, rfl⟩
      rw [unhide HT]
      go_wp2_with fail
      refine (numberOk_calls v _).mono ?_
      rintro e w1 ⟨rfl, rfl⟩
      rw [unhide HV]
      go_wp2_with fail
      clear c0 c1 c2
      go_loopw [18] (fun i wr => ∃ k : Nat, i = .int .i64 k ∧ k ≤ n ∧ k ≤ 500 ∧ Hid (okE t (prevT es k) (es.drop k) = okE t 0 es) ∧ Hid (Below W0.heap.size W0 wr)) (fun i _ => n - (intOf i).toNat)
      case atStart => exact ⟨0, rfl, by omega, by omega, hide rfl, hide (Below.refl _ _)⟩
      case round =>
        obtain ⟨k, rfl, hk, hk5, HO, HB⟩ := hrel
        obtain ⟨q0, q1, q2⟩ := unhide HC _ (unhide HB)
        by_cases hkn : k < n
        · have hkl : k < es.length := by rw [(unhide HH).len]; exact hkn
          obtain ⟨g, e1, l1, p0, p1, p2⟩ := (unhide HD _ (unhide HB)).row.ex k hkl
          have hst := okE_step t es k hkl
          have hbs := (unhide HH).fit es[k] (by simp)
          have HFO := hide (fun (W : World) (hW : Below W0.heap.size W0 W) => follows_calls es[k].term es[k].kind es[k].body a k c es t W (by omega) (by omega) (by omega) (unhide HD _ hW).row)
          generalize hx : es[k] = x at p0 p1 p2 hst HFO hbs
          obtain ⟨tm, kd, bd⟩ := x
          simp only at p0 p1 p2 HFO
          subst e1
          have i0 : (0 : Int) ≤ (k : Int) := by omega
          have i1 : (k : Int) < (n : Int) := by omega
          have i2 : (k : Int) ≤ (n : Int) := by omega
          have i3 : (k : Int) ≤ (c : Int) := by omega
          have HST := hide (hst.symm.trans (unhide HO))
          generalize folB t (prevT es k) ⟨tm, kd, bd⟩ = F at HFO HST
          have hlw : w.heap.size < wr.heap.size := lt_of_cell q0
          obtain ⟨W1, hW1⟩ : ∃ W1, W1 = wr.alloc (.cells #[.int .i64 tm, .int .i64 kd, .string bd] 76) := ⟨_, rfl⟩
          have hb1 : Below wr.heap.size wr W1 := by rw [hW1]; exact bel1 _ _
          have r0 := bcl hb1 hlw q0
          have r1 := bcl hb1 hlw q1
          have r2 := bcl hb1 hlw q2
          have s0 : W1.cell? ⟨wr.heap.size, 0, none⟩ = some (.int .i64 tm) := by rw [hW1]; simp [go_sem]
          have s1 : W1.cell? ⟨wr.heap.size, 1, none⟩ = some (.int .i64 kd) := by rw [hW1]; simp [go_sem]
          have s2 : W1.cell? ⟨wr.heap.size, 2, none⟩ = some (.string bd) := by rw [hW1]; simp [go_sem]
          have HB1 := hide (belOn (unhide HB) hb1)
          have HW1 := hide hW1.symm
          have HF2 := hide (unhide HFO W1.drew (belDrew (unhide HB1)))
          clear hst HO hx hb1 hW1 HFO
          by_cases h5 : k < 500
          · rw [decide_eq_true h5, Bool.true_and] at HF2
            cases F with
            | false =>
              have HX := hide (show R = false from by rw [← unhide HR, ← unhide HST]; simp)
              clear HST
              go_wp2_with fail
              rw [unhide HW1]
              go_region_with (go_at_call 90; refine (unhide HF2).mono ?_; rintro e w2 ⟨rfl, hb2⟩)
              all_goals (try go_wp2_with fail)
              all_goals (try go_ret)
              all_goals exact ⟨by rw [unhide HX]; rfl, unhide HFIN _ (belOn (unhide HB1) (bOfDrew hb2))⟩
            | true =>
              have HX := hide (show okE t (prevT es (k + 1)) (es.drop (k + 1)) = okE t 0 es from by rw [← unhide HST]; simp)
              clear HST
              go_wp2_with fail
              rw [unhide HW1]
              go_region_with (go_at_call 90; refine (unhide HF2).mono ?_; rintro e w2 ⟨rfl, hb2⟩)
              all_goals (try go_wp2_with fail)
              all_goals exact ⟨⟨k + 1, by go_num, by omega, by omega, HX, hide (belOn (unhide HB1) (bOfDrew hb2))⟩, by simp [intOf]; omega⟩
          · rw [decide_eq_false h5, Bool.false_and] at HF2
            have HX := hide (show R = false from by rw [← unhide HR, decide_eq_false (show ¬ n ≤ 500 by omega)]; rfl)
            clear HST
            go_wp2_with fail
            rw [unhide HW1]
            go_region_with (go_at_call 90; refine (unhide HF2).mono ?_; rintro e w2 ⟨rfl, hb2⟩)
            all_goals (try go_wp2_with fail)
            all_goals (try go_ret)
            all_goals exact ⟨by rw [unhide HX]; rfl, unhide HFIN _ (belOn (unhide HB1) (bOfDrew hb2))⟩
        · obtain rfl : k = n := by omega
          have hO := unhide HO
          rw [List.drop_of_length_le (by rw [(unhide HH).len]; exact Nat.le_refl _)] at hO
          have HX := hide (show R = true from by rw [← unhide HR, ← hO, decide_eq_true hk5]; rfl)
          clear hO HO
          go_wp2_with fail
          go_ret
          exact ⟨by rw [unhide HX]; rfl, unhide HFIN _ (unhide HB)⟩

end Go.Proofs.YtliklijcdcfomaaGreat
