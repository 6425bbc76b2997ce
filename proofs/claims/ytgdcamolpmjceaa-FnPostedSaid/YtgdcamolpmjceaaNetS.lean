/- Which nets are right, by the specification. -/
import Derived.Test.YtgdcamolpmjceaaNetI
namespace Go.Proofs.Ytgdcamolpmjceaa
open Go.RowKit Plain
set_option linter.unusedVariables false

theorem Plain.belNs {B : Nat} {w w' : World} (h : Below B w w') (k : Nat) : Below B w (w'.drewN k) := ⟨h.os, h.tape, h.output, h.size, h.block⟩

theorem ends_quiet (f t : Int) (s : ByteArray) (w : World) (n : Nat) (b : Bool) (hs : s.size ≤ 1000000000000) (hb : endsB f t s = b) :
    Calls Try.prog 30 #[.int .i64 f, .int .i64 t, .string s] (w.drewN n) fun e w'' => e = .returned (.bool b) ∧ ∃ m, w'' = w.drewN m := by
  subst hb
  refine (l8Ends_calls f t s _ hs).mono ?_
  rintro e w2 ⟨rfl, rfl⟩
  exact ⟨rfl, n, rfl⟩
theorem in_quiet (x lo hi : Int) (w : World) (n : Nat) (b : Bool) (hb : (decide (lo ≤ x) && decide (x ≤ hi)) = b) :
    Calls Try.prog 40 #[.int .i64 x, .int .i64 lo, .int .i64 hi] (w.drewN n) fun e w'' => e = .returned (.bool b) ∧ ∃ m, w'' = w.drewN m := by
  subst hb
  refine (l1In_calls x lo hi _).mono ?_
  rintro e w2 ⟨rfl, rfl⟩
  exact ⟨rfl, n, rfl⟩

set_option maxRecDepth 10000 in
set_option maxHeartbeats 8000000 in
theorem spec_NetOk (t : Int) (a : Option Addr) (n c : Nat) (es : List Pkt) (w : World) (h : NetAt w a n c es) (hnc : n ≤ c) :
    Calls Try.prog 19 #[.agg #[.int .i64 t, .slice a n c]] w fun e w' => e = .returned (.bool (netB t es)) ∧ Below w.heap.size w w' := by
  obtain ⟨W0, hW0⟩ : ∃ W0, W0 = w.alloc (.cells #[.int .i64 t, .slice a n c] 26) := ⟨_, rfl⟩
  have hb0 : Below w.heap.size w W0 := by rw [hW0]; exact bel1 _ _
  have hlt : w.heap.size < W0.heap.size := by rw [hW0]; simp
  have c0 : W0.cell? ⟨w.heap.size, 0, none⟩ = some (.int .i64 t) := by rw [hW0]; simp [go_sem]
  have c2 : W0.cell? ⟨w.heap.size, 1, none⟩ = some (.slice a n c) := by rw [hW0]; simp [go_sem]
  have HC := hide (fun (W : World) (hW : Below W0.heap.size W0 W) => And.intro (bcl hW hlt c0) (bcl hW hlt c2))
  have HFIN := hide (fun (W : World) (hW : Below W0.heap.size W0 W) => belOn hb0 hW)
  have HD := hide (fun (W : World) (hW : Below W0.heap.size W0 W) => (h.below hb0).below hW)
  have HW0 := hide hW0.symm
  have hbn := h.bn
  have HH := hide h
  have hlen := h.len
  clear hb0 hlt hW0 h
  obtain ⟨R, hR⟩ : ∃ R, netB t es = R := ⟨_, rfl⟩
  rw [hR]
  unfold netB at hR
  rw [hlen] at hR
  cases ht : (decide (1 ≤ t) && decide (t ≤ 1000000000000)) with
  | false =>
    have HT := hide ht
    have HX := hide (show R = false from by rw [← hR, ht]; rfl)
    clear ht c0 c2 hR hlen
    go_enter Try.func19, Try.ntmps19
    go_wp2_with fail
    rw [unhide HW0]
    refine (l1In_calls t _ _ _).mono ?_
    rintro e w1 ⟨rfl, rfl⟩
    rw [unhide HT]
    go_wp2_with fail
    go_ret
    exact ⟨by rw [unhide HX]; rfl, unhide HFIN _ (Below.refl _ _)⟩
  | true =>
    have HT := hide ht
    have ht1 : 1 ≤ t ∧ t ≤ 1000000000000 := by simpa using ht
    obtain ⟨t1, t2⟩ := ht1
    by_cases h3 : (300 : Int) < (n : Int)
    · have HX := hide (show R = false from by rw [← hR, decide_eq_false (show ¬ n ≤ 300 by omega), Bool.false_and, Bool.and_false])
      clear ht hR hlen
      go_enter Try.func19, Try.ntmps19
      go_wp2_with fail
      rw [unhide HW0]
      refine (l1In_calls t _ _ _).mono ?_
      rintro e w1 ⟨rfl, rfl⟩
      rw [unhide HT]
      go_wp2_with fail
      go_ret
      exact ⟨by rw [unhide HX]; rfl, unhide HFIN _ (Below.refl _ _)⟩
    · have HR2 := hide (show R = okP t 0 es from by rw [← hR, ht, decide_eq_true (show n ≤ 300 by omega)]; simp)
      obtain ⟨T, hT⟩ : ∃ T, t - 1 = T := ⟨_, rfl⟩
      have tw : IntKind.i64.wrap (t - 1) = T := by rw [IntKind.wrap_i64]; omega
      have tT1 : T < t := by omega
      have tT2 : t ≤ T + 1 := by omega
      clear ht hR hlen hT
      go_enter Try.func19, Try.ntmps19
      go_wp2_with fail
      rw [unhide HW0]
      refine (l1In_calls t _ _ _).mono ?_
      rintro e w1 ⟨rfl, rfl⟩
      rw [unhide HT]
      go_wp2_with fail
      clear c0 c2
      go_loopw [3] (fun i wr => ∃ k : Nat, i = .int .i64 k ∧ k ≤ n ∧ Hid (0 ≤ prevI es k) ∧ Hid (okP t (prevI es k) (es.drop k) = okP t 0 es) ∧ Hid (Below W0.heap.size W0 wr)) (fun i _ => n - (intOf i).toNat)
      case atStart => exact ⟨0, rfl, by omega, hide (Int.le_refl 0), hide rfl, hide (Below.refl _ _)⟩
      case round =>
        obtain ⟨k, rfl, hk, HP, HO, HB⟩ := hrel
        obtain ⟨q0, q2⟩ := unhide HC _ (unhide HB)
        by_cases hkn : k < n
        · have hkl : k < es.length := by rw [(unhide HH).len]; exact hkn
          obtain ⟨g, e1, l1, p0, p1, p2, p3⟩ := (unhide HD _ (unhide HB)).row.px k hkl
          have hst := okP_step t es k hkl
          have hpn : prevI es (k + 1) = es[k].id := by rw [prevI, List.getElem?_eq_getElem hkl]; rfl
          have hbs := (unhide HH).fit es[k] (by simp)
          have hprev : ∀ j, k = j + 1 → ∃ pt, prevI es k = pt ∧ wr.cell? ⟨g, j * 4, none⟩ = some (.int .i64 pt) := by
            intro j hj
            have hjl : j < es.length := by omega
            obtain ⟨g', e', l', r0, -, -, -⟩ := (unhide HD _ (unhide HB)).row.px j hjl
            rw [e1] at e'
            obtain rfl : g = g' := by simpa using e'
            exact ⟨es[j].id, by rw [hj, prevI, List.getElem?_eq_getElem hjl]; rfl, r0⟩
          generalize hx : es[k] = x at p0 p1 p2 p3 hst hbs hpn
          obtain ⟨pi, fr, ds, bd⟩ := x
          simp only at p0 p1 p2 p3 hbs hpn
          subst e1
          have i0 : (0 : Int) ≤ (k : Int) := by omega
          have i1 : (k : Int) < (n : Int) := by omega
          have HST := hide (hst.symm.trans (unhide HO))
          have HPN := hide hpn
          unfold pktB at HST
          simp only at HST
          have hlw : w.heap.size < wr.heap.size := lt_of_cell q0
          obtain ⟨W1, hW1⟩ : ∃ W1, W1 = wr.alloc (.cells #[.int .i64 pi, .int .i64 fr, .int .i64 ds, .string bd] 34) := ⟨_, rfl⟩
          have hb1 : Below wr.heap.size wr W1 := by rw [hW1]; exact bel1 _ _
          have r0 := bcl hb1 hlw q0
          have r2 := bcl hb1 hlw q2
          have s0 : W1.cell? ⟨wr.heap.size, 0, none⟩ = some (.int .i64 pi) := by rw [hW1]; simp [go_sem]
          have s1 : W1.cell? ⟨wr.heap.size, 1, none⟩ = some (.int .i64 fr) := by rw [hW1]; simp [go_sem]
          have s2 : W1.cell? ⟨wr.heap.size, 2, none⟩ = some (.int .i64 ds) := by rw [hW1]; simp [go_sem]
          have s3 : W1.cell? ⟨wr.heap.size, 3, none⟩ = some (.string bd) := by rw [hW1]; simp [go_sem]
          have HB1 := hide (belOn (unhide HB) hb1)
          have HW1 := hide hW1.symm
          have HPR := hide hprev
          have HBC := hide hb1
          clear hst HO hx hb1 hW1 hprev hpn
          have hfs : bd.size ≤ 1000000000000 := by omega
          cases hi : (decide (1 ≤ pi) && decide (pi ≤ T)) with
          | false =>
            have HX := hide (show R = false from by
              rw [unhide HR2, ← unhide HST]
              have hp := unhide HP
              have : (decide (prevI es k < pi) && decide (pi < t)) = false := by
                rw [Bool.eq_false_iff]
                intro hy
                simp at hy hi
                omega
              rw [this]; simp)
            have HI := hide hi
            clear HST hi HPR
            go_wp2_with fail
            rw [unhide HW1]
            go_quiet (first | (go_at_call 40; exact in_quiet _ _ _ _ _ _ (unhide HI)))
            all_goals (try go_wp2_with fail)
            all_goals (try go_ret)
            all_goals exact ⟨by rw [unhide HX]; rfl, unhide HFIN _ (belNs (unhide HB1) _)⟩
          | true =>
            have HI := hide hi
            have hi2 : 1 ≤ pi ∧ pi ≤ T := by simpa using hi
            obtain ⟨hi3, hi4⟩ := hi2
            cases he : endsB fr ds bd with
            | false =>
              have HX := hide (show R = false from by rw [unhide HR2, ← unhide HST, he]; simp)
              have HE := hide he
              clear HST hi HPR he
              go_wp2_with fail
              rw [unhide HW1]
              go_quiet (first | (go_at_call 40; exact in_quiet _ _ _ _ _ _ (unhide HI)) | (go_at_call 30; exact ends_quiet _ _ _ _ _ _ hfs (unhide HE)))
              all_goals (try go_wp2_with fail)
              all_goals (try go_ret)
              all_goals exact ⟨by rw [unhide HX]; rfl, unhide HFIN _ (belNs (unhide HB1) _)⟩
            | true =>
              have HE := hide he
              rcases Nat.eq_zero_or_pos k with hk0 | hk0
              · have HX := hide (show okP t (prevI es (k + 1)) (es.drop (k + 1)) = okP t 0 es from by rw [← unhide HST, he, hk0, decide_eq_true (show prevI es 0 < pi from by show (0 : Int) < pi; omega), decide_eq_true (show pi < t by omega)]; simp)
                have HP2 := hide (show 0 ≤ prevI es (k + 1) from by rw [unhide HPN]; omega)
                have hk1 : ¬ 0 < k := by omega
                clear HST hi HPR he hk0
                go_wp2_with fail
                rw [unhide HW1]
                go_quiet (first | (go_at_call 40; exact in_quiet _ _ _ _ _ _ (unhide HI)) | (go_at_call 30; exact ends_quiet _ _ _ _ _ _ hfs (unhide HE)))
                all_goals (try go_wp2_with fail)
                all_goals exact ⟨⟨k + 1, by go_num, by omega, HP2, HX, hide (belNs (unhide HB1) _)⟩, by simp [intOf]; omega⟩
              · obtain ⟨j, hkj⟩ : ∃ j, k = j + 1 := ⟨k - 1, by omega⟩
                obtain ⟨pt, hpt, u0⟩ := unhide HPR j hkj
                have hlg : g < wr.heap.size := lt_of_cell u0
                have v0 := bcl (unhide HBC) hlg u0
                have j0 : (0 : Int) ≤ (j : Int) := by omega
                have j1 : (j : Int) < (n : Int) := by omega
                have jw : IntKind.i64.wrap ((k : Int) - 1) = (j : Int) := by rw [IntKind.wrap_i64]; omega
                have hk1 : 0 < k := by omega
                rw [hpt, he] at HST
                by_cases hpp : pi ≤ pt
                · have HX := hide (show R = false from by rw [unhide HR2, ← unhide HST, decide_eq_false (show ¬ pt < pi by omega)]; simp)
                  clear HST hi HPR he u0 hpt hkj hk0
                  go_wp2_with fail
                  rw [unhide HW1]
                  go_quiet (first | (go_at_call 40; exact in_quiet _ _ _ _ _ _ (unhide HI)) | (go_at_call 30; exact ends_quiet _ _ _ _ _ _ hfs (unhide HE)))
                  all_goals (try go_wp2_with fail)
                  all_goals (try go_ret)
                  all_goals exact ⟨by rw [unhide HX]; rfl, unhide HFIN _ (belNs (unhide HB1) _)⟩
                · have HX := hide (show okP t (prevI es (k + 1)) (es.drop (k + 1)) = okP t 0 es from by rw [← unhide HST, decide_eq_true (show pt < pi by omega), decide_eq_true (show pi < t by omega)]; simp)
                  have HP2 := hide (show 0 ≤ prevI es (k + 1) from by rw [unhide HPN]; omega)
                  clear HST hi HPR he u0 hpt hkj hk0
                  go_wp2_with fail
                  rw [unhide HW1]
                  go_quiet (first | (go_at_call 40; exact in_quiet _ _ _ _ _ _ (unhide HI)) | (go_at_call 30; exact ends_quiet _ _ _ _ _ _ hfs (unhide HE)))
                  all_goals (try go_wp2_with fail)
                  all_goals exact ⟨⟨k + 1, by go_num, by omega, HP2, HX, hide (belNs (unhide HB1) _)⟩, by simp [intOf]; omega⟩
        · obtain rfl : k = n := by omega
          have hO := unhide HO
          rw [List.drop_of_length_le (by rw [(unhide HH).len]; exact Nat.le_refl _)] at hO
          have HX := hide (show R = true from by rw [unhide HR2, ← hO]; rfl)
          clear hO HO
          go_wp2_with fail
          go_ret
          exact ⟨by rw [unhide HX]; rfl, unhide HFIN _ (unhide HB)⟩
end Go.Proofs.Ytgdcamolpmjceaa
