/- Members by the specification: right ones. -/
import Derived.Test.YtiakhgafibgpgaaDoorConK
namespace Go.Proofs.YtiakhgafibgpgaaDoor
open Go.RowKit Plain
set_option linter.unusedVariables false

theorem inI_quiet (x lo hi : Int) (w : World) (n : Nat) (b : Bool) (hb : (decide (lo ≤ x) && decide (x ≤ hi)) = b) :
    Calls Tryd.prog 11 #[.int .i64 x, .int .i64 lo, .int .i64 hi] (w.drewN n) fun e w'' => e = .returned (.bool b) ∧ ∃ m, w'' = w.drewN m := by
  subst hb
  refine (l1In_calls x lo hi _).mono ?_
  rintro e w2 ⟨rfl, rfl⟩
  exact ⟨rfl, n, rfl⟩

set_option maxRecDepth 10000 in
set_option maxHeartbeats 1000000 in
theorem l1Ints_calls (a : Option Addr) (n c : Nat) (ls : List Int) (x : Int) (w : World) (h : IntsAt w a n ls) :
    Calls Tryd.prog 49 #[.slice a n c, .int .i64 x] w fun e w' => e = .returned (.bool (decide (x ∈ ls))) ∧ w = w' := by
  have HH := hide h
  have hbn := h.bn
  clear h
  obtain ⟨R, hR⟩ : ∃ R, decide (x ∈ ls) = R := ⟨_, rfl⟩
  rw [hR]
  have HR := hide hR
  clear hR
  obtain ⟨w0, rfl⟩ : ∃ w0, w0 = w := ⟨_, rfl⟩
  go_enter Tryd.func49, Tryd.ntmps49
  go_wp2_with fail
  go_loopw [5] (fun i wr => ∃ k : Nat, i = .int .i64 k ∧ k ≤ n ∧ Hid (decide (x ∈ ls.drop k) = R) ∧ wr = w0) (fun i _ => n - (intOf i).toNat)
  case atStart => exact ⟨0, rfl, by omega, hide (unhide HR), rfl⟩
  case round =>
    obtain ⟨k, rfl, hk, HO, rfl⟩ := hrel
    by_cases hkn : k < n
    · have hkl : k < ls.length := by rw [(unhide HH).len]; exact hkn
      obtain ⟨g, e1, l1, p0, -⟩ := (unhide HH).row.ix k hkl
      have hst := unhide HO
      rw [List.drop_eq_getElem_cons hkl] at hst
      generalize ls[k] = y at p0 hst
      subst e1
      have i0 : (0 : Int) ≤ (k : Int) := by omega
      have i1 : (k : Int) < (n : Int) := by omega
      clear HO
      by_cases hxy : y = x
      · subst hxy
        have HX := hide (show R = true from by rw [← hst]; simp)
        clear hst
        go_wp2_with fail
        go_ret
        exact ⟨by rw [unhide HX]; rfl, rfl⟩
      · have HX := hide (show decide (x ∈ ls.drop (k + 1)) = R from by rw [← hst]; exact decide_eq_decide.2 (by rw [List.mem_cons]; exact ⟨fun q => .inr q, fun q => q.resolve_left (fun q2 => hxy q2.symm)⟩))
        have hne : (y == x) = false := by rw [beq_eq_false_iff_ne]; exact hxy
        clear hst
        go_wp2_with fail
        go_roundw
        case rel => exact ⟨k + 1, by go_num, by omega, HX, trivial⟩
        case measure => simp [intOf]; omega
    · obtain rfl : k = n := by omega
      have hO := unhide HO
      rw [List.drop_of_length_le (by rw [(unhide HH).len]; exact Nat.le_refl _)] at hO
      have HX := hide (show R = false from by rw [← hO]; rfl)
      clear hO HO
      go_wp2_with fail
      go_ret
      exact ⟨by rw [unhide HX]; rfl, rfl⟩

theorem ints_quiet (a : Option Addr) (n c : Nat) (ls : List Int) (x : Int) (w : World) (q : Nat) (b : Bool) (h : IntsAt w a n ls) (hb : decide (x ∈ ls) = b) :
    Calls Tryd.prog 49 #[.slice a n c, .int .i64 x] (w.drewN q) fun e w'' => e = .returned (.bool b) ∧ ∃ m, w'' = w.drewN m := by
  subst hb
  refine (l1Ints_calls a n c ls x (w.drewN q) (h.below (belQ (Below.refl _ _) _))).mono ?_
  rintro e w2 ⟨rfl, rfl⟩
  exact ⟨rfl, q, rfl⟩

set_option maxRecDepth 10000 in
set_option maxHeartbeats 4000000 in
theorem l9Ids_calls (a : Option Addr) (n c : Nat) (ls : List Int) (m : Nat) (w : World) (h : IntsAt w a n ls) (hm : m ≤ 1000) :
    Calls Tryd.prog 48 #[.slice a n c, .int .i64 m] w fun e w' => e = .returned (.bool (decide (n ≤ m) && okIds 0 ls)) ∧ Below w.heap.size w w' := by
  have HH := hide h
  have hbn := h.bn
  have HD := hide (fun (W : World) (hW : Below w.heap.size w W) => h.below hW)
  clear h
  by_cases hnm : (m : Int) < (n : Int)
  · rw [decide_eq_false (show ¬ n ≤ m by omega)]
    go_enter Tryd.func48, Tryd.ntmps48
    go_wp2_with fail
    go_ret
    exact ⟨rfl, Below.refl _ _⟩
  rw [decide_eq_true (show n ≤ m by omega), Bool.true_and]
  obtain ⟨R, hR⟩ : ∃ R, okIds 0 ls = R := ⟨_, rfl⟩
  rw [hR]
  have HR := hide hR
  clear hR
  go_enter Tryd.func48, Tryd.ntmps48
  go_wp2_with fail
  go_loopw [5] (fun i wr => ∃ k : Nat, i = .int .i64 k ∧ k ≤ n ∧ Hid (0 ≤ prevZ ls k) ∧ Hid (okIds (prevZ ls k) (ls.drop k) = R) ∧ Hid (Below w.heap.size w wr)) (fun i _ => n - (intOf i).toNat)
  case atStart => exact ⟨0, rfl, by omega, hide (Int.le_refl 0), hide (unhide HR), hide (Below.refl _ _)⟩
  case round =>
    obtain ⟨k, rfl, hk, HP, HO, HB⟩ := hrel
    by_cases hkn : k < n
    · have hkl : k < ls.length := by rw [(unhide HH).len]; exact hkn
      obtain ⟨g, e1, l1, p0, -⟩ := (unhide HD _ (unhide HB)).row.ix k hkl
      have hst := okIds_step ls k hkl
      rw [unhide HO] at hst
      have hpn : prevZ ls (k + 1) = ls[k] := by rw [prevZ, List.getElem?_eq_getElem hkl]; rfl
      have hprev : ∀ j, k = j + 1 → ∃ pt, prevZ ls k = pt ∧ wr.cell? ⟨g, j, none⟩ = some (.int .i64 pt) := by
        intro j hj
        have hjl : j < ls.length := by omega
        obtain ⟨g', e', l', r0, -⟩ := (unhide HD _ (unhide HB)).row.ix j hjl
        rw [e1] at e'
        obtain rfl : g = g' := by simpa using e'
        exact ⟨ls[j], by rw [hj, prevZ, List.getElem?_eq_getElem hjl]; rfl, r0⟩
      generalize ls[k] = x at p0 hst hpn
      subst e1
      have i0 : (0 : Int) ≤ (k : Int) := by omega
      have i1 : (k : Int) < (n : Int) := by omega
      have HPN := hide hpn
      have HST := hide hst
      have HPR := hide hprev
      clear hst hpn hprev HO
      cases hi : (decide (1 ≤ x) && decide (x ≤ 50)) with
      | false =>
        have HX := hide (show R = false from by
          have hp := unhide HP
          have : (decide (prevZ ls k < x) && decide (x ≤ 50)) = false := by
            rw [Bool.eq_false_iff]
            intro hy
            simp at hy hi
            omega
          rw [unhide HST, this]
          rfl)
        have HI := hide hi
        clear HST hi HPR
        go_wp2_with fail
        go_quiet (first | (go_at_call 11; exact inI_quiet _ _ _ _ _ _ (unhide HI)))
        all_goals (try go_wp2_with fail)
        all_goals (try go_ret)
        all_goals exact ⟨by rw [unhide HX]; rfl, belQ (unhide HB) _⟩
      | true =>
        have HI := hide hi
        have hi2 : 1 ≤ x ∧ x ≤ 50 := by simpa using hi
        obtain ⟨hi3, hi4⟩ := hi2
        rcases Nat.eq_zero_or_pos k with hk0 | hk0
        · have HX := hide (show okIds (prevZ ls (k + 1)) (ls.drop (k + 1)) = R from by rw [unhide HST, hk0, decide_eq_true (show prevZ ls 0 < x from by show (0 : Int) < x; omega), decide_eq_true hi4]; rfl)
          have HP2 := hide (show 0 ≤ prevZ ls (k + 1) from by rw [unhide HPN]; omega)
          have hk1 : ¬ 0 < k := by omega
          clear HST hi HPR hk0
          go_wp2_with fail
          go_quiet (first | (go_at_call 11; exact inI_quiet _ _ _ _ _ _ (unhide HI)))
          all_goals (try go_wp2_with fail)
          all_goals exact ⟨⟨k + 1, by go_num, by omega, HP2, HX, hide (belQ (unhide HB) _)⟩, by simp [intOf]; omega⟩
        · obtain ⟨j, hkj⟩ : ∃ j, k = j + 1 := ⟨k - 1, by omega⟩
          obtain ⟨pt, hpt, u0⟩ := unhide HPR j hkj
          have j0 : (0 : Int) ≤ (j : Int) := by omega
          have j1 : (j : Int) < (n : Int) := by omega
          have jw : IntKind.i64.wrap ((k : Int) - 1) = (j : Int) := by rw [IntKind.wrap_i64]; omega
          have hk1 : 0 < k := by omega
          rw [hpt] at HST
          by_cases hpp : x ≤ pt
          · have HX := hide (show R = false from by rw [unhide HST, decide_eq_false (show ¬ pt < x by omega)]; rfl)
            clear HST hi HPR hpt hkj hk0
            go_wp2_with fail
            go_quiet (first | (go_at_call 11; exact inI_quiet _ _ _ _ _ _ (unhide HI)))
            all_goals (try go_wp2_with fail)
            all_goals (try go_ret)
            all_goals exact ⟨by rw [unhide HX]; rfl, belQ (unhide HB) _⟩
          · have HX := hide (show okIds (prevZ ls (k + 1)) (ls.drop (k + 1)) = R from by rw [unhide HST, decide_eq_true (show pt < x by omega), decide_eq_true hi4]; rfl)
            have HP2 := hide (show 0 ≤ prevZ ls (k + 1) from by rw [unhide HPN]; omega)
            clear HST hi HPR hpt hkj hk0
            go_wp2_with fail
            go_quiet (first | (go_at_call 11; exact inI_quiet _ _ _ _ _ _ (unhide HI)))
            all_goals (try go_wp2_with fail)
            all_goals exact ⟨⟨k + 1, by go_num, by omega, HP2, HX, hide (belQ (unhide HB) _)⟩, by simp [intOf]; omega⟩
    · obtain rfl : k = n := by omega
      have hO := unhide HO
      rw [List.drop_of_length_le (by rw [(unhide HH).len]; exact Nat.le_refl _)] at hO
      have HX := hide (show R = true from by rw [← hO]; rfl)
      clear hO HO
      go_wp2_with fail
      go_ret
      exact ⟨by rw [unhide HX]; rfl, unhide HB⟩

namespace Plain
theorem disj_step (v l : List Int) (k : Nat) (h : k < l.length) : disjB v (l.drop k) = (!decide (l[k] ∈ v) && disjB v (l.drop (k + 1))) := by
  unfold disjB
  rw [List.drop_eq_getElem_cons h, List.all_cons]
end Plain

set_option maxRecDepth 10000 in
set_option maxHeartbeats 4000000 in
theorem spec_ConfOk (av : Option Addr) (nv cv : Nat) (v : List Int) (al : Option Addr) (nl cl : Nat) (l : List Int) (w : World) (h : ConfAt w av nv v al nl l) :
    Calls Tryd.prog 32 #[.agg #[.slice av nv cv, .slice al nl cl]] w fun e w' => e = .returned (.bool (confB v l)) ∧ Below w.heap.size w w' := by
  obtain ⟨W0, hW0⟩ : ∃ W0, W0 = w.alloc (.cells #[.slice av nv cv, .slice al nl cl] 31) := ⟨_, rfl⟩
  have hb0 : Below w.heap.size w W0 := by rw [hW0]; exact bel1 _ _
  have hlt : w.heap.size < W0.heap.size := by rw [hW0]; simp
  have c0 : W0.cell? ⟨w.heap.size, 0, none⟩ = some (.slice av nv cv) := by rw [hW0]; simp [go_sem]
  have c1 : W0.cell? ⟨w.heap.size, 1, none⟩ = some (.slice al nl cl) := by rw [hW0]; simp [go_sem]
  have HC := hide (fun (W : World) (hW : Below W0.heap.size W0 W) => And.intro (bcl hW hlt c0) (bcl hW hlt c1))
  have HD := hide (fun (W : World) (hW : Below W0.heap.size W0 W) => h.below (belOn hb0 hW))
  have HFIN := hide (fun (W : World) (hW : Below W0.heap.size W0 W) => belOn hb0 hW)
  have HVI := hide (l9Ids_calls av nv cv v 7 W0 (h.below hb0).v (by decide))
  have HLI := hide (fun (W : World) (hW : Below W0.heap.size W0 W) => l9Ids_calls al nl cl l 7 W (h.below (belOn hb0 hW)).l (by decide))
  have hln := h.l.len
  have hvn := h.v.len
  have hbv := h.v.bn
  have hbl := h.l.bn
  have HW0 := hide hW0.symm
  clear hb0 hW0 hlt h
  obtain ⟨R, hR⟩ : ∃ R, confB v l = R := ⟨_, rfl⟩
  rw [hR]
  unfold confB at hR
  rw [hln, hvn] at hR
  by_cases h1 : (nv : Int) < 1
  · have HX := hide (show R = false from by rw [← hR, decide_eq_false (show ¬ 1 ≤ nv by omega)]; simp)
    clear hR hln hvn
    go_enter Tryd.func32, Tryd.ntmps32
    go_wp2_with fail
    rw [unhide HW0]
    go_ret
    exact ⟨by rw [unhide HX]; rfl, unhide HFIN _ (Below.refl _ _)⟩
  cases hv : (decide (nv ≤ 7) && okIds 0 v) with
  | false =>
    have HX := hide (show R = false from by
      rw [← hR]
      rcases Bool.and_eq_false_iff.1 hv with q | q <;> rw [q] <;> simp)
    rw [hv] at HVI
    clear hR hln hvn hv
    go_enter Tryd.func32, Tryd.ntmps32
    go_wp2_with fail
    rw [unhide HW0]
    refine (unhide HVI).mono ?_
    rintro e w1 ⟨rfl, hb1⟩
    have HB1 := hide (unhide HFIN _ hb1)
    clear hb1
    go_wp2_with fail
    go_ret
    exact ⟨by rw [unhide HX]; rfl, unhide HB1⟩
  | true =>
    rw [hv] at HVI
    rw [Bool.and_eq_true] at hv
    cases hl : (decide (nl ≤ 7) && okIds 0 l) with
    | false =>
      have HX := hide (show R = false from by
        rw [← hR]
        rcases Bool.and_eq_false_iff.1 hl with q | q <;> rw [q] <;> simp)
      rw [hl] at HLI
      clear hR hln hvn hl hv
      go_enter Tryd.func32, Tryd.ntmps32
      go_wp2_with fail
      rw [unhide HW0]
      refine (unhide HVI).mono ?_
      rintro e w1 ⟨rfl, hb1⟩
      obtain ⟨q0, q1⟩ := unhide HC _ hb1
      have HB1 := hide hb1
      clear hb1 c0 c1
      go_wp2_with fail
      refine (unhide HLI _ (unhide HB1)).mono ?_
      rintro e w2 ⟨rfl, hb2⟩
      have HB2 := hide (unhide HFIN _ (belOn (unhide HB1) hb2))
      clear hb2
      go_wp2_with fail
      go_ret
      exact ⟨by rw [unhide HX]; rfl, unhide HB2⟩
    | true =>
      rw [hl] at HLI
      rw [Bool.and_eq_true] at hl
      have HR := hide (show disjB v l = R from by rw [← hR, hv.1, hv.2, hl.1, hl.2, decide_eq_true (show 1 ≤ nv by omega)]; simp)
      have HLN := hide hln
      clear hR hln hvn hl hv
      go_enter Tryd.func32, Tryd.ntmps32
      go_wp2_with fail
      rw [unhide HW0]
      refine (unhide HVI).mono ?_
      rintro e w1 ⟨rfl, hb1⟩
      obtain ⟨q0, q1⟩ := unhide HC _ hb1
      have HB1 := hide hb1
      clear hb1 c0 c1
      go_wp2_with fail
      refine (unhide HLI _ (unhide HB1)).mono ?_
      rintro e w2 ⟨rfl, hb2⟩
      have HB2 := hide (belOn (unhide HB1) hb2)
      clear hb2 q0 q1
      go_wp2_with fail
      go_loopw [3] (fun i wr => ∃ k : Nat, i = .int .i64 k ∧ k ≤ nl ∧ Hid (disjB v (l.drop k) = R) ∧ Hid (Below W0.heap.size W0 wr)) (fun i _ => nl - (intOf i).toNat)
      case atStart => exact ⟨0, rfl, by omega, hide (unhide HR), HB2⟩
      case round =>
        clear HB2 HB1
        obtain ⟨k, rfl, hk, HO, HB⟩ := hrel
        obtain ⟨q0, q1⟩ := unhide HC _ (unhide HB)
        by_cases hkn : k < nl
        · have hkl : k < l.length := by rw [unhide HLN]; exact hkn
          obtain ⟨g, e1, l1, p0, -⟩ := (unhide HD _ (unhide HB)).l.row.ix k hkl
          have hst := disj_step v l k hkl
          rw [unhide HO] at hst
          generalize l[k] = x at p0 hst
          have HV := hide (unhide HD _ (unhide HB)).v
          subst e1
          have i0 : (0 : Int) ≤ (k : Int) := by omega
          have i1 : (k : Int) < (nl : Int) := by omega
          clear HO
          cases hx : decide (x ∈ v) with
          | true =>
            have HI := hide hx
            have HX := hide (show R = false from by rw [hst, hx]; rfl)
            clear hst hx
            go_wp2_with fail
            go_quiet (first | (go_at_call 49; exact ints_quiet _ _ _ _ _ _ _ _ (unhide HV) (unhide HI)))
            all_goals (try go_wp2_with fail)
            all_goals (try go_ret)
            all_goals exact ⟨by rw [unhide HX]; rfl, unhide HFIN _ (belQ (unhide HB) _)⟩
          | false =>
            have HI := hide hx
            have HX := hide (show disjB v (l.drop (k + 1)) = R from by rw [hst, hx]; rfl)
            clear hst hx
            go_wp2_with fail
            go_quiet (first | (go_at_call 49; exact ints_quiet _ _ _ _ _ _ _ _ (unhide HV) (unhide HI)))
            all_goals (try go_wp2_with fail)
            all_goals exact ⟨⟨k + 1, by go_num, by omega, HX, hide (belQ (unhide HB) _)⟩, by simp [intOf]; omega⟩
        · obtain rfl : k = nl := by omega
          have hO := unhide HO
          rw [List.drop_of_length_le (by rw [unhide HLN]; exact Nat.le_refl _)] at hO
          have HX := hide (show R = true from by rw [← hO]; rfl)
          clear hO HO
          go_wp2_with fail
          go_ret
          exact ⟨by rw [unhide HX]; rfl, unhide HFIN _ (unhide HB)⟩
end Go.Proofs.YtiakhgafibgpgaaDoor
