/- Texts of one kind, put together. -/
import Derived.Test.YtjiclgcohpkkjaaGreatDoorGzAI
import Derived.Shelf.Strings.Builder1
import Derived.Shelf.Strconv.Itoa4
import Derived.Test.YtjiclgcohpkkjaaGreatDoorProg

/- Members by the specification: right ones. -/
namespace Go.Proofs.YtjiclgcohpkkjaaGreatDoor
open Go.RowKit Plain
set_option linter.unusedVariables false

theorem inI_quiet (x lo hi : Int) (w : World) (n : Nat) (b : Bool) (hb : (decide (lo ≤ x) && decide (x ≤ hi)) = b) :
    Calls Tryz.prog 46 #[.int .i64 x, .int .i64 lo, .int .i64 hi] (w.drewN n) fun e w'' => e = .returned (.bool b) ∧ ∃ m, w'' = w.drewN m := by
  subst hb
  refine (l1In_calls x lo hi _).mono ?_
  rintro e w2 ⟨rfl, rfl⟩
  exact ⟨rfl, n, rfl⟩

set_option maxRecDepth 10000 in
set_option maxHeartbeats 1000000 in
theorem l1Ints_calls (a : Option Addr) (n c : Nat) (ls : List Int) (x : Int) (w : World) (h : IntsAt w a n ls) :
    Calls Tryz.prog 111 #[.slice a n c, .int .i64 x] w fun e w' => e = .returned (.bool (decide (x ∈ ls))) ∧ w = w' := by
  have HH := hide h
  have hbn := h.bn
  clear h
  obtain ⟨R, hR⟩ : ∃ R, decide (x ∈ ls) = R := ⟨_, rfl⟩
  rw [hR]
  have HR := hide hR
  clear hR
  obtain ⟨w0, rfl⟩ : ∃ w0, w0 = w := ⟨_, rfl⟩
  go_enter Tryz.func111, Tryz.ntmps111
  go_wp2_with fail
  go_loopw [5] (fun i wr => ∃ k : Nat, i = .int .i64 k ∧ k ≤ n ∧ Hid (decide (x ∈ ls.drop k) = R) ∧ wr = w0) (fun i _ => n - (intOf i).toNat)
  case atStart => exact ⟨0, rfl, by omega, hide (unhide HR), rfl⟩
  case round =>
    obtain ⟨k, rfl, hk, HO, rfl⟩ := hrel
    by_cases hkn : k < n
    · have hkl : k < ls.length := by rw [(unhide HH).len]; exact hkn
      obtain ⟨g, e1, l1, p0, -⟩ := (unhide HH).row.ix k hkl
      have hst := unhide HO
      rw [List.drop_eq_getElem_cons hkl] at hst
      generalize ls[k] = y at p0 hst
      subst e1
      have i0 : (0 : Int) ≤ (k : Int) := by omega
      have i1 : (k : Int) < (n : Int) := by omega
      clear HO
      by_cases hxy : y = x
      · subst hxy
        have HX := hide (show R = true from by rw [← hst]; simp)
        clear hst
        go_wp2_with fail
        go_ret
        exact ⟨by rw [unhide HX]; rfl, rfl⟩
      · have HX := hide (show decide (x ∈ ls.drop (k + 1)) = R from by rw [← hst]; exact decide_eq_decide.2 (by rw [List.mem_cons]; exact ⟨fun q => .inr q, fun q => q.resolve_left (fun q2 => hxy q2.symm)⟩))
        have hne : (y == x) = false := by rw [beq_eq_false_iff_ne]; exact hxy
        clear hst
        go_wp2_with fail
        go_roundw
        case rel => exact ⟨k + 1, by go_num, by omega, HX, trivial⟩
        case measure => simp [intOf]; omega
    · obtain rfl : k = n := by omega
      have hO := unhide HO
      rw [List.drop_of_length_le (by rw [(unhide HH).len]; exact Nat.le_refl _)] at hO
      have HX := hide (show R = false from by rw [← hO]; rfl)
      clear hO HO
      go_wp2_with fail
      go_ret
      exact ⟨by rw [unhide HX]; rfl, rfl⟩

theorem ints_quiet (a : Option Addr) (n c : Nat) (ls : List Int) (x : Int) (w : World) (q : Nat) (b : Bool) (h : IntsAt w a n ls) (hb : decide (x ∈ ls) = b) :
    Calls Tryz.prog 111 #[.slice a n c, .int .i64 x] (w.drewN q) fun e w'' => e = .returned (.bool b) ∧ ∃ m, w'' = w.drewN m := by
  subst hb
  refine (l1Ints_calls a n c ls x (w.drewN q) (h.below (belQ (Below.refl _ _) _))).mono ?_
  rintro e w2 ⟨rfl, rfl⟩
  exact ⟨rfl, q, rfl⟩

set_option maxRecDepth 10000 in
set_option maxHeartbeats 4000000 in
theorem l9Ids_calls (a : Option Addr) (n c : Nat) (ls : List Int) (m : Nat) (w : World) (h : IntsAt w a n ls) (hm : m ≤ 1000) :
    Calls Tryz.prog 110 #[.slice a n c, .int .i64 m] w fun e w' => e = .returned (.bool (decide (n ≤ m) && okIds 0 ls)) ∧ Below w.heap.size w w' := by
  have HH := hide h
  have hbn := h.bn
  have HD := hide (fun (W : World) (hW : Below w.heap.size w W) => h.below hW)
  clear h
  by_cases hnm : (m : Int) < (n : Int)
  · rw [decide_eq_false (show ¬ n ≤ m by omega)]
    go_enter Tryz.func110, Tryz.ntmps110
    go_wp2_with fail
    go_ret
    exact ⟨rfl, Below.refl _ _⟩
  rw [decide_eq_true (show n ≤ m by omega), Bool.true_and]
  obtain ⟨R, hR⟩ : ∃ R, okIds 0 ls = R := ⟨_, rfl⟩
  rw [hR]
  have HR := hide hR
  clear hR
  go_enter Tryz.func110, Tryz.ntmps110
  go_wp2_with fail
  go_loopw [5] (fun i wr => ∃ k : Nat, i = .int .i64 k ∧ k ≤ n ∧ Hid (0 ≤ prevZ ls k) ∧ Hid (okIds (prevZ ls k) (ls.drop k) = R) ∧ Hid (Below w.heap.size w wr)) (fun i _ => n - (intOf i).toNat)
  case atStart => exact ⟨0, rfl, by omega, hide (Int.le_refl 0), hide (unhide HR), hide (Below.refl _ _)⟩
  case round =>
    obtain ⟨k, rfl, hk, HP, HO, HB⟩ := hrel
    by_cases hkn : k < n
    · have hkl : k < ls.length := by rw [(unhide HH).len]; exact hkn
      obtain ⟨g, e1, l1, p0, -⟩ := (unhide HD _ (unhide HB)).row.ix k hkl
      have hst := okIds_step ls k hkl
      rw [unhide HO] at hst
      have hpn : prevZ ls (k + 1) = ls[k] := by rw [prevZ, List.getElem?_eq_getElem hkl]; rfl
      have hprev : ∀ j, k = j + 1 → ∃ pt, prevZ ls k = pt ∧ wr.cell? ⟨g, j, none⟩ = some (.int .i64 pt) := by
        intro j hj
        have hjl : j < ls.length := by omega
        obtain ⟨g', e', l', r0, -⟩ := (unhide HD _ (unhide HB)).row.ix j hjl
        rw [e1] at e'
        obtain rfl : g = g' := by simpa using e'
        exact ⟨ls[j], by rw [hj, prevZ, List.getElem?_eq_getElem hjl]; rfl, r0⟩
      generalize ls[k] = x at p0 hst hpn
      subst e1
      have i0 : (0 : Int) ≤ (k : Int) := by omega
      have i1 : (k : Int) < (n : Int) := by omega
      have HPN := hide hpn
      have HST := hide hst
      have HPR := hide hprev
      clear hst hpn hprev HO
      cases hi : (decide (1 ≤ x) && decide (x ≤ 50)) with
      | false =>
        have HX := hide (show R = false from by
          have hp := unhide HP
          have : (decide (prevZ ls k < x) && decide (x ≤ 50)) = false := by
            rw [Bool.eq_false_iff]
            intro hy
            simp at hy hi
            omega
          rw [unhide HST, this]
          rfl)
        have HI := hide hi
        clear HST hi HPR
        go_wp2_with fail
        go_quiet (first | (go_at_call 46; exact inI_quiet _ _ _ _ _ _ (unhide HI)))
        all_goals (try go_wp2_with fail)
        all_goals (try go_ret)
        all_goals exact ⟨by rw [unhide HX]; rfl, belQ (unhide HB) _⟩
      | true =>
        have HI := hide hi
        have hi2 : 1 ≤ x ∧ x ≤ 50 := by simpa using hi
        obtain ⟨hi3, hi4⟩ := hi2
        rcases Nat.eq_zero_or_pos k with hk0 | hk0
        · have HX := hide (show okIds (prevZ ls (k + 1)) (ls.drop (k + 1)) = R from by rw [unhide HST, hk0, decide_eq_true (show prevZ ls 0 < x from by show (0 : Int) < x; omega), decide_eq_true hi4]; rfl)
          have HP2 := hide (show 0 ≤ prevZ ls (k + 1) from by rw [unhide HPN]; omega)
          have hk1 : ¬ 0 < k := by omega
          clear HST hi HPR hk0
          go_wp2_with fail
          go_quiet (first | (go_at_call 46; exact inI_quiet _ _ _ _ _ _ (unhide HI)))
          all_goals (try go_wp2_with fail)
          all_goals exact ⟨⟨k + 1, by go_num, by omega, HP2, HX, hide (belQ (unhide HB) _)⟩, by simp [intOf]; omega⟩
        · obtain ⟨j, hkj⟩ : ∃ j, k = j + 1 := ⟨k - 1, by omega⟩
          obtain ⟨pt, hpt, u0⟩ := unhide HPR j hkj
          have j0 : (0 : Int) ≤ (j : Int) := by omega
          have j1 : (j : Int) < (n : Int) := by omega
          have jw : IntKind.i64.wrap ((k : Int) - 1) = (j : Int) := by rw [IntKind.wrap_i64]; omega
          have hk1 : 0 < k := by omega
          rw [hpt] at HST
          by_cases hpp : x ≤ pt
          · have HX := hide (show R = false from by rw [unhide HST, decide_eq_false (show ¬ pt < x by omega)]; rfl)
            clear HST hi HPR hpt hkj hk0
            go_wp2_with fail
            go_quiet (first | (go_at_call 46; exact inI_quiet _ _ _ _ _ _ (unhide HI)))
            all_goals (try go_wp2_with fail)
            all_goals (try go_ret)
            all_goals exact ⟨by rw [unhide HX]; rfl, belQ (unhide HB) _⟩
          · have HX := hide (show okIds (prevZ ls (k + 1)) (ls.drop (k + 1)) = R from by rw [unhide HST, decide_eq_true (show pt < x by omega), decide_eq_true hi4]; rfl)
            have HP2 := hide (show 0 ≤ prevZ ls (k + 1) from by rw [unhide HPN]; omega)
            clear HST hi HPR hpt hkj hk0
            go_wp2_with fail
            go_quiet (first | (go_at_call 46; exact inI_quiet _ _ _ _ _ _ (unhide HI)))
            all_goals (try go_wp2_with fail)
            all_goals exact ⟨⟨k + 1, by go_num, by omega, HP2, HX, hide (belQ (unhide HB) _)⟩, by simp [intOf]; omega⟩
    · obtain rfl : k = n := by omega
      have hO := unhide HO
      rw [List.drop_of_length_le (by rw [(unhide HH).len]; exact Nat.le_refl _)] at hO
      have HX := hide (show R = true from by rw [← hO]; rfl)
      clear hO HO
      go_wp2_with fail
      go_ret
      exact ⟨by rw [unhide HX]; rfl, unhide HB⟩

namespace Plain
theorem disj_step (v l : List Int) (k : Nat) (h : k < l.length) : disjB v (l.drop k) = (!decide (l[k] ∈ v) && disjB v (l.drop (k + 1))) := by
  unfold disjB
  rw [List.drop_eq_getElem_cons h, List.all_cons]
end Plain

set_option maxRecDepth 10000 in
set_option maxHeartbeats 4000000 in
theorem spec_ConfOk (av : Option Addr) (nv cv : Nat) (v : List Int) (al : Option Addr) (nl cl : Nat) (l : List Int) (w : World) (h : ConfAt w av nv v al nl l) :
    Calls Tryz.prog 84 #[.agg #[.slice av nv cv, .slice al nl cl]] w fun e w' => e = .returned (.bool (confB v l)) ∧ Below w.heap.size w w' := by
  obtain ⟨W0, hW0⟩ : ∃ W0, W0 = w.alloc (.cells #[.slice av nv cv, .slice al nl cl] 25) := ⟨_, rfl⟩
  have hb0 : Below w.heap.size w W0 := by rw [hW0]; exact bel1 _ _
  have hlt : w.heap.size < W0.heap.size := by rw [hW0]; simp
  have c0 : W0.cell? ⟨w.heap.size, 0, none⟩ = some (.slice av nv cv) := by rw [hW0]; simp [go_sem]
  have c1 : W0.cell? ⟨w.heap.size, 1, none⟩ = some (.slice al nl cl) := by rw [hW0]; simp [go_sem]
  have HC := hide (fun (W : World) (hW : Below W0.heap.size W0 W) => And.intro (bcl hW hlt c0) (bcl hW hlt c1))
  have HD := hide (fun (W : World) (hW : Below W0.heap.size W0 W) => h.below (belOn hb0 hW))
  have HFIN := hide (fun (W : World) (hW : Below W0.heap.size W0 W) => belOn hb0 hW)
  have HVI := hide (l9Ids_calls av nv cv v 7 W0 (h.below hb0).v (by decide))
  have HLI := hide (fun (W : World) (hW : Below W0.heap.size W0 W) => l9Ids_calls al nl cl l 7 W (h.below (belOn hb0 hW)).l (by decide))
  have hln := h.l.len
  have hvn := h.v.len
  have hbv := h.v.bn
  have hbl := h.l.bn
  have HW0 := hide hW0.symm
  clear hb0 hW0 hlt h
  obtain ⟨R, hR⟩ : ∃ R, confB v l = R := ⟨_, rfl⟩
  rw [hR]
  unfold confB at hR
  rw [hln, hvn] at hR
  by_cases h1 : (nv : Int) < 1
  · have HX := hide (show R = false from by rw [← hR, decide_eq_false (show ¬ 1 ≤ nv by omega)]; simp)
    clear hR hln hvn
    go_enter Tryz.func84, Tryz.ntmps84
    go_wp2_with fail
    rw [unhide HW0]
    go_ret
    exact ⟨by rw [unhide HX]; rfl, unhide HFIN _ (Below.refl _ _)⟩
  cases hv : (decide (nv ≤ 7) && okIds 0 v) with
  | false =>
    have HX := hide (show R = false from by
      rw [← hR]
      rcases Bool.and_eq_false_iff.1 hv with q | q <;> rw [q] <;> simp)
    rw [hv] at HVI
    clear hR hln hvn hv
    go_enter Tryz.func84, Tryz.ntmps84
    go_wp2_with fail
    rw [unhide HW0]
    refine (unhide HVI).mono ?_
    rintro e w1 ⟨rfl, hb1⟩
    have HB1 := hide (unhide HFIN _ hb1)
    clear hb1
    go_wp2_with fail
    go_ret
    exact ⟨by rw [unhide HX]; rfl, unhide HB1⟩
  | true =>
    rw [hv] at HVI
    rw [Bool.and_eq_true] at hv
    cases hl : (decide (nl ≤ 7) && okIds 0 l) with
    | false =>
      have HX := hide (show R = false from by
        rw [← hR]
        rcases Bool.and_eq_false_iff.1 hl with q | q <;> rw [q] <;> simp)
      rw [hl] at HLI
      clear hR hln hvn hl hv
      go_enter Tryz.func84, Tryz.ntmps84
      go_wp2_with fail
      rw [unhide HW0]
      refine (unhide HVI).mono ?_
      rintro e w1 ⟨rfl, hb1⟩
      obtain ⟨q0, q1⟩ := unhide HC _ hb1
      have HB1 := hide hb1
      clear hb1 c0 c1
      go_wp2_with fail
      refine (unhide HLI _ (unhide HB1)).mono ?_
      rintro e w2 ⟨rfl, hb2⟩
      have HB2 := hide (unhide HFIN _ (belOn (unhide HB1) hb2))
      clear hb2
      go_wp2_with fail
      go_ret
      exact ⟨by rw [unhide HX]; rfl, unhide HB2⟩
    | true =>
      rw [hl] at HLI
      rw [Bool.and_eq_true] at hl
      have HR := hide (show disjB v l = R from by rw [← hR, hv.1, hv.2, hl.1, hl.2, decide_eq_true (show 1 ≤ nv by omega)]; simp)
      have HLN := hide hln
      clear hR hln hvn hl hv
      go_enter Tryz.func84, Tryz.ntmps84
      go_wp2_with fail
      rw [unhide HW0]
      refine (unhide HVI).mono ?_
      rintro e w1 ⟨rfl, hb1⟩
      obtain ⟨q0, q1⟩ := unhide HC _ hb1
      have HB1 := hide hb1
      clear hb1 c0 c1
      go_wp2_with fail
      refine (unhide HLI _ (unhide HB1)).mono ?_
      rintro e w2 ⟨rfl, hb2⟩
      have HB2 := hide (belOn (unhide HB1) hb2)
      clear hb2 q0 q1
      go_wp2_with fail
      go_loopw [3] (fun i wr => ∃ k : Nat, i = .int .i64 k ∧ k ≤ nl ∧ Hid (disjB v (l.drop k) = R) ∧ Hid (Below W0.heap.size W0 wr)) (fun i _ => nl - (intOf i).toNat)
      case atStart => exact ⟨0, rfl, by omega, hide (unhide HR), HB2⟩
      case round =>
        clear HB2 HB1
        obtain ⟨k, rfl, hk, HO, HB⟩ := hrel
        obtain ⟨q0, q1⟩ := unhide HC _ (unhide HB)
        by_cases hkn : k < nl
        · have hkl : k < l.length := by rw [unhide HLN]; exact hkn
          obtain ⟨g, e1, l1, p0, -⟩ := (unhide HD _ (unhide HB)).l.row.ix k hkl
          have hst := disj_step v l k hkl
          rw [unhide HO] at hst
          generalize l[k] = x at p0 hst
          have HV := hide (unhide HD _ (unhide HB)).v
          subst e1
          have i0 : (0 : Int) ≤ (k : Int) := by omega
          have i1 : (k : Int) < (nl : Int) := by omega
          clear HO
          cases hx : decide (x ∈ v) with
          | true =>
            have HI := hide hx
            have HX := hide (show R = false from by rw [hst, hx]; rfl)
            clear hst hx
            go_wp2_with fail
            go_quiet (first | (go_at_call 111; exact ints_quiet _ _ _ _ _ _ _ _ (unhide HV) (unhide HI)))
            all_goals (try go_wp2_with fail)
            all_goals (try go_ret)
            all_goals exact ⟨by rw [unhide HX]; rfl, unhide HFIN _ (belQ (unhide HB) _)⟩
          | false =>
            have HI := hide hx
            have HX := hide (show disjB v (l.drop (k + 1)) = R from by rw [hst, hx]; rfl)
            clear hst hx
            go_wp2_with fail
            go_quiet (first | (go_at_call 111; exact ints_quiet _ _ _ _ _ _ _ _ (unhide HV) (unhide HI)))
            all_goals (try go_wp2_with fail)
            all_goals exact ⟨⟨k + 1, by go_num, by omega, HX, hide (belQ (unhide HB) _)⟩, by simp [intOf]; omega⟩
        · obtain rfl : k = nl := by omega
          have hO := unhide HO
          rw [List.drop_of_length_le (by rw [unhide HLN]; exact Nat.le_refl _)] at hO
          have HX := hide (show R = true from by rw [← hO]; rfl)
          clear hO HO
          go_wp2_with fail
          go_ret
          exact ⟨by rw [unhide HX]; rfl, unhide HFIN _ (unhide HB)⟩
end Go.Proofs.YtjiclgcohpkkjaaGreatDoor


/- Members by the specification: quorums, and whether two sets of quorums meet. -/
namespace Go.Proofs.YtjiclgcohpkkjaaGreatDoor
open Go.RowKit Plain
set_option linter.unusedVariables false

namespace Plain
theorem among_take (v ids : List Int) (k : Nat) (h : k < v.length) : among (v.take (k + 1)) ids = among (v.take k) ids + (decide (v[k] ∈ ids)).toNat := by
  unfold among
  rw [List.take_succ_eq_append_getElem h, List.filter_append, List.length_append]
  cases hd : decide (v[k] ∈ ids) <;> simp [hd] <;> simpa using hd
theorem among_zero (ids : List Int) : among [] ids = 0 := rfl
end Plain

set_option maxRecDepth 10000 in
set_option maxHeartbeats 4000000 in
theorem spec_Quorum (av : Option Addr) (nv cv : Nat) (v : List Int) (al : Option Addr) (nl cl : Nat) (l : List Int) (ai : Option Addr) (ni ci : Nat) (ids : List Int) (w : World) (h : ConfAt w av nv v al nl l) (hi : IntsAt w ai ni ids) :
    Calls Tryz.prog 117 #[.agg #[.slice av nv cv, .slice al nl cl], .slice ai ni ci] w fun e w' => e = .returned (.bool (quoB v l ids)) ∧ Below w.heap.size w w' := by
  obtain ⟨W0, hW0⟩ : ∃ W0, W0 = w.alloc (.cells #[.slice av nv cv, .slice al nl cl] 25) := ⟨_, rfl⟩
  have hb0 : Below w.heap.size w W0 := by rw [hW0]; exact bel1 _ _
  have hlt : w.heap.size < W0.heap.size := by rw [hW0]; simp
  have c0 : W0.cell? ⟨w.heap.size, 0, none⟩ = some (.slice av nv cv) := by rw [hW0]; simp [go_sem]
  have c1 : W0.cell? ⟨w.heap.size, 1, none⟩ = some (.slice al nl cl) := by rw [hW0]; simp [go_sem]
  have HC := hide (fun (W : World) (hW : Below W0.heap.size W0 W) => bcl hW hlt c0)
  have HD := hide (fun (W : World) (hW : Below W0.heap.size W0 W) => (h.below (belOn hb0 hW)).v)
  have HI := hide (fun (W : World) (hW : Below W0.heap.size W0 W) (x : Int) => l1Ints_calls ai ni ci ids x W (hi.below (belOn hb0 hW)))
  have HFIN := hide (fun (W : World) (hW : Below W0.heap.size W0 W) => belOn hb0 hW)
  have HOK := hide (spec_ConfOk av nv cv v al nl cl l W0 (h.below hb0))
  have hvn := h.v.len
  have hbv := h.v.bn
  have HW0 := hide hW0.symm
  clear hb0 hW0 hlt h hi
  cases hc : confB v l with
  | false =>
    have HX := hide (show quoB v l ids = false from by unfold quoB; rw [hc]; rfl)
    rw [hc] at HOK
    clear hc hvn
    go_enter Tryz.func117, Tryz.ntmps117
    go_wp2_with fail
    rw [unhide HW0]
    refine (unhide HOK).mono ?_
    rintro e w1 ⟨rfl, hb1⟩
    have HB1 := hide (unhide HFIN _ hb1)
    clear hb1
    go_wp2_with fail
    go_ret
    exact ⟨by rw [unhide HX]; rfl, unhide HB1⟩
  | true =>
    obtain ⟨-, -, h7⟩ := confB_v hc
    rw [hvn] at h7
    have HX := hide (show quoB v l ids = decide (nv < 2 * among v ids) from by unfold quoB; rw [hc, hvn]; rfl)
    rw [hc] at HOK
    have HVN := hide hvn
    clear hc hvn
    go_enter Tryz.func117, Tryz.ntmps117
    go_wp2_with fail
    rw [unhide HW0]
    refine (unhide HOK).mono ?_
    rintro e w1 ⟨rfl, hb1⟩
    have HB1 := hide hb1
    clear hb1 c0 c1
    go_wp2_with fail
    go_loopw [5, 6] (fun m i wr => ∃ k s : Nat, m = .int .i64 s ∧ i = .int .i64 k ∧ k ≤ nv ∧ s ≤ k ∧ Hid (s = among (v.take k) ids) ∧ Hid (Below W0.heap.size W0 wr)) (fun _ i _ => nv - (intOf i).toNat)
    case atStart => exact ⟨0, 0, rfl, rfl, by omega, by omega, hide rfl, HB1⟩
    case round =>
      clear HB1
      obtain ⟨k, s, rfl, rfl, hk, hs, HO, HB⟩ := hrel
      have q0 := unhide HC _ (unhide HB)
      by_cases hkn : k < nv
      · have hkl : k < v.length := by rw [unhide HVN]; exact hkn
        obtain ⟨g, e1, l1, p0, -⟩ := (unhide HD _ (unhide HB)).row.ix k hkl
        have hst := among_take v ids k hkl
        rw [← unhide HO] at hst
        generalize v[k] = x at p0 hst
        have HI2 := hide (unhide HI _ (unhide HB) x)
        subst e1
        have i0 : (0 : Int) ≤ (k : Int) := by omega
        have i1 : (k : Int) < (nv : Int) := by omega
        clear HO
        cases hx : decide (x ∈ ids) with
        | true =>
          rw [hx] at HI2 hst
          have HST := hide (show s + 1 = among (v.take (k + 1)) ids from hst.symm)
          clear hst hx
          go_wp2_with fail
          refine (unhide HI2).mono ?_
          rintro e w2 ⟨rfl, rfl⟩
          go_wp2_with fail
          go_roundw
          case rel => exact ⟨k + 1, s + 1, by go_num, by go_num, by omega, by omega, HST, HB⟩
          case measure => simp [intOf]; omega
        | false =>
          rw [hx] at HI2 hst
          have HST := hide (show s = among (v.take (k + 1)) ids from hst.symm)
          clear hst hx
          go_wp2_with fail
          refine (unhide HI2).mono ?_
          rintro e w2 ⟨rfl, rfl⟩
          go_wp2_with fail
          go_roundw
          case rel => exact ⟨k + 1, s, rfl, by go_num, by omega, by omega, HST, HB⟩
          case measure => simp [intOf]; omega
      · obtain rfl : k = nv := by omega
        have hO := unhide HO
        rw [List.take_of_length_le (by rw [unhide HVN]; exact Nat.le_refl _)] at hO
        have HF := hide ((unhide HX).trans (by rw [← hO]))
        have hm1 : IntKind.i64.wrap (2 * (s : Int)) = ((2 * s : Nat) : Int) := by rw [IntKind.wrap_i64]; omega
        have hm2 : wrap64 (2 * (s : Int)) = ((2 * s : Nat) : Int) := by unfold wrap64; omega
        obtain ⟨T, hT⟩ : ∃ T, 2 * s = T := ⟨_, rfl⟩
        rw [hT] at hm1 hm2 HF
        have hd := dec_lt k T
        clear hO HO hT
        go_wp2_with fail
        go_ret
        exact ⟨by rw [unhide HF]; simp, unhide HFIN _ (unhide HB)⟩

namespace Plain
/-- The specification's way to tell whether quorums meet. -/
theorem meet_way (na nb s : Nat) (ha : 1 ≤ na) (hb : 1 ≤ nb) (hs : s ≤ na) (X Y : Int) (hX : X = max 0 (((na / 2 + 1 : Nat) : Int) - ((na : Int) - (s : Int)))) (hY : Y = max 0 (((nb / 2 + 1 : Nat) : Int) - ((nb : Int) - (s : Int)))) :
    decide ((s : Int) < X + Y) = decide (na + nb - s < (na / 2 + 1) + (nb / 2 + 1)) := decide_eq_decide.2 (by omega)
theorem half_go (n : Nat) (h : n ≤ 1000) : IntKind.i64.wrap ((n : Int).tdiv 2 + 1) = ((n / 2 + 1 : Nat) : Int) := by rw [IntKind.wrap_i64, Int.tdiv_eq_ediv_of_nonneg (by omega)]; omega
theorem half_go2 (n : Nat) (h : n ≤ 1000) : IntKind.i64.wrap ((n : Int) / 2 + 1) = ((n / 2 + 1 : Nat) : Int) := by rw [IntKind.wrap_i64]; omega
theorem sub_go (a b : Int) (ha : -1000 ≤ a) (ha2 : a ≤ 1000) (hb : -1000 ≤ b) (hb2 : b ≤ 1000) : IntKind.i64.wrap (a - b) = a - b := by rw [IntKind.wrap_i64]; omega
theorem add_go (a b : Int) (ha : -1000 ≤ a) (ha2 : a ≤ 1000) (hb : -1000 ≤ b) (hb2 : b ≤ 1000) : IntKind.i64.wrap (a + b) = a + b := by rw [IntKind.wrap_i64]; omega
end Plain

end Go.Proofs.YtjiclgcohpkkjaaGreatDoor

/- The library's strings.Builder and FormatInt, laid at this program: where its functions and types lie. -/
namespace Go.Proofs
open Go.Shelf
def Tryz.lays169_ren : Go.Shelf.Ren := ⟨fun | 169 => 45 | n => n, fun | 70 => 76 | 9 => 9 | 0 => 0 | 72 => 78 | 37 => 33 | 127 => 139 | 3 => 3 | 5 => 5 | n => n, fun | n => n⟩
theorem Tryz.lays169 : Go.Proofs.Lays.n169 Tryz.prog Tryz.lays169_ren := {
  mixed := by kernel_rfl
  f169 := Tryz.func45.trans (congrArg some (by kernel_rfl))
  t0 := Tryz.underlying0
  a0 := Tryz.isAgg0
  z0 := Tryz.sizeOf0
  v0 := Tryz.zeroValue0
  t3 := Tryz.underlying3
  a3 := Tryz.isAgg3
  z3 := Tryz.sizeOf3
  v3 := Tryz.zeroValue3
  t9 := Tryz.underlying9
  a9 := Tryz.isAgg9
  z9 := Tryz.sizeOf9
  v9 := Tryz.zeroValue9
  t37 := Tryz.underlying33
  a37 := Tryz.isAgg33
  z37 := Tryz.sizeOf33
  v37 := Tryz.zeroValue33
  t70 := Tryz.underlying76
  a70 := Tryz.isAgg76
  z70 := Tryz.sizeOf76
  v70 := Tryz.zeroValue76
  t72 := Tryz.underlying78
  a72 := Tryz.isAgg78
  z72 := Tryz.sizeOf78
  v72 := Tryz.zeroValue78
  t127 := Tryz.underlying139
  a127 := Tryz.isAgg139
  z127 := Tryz.sizeOf139
  v127 := Tryz.zeroValue139 }
def Tryz.lays173_ren : Go.Shelf.Ren := ⟨fun | 173 => 107 | 246 => 140 | 283 => 170 | 284 => 171 | 285 => 172 | 286 => 173 | 129 => 187 | 317 => 186 | 318 => 188 | 319 => 189 | 320 => 190 | 337 => 193 | 338 => 194 | n => n, fun | 2 => 2 | 3 => 3 | 9 => 9 | 4 => 4 | 171 => 222 | 0 => 0 | 53 => 152 | 37 => 33 | 5 => 5 | 173 => 225 | 212 => 234 | 51 => 146 | 20 => 20 | 213 => 235 | 46 => 188 | 232 => 244 | 233 => 245 | n => n, fun | 17 => 3 | 18 => 6 | 19 => 7 | n => n⟩
theorem Tryz.lays173 : Go.Proofs.Lays.n173 Tryz.prog Tryz.lays173_ren := {
  mixed := by kernel_rfl
  f129 := Tryz.func187.trans (congrArg some (by kernel_rfl))
  f173 := Tryz.func107.trans (congrArg some (by kernel_rfl))
  f246 := Tryz.func140.trans (congrArg some (by kernel_rfl))
  f283 := Tryz.func170.trans (congrArg some (by kernel_rfl))
  f284 := Tryz.func171.trans (congrArg some (by kernel_rfl))
  f285 := Tryz.func172.trans (congrArg some (by kernel_rfl))
  f286 := Tryz.func173.trans (congrArg some (by kernel_rfl))
  f317 := Tryz.func186.trans (congrArg some (by kernel_rfl))
  f318 := Tryz.func188.trans (congrArg some (by kernel_rfl))
  f319 := Tryz.func189.trans (congrArg some (by kernel_rfl))
  f320 := Tryz.func190.trans (congrArg some (by kernel_rfl))
  f337 := Tryz.func193.trans (congrArg some (by kernel_rfl))
  f338 := Tryz.func194.trans (congrArg some (by kernel_rfl))
  t0 := Tryz.underlying0
  a0 := Tryz.isAgg0
  z0 := Tryz.sizeOf0
  v0 := Tryz.zeroValue0
  t2 := Tryz.underlying2
  a2 := Tryz.isAgg2
  z2 := Tryz.sizeOf2
  v2 := Tryz.zeroValue2
  t3 := Tryz.underlying3
  a3 := Tryz.isAgg3
  z3 := Tryz.sizeOf3
  v3 := Tryz.zeroValue3
  t4 := Tryz.underlying4
  a4 := Tryz.isAgg4
  z4 := Tryz.sizeOf4
  v4 := Tryz.zeroValue4
  t5 := Tryz.underlying5
  a5 := Tryz.isAgg5
  z5 := Tryz.sizeOf5
  v5 := Tryz.zeroValue5
  t9 := Tryz.underlying9
  a9 := Tryz.isAgg9
  z9 := Tryz.sizeOf9
  v9 := Tryz.zeroValue9
  t20 := Tryz.underlying20
  a20 := Tryz.isAgg20
  z20 := Tryz.sizeOf20
  v20 := Tryz.zeroValue20
  t37 := Tryz.underlying33
  a37 := Tryz.isAgg33
  z37 := Tryz.sizeOf33
  v37 := Tryz.zeroValue33
  t46 := Tryz.underlying188
  a46 := Tryz.isAgg188
  z46 := Tryz.sizeOf188
  v46 := Tryz.zeroValue188
  t51 := Tryz.underlying146
  a51 := Tryz.isAgg146
  z51 := Tryz.sizeOf146
  v51 := Tryz.zeroValue146
  t53 := Tryz.underlying152
  a53 := Tryz.isAgg152
  z53 := Tryz.sizeOf152
  v53 := Tryz.zeroValue152
  t171 := Tryz.underlying222
  a171 := Tryz.isAgg222
  z171 := Tryz.sizeOf222
  v171 := Tryz.zeroValue222
  t173 := Tryz.underlying225
  a173 := Tryz.isAgg225
  z173 := Tryz.sizeOf225
  v173 := Tryz.zeroValue225
  t212 := Tryz.underlying234
  a212 := Tryz.isAgg234
  z212 := Tryz.sizeOf234
  v212 := Tryz.zeroValue234
  t213 := Tryz.underlying235
  a213 := Tryz.isAgg235
  z213 := Tryz.sizeOf235
  t232 := Tryz.underlying244
  a232 := Tryz.isAgg244
  z232 := Tryz.sizeOf244
  v232 := Tryz.zeroValue244
  t233 := Tryz.underlying245
  a233 := Tryz.isAgg245
  z233 := Tryz.sizeOf245
  v233 := Tryz.zeroValue245
  g17 := by kernel_rfl
  g18 := by kernel_rfl
  g19 := by kernel_rfl }
end Go.Proofs

