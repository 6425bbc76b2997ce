/- Texts of one kind, put together. -/
import Derived.Test.YtmicacoegkmklaaGreatDoorRzB
import Derived.Deep.RegionWith
import Derived.Deep.QuietTactic
import Derived.BigQuiet

/- Members by the program: when they are right. -/
namespace Go.Proofs.YtmicacoegkmklaaGreatDoor
open Go.RowKit Plain
set_option linter.unusedVariables false



namespace Plain
def preB (v l : List Int) : Bool := (okIds 0 v && okIds 0 l) && (decide (1 ≤ v.length) && disjB v l)
def councV (v l : List Int) : Value := if preB v l = true then .tuple #[.agg #[.int .u64 (setN v : Nat), .int .u64 (setN l : Nat)], .bool (decide (v.length ≤ 7) && decide (l.length ≤ 7))] else .tuple #[.agg #[.int .u64 0, .int .u64 0], .bool false]
theorem councV_no {v l : List Int} (h : preB v l = false) : councV v l = .tuple #[.agg #[.int .u64 0, .int .u64 0], .bool false] := by unfold councV; rw [h]; rfl
theorem councV_yes {v l : List Int} (h : preB v l = true) : councV v l = .tuple #[.agg #[.int .u64 (setN v : Nat), .int .u64 (setN l : Nat)], .bool (decide (v.length ≤ 7) && decide (l.length ≤ 7))] := by unfold councV; rw [if_pos h]
theorem confB_pre (v l : List Int) : confB v l = (preB v l && (decide (v.length ≤ 7) && decide (l.length ≤ 7))) := by unfold confB preB; simp only [Bool.and_assoc]
/-- What is told of members: their sets, where they are right. -/
theorem councV_is (v l : List Int) : ∃ V L : Nat, councV v l = .tuple #[.agg #[.int .u64 V, .int .u64 L], .bool (confB v l)] ∧ (confB v l = true → V = setN v ∧ L = setN l) := by
  rw [confB_pre]
  cases h : preB v l with
  | false => exact ⟨0, 0, councV_no h, fun h => by simp at h⟩
  | true => exact ⟨setN v, setN l, councV_yes h, fun _ => ⟨rfl, rfl⟩⟩
/-- Members in memory. -/
structure ConfAt (W : World) (av : Option Addr) (nv : Nat) (v : List Int) (al : Option Addr) (nl : Nat) (l : List Int) : Prop where
  v : IntsAt W av nv v
  l : IntsAt W al nl l
theorem ConfAt.below {W W' : World} {av : Option Addr} {nv : Nat} {v : List Int} {al : Option Addr} {nl : Nat} {l : List Int} (h : ConfAt W av nv v al nl l) (hb : Below W.heap.size W W') : ConfAt W' av nv v al nl l := ⟨h.v.below hb, h.l.below hb⟩
end Plain

end Go.Proofs.YtmicacoegkmklaaGreatDoor

/- Members by the program: right ones, quorums, whether two sets of quorums meet. -/
namespace Go.Proofs.YtmicacoegkmklaaGreatDoor
open Go.RowKit Plain
set_option linter.unusedVariables false

namespace Plain
theorem dec_lt (a b : Nat) : decide ((a : Int) < (b : Int)) = decide (a < b) := decide_eq_decide.2 (by omega)
theorem dec_le (a b : Nat) : decide ((a : Int) ≤ (b : Int)) = decide (a ≤ b) := decide_eq_decide.2 (by omega)
theorem maj_le {x m : Nat} (h : popN 64 x / 2 + 1 = m) : m ≤ 1000 := by
  have := popN_le 64 x
  generalize popN 64 x = a at *
  omega
theorem add_small (a b : Nat) (ha : a ≤ 1000) (hb : b ≤ 1000) : wrap64 ((a : Int) + (b : Int)) = ((a + b : Nat) : Int) := by unfold wrap64; omega
theorem add_small2 (a b : Nat) (ha : a ≤ 1000) (hb : b ≤ 1000) : IntKind.i64.wrap ((a : Int) + (b : Int)) = ((a + b : Nat) : Int) := by rw [IntKind.wrap_i64]; omega
end Plain



set_option maxRecDepth 10000 in
set_option maxHeartbeats 2000000 in
theorem setOf_calls (a : Option Addr) (n c : Nat) (ls : List Int) (w : World) (h : IntsAt w a n ls) :
    Calls Tryz.prog 47 #[.slice a n c] w fun e w' => e = .returned (.int .u64 (setN ls : Nat)) ∧ w = w' := by
  have HH := hide h
  have hbn := h.bn
  clear h
  obtain ⟨w0, rfl⟩ : ∃ w0, w0 = w := ⟨_, rfl⟩
  go_enter Tryz.func47, Tryz.ntmps47
  go_wp2_with fail
  go_loopw [3, 8] (fun s i wr => ∃ k : Nat, i = .int .i64 k ∧ s = .int .u64 (setN (ls.take k) : Nat) ∧ k ≤ n ∧ wr = w0) (fun _ i _ => n - (intOf i).toNat)
  case atStart => exact ⟨0, rfl, rfl, by omega, rfl⟩
  case round =>
    obtain ⟨k, rfl, rfl, hk, rfl⟩ := hrel
    by_cases hkn : k < n
    · have hkl : k < ls.length := by rw [(unhide HH).len]; exact hkn
      obtain ⟨g, e1, l1, p0, -⟩ := (unhide HH).row.ix k hkl
      have hsn := setN_take ls k hkl
      have hlt := setN_lt (ls.take k)
      generalize ls[k] = x at p0 hsn
      subst e1
      have i0 : (0 : Int) ≤ (k : Int) := by omega
      have i1 : (k : Int) < (n : Int) := by omega
      generalize setN (ls.take k) = S at hlt hsn
      cases hn : (decide (1 ≤ x) && decide (x ≤ 50)) with
      | false =>
        have HN := hide hn
        rw [if_neg (fun hy => by simp at hn; omega)] at hsn
        have HSN := hide hsn
        clear hn hsn
        go_wp2_with fail
        refine (nodeId_calls x _).mono ?_
        rintro e w1 ⟨rfl, rfl⟩
        rw [unhide HN]
        go_wp2_with fail
        go_roundw
        case rel => exact ⟨k + 1, by go_num, by rw [unhide HSN], by omega, trivial⟩
        case measure => simp [intOf]; omega
      | true =>
        have HN := hide hn
        have hn2 : 1 ≤ x ∧ x ≤ 50 := by simpa using hn
        rw [if_pos hn2] at hsn
        obtain ⟨n1, n2⟩ := hn2
        obtain ⟨X, rfl⟩ := Int.eq_ofNat_of_zero_le (show 0 ≤ x by omega)
        rw [Int.toNat_natCast] at hsn
        have hX : X ≤ 63 := by omega
        have hon := only_calls X wr hX
        have hpl : 2 ^ X ≤ 1125899906842624 := Nat.pow_le_pow_right (show 0 < 2 by decide) (show X ≤ 50 by omega)
        have hor : bits .or .u64 (S : Int) ((2 ^ X : Nat) : Int) = ((S ||| 2 ^ X : Nat) : Int) := u64_or_nat _ _ (by omega) (by omega)
        generalize 2 ^ X = P at hon hpl hsn hor
        rw [← hsn] at hor
        have HSN := hide hsn
        have HON := hide hon
        clear hon hn hsn
        generalize hS3 : setN (ls.take (k + 1)) = S2 at HSN hor
        have HS3 := hide hS3
        clear hS3
        go_wp2_with fail
        refine (nodeId_calls _ _).mono ?_
        rintro e w1 ⟨rfl, rfl⟩
        rw [unhide HN]
        go_wp2_with fail
        refine (unhide HON).mono ?_
        rintro e w1 ⟨rfl, rfl⟩
        go_wp2_with fail
        go_roundw
        case rel => exact ⟨k + 1, by go_num, by rw [unhide HS3], by omega, trivial⟩
        case measure => simp [intOf]; omega
    · obtain rfl : k = n := by omega
      have HL := hide (show ls.take k = ls from List.take_of_length_le (by rw [(unhide HH).len]; exact Nat.le_refl _))
      rw [unhide HL]
      go_wp2_with fail
      go_ret
      exact ⟨rfl, rfl⟩





namespace Plain
/-- How many of v are among ids. -/
def among (v ids : List Int) : Nat := (v.filter fun x => decide (x ∈ ids)).length
def quoB (v l ids : List Int) : Bool := confB v l && decide (v.length < 2 * among v ids)
theorem confB_v {v l : List Int} (h : confB v l = true) : okIds 0 v = true ∧ 1 ≤ v.length ∧ v.length ≤ 7 := by
  unfold confB at h
  simp only [Bool.and_eq_true, decide_eq_true_iff] at h
  exact ⟨h.1.1, h.2.1.1, h.2.2.1⟩
theorem among_le (v ids : List Int) : among v ids ≤ v.length := List.length_filter_le _ _
end Plain



namespace Plain
def meetB (v l u k : List Int) : Bool := (confB v l && confB u k) && decide (v.length + u.length - among v u < (v.length / 2 + 1) + (u.length / 2 + 1))
end Plain

end Go.Proofs.YtmicacoegkmklaaGreatDoor

/- Members by the specification: right ones. -/
namespace Go.Proofs.YtmicacoegkmklaaGreatDoor
open Go.RowKit Plain
set_option linter.unusedVariables false

theorem inI_quiet (x lo hi : Int) (w : World) (n : Nat) (b : Bool) (hb : (decide (lo ≤ x) && decide (x ≤ hi)) = b) :
    Calls Tryz.prog 40 #[.int .i64 x, .int .i64 lo, .int .i64 hi] (w.drewN n) fun e w'' => e = .returned (.bool b) ∧ ∃ m, w'' = w.drewN m := by
  subst hb
  refine (l1In_calls x lo hi _).mono ?_
  rintro e w2 ⟨rfl, rfl⟩
  exact ⟨rfl, n, rfl⟩

set_option maxRecDepth 10000 in
set_option maxHeartbeats 1000000 in
theorem l1Ints_calls (a : Option Addr) (n c : Nat) (ls : List Int) (x : Int) (w : World) (h : IntsAt w a n ls) :
    Calls Tryz.prog 35 #[.slice a n c, .int .i64 x] w fun e w' => e = .returned (.bool (decide (x ∈ ls))) ∧ w = w' := by
  have HH := hide h
  have hbn := h.bn
  clear h
  obtain ⟨R, hR⟩ : ∃ R, decide (x ∈ ls) = R := ⟨_, rfl⟩
  rw [hR]
  have HR := hide hR
  clear hR
  obtain ⟨w0, rfl⟩ : ∃ w0, w0 = w := ⟨_, rfl⟩
  go_enter Tryz.func35, Tryz.ntmps35
  go_wp2_with fail
  go_loopw [5] (fun i wr => ∃ k : Nat, i = .int .i64 k ∧ k ≤ n ∧ Hid (decide (x ∈ ls.drop k) = R) ∧ wr = w0) (fun i _ => n - (intOf i).toNat)
  case atStart => exact ⟨0, rfl, by omega, hide (unhide HR), rfl⟩
  case round =>
    obtain ⟨k, rfl, hk, HO, rfl⟩ := hrel
    by_cases hkn : k < n
    · have hkl : k < ls.length := by rw [(unhide HH).len]; exact hkn
      obtain ⟨g, e1, l1, p0, -⟩ := (unhide HH).row.ix k hkl
      have hst := unhide HO
      rw [List.drop_eq_getElem_cons hkl] at hst
      generalize ls[k] = y at p0 hst
      subst e1
      have i0 : (0 : Int) ≤ (k : Int) := by omega
      have i1 : (k : Int) < (n : Int) := by omega
      clear HO
      by_cases hxy : y = x
      · subst hxy
        have HX := hide (show R = true from by rw [← hst]; simp)
        clear hst
        go_wp2_with fail
        go_ret
        exact ⟨by rw [unhide HX]; rfl, rfl⟩
      · have HX := hide (show decide (x ∈ ls.drop (k + 1)) = R from by rw [← hst]; exact decide_eq_decide.2 (by rw [List.mem_cons]; exact ⟨fun q => .inr q, fun q => q.resolve_left (fun q2 => hxy q2.symm)⟩))
        have hne : (y == x) = false := by rw [beq_eq_false_iff_ne]; exact hxy
        clear hst
        go_wp2_with fail
        go_roundw
        case rel => exact ⟨k + 1, by go_num, by omega, HX, trivial⟩
        case measure => simp [intOf]; omega
    · obtain rfl : k = n := by omega
      have hO := unhide HO
      rw [List.drop_of_length_le (by rw [(unhide HH).len]; exact Nat.le_refl _)] at hO
      have HX := hide (show R = false from by rw [← hO]; rfl)
      clear hO HO
      go_wp2_with fail
      go_ret
      exact ⟨by rw [unhide HX]; rfl, rfl⟩

theorem ints_quiet (a : Option Addr) (n c : Nat) (ls : List Int) (x : Int) (w : World) (q : Nat) (b : Bool) (h : IntsAt w a n ls) (hb : decide (x ∈ ls) = b) :
    Calls Tryz.prog 35 #[.slice a n c, .int .i64 x] (w.drewN q) fun e w'' => e = .returned (.bool b) ∧ ∃ m, w'' = w.drewN m := by
  subst hb
  refine (l1Ints_calls a n c ls x (w.drewN q) (h.below (belQ (Below.refl _ _) _))).mono ?_
  rintro e w2 ⟨rfl, rfl⟩
  exact ⟨rfl, q, rfl⟩

set_option maxRecDepth 10000 in
set_option maxHeartbeats 4000000 in
theorem l9Ids_calls (a : Option Addr) (n c : Nat) (ls : List Int) (m : Nat) (w : World) (h : IntsAt w a n ls) (hm : m ≤ 1000) :
    Calls Tryz.prog 39 #[.slice a n c, .int .i64 m] w fun e w' => e = .returned (.bool (decide (n ≤ m) && okIds 0 ls)) ∧ Below w.heap.size w w' := by
  have HH := hide h
  have hbn := h.bn
  have HD := hide (fun (W : World) (hW : Below w.heap.size w W) => h.below hW)
  clear h
  by_cases hnm : (m : Int) < (n : Int)
  · rw [decide_eq_false (show ¬ n ≤ m by omega)]
    go_enter Tryz.func39, Tryz.ntmps39
    go_wp2_with fail
    go_ret
    exact ⟨rfl, Below.refl _ _⟩
  rw [decide_eq_true (show n ≤ m by omega), Bool.true_and]
  obtain ⟨R, hR⟩ : ∃ R, okIds 0 ls = R := ⟨_, rfl⟩
  rw [hR]
  have HR := hide hR
  clear hR
  go_enter Tryz.func39, Tryz.ntmps39
  go_wp2_with fail
  go_loopw [5] (fun i wr => ∃ k : Nat, i = .int .i64 k ∧ k ≤ n ∧ Hid (0 ≤ prevZ ls k) ∧ Hid (okIds (prevZ ls k) (ls.drop k) = R) ∧ Hid (Below w.heap.size w wr)) (fun i _ => n - (intOf i).toNat)
  case atStart => exact ⟨0, rfl, by omega, hide (Int.le_refl 0), hide (unhide HR), hide (Below.refl _ _)⟩
  case round =>
    obtain ⟨k, rfl, hk, HP, HO, HB⟩ := hrel
    by_cases hkn : k < n
    · have hkl : k < ls.length := by rw [(unhide HH).len]; exact hkn
      obtain ⟨g, e1, l1, p0, -⟩ := (unhide HD _ (unhide HB)).row.ix k hkl
      have hst := okIds_step ls k hkl
      rw [unhide HO] at hst
      have hpn : prevZ ls (k + 1) = ls[k] := by rw [prevZ, List.getElem?_eq_getElem hkl]; rfl
      have hprev : ∀ j, k = j + 1 → ∃ pt, prevZ ls k = pt ∧ wr.cell? ⟨g, j, none⟩ = some (.int .i64 pt) := by
        intro j hj
        have hjl : j < ls.length := by omega
        obtain ⟨g', e', l', r0, -⟩ := (unhide HD _ (unhide HB)).row.ix j hjl
        rw [e1] at e'
        obtain rfl : g = g' := by simpa using e'
        exact ⟨ls[j], by rw [hj, prevZ, List.getElem?_eq_getElem hjl]; rfl, r0⟩
      generalize ls[k] = x at p0 hst hpn
      subst e1
      have i0 : (0 : Int) ≤ (k : Int) := by omega
      have i1 : (k : Int) < (n : Int) := by omega
      have HPN := hide hpn
      have HST := hide hst
      have HPR := hide hprev
      clear hst hpn hprev HO
      cases hi : (decide (1 ≤ x) && decide (x ≤ 50)) with
      | false =>
        have HX := hide (show R = false from by
          have hp := unhide HP
          have : (decide (prevZ ls k < x) && decide (x ≤ 50)) = false := by
            rw [Bool.eq_false_iff]
            intro hy
            simp at hy hi
            omega
          rw [unhide HST, this]
          rfl)
        have HI := hide hi
        clear HST hi HPR
        go_wp2_with fail
        go_quiet (first | (go_at_call 40; exact inI_quiet _ _ _ _ _ _ (unhide HI)))
        all_goals (try go_wp2_with fail)
        all_goals (try go_ret)
        all_goals exact ⟨by rw [unhide HX]; rfl, belQ (unhide HB) _⟩
      | true =>
        have HI := hide hi
        have hi2 : 1 ≤ x ∧ x ≤ 50 := by simpa using hi
        obtain ⟨hi3, hi4⟩ := hi2
        rcases Nat.eq_zero_or_pos k with hk0 | hk0
        · have HX := hide (show okIds (prevZ ls (k + 1)) (ls.drop (k + 1)) = R from by rw [unhide HST, hk0, decide_eq_true (show prevZ ls 0 < x from by show (0 : Int) < x; omega), decide_eq_true hi4]; rfl)
          have HP2 := hide (show 0 ≤ prevZ ls (k + 1) from by rw [unhide HPN]; omega)
          have hk1 : ¬ 0 < k := by omega
          clear HST hi HPR hk0
          go_wp2_with fail
          go_quiet (first | (go_at_call 40; exact inI_quiet _ _ _ _ _ _ (unhide HI)))
          all_goals (try go_wp2_with fail)
          all_goals exact ⟨⟨k + 1, by go_num, by omega, HP2, HX, hide (belQ (unhide HB) _)⟩, by simp [intOf]; omega⟩
        · obtain ⟨j, hkj⟩ : ∃ j, k = j + 1 := ⟨k - 1, by omega⟩
          obtain ⟨pt, hpt, u0⟩ := unhide HPR j hkj
          have j0 : (0 : Int) ≤ (j : Int) := by omega
          have j1 : (j : Int) < (n : Int) := by omega
          have jw : IntKind.i64.wrap ((k : Int) - 1) = (j : Int) := by rw [IntKind.wrap_i64]; omega
          have hk1 : 0 < k := by omega
          rw [hpt] at HST
          by_cases hpp : x ≤ pt
          · have HX := hide (show R = false from by rw [unhide HST, decide_eq_false (show ¬ pt < x by omega)]; rfl)
            clear HST hi HPR hpt hkj hk0
            go_wp2_with fail
            go_quiet (first | (go_at_call 40; exact inI_quiet _ _ _ _ _ _ (unhide HI)))
            all_goals (try go_wp2_with fail)
            all_goals (try go_ret)
            all_goals exact ⟨by rw [unhide HX]; rfl, belQ (unhide HB) _⟩
          · have HX := hide (show okIds (prevZ ls (k + 1)) (ls.drop (k + 1)) = R from by rw [unhide HST, decide_eq_true (show pt < x by omega), decide_eq_true hi4]; rfl)
            have HP2 := hide (show 0 ≤ prevZ ls (k + 1) from by rw [unhide HPN]; omega)
            clear HST hi HPR hpt hkj hk0
            go_wp2_with fail
            go_quiet (first | (go_at_call 40; exact inI_quiet _ _ _ _ _ _ (unhide HI)))
            all_goals (try go_wp2_with fail)
            all_goals exact ⟨⟨k + 1, by go_num, by omega, HP2, HX, hide (belQ (unhide HB) _)⟩, by simp [intOf]; omega⟩
    · obtain rfl : k = n := by omega
      have hO := unhide HO
      rw [List.drop_of_length_le (by rw [(unhide HH).len]; exact Nat.le_refl _)] at hO
      have HX := hide (show R = true from by rw [← hO]; rfl)
      clear hO HO
      go_wp2_with fail
      go_ret
      exact ⟨by rw [unhide HX]; rfl, unhide HB⟩

namespace Plain
theorem disj_step (v l : List Int) (k : Nat) (h : k < l.length) : disjB v (l.drop k) = (!decide (l[k] ∈ v) && disjB v (l.drop (k + 1))) := by
  unfold disjB
  rw [List.drop_eq_getElem_cons h, List.all_cons]
end Plain

end Go.Proofs.YtmicacoegkmklaaGreatDoor

/- Members by the specification: quorums, and whether two sets of quorums meet. -/
namespace Go.Proofs.YtmicacoegkmklaaGreatDoor
open Go.RowKit Plain
set_option linter.unusedVariables false

namespace Plain
theorem among_take (v ids : List Int) (k : Nat) (h : k < v.length) : among (v.take (k + 1)) ids = among (v.take k) ids + (decide (v[k] ∈ ids)).toNat := by
  unfold among
  rw [List.take_succ_eq_append_getElem h, List.filter_append, List.length_append]
  cases hd : decide (v[k] ∈ ids) <;> simp [hd] <;> simpa using hd
theorem among_zero (ids : List Int) : among [] ids = 0 := rfl
end Plain



namespace Plain
/-- The specification's way to tell whether quorums meet. -/
theorem meet_way (na nb s : Nat) (ha : 1 ≤ na) (hb : 1 ≤ nb) (hs : s ≤ na) (X Y : Int) (hX : X = max 0 (((na / 2 + 1 : Nat) : Int) - ((na : Int) - (s : Int)))) (hY : Y = max 0 (((nb / 2 + 1 : Nat) : Int) - ((nb : Int) - (s : Int)))) :
    decide ((s : Int) < X + Y) = decide (na + nb - s < (na / 2 + 1) + (nb / 2 + 1)) := decide_eq_decide.2 (by omega)
theorem half_go (n : Nat) (h : n ≤ 1000) : IntKind.i64.wrap ((n : Int).tdiv 2 + 1) = ((n / 2 + 1 : Nat) : Int) := by rw [IntKind.wrap_i64, Int.tdiv_eq_ediv_of_nonneg (by omega)]; omega
theorem half_go2 (n : Nat) (h : n ≤ 1000) : IntKind.i64.wrap ((n : Int) / 2 + 1) = ((n / 2 + 1 : Nat) : Int) := by rw [IntKind.wrap_i64]; omega
theorem sub_go (a b : Int) (ha : -1000 ≤ a) (ha2 : a ≤ 1000) (hb : -1000 ≤ b) (hb2 : b ≤ 1000) : IntKind.i64.wrap (a - b) = a - b := by rw [IntKind.wrap_i64]; omega
theorem add_go (a b : Int) (ha : -1000 ≤ a) (ha2 : a ≤ 1000) (hb : -1000 ≤ b) (hb2 : b ≤ 1000) : IntKind.i64.wrap (a + b) = a + b := by rw [IntKind.wrap_i64]; omega
end Plain

end Go.Proofs.YtmicacoegkmklaaGreatDoor

/- Members, as the exact laws copy, measure and compare them. -/
namespace Go.Proofs.YtmicacoegkmklaaGreatDoor
open Go.RowKit Plain
set_option linter.unusedVariables false

namespace Plain
/-- Members among the arguments. -/
structure ConfArg (W : World) (av : Option Addr) (nv cv : Nat) (v : List Int) (al : Option Addr) (nl cl : Nat) (l : List Int) : Prop where
  v : ArgRow 1 intL goodI W av nv cv v
  l : ArgRow 1 intL goodI W al nl cl l
theorem ConfArg.below {W W' : World} {av : Option Addr} {nv cv : Nat} {v : List Int} {al : Option Addr} {nl cl : Nat} {l : List Int} (h : ConfArg W av nv cv v al nl cl l) (hb : Below W.heap.size W W') : ConfArg W' av nv cv v al nl cl l :=
  ⟨⟨h.v.len, h.v.le, h.v.good, h.v.row.below hb⟩, ⟨h.l.len, h.l.le, h.l.good, h.l.row.below hb⟩⟩
end Plain
theorem OwnR.oth {α : Type} {e : Elem α} {W W' : World} {B : Nat} {v : Value} {xs : List α} (h : OwnR e W B v xs) (hh : ∀ g, v.ownBlock = some g → W'.heap[g]? = W.heap[g]?) : OwnR e W' B v xs := by
  refine ⟨h.1, ?_⟩
  rcases h.2 with ⟨a, c⟩ | ⟨g, cap, cur, rfl, c, d, r⟩
  · exact .inl ⟨a, c⟩
  · exact .inr ⟨g, cap, cur, rfl, c, (hh g rfl).trans d, r⟩
theorem Plain.own_blkI {g g' n c : Nat} (h : (Value.slice (some ⟨g, 0, none⟩) n c).ownBlock = some g') : g = g' := Option.some.inj h
theorem Plain.heap_setI {W : World} {b i g : Nat} {u : Value} (h : b ≠ g) : (W.setCell ⟨b, i, none⟩ u).heap[g]? = W.heap[g]? := Below.heap_setCell _ _ _ _ (fun e => h (by simp at e; exact e.symm))
/-- What toConf leaves. -/
def ToConf (nv nl : Nat) (v l : List Int) (w : World) (e : Ending) (w' : World) : Prop := ∃ g1 g2, e = .returned (.agg #[.slice (some ⟨g1, 0, none⟩) nv nv, .slice (some ⟨g2, 0, none⟩) nl nl]) ∧ g1 < g2 ∧ OwnR i64E w' w.heap.size (.slice (some ⟨g1, 0, none⟩) nv nv) v ∧ OwnR i64E w' w.heap.size (.slice (some ⟨g2, 0, none⟩) nl nl) l ∧ Below w.heap.size w w'





end Go.Proofs.YtmicacoegkmklaaGreatDoor
