/- Members by the program: right ones, quorums, whether two sets of quorums meet. -/
import Derived.Test.YtmokpgmehaakgaaGreatDoorConJ
import Derived.Deep.QuietTactic
import Derived.BigQuiet
namespace Go.Proofs.YtmokpgmehaakgaaGreatDoor
open Go.RowKit Plain
set_option linter.unusedVariables false

namespace Plain
theorem dec_lt (a b : Nat) : decide ((a : Int) < (b : Int)) = decide (a < b) := decide_eq_decide.2 (by omega)
theorem dec_le (a b : Nat) : decide ((a : Int) ≤ (b : Int)) = decide (a ≤ b) := decide_eq_decide.2 (by omega)
theorem maj_le {x m : Nat} (h : popN 64 x / 2 + 1 = m) : m ≤ 1000 := by
  have := popN_le 64 x
  generalize popN 64 x = a at *
  omega
theorem add_small (a b : Nat) (ha : a ≤ 1000) (hb : b ≤ 1000) : wrap64 ((a : Int) + (b : Int)) = ((a + b : Nat) : Int) := by unfold wrap64; omega
theorem add_small2 (a b : Nat) (ha : a ≤ 1000) (hb : b ≤ 1000) : IntKind.i64.wrap ((a : Int) + (b : Int)) = ((a + b : Nat) : Int) := by rw [IntKind.wrap_i64]; omega
end Plain

set_option maxRecDepth 10000 in
set_option maxHeartbeats 1000000 in
theorem impl_ConfOk (av : Option Addr) (nv cv : Nat) (v : List Int) (al : Option Addr) (nl cl : Nat) (l : List Int) (w : World) (h : ConfAt w av nv v al nl l) :
    Calls Tryz.prog 15 #[.agg #[.slice av nv cv, .slice al nl cl]] w fun e w' => e = .returned (.bool (confB v l)) ∧ Below w.heap.size w w' := by
  obtain ⟨W0, hW0⟩ : ∃ W0, W0 = w.alloc (.cells #[.slice av nv cv, .slice al nl cl] 26) := ⟨_, rfl⟩
  have hb0 : Below w.heap.size w W0 := by rw [hW0]; exact bel1 _ _
  have c0 : W0.cell? ⟨w.heap.size, 0, none⟩ = some (.slice av nv cv) := by rw [hW0]; simp [go_sem]
  have c1 : W0.cell? ⟨w.heap.size, 1, none⟩ = some (.slice al nl cl) := by rw [hW0]; simp [go_sem]
  have HC := hide (councilOf_calls av nv cv v al nl cl l W0 (h.below hb0))
  obtain ⟨V, L, e1, -⟩ := councV_is v l
  rw [e1] at HC
  generalize confB v l = R at HC
  have HB0 := hide hb0
  have HW0 := hide hW0.symm
  clear hb0 hW0 h e1
  go_enter Tryz.func15, Tryz.ntmps15
  go_wp2_with fail
  rw [unhide HW0]
  refine (unhide HC).mono ?_
  rintro e w1 ⟨rfl, hb1⟩
  have HB1 := hide (belOn (unhide HB0) hb1)
  clear hb1 c0 c1
  go_wp2_with fail
  go_ret
  exact ⟨rfl, belOn (unhide HB1) (bel1 _ _)⟩

set_option maxRecDepth 10000 in
set_option maxHeartbeats 2000000 in
theorem setOf_calls (a : Option Addr) (n c : Nat) (ls : List Int) (w : World) (h : IntsAt w a n ls) :
    Calls Tryz.prog 35 #[.slice a n c] w fun e w' => e = .returned (.int .u64 (setN ls : Nat)) ∧ w = w' := by
  have HH := hide h
  have hbn := h.bn
  clear h
  obtain ⟨w0, rfl⟩ : ∃ w0, w0 = w := ⟨_, rfl⟩
  go_enter Tryz.func35, Tryz.ntmps35
  go_wp2_with fail
  go_loopw [3, 8] (fun s i wr => ∃ k : Nat, i = .int .i64 k ∧ s = .int .u64 (setN (ls.take k) : Nat) ∧ k ≤ n ∧ wr = w0) (fun _ i _ => n - (intOf i).toNat)
  case atStart => exact ⟨0, rfl, rfl, by omega, rfl⟩
  case round =>
    obtain ⟨k, rfl, rfl, hk, rfl⟩ := hrel
    by_cases hkn : k < n
    · have hkl : k < ls.length := by rw [(unhide HH).len]; exact hkn
      obtain ⟨g, e1, l1, p0, -⟩ := (unhide HH).row.ix k hkl
      have hsn := setN_take ls k hkl
      have hlt := setN_lt (ls.take k)
      generalize ls[k] = x at p0 hsn
      subst e1
      have i0 : (0 : Int) ≤ (k : Int) := by omega
      have i1 : (k : Int) < (n : Int) := by omega
      generalize setN (ls.take k) = S at hlt hsn
      cases hn : (decide (1 ≤ x) && decide (x ≤ 50)) with
      | false =>
        have HN := hide hn
        rw [if_neg (fun hy => by simp at hn; omega)] at hsn
        have HSN := hide hsn
        clear hn hsn
        go_wp2_with fail
        refine (nodeId_calls x _).mono ?_
        rintro e w1 ⟨rfl, rfl⟩
        rw [unhide HN]
        go_wp2_with fail
        go_roundw
        case rel => exact ⟨k + 1, by go_num, by rw [unhide HSN], by omega, trivial⟩
        case measure => simp [intOf]; omega
      | true =>
        have HN := hide hn
        have hn2 : 1 ≤ x ∧ x ≤ 50 := by simpa using hn
        rw [if_pos hn2] at hsn
        obtain ⟨n1, n2⟩ := hn2
        obtain ⟨X, rfl⟩ := Int.eq_ofNat_of_zero_le (show 0 ≤ x by omega)
        rw [Int.toNat_natCast] at hsn
        have hX : X ≤ 63 := by omega
        have hon := only_calls X wr hX
        have hpl : 2 ^ X ≤ 1125899906842624 := Nat.pow_le_pow_right (show 0 < 2 by decide) (show X ≤ 50 by omega)
        have hor : bits .or .u64 (S : Int) ((2 ^ X : Nat) : Int) = ((S ||| 2 ^ X : Nat) : Int) := u64_or_nat _ _ (by omega) (by omega)
        generalize 2 ^ X = P at hon hpl hsn hor
        rw [← hsn] at hor
        have HSN := hide hsn
        have HON := hide hon
        clear hon hn hsn
        generalize hS3 : setN (ls.take (k + 1)) = S2 at HSN hor
        have HS3 := hide hS3
        clear hS3
        go_wp2_with fail
        refine (nodeId_calls _ _).mono ?_
        rintro e w1 ⟨rfl, rfl⟩
        rw [unhide HN]
        go_wp2_with fail
        refine (unhide HON).mono ?_
        rintro e w1 ⟨rfl, rfl⟩
        go_wp2_with fail
        go_roundw
        case rel => exact ⟨k + 1, by go_num, by rw [unhide HS3], by omega, trivial⟩
        case measure => simp [intOf]; omega
    · obtain rfl : k = n := by omega
      have HL := hide (show ls.take k = ls from List.take_of_length_le (by rw [(unhide HH).len]; exact Nat.le_refl _))
      rw [unhide HL]
      go_wp2_with fail
      go_ret
      exact ⟨rfl, rfl⟩

theorem size_quiet (x : Nat) (w : World) (n : Nat) (r : Nat) (hx : x < 18446744073709551616) (hb : popN 64 x = r) :
    Calls Tryz.prog 33 #[.int .u64 x] (w.drewN n) fun e w'' => e = .returned (.int .i64 r) ∧ ∃ m, w'' = w.drewN m := by
  subst hb
  refine (size_calls x _ hx).mono ?_
  rintro e w2 ⟨rfl, rfl⟩
  exact ⟨rfl, n, rfl⟩
theorem majority_quiet (x : Nat) (w : World) (n : Nat) (r : Nat) (hx : x < 18446744073709551616) (hb : popN 64 x / 2 + 1 = r) :
    Calls Tryz.prog 32 #[.int .u64 x] (w.drewN n) fun e w'' => e = .returned (.int .i64 r) ∧ ∃ m, w'' = w.drewN m := by
  subst hb
  refine (majority_calls x _ hx).mono ?_
  rintro e w2 ⟨rfl, rfl⟩
  exact ⟨rfl, n, rfl⟩

set_option maxRecDepth 10000 in
set_option maxHeartbeats 1000000 in
theorem quorum_calls (V L I : Nat) (w : World) (hV : V < 18446744073709551616) (hI : I < 18446744073709551616) :
    Calls Tryz.prog 34 #[.agg #[.int .u64 V, .int .u64 L], .int .u64 I] w fun e w' => e = .returned (.bool (decide (popN 64 V / 2 + 1 ≤ popN 64 (V &&& I)))) ∧ Below w.heap.size w w' := by
  obtain ⟨W0, hW0⟩ : ∃ W0, W0 = w.alloc (.cells #[.int .u64 V, .int .u64 L] 50) := ⟨_, rfl⟩
  have hb0 : Below w.heap.size w W0 := by rw [hW0]; exact bel1 _ _
  have c0 : W0.cell? ⟨w.heap.size, 0, none⟩ = some (.int .u64 V) := by rw [hW0]; simp [go_sem]
  have hand : bits .and .u64 (V : Int) (I : Int) = ((V &&& I : Nat) : Int) := u64_and_nat _ _ hV hI
  have hD : V &&& I < 18446744073709551616 := Nat.lt_of_le_of_lt Nat.and_le_left hV
  have HB0 := hide hb0
  have HW0 := hide hW0.symm
  clear hb0 hW0
  generalize V &&& I = D at hand hD
  obtain ⟨m, hm⟩ : ∃ m, popN 64 V / 2 + 1 = m := ⟨_, rfl⟩
  obtain ⟨d, hd⟩ : ∃ d, popN 64 D = d := ⟨_, rfl⟩
  rw [hm, hd]
  obtain ⟨R, hR⟩ : ∃ R, decide (m ≤ d) = R := ⟨_, rfl⟩
  have hR2 : decide ((m : Int) ≤ (d : Int)) = R := (dec_le m d).trans hR
  rw [hR]
  have HS := hide (fun (W : World) (n : Nat) => size_quiet D W n d hD hd)
  have HM := hide (fun (W : World) (n : Nat) => majority_quiet V W n m hV hm)
  clear hd hm
  go_enter Tryz.func34, Tryz.ntmps34
  go_wp2_with fail
  rw [unhide HW0]
  go_quiet (first | (go_at_call 33; exact unhide HS _ _) | (go_at_call 32; exact unhide HM _ _))
  all_goals (try go_wp2_with fail)
  all_goals (try go_ret)
  all_goals exact ⟨by simp, belQ (unhide HB0) _⟩

namespace Plain
/-- How many of v are among ids. -/
def among (v ids : List Int) : Nat := (v.filter fun x => decide (x ∈ ids)).length
def quoB (v l ids : List Int) : Bool := confB v l && decide (v.length < 2 * among v ids)
theorem confB_v {v l : List Int} (h : confB v l = true) : okIds 0 v = true ∧ 1 ≤ v.length ∧ v.length ≤ 7 := by
  unfold confB at h
  simp only [Bool.and_eq_true, decide_eq_true_iff] at h
  exact ⟨h.1.1, h.2.1.1, h.2.2.1⟩
theorem among_le (v ids : List Int) : among v ids ≤ v.length := List.length_filter_le _ _
end Plain

set_option maxRecDepth 10000 in
set_option maxHeartbeats 2000000 in
theorem impl_Quorum (av : Option Addr) (nv cv : Nat) (v : List Int) (al : Option Addr) (nl cl : Nat) (l : List Int) (ai : Option Addr) (ni ci : Nat) (ids : List Int) (w : World) (h : ConfAt w av nv v al nl l) (hi : IntsAt w ai ni ids) :
    Calls Tryz.prog 12 #[.agg #[.slice av nv cv, .slice al nl cl], .slice ai ni ci] w fun e w' => e = .returned (.bool (quoB v l ids)) ∧ Below w.heap.size w w' := by
  obtain ⟨W0, hW0⟩ : ∃ W0, W0 = w.alloc (.cells #[.slice av nv cv, .slice al nl cl] 26) := ⟨_, rfl⟩
  have hb0 : Below w.heap.size w W0 := by rw [hW0]; exact bel1 _ _
  have c0 : W0.cell? ⟨w.heap.size, 0, none⟩ = some (.slice av nv cv) := by rw [hW0]; simp [go_sem]
  have c1 : W0.cell? ⟨w.heap.size, 1, none⟩ = some (.slice al nl cl) := by rw [hW0]; simp [go_sem]
  have HC := hide (councilOf_calls av nv cv v al nl cl l W0 (h.below hb0))
  obtain ⟨V, L, e1, e2⟩ := councV_is v l
  rw [e1] at HC
  have HI := hide (fun (W : World) (hW : Below W0.heap.size W0 W) => setOf_calls ai ni ci ids W (hi.below (belOn hb0 hW)))
  have HB0 := hide hb0
  have HW0 := hide hW0.symm
  clear hb0 hW0 h e1 hi
  have bv := setN_lt v
  have bi := setN_lt ids
  cases hc : confB v l with
  | false =>
    have HX := hide (show quoB v l ids = false from by unfold quoB; rw [hc]; rfl)
    rw [hc] at HC
    clear hc e2 bv bi
    go_enter Tryz.func12, Tryz.ntmps12
    go_wp2_with fail
    rw [unhide HW0]
    refine (unhide HC).mono ?_
    rintro e w1 ⟨rfl, hb1⟩
    obtain ⟨W2, hW2⟩ : ∃ W2, W2 = w1.alloc (.cells #[.int .u64 V, .int .u64 L] 50) := ⟨_, rfl⟩
    have hb2 : Below w1.heap.size w1 W2 := by rw [hW2]; exact bel1 _ _
    have HB2 := hide (belOn (belOn (unhide HB0) hb1) hb2)
    have HW2 := hide hW2.symm
    clear hb1 hb2 hW2 c0 c1
    go_wp2_with fail
    rw [unhide HW2]
    go_quiet (fail)
    all_goals (try go_wp2_with fail)
    all_goals (try go_ret)
    all_goals exact ⟨by rw [unhide HX]; rfl, belQ (unhide HB2) _⟩
  | true =>
    obtain ⟨rfl, rfl⟩ := e2 hc
    obtain ⟨ok, h1, h7⟩ := confB_v hc
    have HQ := hide (fun (W : World) => quorum_calls (setN v) (setN l) (setN ids) W (by omega) (by omega))
    rw [pop_and v ids ok, pop_set v ok] at HQ
    have hX : decide (v.length / 2 + 1 ≤ (v.filter fun x => decide (x ∈ ids)).length) = quoB v l ids := by
      unfold quoB
      rw [hc, Bool.true_and]
      show decide (v.length / 2 + 1 ≤ among v ids) = _
      exact decide_eq_decide.2 (by omega)
    rw [hX] at HQ
    rw [hc] at HC
    generalize quoB v l ids = R at HQ
    generalize setN v = V at HC HQ
    generalize setN l = L at HC HQ
    generalize setN ids = I at HQ HI
    clear hc e2 bv bi hX h1 h7
    go_enter Tryz.func12, Tryz.ntmps12
    go_wp2_with fail
    rw [unhide HW0]
    refine (unhide HC).mono ?_
    rintro e w1 ⟨rfl, hb1⟩
    obtain ⟨W2, hW2⟩ : ∃ W2, W2 = w1.alloc (.cells #[.int .u64 V, .int .u64 L] 50) := ⟨_, rfl⟩
    have hb2 : Below w1.heap.size w1 W2 := by rw [hW2]; exact bel1 _ _
    have m0 : W2.cell? ⟨w1.heap.size, 0, none⟩ = some (.int .u64 V) := by rw [hW2]; simp [go_sem]
    have m1 : W2.cell? ⟨w1.heap.size, 1, none⟩ = some (.int .u64 L) := by rw [hW2]; simp [go_sem]
    have HB2 := hide (belOn (belOn (unhide HB0) hb1) hb2)
    have HI2 := hide (unhide HI W2.drew (belDrew (belOn hb1 hb2)))
    have HW2 := hide hW2.symm
    clear hb1 hb2 hW2 c0 c1
    go_wp2_with fail
    rw [unhide HW2]
    go_region_with (first
      | (go_at_call 35; refine (unhide HI2).mono ?_; rintro e w3 ⟨rfl, rfl⟩)
      | (go_at_call 34; refine (unhide HQ _).mono ?_; rintro e w4 ⟨rfl, hb4⟩))
    all_goals (try go_wp2_with fail)
    all_goals (try go_ret)
    all_goals exact ⟨rfl, belOn (unhide HB2) (bOfDrew hb4)⟩

namespace Plain
def meetB (v l u k : List Int) : Bool := (confB v l && confB u k) && decide (v.length + u.length - among v u < (v.length / 2 + 1) + (u.length / 2 + 1))
end Plain

set_option maxRecDepth 10000 in
set_option maxHeartbeats 4000000 in
theorem impl_Meet (av : Option Addr) (nv cv : Nat) (v : List Int) (al : Option Addr) (nl cl : Nat) (l : List Int) (au : Option Addr) (nu cu : Nat) (u : List Int) (ak : Option Addr) (nk ck : Nat) (k : List Int) (w : World) (h : ConfAt w av nv v al nl l) (hi : ConfAt w au nu u ak nk k) :
    Calls Tryz.prog 11 #[.agg #[.slice av nv cv, .slice al nl cl], .agg #[.slice au nu cu, .slice ak nk ck]] w fun e w' => e = .returned (.bool (meetB v l u k)) ∧ Below w.heap.size w w' := by
  obtain ⟨W0, hW0⟩ : ∃ W0, W0 = (w.alloc (.cells #[.slice av nv cv, .slice al nl cl] 26)).alloc (.cells #[.slice au nu cu, .slice ak nk ck] 26) := ⟨_, rfl⟩
  have hb0 : Below w.heap.size w W0 := by rw [hW0]; exact belOn (bel1 _ _) (bel1 _ _)
  have hs0 : w.heap.size + 1 < W0.heap.size := by rw [hW0]; simp
  have c0 : W0.cell? ⟨w.heap.size, 0, none⟩ = some (.slice av nv cv) := by rw [hW0]; simp [go_sem]
  have c1 : W0.cell? ⟨w.heap.size, 1, none⟩ = some (.slice al nl cl) := by rw [hW0]; simp [go_sem]
  have d0 : W0.cell? ⟨w.heap.size + 1, 0, none⟩ = some (.slice au nu cu) := by rw [hW0, show w.heap.size + 1 = (w.alloc (.cells #[.slice av nv cv, .slice al nl cl] 26)).heap.size from by simp]; simp [go_sem]
  have d1 : W0.cell? ⟨w.heap.size + 1, 1, none⟩ = some (.slice ak nk ck) := by rw [hW0, show w.heap.size + 1 = (w.alloc (.cells #[.slice av nv cv, .slice al nl cl] 26)).heap.size from by simp]; simp [go_sem]
  have HC := hide (councilOf_calls av nv cv v al nl cl l W0 (h.below hb0))
  obtain ⟨V, L, e1, e2⟩ := councV_is v l
  rw [e1] at HC
  have HD := hide (fun (W : World) (hW : Below W0.heap.size W0 W) => councilOf_calls au nu cu u ak nk ck k W (hi.below (belOn hb0 hW)))
  obtain ⟨U, K, f1, f2⟩ := councV_is u k
  rw [f1] at HD
  have HB0 := hide hb0
  have HW0 := hide hW0.symm
  clear hb0 hW0 h e1 hi f1
  have bv := setN_lt v
  have bu := setN_lt u
  have HCK := hide (fun (W : World) (hW : Below W0.heap.size W0 W) => And.intro (bcl hW hs0 d0) (bcl hW hs0 d1))
  obtain ⟨b1, hc⟩ : ∃ b1, confB v l = b1 := ⟨_, rfl⟩
  obtain ⟨b2, hd⟩ : ∃ b2, confB u k = b2 := ⟨_, rfl⟩
  obtain ⟨R, hR⟩ : ∃ R, meetB v l u k = R := ⟨_, rfl⟩
  rw [hR]
  have hR2 : b1 = true → b2 = true → V < 18446744073709551616 ∧ U < 18446744073709551616 ∧ decide (popN 64 (V ||| U) < (popN 64 V / 2 + 1) + (popN 64 U / 2 + 1)) = R := by
    rintro rfl rfl
    obtain ⟨rfl, -⟩ := e2 hc
    obtain ⟨rfl, -⟩ := f2 hd
    obtain ⟨ok, -, -⟩ := confB_v hc
    obtain ⟨ok2, -, -⟩ := confB_v hd
    have hp := pop_or v u ok ok2
    have hle := among_le v u
    refine ⟨by omega, by omega, ?_⟩
    rw [← hR, pop_set v ok, pop_set u ok2]
    unfold meetB
    rw [hc, hd, Bool.and_self, Bool.true_and]
    unfold among at hle ⊢
    exact decide_eq_decide.2 (by omega)
  have hR1 : (b1 && b2) = false → R = false := by
    intro hq
    rw [← hR]
    unfold meetB
    rw [hc, hd, hq]
    rfl
  rw [hc] at HC
  rw [hd] at HD
  clear hc hd hR e2 f2 bv bu
  have HR1 := hide hR1
  have HR2 := hide hR2
  clear hR1 hR2 d0 d1
  go_enter Tryz.func11, Tryz.ntmps11
  go_wp2_with fail
  rw [unhide HW0]
  refine (unhide HC).mono ?_
  rintro e w1 ⟨rfl, hb1⟩
  obtain ⟨W2, hW2⟩ : ∃ W2, W2 = w1.alloc (.cells #[.int .u64 V, .int .u64 L] 50) := ⟨_, rfl⟩
  have hb2 : Below w1.heap.size w1 W2 := by rw [hW2]; exact bel1 _ _
  have hs2 : w1.heap.size < W2.heap.size := by rw [hW2]; simp
  have m0 : W2.cell? ⟨w1.heap.size, 0, none⟩ = some (.int .u64 V) := by rw [hW2]; simp [go_sem]
  have HB2 := hide (belOn hb1 hb2)
  obtain ⟨q0, q1⟩ := unhide HCK _ (unhide HB2)
  have HW2 := hide hW2.symm
  have q2 := q0
  have q3 := q1
  rw [hW2] at q2 q3
  clear hb1 hb2 hW2 c0 c1
  go_wp2_with fail
  rw [unhide HW2]
  refine (unhide HD _ (unhide HB2)).mono ?_
  rintro e w3 ⟨rfl, hb3⟩
  have n0 := bcl hb3 hs2 m0
  have hs3 : w1.heap.size < w3.heap.size := Nat.lt_of_lt_of_le hs2 hb3.size
  obtain ⟨W4, hW4⟩ : ∃ W4, W4 = w3.alloc (.cells #[.int .u64 U, .int .u64 K] 50) := ⟨_, rfl⟩
  have hb4 : Below w3.heap.size w3 W4 := by rw [hW4]; exact bel1 _ _
  have o0 : W4.cell? ⟨w3.heap.size, 0, none⟩ = some (.int .u64 U) := by rw [hW4]; simp [go_sem]
  have p0 := bcl hb4 hs3 n0
  have HB4 := hide (belOn (unhide HB0) (belOn (belOn (unhide HB2) hb3) hb4))
  have HW4 := hide hW4.symm
  clear hb3 hb4 hW4 m0 q0 q1 q2 q3 n0 HCK HC HD
  cases b1 with
  | false =>
    have HX := hide (unhide HR1 rfl)
    go_wp2_with fail
    rw [unhide HW4]
    go_wp2_with fail
    go_ret
    exact ⟨by rw [unhide HX]; rfl, unhide HB4⟩
  | true =>
    cases b2 with
    | false =>
      have HX := hide (unhide HR1 rfl)
      go_wp2_with fail
      rw [unhide HW4]
      go_wp2_with fail
      go_ret
      exact ⟨by rw [unhide HX]; rfl, unhide HB4⟩
    | true =>
      obtain ⟨hV, hU, hF⟩ := unhide HR2 rfl rfl
      have hor : bits .or .u64 (V : Int) (U : Int) = ((V ||| U : Nat) : Int) := u64_or_nat _ _ hV hU
      have hD : V ||| U < 18446744073709551616 := Nat.or_lt_two_pow (n := 64) hV hU
      generalize V ||| U = D at hor hD hF
      obtain ⟨m1, hm1⟩ : ∃ m, popN 64 V / 2 + 1 = m := ⟨_, rfl⟩
      obtain ⟨m2, hm2⟩ : ∃ m, popN 64 U / 2 + 1 = m := ⟨_, rfl⟩
      obtain ⟨d, hd⟩ : ∃ d, popN 64 D = d := ⟨_, rfl⟩
      rw [hm1, hm2, hd] at hF
      have q1 := maj_le hm1
      have q2 := maj_le hm2
      have hadd := add_small m1 m2 q1 q2
      have hadd2 := add_small2 m1 m2 q1 q2
      have HS := hide (fun (W : World) (n : Nat) => size_quiet D W n d hD hd)
      have HM1 := hide (fun (W : World) (n : Nat) => majority_quiet V W n m1 hV hm1)
      have HM2 := hide (fun (W : World) (n : Nat) => majority_quiet U W n m2 hU hm2)
      generalize m1 + m2 = M at hadd hadd2 hF
      have hF2 : decide ((d : Int) < (M : Int)) = R := (dec_lt d M).trans hF
      clear hm1 hm2 hd HR1 HR2
      go_wp2_with fail
      rw [unhide HW4]
      go_wp2_with fail
      go_quiet (first | (go_at_call 33; exact unhide HS _ _) | (go_at_call_of 32 (V : Int); exact unhide HM1 _ _) | (go_at_call 32; exact unhide HM2 _ _))
      all_goals (try go_wp2_with fail)
      all_goals (try go_ret)
      all_goals exact ⟨by simp, belQ (unhide HB4) _⟩
end Go.Proofs.YtmokpgmehaakgaaGreatDoor
