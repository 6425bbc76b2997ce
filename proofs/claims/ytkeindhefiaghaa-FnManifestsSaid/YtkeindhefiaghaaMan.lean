/- Manifests: when one is right, and its text: both programs by their contracts. -/
import Derived.Test.YtkeindhefiaghaaManM
import Derived.Test.YtkeindhefiaghaaStrR
namespace Go.Proofs.Ytkeindhefiaghaa
open Go.RowKit Plain
set_option linter.unusedVariables false

namespace Plain
theorem bel1 (w : World) (o : Obj) : Below w.heap.size w (w.alloc o) := (Below.refl _ _).alloc (Nat.le_refl _) _
theorem bcl {w w' : World} {B : Nat} (h : Below B w w') {g i : Nat} {v : Value} (hg : g < B) (hc : w.cell? ⟨g, i, none⟩ = some v) : w'.cell? ⟨g, i, none⟩ = some v := (h.cell (p := ⟨g, i, none⟩) hg).trans hc
theorem belOn {w W W' : World} (h0 : Below w.heap.size w W) (h1 : Below W.heap.size W W') : Below w.heap.size w W' := h0.trans (h1.mono h0.size)
end Plain

theorem impl_layers (a : Option Addr) (n c : Nat) (w : World) (hn : n ≤ 100000000000) :
    Calls Try.prog 68 #[.slice a n c] w fun e w' => e = .returned (.bool (decide (1 ≤ n) && decide (n ≤ 40))) ∧ w = w' := by
  by_cases h1 : 1 ≤ n
  · by_cases h2 : n ≤ 40
    · rw [decide_eq_true h1, decide_eq_true h2]
      have h3 : decide ((n : Int) ≤ 40) = true := decide_eq_true (by omega)
      go_enter Try.func68, Try.ntmps68
      go_wp2
      go_ret
      exact ⟨rfl, rfl⟩
    · rw [decide_eq_true h1, decide_eq_false h2]
      have h3 : decide ((n : Int) ≤ 40) = false := decide_eq_false (by omega)
      go_enter Try.func68, Try.ntmps68
      go_wp2
      go_ret
      exact ⟨rfl, rfl⟩
  · rw [decide_eq_false h1]
    go_enter Try.func68, Try.ntmps68
    go_wp2
    go_ret
    exact ⟨rfl, rfl⟩

set_option maxHeartbeats 2000000 in
theorem impl_manifestOk (cf : ByteArray) (a : Option Addr) (n c : Nat) (ls : List ByteArray) (w : World) (hc : cf.size ≤ 1000000000000) (hn : ls.length = n) (hn2 : n ≤ 100000000000) (hs : ∀ l ∈ ls, l.size ≤ 1000000000000) (h : StrsAt w a ls) :
    Calls Try.prog 64 #[.agg #[.string cf, .slice a n c]] w fun e w' => e = .returned (.bool (manB cf ls)) ∧ Below w.heap.size w w' := by
  have H := hide h
  have HN := hide hn
  have HS := hide hs
  clear h hs
  have HM : manB cf ls = (digB cf && (decide (1 ≤ n) && decide (n ≤ 40)) && ls.all digB) := by unfold manB; rw [hn]
  rw [HM]
  clear HM hn
  cases h1 : digB cf with
  | false =>
    have H1 := hide h1
    clear h1
    go_enter Try.func64, Try.ntmps64
    go_wp2_with (go_at_call 118; refine (impl_DigestOk cf _ hc).mono ?_; rintro e w1 ⟨rfl, rfl⟩; rw [unhide H1])
    go_ret
    exact ⟨rfl, bel1 _ _⟩
  | true =>
    have H1 := hide h1
    clear h1
    cases h2 : (decide (1 ≤ n) && decide (n ≤ 40)) with
    | false =>
      have H2 := hide h2
      clear h2
      go_enter Try.func64, Try.ntmps64
      go_wp2_with (first | (go_at_call 118; refine (impl_DigestOk cf _ hc).mono ?_; rintro e w1 ⟨rfl, rfl⟩; rw [unhide H1]) | (go_at_call 68; refine (impl_layers a n c _ hn2).mono ?_; rintro e w1 ⟨rfl, rfl⟩; rw [unhide H2]))
      go_ret
      exact ⟨rfl, bel1 _ _⟩
    | true =>
      have H2 := hide h2
      clear h2
      have HB0 := hide (bel1 w (.cells #[.string cf, .slice a n c] 26))
      go_enter Try.func64, Try.ntmps64
      go_wp2_with (first | (go_at_call 118; refine (impl_DigestOk cf _ hc).mono ?_; rintro e w1 ⟨rfl, rfl⟩; rw [unhide H1]) | (go_at_call 68; refine (impl_layers a n c _ hn2).mono ?_; rintro e w1 ⟨rfl, rfl⟩; rw [unhide H2]))
      go_loop [18] (fun i => ∃ k : Nat, i = .int .i64 k ∧ k ≤ n ∧ Hid ((ls.drop k).all digB = ls.all digB)) (fun i => n - (intOf i).toNat)
      case atStart => exact ⟨0, rfl, by omega, hide (by rw [List.drop_zero])⟩
      case round =>
        obtain ⟨k, rfl, hk, HR⟩ := hrel
        by_cases hlk : k < n
        · have hkl : k < ls.length := by rw [unhide HN]; exact hlk
          obtain ⟨g, o, e1, l1, p1⟩ := (unhide H).below (unhide HB0) k hkl
          have hsz := unhide HS ls[k] (by simp)
          have hst := all_step digB ls k hkl
          generalize ls[k] = x at p1 hsz hst
          have i0 : (0 : Int) ≤ (k : Int) := by omega
          have i1 : (k : Int) < (n : Int) := by omega
          subst e1
          cases hx : digB x with
          | false =>
            have HF := hide (show ls.all digB = false from by rw [← unhide HR, hst, hx]; rfl)
            have HX := hide hx
            clear hst HR hx
            go_wp2_with (go_at_call 118; refine (impl_DigestOk x _ hsz).mono ?_; rintro e w1 ⟨rfl, rfl⟩; rw [unhide HX])
            go_ret
            exact ⟨by rw [unhide HF]; rfl, unhide HB0⟩
          | true =>
            have HF := hide (show (ls.drop (k + 1)).all digB = ls.all digB from by rw [← unhide HR, hst, hx]; rfl)
            have HX := hide hx
            clear hst HR hx
            go_wp2_with (go_at_call 118; refine (impl_DigestOk x _ hsz).mono ?_; rintro e w1 ⟨rfl, rfl⟩; rw [unhide HX])
            go_round
            case rel => exact ⟨k + 1, by go_num, by omega, HF⟩
            case measure => simp [intOf]; omega
        · have HF := hide ((unhide HR).symm.trans (all_end digB ls k (by rw [unhide HN]; omega)))
          clear HR
          go_wp2_with fail
          go_ret
          exact ⟨by rw [unhide HF]; rfl, unhide HB0⟩

set_option maxHeartbeats 2000000 in
theorem spec_manifestOk (cf : ByteArray) (a : Option Addr) (n c : Nat) (ls : List ByteArray) (w : World) (hc : cf.size ≤ 1000000000000) (hn : ls.length = n) (hn2 : n ≤ 100000000000) (hs : ∀ l ∈ ls, l.size ≤ 1000000000000) (h : StrsAt w a ls) :
    Calls Try.prog 65 #[.agg #[.string cf, .slice a n c]] w fun e w' => e = .returned (.bool (manB cf ls)) ∧ Below w.heap.size w w' := by
  have H := hide h
  have HN := hide hn
  have HS := hide hs
  clear h hs
  have HM : manB cf ls = (digB cf && (decide (1 ≤ n) && decide (n ≤ 40)) && ls.all digB) := by unfold manB; rw [hn]
  rw [HM]
  clear HM hn
  cases h1 : digB cf with
  | false =>
    have H1 := hide h1
    clear h1
    go_enter Try.func65, Try.ntmps65
    go_wp2_with (go_at_call 76; refine (spec_DigestOk cf _ hc).mono ?_; rintro e w1 ⟨rfl, rfl⟩; rw [unhide H1])
    go_ret
    exact ⟨rfl, bel1 _ _⟩
  | true =>
    have H1 := hide h1
    clear h1
    by_cases h1 : 1 ≤ n
    · by_cases h2 : n ≤ 40
      · rw [decide_eq_true h1, decide_eq_true h2]
        have HB0 := hide (bel1 w (.cells #[.string cf, .slice a n c] 26))
        go_enter Try.func65, Try.ntmps65
        go_wp2_with (go_at_call 76; refine (spec_DigestOk cf _ hc).mono ?_; rintro e w1 ⟨rfl, rfl⟩; rw [unhide H1])
        go_loop [3] (fun i => ∃ k : Nat, i = .int .i64 k ∧ k ≤ n ∧ Hid ((ls.drop k).all digB = ls.all digB)) (fun i => n - (intOf i).toNat)
        case atStart => exact ⟨0, rfl, by omega, hide (by rw [List.drop_zero])⟩
        case round =>
          obtain ⟨k, rfl, hk, HR⟩ := hrel
          by_cases hlk : k < n
          · have hkl : k < ls.length := by rw [unhide HN]; exact hlk
            obtain ⟨g, o, e1, l1, p1⟩ := (unhide H).below (unhide HB0) k hkl
            have hsz := unhide HS ls[k] (by simp)
            have hst := all_step digB ls k hkl
            generalize ls[k] = x at p1 hsz hst
            have i0 : (0 : Int) ≤ (k : Int) := by omega
            have i1 : (k : Int) < (n : Int) := by omega
            subst e1
            cases hx : digB x with
            | false =>
              have HF := hide (show ls.all digB = false from by rw [← unhide HR, hst, hx]; rfl)
              have HX := hide hx
              clear hst HR hx
              go_wp2_with (go_at_call 76; refine (spec_DigestOk x _ hsz).mono ?_; rintro e w1 ⟨rfl, rfl⟩; rw [unhide HX])
              go_ret
              exact ⟨by rw [unhide HF]; rfl, unhide HB0⟩
            | true =>
              have HF := hide (show (ls.drop (k + 1)).all digB = ls.all digB from by rw [← unhide HR, hst, hx]; rfl)
              have HX := hide hx
              clear hst HR hx
              go_wp2_with (go_at_call 76; refine (spec_DigestOk x _ hsz).mono ?_; rintro e w1 ⟨rfl, rfl⟩; rw [unhide HX])
              go_round
              case rel => exact ⟨k + 1, by go_num, by omega, HF⟩
              case measure => simp [intOf]; omega
          · have HF := hide ((unhide HR).symm.trans (all_end digB ls k (by rw [unhide HN]; omega)))
            clear HR
            go_wp2_with fail
            go_ret
            exact ⟨by rw [unhide HF]; rfl, unhide HB0⟩
      · rw [decide_eq_true h1, decide_eq_false h2]
        go_enter Try.func65, Try.ntmps65
        go_wp2_with (go_at_call 76; refine (spec_DigestOk cf _ hc).mono ?_; rintro e w1 ⟨rfl, rfl⟩; rw [unhide H1])
        go_ret
        exact ⟨rfl, bel1 _ _⟩
    · rw [decide_eq_false h1]
      go_enter Try.func65, Try.ntmps65
      go_wp2_with (go_at_call 76; refine (spec_DigestOk cf _ hc).mono ?_; rintro e w1 ⟨rfl, rfl⟩; rw [unhide H1])
      go_ret
      exact ⟨rfl, bel1 _ _⟩

set_option maxHeartbeats 2000000 in
theorem impl_WriteManifest (cf : ByteArray) (a : Option Addr) (n c : Nat) (ls : List ByteArray) (w : World) (hc : cf.size ≤ 1000000000000) (hn : ls.length = n) (hn2 : n ≤ 100000000000) (hs : ∀ l ∈ ls, l.size ≤ 1000000000000) (h : StrsAt w a ls) :
    Calls Try.prog 18 #[.agg #[.string cf, .slice a n c]] w fun e w' => e = .returned (.string (manS cf ls)) ∧ Below w.heap.size w w' := by
  have HC := hide (impl_manifestOk cf a n c ls _ hc hn hn2 hs (h.below (bel1 w (.cells #[.string cf, .slice a n c] 26))))
  have HB0 := hide (bel1 w (.cells #[.string cf, .slice a n c] 26))
  have c0 : (w.alloc (.cells #[.string cf, .slice a n c] 26)).cell? ⟨w.heap.size, 0, none⟩ = some (.string cf) := by simp [go_sem]
  have c1 : (w.alloc (.cells #[.string cf, .slice a n c] 26)).cell? ⟨w.heap.size, 1, none⟩ = some (.slice a n c) := by simp [go_sem]
  have HC0 := hide c0
  have HC1 := hide c1
  have hlt : w.heap.size < (w.alloc (.cells #[.string cf, .slice a n c] 26)).heap.size := by simp
  have HLT := hide hlt
  have H := hide h
  have HN := hide hn
  clear h c0 c1 hlt
  cases hB : manB cf ls with
  | false =>
    rw [show manS cf ls = ⟨#[]⟩ from by unfold manS; rw [hB]; rfl]
    have HBB := hide hB
    clear hB hn hs
    go_enter Try.func18, Try.ntmps18
    go_wp2_with fail
    refine (unhide HC).mono ?_
    rintro e w1 ⟨rfl, hb1⟩
    rw [unhide HBB]
    have HB1 := hide (belOn (unhide HB0) hb1)
    clear hb1
    go_wp2_with fail
    go_ret
    exact ⟨rfl, unhide HB1⟩
  | true =>
    rw [show manS cf ls = laysS (cfgH ++ cf ++ nlB) ls from by unfold manS; rw [hB]; rfl]
    obtain ⟨d1, d2, d3, d4⟩ := manB_lays hB
    have hcf := digB_71 d1
    have z0 : (cfgH ++ cf ++ nlB).size = 79 := by rw [ByteArray.size_append, ByteArray.size_append, hcf]; rfl
    have HZ0 := hide z0
    have hn40 : n ≤ 40 := by rw [← hn]; exact d3
    have HD4 := hide d4
    have HBB := hide hB
    have hcfs : cf.size ≤ 71 := by omega
    clear hB hn d1 d2 d3 d4 hs hcf z0
    have zc : (⟨#[99, 111, 110, 102, 105, 103, 32]⟩ : ByteArray).size = 7 := rfl
    have zl : (⟨#[108, 97, 121, 101, 114, 32]⟩ : ByteArray).size = 6 := rfl
    have zn : (⟨#[10]⟩ : ByteArray).size = 1 := rfl
    go_enter Try.func18, Try.ntmps18
    go_wp2_with fail
    refine (unhide HC).mono ?_
    rintro e w1 ⟨rfl, hb1⟩
    rw [unhide HBB]
    have HB1 := hide (belOn (unhide HB0) hb1)
    have q0 := bcl hb1 (unhide HLT) (unhide HC0)
    have q1 := bcl hb1 (unhide HLT) (unhide HC1)
    have H1 := hide ((unhide H).below (unhide HB1))
    clear hb1 HC HB0 HC0 HC1 HLT H
    go_wp2_with fail
    go_loop [3, 16] (fun t i => ∃ k : Nat, ∃ x : ByteArray, t = .string x ∧ i = .int .i64 k ∧ k ≤ n ∧ Hid (x = laysS (cfgH ++ cf ++ nlB) (ls.take k)) ∧ x.size ≤ 79 + 78 * k) (fun _ i => n - (intOf i).toNat)
    case atStart => exact ⟨0, cfgH ++ cf ++ nlB, rfl, rfl, by omega, hide rfl, by rw [unhide HZ0]; omega⟩
    case round =>
      obtain ⟨k, x, rfl, rfl, hk, HR, hxs⟩ := hrel
      by_cases hlk : k < n
      · have hkl : k < ls.length := by rw [unhide HN]; exact hlk
        obtain ⟨g, o, e1, l1, p1⟩ := unhide H1 k hkl
        have hsz : ls[k].size ≤ 71 := by have := digB_71 (unhide HD4 ls[k] (by simp)); omega
        have hst := laysS_snoc (cfgH ++ cf ++ nlB) (ls.take k) ls[k]
        rw [← take_snoc ls k hkl, ← unhide HR] at hst
        generalize ls[k] = y at p1 hsz hst
        have HST := hide hst
        clear hst HR
        have i0 : (0 : Int) ≤ (k : Int) := by omega
        have i1 : (k : Int) < (n : Int) := by omega
        subst e1
        go_wp2_with fail
        go_round
        case rel =>
          refine ⟨k + 1, _, rfl, by go_num, by omega, hide (unhide HST).symm, ?_⟩
          rw [ByteArray.size_append, ByteArray.size_append, ByteArray.size_append, zl, zn]
          omega
        case measure => simp [intOf]; omega
      · obtain rfl : k = n := by omega
        have HF := unhide HR
        rw [List.take_of_length_le (by rw [unhide HN]; exact Nat.le_refl _)] at HF
        have HFF := hide HF
        clear HF HR
        go_wp2_with fail
        go_ret
        exact ⟨by rw [unhide HFF]; rfl, unhide HB1⟩

set_option maxHeartbeats 2000000 in
theorem spec_WriteManifest (cf : ByteArray) (a : Option Addr) (n c : Nat) (ls : List ByteArray) (w : World) (hc : cf.size ≤ 1000000000000) (hn : ls.length = n) (hn2 : n ≤ 100000000000) (hs : ∀ l ∈ ls, l.size ≤ 1000000000000) (h : StrsAt w a ls) :
    Calls Try.prog 19 #[.agg #[.string cf, .slice a n c]] w fun e w' => e = .returned (.string (manS cf ls)) ∧ Below w.heap.size w w' := by
  have HC := hide (spec_manifestOk cf a n c ls _ hc hn hn2 hs (h.below (bel1 w (.cells #[.string cf, .slice a n c] 26))))
  have HB0 := hide (bel1 w (.cells #[.string cf, .slice a n c] 26))
  have c0 : (w.alloc (.cells #[.string cf, .slice a n c] 26)).cell? ⟨w.heap.size, 0, none⟩ = some (.string cf) := by simp [go_sem]
  have c1 : (w.alloc (.cells #[.string cf, .slice a n c] 26)).cell? ⟨w.heap.size, 1, none⟩ = some (.slice a n c) := by simp [go_sem]
  have HC0 := hide c0
  have HC1 := hide c1
  have hlt : w.heap.size < (w.alloc (.cells #[.string cf, .slice a n c] 26)).heap.size := by simp
  have HLT := hide hlt
  have H := hide h
  have HN := hide hn
  clear h c0 c1 hlt
  cases hB : manB cf ls with
  | false =>
    rw [show manS cf ls = ⟨#[]⟩ from by unfold manS; rw [hB]; rfl]
    have HBB := hide hB
    clear hB hn hs
    go_enter Try.func19, Try.ntmps19
    go_wp2_with fail
    refine (unhide HC).mono ?_
    rintro e w1 ⟨rfl, hb1⟩
    rw [unhide HBB]
    have HB1 := hide (belOn (unhide HB0) hb1)
    clear hb1
    go_wp2_with fail
    go_ret
    exact ⟨rfl, unhide HB1⟩
  | true =>
    rw [show manS cf ls = laysS (cfgH ++ cf ++ nlB) ls from by unfold manS; rw [hB]; rfl]
    obtain ⟨d1, d2, d3, d4⟩ := manB_lays hB
    have hcf := digB_71 d1
    have z0 : (cfgH ++ cf ++ nlB).size = 79 := by rw [ByteArray.size_append, ByteArray.size_append, hcf]; rfl
    have HZ0 := hide z0
    have hn40 : n ≤ 40 := by rw [← hn]; exact d3
    have HD4 := hide d4
    have HBB := hide hB
    have hcfs : cf.size ≤ 71 := by omega
    clear hB hn d1 d2 d3 d4 hs hcf z0
    have zc : (⟨#[99, 111, 110, 102, 105, 103, 32]⟩ : ByteArray).size = 7 := rfl
    have zl : (⟨#[108, 97, 121, 101, 114, 32]⟩ : ByteArray).size = 6 := rfl
    have zn : (⟨#[10]⟩ : ByteArray).size = 1 := rfl
    go_enter Try.func19, Try.ntmps19
    go_wp2_with fail
    refine (unhide HC).mono ?_
    rintro e w1 ⟨rfl, hb1⟩
    rw [unhide HBB]
    have HB1 := hide (belOn (unhide HB0) hb1)
    have q0 := bcl hb1 (unhide HLT) (unhide HC0)
    have q1 := bcl hb1 (unhide HLT) (unhide HC1)
    have H1 := hide ((unhide H).below (unhide HB1))
    clear hb1 HC HB0 HC0 HC1 HLT H
    go_wp2_with fail
    go_loop [3, 4] (fun t i => ∃ k : Nat, ∃ x : ByteArray, t = .string x ∧ i = .int .i64 k ∧ k ≤ n ∧ Hid (x = laysS (cfgH ++ cf ++ nlB) (ls.take k)) ∧ x.size ≤ 79 + 78 * k) (fun _ i => n - (intOf i).toNat)
    case atStart => exact ⟨0, cfgH ++ cf ++ nlB, rfl, rfl, by omega, hide rfl, by rw [unhide HZ0]; omega⟩
    case round =>
      obtain ⟨k, x, rfl, rfl, hk, HR, hxs⟩ := hrel
      by_cases hlk : k < n
      · have hkl : k < ls.length := by rw [unhide HN]; exact hlk
        obtain ⟨g, o, e1, l1, p1⟩ := unhide H1 k hkl
        have hsz : ls[k].size ≤ 71 := by have := digB_71 (unhide HD4 ls[k] (by simp)); omega
        have hst := laysS_snoc (cfgH ++ cf ++ nlB) (ls.take k) ls[k]
        rw [← take_snoc ls k hkl, ← unhide HR] at hst
        generalize ls[k] = y at p1 hsz hst
        have HST := hide (show x ++ ⟨#[108, 97, 121, 101, 114, 32]⟩ ++ y ++ ⟨#[10]⟩ = laysS (cfgH ++ cf ++ nlB) (ls.take (k + 1)) from by
          rw [hst, ByteArray.append_assoc, ByteArray.append_assoc, ByteArray.append_assoc]; rfl)
        clear hst HR
        have i0 : (0 : Int) ≤ (k : Int) := by omega
        have i1 : (k : Int) < (n : Int) := by omega
        subst e1
        go_wp2_with fail
        go_round
        case rel =>
          refine ⟨k + 1, _, rfl, by go_num, by omega, hide (unhide HST), ?_⟩
          rw [ByteArray.size_append, ByteArray.size_append, ByteArray.size_append, zl, zn]
          omega
        case measure => simp [intOf]; omega
      · obtain rfl : k = n := by omega
        have HF := unhide HR
        rw [List.take_of_length_le (by rw [unhide HN]; exact Nat.le_refl _)] at HF
        have HFF := hide HF
        clear HF HR
        go_wp2_with fail
        go_ret
        exact ⟨by rw [unhide HFF]; rfl, unhide HB1⟩
end Go.Proofs.Ytkeindhefiaghaa
