/- Texts of one kind, put together. -/
import Derived.Test.YtblbmjpmdmihlaaGreatDoorRzB
import Derived.Test.YtblbmjpmdmihlaaGreatDoorMem

/- Two lists of numbers held against each other, as the laws do it. -/
namespace Go.Proofs.YtblbmjpmdmihlaaGreatDoor
open Go.RowKit Plain
set_option linter.unusedVariables false

set_option maxHeartbeats 1000000 in
theorem sameInts_calls (a1 a2 : Option Addr) (c1 c2 n : Nat) (ls : List Int) (w : World) (hn : ls.length = n) (hn2 : n ≤ 100000000) (h1 : RowAt i64E w a1 ls) (h2 : RowAt i64E w a2 ls) :
    Calls Tryz.prog 8 #[.slice a1 n c1, .slice a2 n c2] w fun e w' => e = .returned (.bool true) ∧ Below w.heap.size w w' := by
  have H1 := hide h1
  have H2 := hide h2
  have HN := hide hn
  clear h1 h2 hn
  go_enter Tryz.func8, Tryz.ntmps8
  go_wp2_with fail
  go_loopw [5] (fun i wr => ∃ (k : Nat), i = .int .i64 k ∧ k ≤ n ∧ Hid (Below w.heap.size w wr)) (fun i _ => n - (intOf i).toNat)
  case atStart => exact ⟨0, rfl, by omega, Below.refl _ _⟩
  case round =>
    obtain ⟨k, rfl, hk, HB⟩ := hrel
    by_cases hlt : k < n
    · obtain ⟨g1, e1, l1, p1, -⟩ := ((unhide H1).below (unhide HB)).ix k (by rw [unhide HN]; exact hlt)
      obtain ⟨g2, e2, l2, p2, -⟩ := ((unhide H2).below (unhide HB)).ix k (by rw [unhide HN]; exact hlt)
      generalize (ls[k]'(by rw [unhide HN]; exact hlt)) = x at p1 p2
      clear H1 H2
      subst e1 e2
      have i0 : (0 : Int) ≤ (k : Int) := by omega
      have i1 : (k : Int) < (n : Int) := by omega
      go_wp2_with fail
      go_region
      all_goals (try go_wp2_with fail)
      all_goals exact ⟨⟨k + 1, by go_num, by omega, hide (belDrew (unhide HB))⟩, by simp [intOf]; omega⟩
    · obtain rfl : k = n := by omega
      go_wp2_with fail
      go_ret
      exact ⟨rfl, unhide HB⟩
end Go.Proofs.YtblbmjpmdmihlaaGreatDoor


/- Whether a number is among others, by the laws. -/
namespace Go.Proofs.YtblbmjpmdmihlaaGreatDoor
open Go.RowKit Plain
set_option linter.unusedVariables false

set_option maxRecDepth 10000 in
set_option maxHeartbeats 1000000 in
theorem hasIntR_calls (a : Option Addr) (n c : Nat) (ls : List Int) (x : Int) (w : World) (h : IntsAt w a n ls) :
    Calls Tryz.prog 10 #[.slice a n c, .int .i64 x] w fun e w' => e = .returned (.bool (decide (x ∈ ls))) ∧ w = w' := by
  have HH := hide h
  have hbn := h.bn
  clear h
  obtain ⟨R, hR⟩ : ∃ R, decide (x ∈ ls) = R := ⟨_, rfl⟩
  rw [hR]
  have HR := hide hR
  clear hR
  obtain ⟨w0, rfl⟩ : ∃ w0, w0 = w := ⟨_, rfl⟩
  go_enter Tryz.func10, Tryz.ntmps10
  go_wp2_with fail
  go_loopw [5] (fun i wr => ∃ k : Nat, i = .int .i64 k ∧ k ≤ n ∧ Hid (decide (x ∈ ls.drop k) = R) ∧ wr = w0) (fun i _ => n - (intOf i).toNat)
  case atStart => exact ⟨0, rfl, by omega, hide (unhide HR), rfl⟩
  case round =>
    obtain ⟨k, rfl, hk, HO, rfl⟩ := hrel
    by_cases hkn : k < n
    · have hkl : k < ls.length := by rw [(unhide HH).len]; exact hkn
      obtain ⟨g, e1, l1, p0, -⟩ := (unhide HH).row.ix k hkl
      have hst := unhide HO
      rw [List.drop_eq_getElem_cons hkl] at hst
      generalize ls[k] = y at p0 hst
      subst e1
      have i0 : (0 : Int) ≤ (k : Int) := by omega
      have i1 : (k : Int) < (n : Int) := by omega
      clear HO
      by_cases hxy : y = x
      · subst hxy
        have HX := hide (show R = true from by rw [← hst]; simp)
        clear hst
        go_wp2_with fail
        go_ret
        exact ⟨by rw [unhide HX]; rfl, rfl⟩
      · have HX := hide (show decide (x ∈ ls.drop (k + 1)) = R from by rw [← hst]; exact decide_eq_decide.2 (by rw [List.mem_cons]; exact ⟨fun q => .inr q, fun q => q.resolve_left (fun q2 => hxy q2.symm)⟩))
        have hne : (y == x) = false := by rw [beq_eq_false_iff_ne]; exact hxy
        clear hst
        go_wp2_with fail
        go_roundw
        case rel => exact ⟨k + 1, by go_num, by omega, HX, trivial⟩
        case measure => simp [intOf]; omega
    · obtain rfl : k = n := by omega
      have hO := unhide HO
      rw [List.drop_of_length_le (by rw [(unhide HH).len]; exact Nat.le_refl _)] at hO
      have HX := hide (show R = false from by rw [← hO]; rfl)
      clear hO HO
      go_wp2_with fail
      go_ret
      exact ⟨by rw [unhide HX]; rfl, rfl⟩
end Go.Proofs.YtblbmjpmdmihlaaGreatDoor


/- The laws' own test of a code's length. -/
namespace Go.Proofs.YtblbmjpmdmihlaaGreatDoor
open Go.RowKit Plain
set_option linter.unusedVariables false

theorem big_calls (a : Option Addr) (len cap : Nat) (w : World) (h : len ≤ maxLen) :
    Calls Tryz.prog 4 #[.slice a len cap] w fun e w' => e = .returned (.bool (decide (1048576 < (len : Int)))) ∧ w = w' := by
  unfold maxLen at h
  go_enter Tryz.func4, Tryz.ntmps4
  go_wp2
  go_ret
  exact ⟨rfl, rfl⟩

namespace Plain
theorem IsRow.len {w : World} {k : IntKind} {a : Option Addr} {len cap : Nat} {zs : List Int} (h : IsRow k w a len cap zs) : len ≤ maxLen := by
  rcases h with ⟨_, h, _⟩ | ⟨x, _, h1, h2, _⟩
  · omega
  · omega
end Plain
end Go.Proofs.YtblbmjpmdmihlaaGreatDoor

