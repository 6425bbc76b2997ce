/- Two lists of numbers held against each other, as the laws do it. -/
import Derived.Test.YtmokpgmehaakgaaGreatDoorRzB
namespace Go.Proofs.YtmokpgmehaakgaaGreatDoor
open Go.RowKit Plain
set_option linter.unusedVariables false

set_option maxHeartbeats 1000000 in
theorem sameInts_calls (a1 a2 : Option Addr) (c1 c2 n : Nat) (ls : List Int) (w : World) (hn : ls.length = n) (hn2 : n ≤ 100000000) (h1 : RowAt i64E w a1 ls) (h2 : RowAt i64E w a2 ls) :
    Calls Tryz.prog 31 #[.slice a1 n c1, .slice a2 n c2] w fun e w' => e = .returned (.bool true) ∧ Below w.heap.size w w' := by
  have H1 := hide h1
  have H2 := hide h2
  have HN := hide hn
  clear h1 h2 hn
  go_enter Tryz.func31, Tryz.ntmps31
  go_wp2_with fail
  go_loopw [5] (fun i wr => ∃ (k : Nat), i = .int .i64 k ∧ k ≤ n ∧ Hid (Below w.heap.size w wr)) (fun i _ => n - (intOf i).toNat)
  case atStart => exact ⟨0, rfl, by omega, Below.refl _ _⟩
  case round =>
    obtain ⟨k, rfl, hk, HB⟩ := hrel
    by_cases hlt : k < n
    · obtain ⟨g1, e1, l1, p1, -⟩ := ((unhide H1).below (unhide HB)).ix k (by rw [unhide HN]; exact hlt)
      obtain ⟨g2, e2, l2, p2, -⟩ := ((unhide H2).below (unhide HB)).ix k (by rw [unhide HN]; exact hlt)
      generalize (ls[k]'(by rw [unhide HN]; exact hlt)) = x at p1 p2
      clear H1 H2
      subst e1 e2
      have i0 : (0 : Int) ≤ (k : Int) := by omega
      have i1 : (k : Int) < (n : Int) := by omega
      go_wp2_with fail
      go_region
      all_goals (try go_wp2_with fail)
      all_goals exact ⟨⟨k + 1, by go_num, by omega, hide (belDrew (unhide HB))⟩, by simp [intOf]; omega⟩
    · obtain rfl : k = n := by omega
      go_wp2_with fail
      go_ret
      exact ⟨rfl, unhide HB⟩
end Go.Proofs.YtmokpgmehaakgaaGreatDoor
