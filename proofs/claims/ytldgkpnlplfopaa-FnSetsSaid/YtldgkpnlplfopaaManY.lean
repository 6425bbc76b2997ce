/- Texts compared and looked for, as the laws do it. -/
import Derived.Test.YtldgkpnlplfopaaRzE
namespace Go.Proofs.Ytldgkpnlplfopaa
open Go.RowKit Plain
set_option linter.unusedVariables false

set_option maxHeartbeats 1000000 in
theorem sameTexts_calls (a1 a2 : Option Addr) (c1 c2 n : Nat) (ls : List ByteArray) (w : World) (hn : ls.length = n) (hn2 : n ≤ 100000000) (h1 : StrsAt w a1 ls) (h2 : StrsAt w a2 ls) :
    Calls Try.prog 8 #[.slice a1 n c1, .slice a2 n c2] w fun e w' => e = .returned (.bool true) ∧ Below w.heap.size w w' := by
  have H1 := hide h1
  have H2 := hide h2
  have HN := hide hn
  clear h1 h2 hn
  go_enter Try.func8, Try.ntmps8
  go_wp2_with fail
  go_loopw [5] (fun i wr => ∃ (k : Nat), i = .int .i64 k ∧ k ≤ n ∧ Hid (Below w.heap.size w wr)) (fun i _ => n - (intOf i).toNat)
  case atStart => exact ⟨0, rfl, by omega, Below.refl _ _⟩
  case round =>
    obtain ⟨k, rfl, hk, HB⟩ := hrel
    by_cases hlt : k < n
    · obtain ⟨g1, o1, e1, l1, p1⟩ := (unhide H1).below (unhide HB) k (by rw [unhide HN]; exact hlt)
      obtain ⟨g2, o2, e2, l2, p2⟩ := (unhide H2).below (unhide HB) k (by rw [unhide HN]; exact hlt)
      generalize (ls[k]'(by rw [unhide HN]; exact hlt)) = x at p1 p2
      clear H1 H2
      subst e1 e2
      have i0 : (0 : Int) ≤ (k : Int) := by omega
      have i1 : (k : Int) < (n : Int) := by omega
      go_wp2_with fail
      go_region
      all_goals (try go_wp2_with fail)
      all_goals exact ⟨⟨k + 1, by go_num, by omega, hide (belDrew (unhide HB))⟩, by simp [intOf]; omega⟩
    · obtain rfl : k = n := by omega
      go_wp2_with fail
      go_ret
      exact ⟨rfl, unhide HB⟩

set_option maxHeartbeats 1000000 in
theorem hasText_calls (a : Option Addr) (n c : Nat) (ls : List ByteArray) (s : ByteArray) (w : World) (hn : ls.length = n) (hn2 : n ≤ 100000000) (h : StrsAt w a ls) :
    Calls Try.prog 10 #[.slice a n c, .string s] w fun e w' => e = .returned (.bool (anyB ls s)) ∧ w = w' := by
  have H := hide h
  have HN := hide hn
  clear h hn
  go_enter Try.func10, Try.ntmps10
  go_wp2_with fail
  go_loop [5] (fun i => ∃ k : Nat, i = .int .i64 k ∧ k ≤ n ∧ Hid ((ls.drop k).any (fun x => x.toList == s.toList) = anyB ls s)) (fun i => n - (intOf i).toNat)
  case atStart => exact ⟨0, rfl, by omega, hide (by rw [List.drop_zero]; rfl)⟩
  case round =>
    obtain ⟨k, rfl, hk, HR⟩ := hrel
    by_cases hlk : k < n
    · have hkl : k < ls.length := by rw [unhide HN]; exact hlk
      obtain ⟨g, o, e1, l1, p1⟩ := unhide H k hkl
      have hst := any_step (fun x => x.toList == s.toList) ls k hkl
      generalize ls[k] = x at p1 hst
      have i0 : (0 : Int) ≤ (k : Int) := by omega
      have i1 : (k : Int) < (n : Int) := by omega
      subst e1
      cases hx : (x.toList == s.toList) with
      | true =>
        have HF := hide (show anyB ls s = true from by rw [← unhide HR, hst, hx]; rfl)
        clear hst HR
        go_wp2_with fail
        go_ret
        exact ⟨by rw [unhide HF]; rfl, rfl⟩
      | false =>
        have HF := hide (show (ls.drop (k + 1)).any (fun x => x.toList == s.toList) = anyB ls s from by rw [← unhide HR, hst, hx]; rfl)
        clear hst HR
        go_wp2_with fail
        go_round
        case rel => exact ⟨k + 1, by go_num, by omega, HF⟩
        case measure => simp [intOf]; omega
    · have HF := unhide HR
      rw [List.drop_of_length_le (by rw [unhide HN]; omega)] at HF
      have HFF := hide HF
      clear HR HF
      go_wp2_with fail
      go_ret
      exact ⟨by rw [← unhide HFF]; rfl, rfl⟩

end Go.Proofs.Ytldgkpnlplfopaa
