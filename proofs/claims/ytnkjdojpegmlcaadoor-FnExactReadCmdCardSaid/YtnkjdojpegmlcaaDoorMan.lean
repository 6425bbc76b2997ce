/- Manifests: when one is right, and its text: both programs by their contracts. -/
import Derived.Test.YtnkjdojpegmlcaaDoorManM
import Derived.Test.YtnkjdojpegmlcaaDoorStrR
namespace Go.Proofs.YtnkjdojpegmlcaaDoor
open Go.RowKit Plain
set_option linter.unusedVariables false

namespace Plain
theorem bel1 (w : World) (o : Obj) : Below w.heap.size w (w.alloc o) := (Below.refl _ _).alloc (Nat.le_refl _) _
theorem bcl {w w' : World} {B : Nat} (h : Below B w w') {g i : Nat} {v : Value} (hg : g < B) (hc : w.cell? ⟨g, i, none⟩ = some v) : w'.cell? ⟨g, i, none⟩ = some v := (h.cell (p := ⟨g, i, none⟩) hg).trans hc
theorem belOn {w W W' : World} (h0 : Below w.heap.size w W) (h1 : Below W.heap.size W W') : Below w.heap.size w W' := h0.trans (h1.mono h0.size)
end Plain

theorem impl_layers (a : Option Addr) (n c : Nat) (w : World) (hn : n ≤ 100000000000) :
    Calls Tryd.prog 57 #[.slice a n c] w fun e w' => e = .returned (.bool (decide (1 ≤ n) && decide (n ≤ 40))) ∧ w = w' := by
  by_cases h1 : 1 ≤ n
  · by_cases h2 : n ≤ 40
    · rw [decide_eq_true h1, decide_eq_true h2]
      have h3 : decide ((n : Int) ≤ 40) = true := decide_eq_true (by omega)
      go_enter Tryd.func57, Tryd.ntmps57
      go_wp2
      go_ret
      exact ⟨rfl, rfl⟩
    · rw [decide_eq_true h1, decide_eq_false h2]
      have h3 : decide ((n : Int) ≤ 40) = false := decide_eq_false (by omega)
      go_enter Tryd.func57, Tryd.ntmps57
      go_wp2
      go_ret
      exact ⟨rfl, rfl⟩
  · rw [decide_eq_false h1]
    go_enter Tryd.func57, Tryd.ntmps57
    go_wp2
    go_ret
    exact ⟨rfl, rfl⟩



set_option maxHeartbeats 2000000 in
theorem spec_manifestOk (cf : ByteArray) (a : Option Addr) (n c : Nat) (ls : List ByteArray) (w : World) (hc : cf.size ≤ 1000000000000) (hn : ls.length = n) (hn2 : n ≤ 100000000000) (hs : ∀ l ∈ ls, l.size ≤ 1000000000000) (h : StrsAt w a ls) :
    Calls Tryd.prog 41 #[.agg #[.string cf, .slice a n c]] w fun e w' => e = .returned (.bool (manB cf ls)) ∧ Below w.heap.size w w' := by
  have H := hide h
  have HN := hide hn
  have HS := hide hs
  clear h hs
  have HM : manB cf ls = (digB cf && (decide (1 ≤ n) && decide (n ≤ 40)) && ls.all digB) := by unfold manB; rw [hn]
  rw [HM]
  clear HM hn
  cases h1 : digB cf with
  | false =>
    have H1 := hide h1
    clear h1
    go_enter Tryd.func41, Tryd.ntmps41
    go_wp2_with (go_at_call 25; refine (spec_DigestOk cf _ hc).mono ?_; rintro e w1 ⟨rfl, rfl⟩; rw [unhide H1])
    go_ret
    exact ⟨rfl, bel1 _ _⟩
  | true =>
    have H1 := hide h1
    clear h1
    by_cases h1 : 1 ≤ n
    · by_cases h2 : n ≤ 40
      · rw [decide_eq_true h1, decide_eq_true h2]
        have HB0 := hide (bel1 w (.cells #[.string cf, .slice a n c] 51))
        go_enter Tryd.func41, Tryd.ntmps41
        go_wp2_with (go_at_call 25; refine (spec_DigestOk cf _ hc).mono ?_; rintro e w1 ⟨rfl, rfl⟩; rw [unhide H1])
        go_loop [3] (fun i => ∃ k : Nat, i = .int .i64 k ∧ k ≤ n ∧ Hid ((ls.drop k).all digB = ls.all digB)) (fun i => n - (intOf i).toNat)
        case atStart => exact ⟨0, rfl, by omega, hide (by rw [List.drop_zero])⟩
        case round =>
          obtain ⟨k, rfl, hk, HR⟩ := hrel
          by_cases hlk : k < n
          · have hkl : k < ls.length := by rw [unhide HN]; exact hlk
            obtain ⟨g, o, e1, l1, p1⟩ := (unhide H).below (unhide HB0) k hkl
            have hsz := unhide HS ls[k] (by simp)
            have hst := all_step digB ls k hkl
            generalize ls[k] = x at p1 hsz hst
            have i0 : (0 : Int) ≤ (k : Int) := by omega
            have i1 : (k : Int) < (n : Int) := by omega
            subst e1
            cases hx : digB x with
            | false =>
              have HF := hide (show ls.all digB = false from by rw [← unhide HR, hst, hx]; rfl)
              have HX := hide hx
              clear hst HR hx
              go_wp2_with (go_at_call 25; refine (spec_DigestOk x _ hsz).mono ?_; rintro e w1 ⟨rfl, rfl⟩; rw [unhide HX])
              go_ret
              exact ⟨by rw [unhide HF]; rfl, unhide HB0⟩
            | true =>
              have HF := hide (show (ls.drop (k + 1)).all digB = ls.all digB from by rw [← unhide HR, hst, hx]; rfl)
              have HX := hide hx
              clear hst HR hx
              go_wp2_with (go_at_call 25; refine (spec_DigestOk x _ hsz).mono ?_; rintro e w1 ⟨rfl, rfl⟩; rw [unhide HX])
              go_round
              case rel => exact ⟨k + 1, by go_num, by omega, HF⟩
              case measure => simp [intOf]; omega
          · have HF := hide ((unhide HR).symm.trans (all_end digB ls k (by rw [unhide HN]; omega)))
            clear HR
            go_wp2_with fail
            go_ret
            exact ⟨by rw [unhide HF]; rfl, unhide HB0⟩
      · rw [decide_eq_true h1, decide_eq_false h2]
        go_enter Tryd.func41, Tryd.ntmps41
        go_wp2_with (go_at_call 25; refine (spec_DigestOk cf _ hc).mono ?_; rintro e w1 ⟨rfl, rfl⟩; rw [unhide H1])
        go_ret
        exact ⟨rfl, bel1 _ _⟩
    · rw [decide_eq_false h1]
      go_enter Tryd.func41, Tryd.ntmps41
      go_wp2_with (go_at_call 25; refine (spec_DigestOk cf _ hc).mono ?_; rintro e w1 ⟨rfl, rfl⟩; rw [unhide H1])
      go_ret
      exact ⟨rfl, bel1 _ _⟩



end Go.Proofs.YtnkjdojpegmlcaaDoor