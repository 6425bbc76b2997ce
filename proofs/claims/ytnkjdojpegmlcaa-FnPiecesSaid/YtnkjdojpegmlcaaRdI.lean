/- The number in four bytes, and how bytes begin, of the program. -/
import Derived.Test.YtnkjdojpegmlcaaRdM
import Derived.Test.YtnkjdojpegmlcaaCur
import Derived.Deep.QuietTactic
import Derived.BigQuiet
namespace Go.Proofs.Ytnkjdojpegmlcaa
open Go.RowKit Plain
set_option linter.unusedVariables false

theorem highFirst_any (a b c d : Int) (w : World) (n : Nat) (ha : 0 ≤ a ∧ a < 256) (hb : 0 ≤ b ∧ b < 256) (hc : 0 ≤ c ∧ c < 256) (hd : 0 ≤ d ∧ d < 256) :
    Calls Try.prog 64 #[.int .u8 a, .int .u8 b, .int .u8 c, .int .u8 d] (w.drewN n) fun r w' => r = .returned (.int .u32 (hiI a b c d)) ∧ ∃ m, w' = w.drewN m := by
  obtain ⟨a0, a1⟩ := ha
  obtain ⟨b0, b1⟩ := hb
  obtain ⟨c0, c1⟩ := hc
  obtain ⟨d0, d1⟩ := hd
  go_enter Try.func64, Try.ntmps64
  go_wp2
  go_ret
  exact ⟨rfl, n, rfl⟩

theorem low_calls (r : ByteArray) (w : World) (h : r.size = 4) :
    Calls Try.prog 61 #[.string r] w fun e w' => e = .returned (.int .u32 (wdI r)) ∧ ∃ k, w' = w.drewN k := by
  have e0 := bAt_get r 0 (by omega)
  have e1 := bAt_get r 1 (by omega)
  have e2 := bAt_get r 2 (by omega)
  have e3 := bAt_get r 3 (by omega)
  have l0 := bAt_lt r 0
  have l1 := bAt_lt r 1
  have l2 := bAt_lt r 2
  have l3 := bAt_lt r 3
  have hw : wdI r = hiI (bAt r 3) (bAt r 2) (bAt r 1) (bAt r 0) := rfl
  have HW := hide hw
  clear hw
  generalize bAt r 0 = c0 at *
  generalize bAt r 1 = c1 at *
  generalize bAt r 2 = c2 at *
  generalize bAt r 3 = c3 at *
  have s0 : (0 : Int) < (r.size : Int) := by omega
  have s1 : (1 : Int) < (r.size : Int) := by omega
  have s2 : (2 : Int) < (r.size : Int) := by omega
  have s3 : (3 : Int) < (r.size : Int) := by omega
  go_enter Try.func61, Try.ntmps61
  go_wp2_with fail
  go_quiet ((go_at_call 64; exact highFirst_any _ _ _ _ _ _ (by omega) (by omega) (by omega) (by omega)))
  go_wp2_with fail
  go_ret
  exact ⟨by rw [unhide HW]; rfl, _, rfl⟩

def szV (r : ByteArray) : Value := .tuple #[.int .i64 ((szI r).2 : Nat), .int .i64 (szI r).1]

set_option maxHeartbeats 1000000 in
theorem frameSize_calls (r : ByteArray) (w : World) (h : 1 ≤ r.size) (hs : r.size ≤ 1000000000000) :
    Calls Try.prog 60 #[.string r] w fun e w' => e = .returned (szV r) ∧ ∃ k, w' = w.drewN k := by
  have e0 := bAt_get r 0 (by omega)
  have l0 := bAt_lt r 0
  have hV : szV r = .tuple #[.int .i64 ((szI r).2 : Nat), .int .i64 (szI r).1] := rfl
  unfold szI at hV
  have s0 : (0 : Int) < (r.size : Int) := by omega
  by_cases h1 : bAt r 0 < 1
  · rw [if_pos (.inl h1)] at hV
    rw [hV]
    clear hV
    generalize bAt r 0 = c0 at *
    go_enter Try.func60, Try.ntmps60
    go_wp2_with fail
    go_ret2
    exact ⟨rfl, 0, rfl⟩
  · by_cases h2 : 100 < bAt r 0
    · rw [if_pos (.inr h2)] at hV
      rw [hV]
      clear hV
      generalize bAt r 0 = c0 at *
      go_enter Try.func60, Try.ntmps60
      go_wp2_with fail
      go_ret2
      exact ⟨rfl, 0, rfl⟩
    · rw [if_neg (by omega)] at hV
      by_cases h3 : r.size < 5
      · rw [if_pos h3] at hV
        rw [hV]
        clear hV
        generalize bAt r 0 = c0 at *
        go_enter Try.func60, Try.ntmps60
        go_wp2_with fail
        go_ret2
        exact ⟨rfl, 0, rfl⟩
      · rw [if_neg h3] at hV
        have hx : (r.extract 1 5).size = 4 := by simp; omega
        have hwd := wdI_word (r.extract 1 5)
        obtain ⟨N, hN⟩ := Int.eq_ofNat_of_zero_le hwd.1
        rw [hN] at hV hwd
        have HV := hide hV
        have HN := hide hN
        clear hV hN
        generalize bAt r 0 = c0 at *
        go_enter Try.func60, Try.ntmps60
        go_wp2_with fail
        refine (low_calls _ _ hx).mono ?_
        rintro e w1 ⟨rfl, k, rfl⟩
        rw [unhide HN]
        have hV := unhide HV
        clear HV
        by_cases h4 : 20000 < N
        · rw [if_pos (by omega)] at hV
          have HV := hide hV
          clear hV HN hx
          go_wp2_with fail
          go_ret2
          exact ⟨by rw [unhide HV]; rfl, k, rfl⟩
        · rw [if_neg (by omega), Int.toNat_natCast] at hV
          by_cases h5 : r.size < 9 + N
          · rw [if_pos h5] at hV
            have HV := hide hV
            clear hV HN hx
            go_wp2_with fail
            go_ret2
            exact ⟨by rw [unhide HV]; rfl, k, rfl⟩
          · rw [if_neg h5] at hV
            have HV := hide hV
            clear hV HN hx
            go_wp2_with fail
            go_ret2
            refine ⟨?_, k, rfl⟩
            rw [unhide HV]
            go_num
end Go.Proofs.Ytnkjdojpegmlcaa
