/- What is put is taken back: numbers and texts in bytes, as plain mathematics. -/
import Derived.Test.YtlkkhhelonbcbaaPlainB
namespace Go.Proofs.Ytlkkhhelonbcbaa.Plain
open Go Go.RowKit
set_option linter.unusedVariables false

theorem byte_val (n : Nat) (h : n < 256) : (UInt8.ofNat ((n : Int).toNat)).toNat = n := by
  rw [Int.toNat_natCast, UInt8.toNat_ofNat']
  omega

/-- Byte i of a string that begins with the list pre ++ cs. -/
theorem str_byte (cs : List Int) (t : ByteArray) (i : Nat) (hi : i < cs.length) (n : Nat) (hn : cs[i]? = some (n : Int)) (hb : n < 256) :
    ∃ h : i < (strOfNums cs ++ t).size, (strOfNums cs ++ t)[i].toNat = n := by
  have hs : (strOfNums cs).size = cs.length := strOfNums_size cs
  have h : i < (strOfNums cs ++ t).size := by rw [ByteArray.size_append]; omega
  refine ⟨h, ?_⟩
  rw [ByteArray.getElem_append_left (by omega)]
  have e : (strOfNums cs)[i]'(by omega) = UInt8.ofNat (cs[i]).toNat := by
    show (strOfNums cs).data[i]'(by simpa [strOfNums] using hi) = _
    simp [strOfNums]
  rw [e]
  have e2 : cs[i] = (n : Int) := by
    rw [List.getElem?_eq_getElem hi] at hn
    simpa using hn
  rw [e2]
  exact byte_val n hb

/-- The bytes of put are taken back, whatever stands ahead of them in pre. -/
theorem tk_put (f : Nat) : ∀ (m i N : Nat) (pre : List Int) (t : ByteArray), pre.length = i → m < 128 ^ (f + 1) → (i = 0 ∨ 0 < m) → N + m * 128 ^ i ≤ 1000000000000 →
    tkGo (strOfNums (pre ++ putL f m) ++ t) 0 (f + 1) i N = some (N + m * 128 ^ i, i + (putL f m).length) := by
  induction f with
  | zero =>
    intro m i N pre t hp hm h0 hN
    have hm' : m < 128 := by simpa using hm
    obtain ⟨h, hc⟩ := str_byte (pre ++ putL 0 m) t i (by simp [putL]; omega) m (by simp [putL, hp]) (by omega)
    rw [tkGo, dif_pos (by rw [Nat.zero_add]; exact h)]
    simp only [Nat.zero_add, hc]
    rw [if_pos hm', Nat.mod_eq_of_lt hm', if_neg (by omega)]
    simp [putL]
  | succ f ih =>
    intro m i N pre t hp hm h0 hN
    by_cases hs : m < 128
    · rw [putL_small _ _ hs]
      obtain ⟨h, hc⟩ := str_byte (pre ++ [(m : Int)]) t i (by simp; omega) m (by simp [hp]) (by omega)
      rw [tkGo, dif_pos (by rw [Nat.zero_add]; exact h)]
      simp only [Nat.zero_add, hc]
      rw [if_pos hs, Nat.mod_eq_of_lt hs, if_neg (by omega)]
      simp
    · rw [putL_big f m hs]
      obtain ⟨h, hc⟩ := str_byte (pre ++ ((m % 128 + 128 : Nat) : Int) :: putL f (m / 128)) t i (by simp; omega) (m % 128 + 128) (by simp [hp]) (by omega)
      rw [tkGo, dif_pos (by rw [Nat.zero_add]; exact h)]
      simp only [Nat.zero_add, hc]
      rw [if_neg (by omega), show (m % 128 + 128) % 128 = m % 128 from by omega]
      have e : N + m % 128 * 128 ^ i + m / 128 * 128 ^ (i + 1) = N + m * 128 ^ i := by
        have hd : m = m % 128 + 128 * (m / 128) := by omega
        have : m * 128 ^ i = m % 128 * 128 ^ i + m / 128 * 128 ^ (i + 1) := by
          conv => lhs; rw [hd]
          rw [Nat.add_mul, Nat.pow_succ]
          congr 1
          rw [Nat.mul_comm 128, Nat.mul_assoc, Nat.mul_comm 128 (128 ^ i)]
        omega
      have hih := ih (m / 128) (i + 1) (N + m % 128 * 128 ^ i) (pre ++ [((m % 128 + 128 : Nat) : Int)]) t (by simp [hp]) (by rw [Nat.pow_succ] at hm; exact Nat.div_lt_of_lt_mul (by rw [Nat.mul_comm]; exact hm)) (.inr (by omega)) (by rw [e]; exact hN)
      rw [List.append_assoc, List.singleton_append] at hih
      rw [hih, e]
      simp
      omega

theorem tkN_put (n : Nat) (t : ByteArray) (h : n ≤ 1000000000000) : tkN (putS n ++ t) 0 = some (n, (putS n).size) := by
  have e : putS (n : Int) = strOfNums (putL 5 n) := by unfold putS; rw [if_pos (by omega), Int.toNat_natCast]
  rw [e, strOfNums_size]
  have := tk_put 5 n 0 0 [] t rfl (by omega) (.inl rfl) (by omega)
  unfold tkN
  simpa using this

end Go.Proofs.Ytlkkhhelonbcbaa.Plain
