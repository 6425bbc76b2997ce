/- A number in decimal, by both. -/
import Derived.Test.YtmicacoegkmklaaGreatDoorShlF
import Derived.Test.YtmicacoegkmklaaGreatDoorRzE
import Derived.Laws.IdiomStrings
namespace Go.Proofs.YtmicacoegkmklaaGreatDoor
open Go.RowKit Plain
set_option linter.unusedVariables false

namespace Plain
def strD (l : List UInt8) : ByteArray := ⟨l.toArray⟩
theorem strD_add (a b : List UInt8) : strD a ++ strD b = strD (a ++ b) := by
  apply ByteArray.ext
  simp [strD]
theorem strD_size (a : List UInt8) : (strD a).size = a.length := by simp [strD, ByteArray.size]
theorem decD_len : ∀ n : Fin 51, (Lib.decDigits n.val).length ≤ 2 := by
  intro n
  rw [Lib.decDigits]
  split
  · simp
  · rw [Lib.decDigits, dif_pos (by omega)]
    simp
/-- What a digit more ahead makes of the digits. -/
def decG : Nat → Nat → List UInt8 → List UInt8
  | 0, _, o => o
  | f + 1, n, o => if n = 0 then o else decG f (n / 10) (UInt8.ofNat (48 + n % 10) :: o)
theorem decG_is : ∀ n : Fin 51, n.val ≠ 0 → decG 3 n.val [] = Lib.decDigits n.val := by
  intro n hn
  obtain ⟨n, h⟩ := n
  simp only at hn ⊢
  rw [Lib.decDigits]
  split
  · rename_i hl
    have h1 : n / 10 = 0 := by omega
    have h2 : n % 10 = n := by omega
    simp [decG, hn, h1, h2]
  · rename_i hl
    have h1 : n / 10 ≠ 0 := by omega
    have h2 : n / 10 / 10 = 0 := by omega
    have h3 : n / 10 % 10 = n / 10 := by omega
    rw [Lib.decDigits, dif_pos (by omega)]
    simp [decG, hn, h1, h2, h3]
theorem bel1D (w : World) (o : Obj) : Below w.heap.size w (w.alloc o) := (Below.refl _ _).alloc (Nat.le_refl _) _
theorem belOnD {w W W' : World} (h0 : Below w.heap.size w W) (h1 : Below W.heap.size W W') : Below w.heap.size w W' := h0.trans (h1.mono h0.size)
/-- The text of a number. -/
def decT (n : Nat) : ByteArray := strD (Lib.decDigits n)
theorem decT_size (n : Nat) (h : n ≤ 50) : (decT n).size ≤ 2 := by
  have := decD_len ⟨n, by omega⟩
  rw [decT, strD_size]
  exact this
end Plain

theorem Plain.strAddD {a b : ByteArray} (W : World) (h : a.size + b.size ≤ 1000000000000) : (Op.stringOp .add a b).run Tryz.prog W = .ok (.string (a ++ b)) W := by
  have hm : (a.size : Int) + (b.size : Int) ≤ 9223372036854775807 := by omega
  simp [Op.stringOp, hm]

set_option maxRecDepth 10000 in
set_option maxHeartbeats 2000000 in
theorem l1DecD_calls (n : Nat) (w : World) (h1 : 1 ≤ n) (h2 : n ≤ 50) :
    Calls Tryz.prog 66 #[.int .i64 n] w fun e w' => e = .returned (.string (strD (Lib.decDigits n))) ∧ Below w.heap.size w w' := by
  have HX := hide (decG_is ⟨n, by omega⟩ (by simp; omega))
  simp only at HX
  have hne : ((n : Int) == 0) = false := by rw [beq_eq_false_iff_ne]; omega
  go_enter Tryz.func66, Tryz.ntmps66
  go_wp2_with fail
  go_loopw [0, 3] (fun s0 s3 wr => ∃ (f m : Nat) (o : List UInt8), s0 = .int .i64 m ∧ s3 = .string (strD o) ∧ f ≤ 3 ∧ m ≤ 50 ∧ o.length + f ≤ 3 ∧ m < 10 ^ f ∧ Hid (decG f m o = Lib.decDigits n) ∧ Hid (Below w.heap.size w wr)) (fun s0 _ _ => (intOf s0).toNat)
  case atStart => exact ⟨3, n, [], rfl, rfl, by omega, by omega, by simp, by omega, HX, hide (Below.refl _ _)⟩
  case round =>
    obtain ⟨f, m, o, rfl, rfl, hf, hm, ho, hp, HO, HB⟩ := hrel
    by_cases hm0 : 0 < m
    · obtain ⟨f, rfl⟩ : ∃ f', f = f' + 1 := ⟨f - 1, by
        rcases Nat.eq_zero_or_pos f with h | h
        · subst h; simp at hp; omega
        · omega⟩
      have hst := unhide HO
      rw [decG, if_neg (by omega)] at hst
      have HST := hide hst
      have hm1 : (0 : Int) < (m : Int) := by omega
      obtain ⟨d, hd⟩ : ∃ d : Nat, m % 10 = d := ⟨_, rfl⟩
      obtain ⟨m2, hm2⟩ : ∃ m2 : Nat, m / 10 = m2 := ⟨_, rfl⟩
      rw [hd, hm2] at HST
      have ht : (m : Int) % 10 = (d : Int) := by omega
      have hq : (m : Int) / 10 = (m2 : Int) := by omega
      have hcv := conv1 wr (48 + (d : Int))
      rw [show strOfNums [48 + (d : Int)] = strD [UInt8.ofNat (48 + d)] from by unfold strOfNums strD; rw [List.map_cons, List.map_nil, show (48 + (d : Int)).toNat = 48 + d from by omega]] at hcv
      have hadd := fun W => strAddD (a := strD [UInt8.ofNat (48 + d)]) (b := strD o) W (by rw [strD_size, strD_size, List.length_singleton]; omega)
      rw [strD_add, List.singleton_append] at hadd
      have hm3 : m2 < 10 ^ f := by rw [← hm2]; rw [Nat.pow_succ] at hp; exact Nat.div_lt_of_lt_mul (by rw [Nat.mul_comm]; exact hp)
      generalize hT : strD (UInt8.ofNat (48 + d) :: o) = T at hadd
      generalize strD [UInt8.ofNat (48 + d)] = D at hcv hadd
      have HT := hide hT
      clear hst HO hd hm2 hT hp
      go_wp2_with fail
      go_roundw
      case rel => exact ⟨f, m2, UInt8.ofNat (48 + d) :: o, by first | rfl | (simp [hq]), by rw [unhide HT], by omega, by omega, by rw [List.length_cons]; omega, hm3, HST, hide (belOnD (unhide HB) (bel1D _ _))⟩
      case measure => simp [intOf]; omega
    · obtain rfl : m = 0 := by omega
      have hst := unhide HO
      have HF := hide (show o = Lib.decDigits n from by rw [← hst]; cases f <;> simp [decG])
      clear hst HO
      rw [unhide HF]
      go_wp2_with fail
      go_ret
      exact ⟨rfl, unhide HB⟩

theorem formatInt_dec (n : Nat) (w : World) (h : n ≤ 50) :
    Calls Tryz.prog 61 #[.int .i64 n, .int .i64 10] w fun e w' => e = .returned (.string (decT n)) ∧ w' = w := Any.strconv_FormatInt_10_small Tryz.lays173 n (by omega) w
end Go.Proofs.YtmicacoegkmklaaGreatDoor
