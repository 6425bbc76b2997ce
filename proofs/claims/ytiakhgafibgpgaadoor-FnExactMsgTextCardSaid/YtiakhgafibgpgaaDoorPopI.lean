/- How many bits are set, by the program. -/
import Derived.Test.YtiakhgafibgpgaaDoorMan
import Derived.Test.YtiakhgafibgpgaaDoorPopM
namespace Go.Proofs.YtiakhgafibgpgaaDoor
open Go.RowKit Plain
set_option linter.unusedVariables false

namespace Plain
theorem popN_le (n : Nat) : ∀ x, popN n x ≤ n := by
  induction n with
  | zero => intro x; exact Nat.le_refl _
  | succ n ih => intro x; have := ih (x / 2); rw [popN]; omega
theorem and127 (n : Int) (h0 : 0 ≤ n) (h1 : n < 18446744073709551616) : bits .and .i64 (IntKind.i64.wrap n) 127 = n % 128 := by
  unfold bits
  have e : (BitVec.ofInt 64 (IntKind.i64.wrap n) &&& BitVec.ofInt 64 127).toNat = (n % 128).toNat := by
    rw [BitVec.toNat_and, BitVec.toNat_ofInt]
    rw [show (BitVec.ofInt 64 127).toNat = 127 from rfl, Nat.and_two_pow_sub_one_eq_mod _ 7, IntKind.wrap_i64]
    omega
  show IntKind.wrap .i64 ((BitVec.ofInt 64 (IntKind.i64.wrap n) &&& BitVec.ofInt 64 127).toNat : Int) = _
  rw [e, IntKind.wrap_i64]
  omega
end Plain

namespace Plain
theorem fold1 (p0 A y3 y4 : Nat) (h0 : p0 ≤ 8) (h3 : p0 + 256 * A = y3) (h4 : y3 + y3 / 256 = y4) : y4 = p0 + 257 * A := by omega
theorem fold2 (l B y4 y5 : Nat) (hl : l < 65536) (h4 : y4 = l + 65536 * B) (h5 : y4 + y4 / 65536 = y5) : y5 = l + 65537 * B := by omega
theorem fold3 (l C y5 y6 : Nat) (hl : l < 4294967296) (h5 : y5 = l + 4294967296 * C) (h6 : y5 + y5 / 4294967296 = y6) : y6 = l + 4294967297 * C := by omega
theorem fold_way (p0 p1 p2 p3 p4 p5 p6 p7 y3 y4 y5 y6 : Nat) (k0 : p0 ≤ 8) (k1 : p1 ≤ 8) (k2 : p2 ≤ 8) (k3 : p3 ≤ 8) (k4 : p4 ≤ 8) (k5 : p5 ≤ 8) (k6 : p6 ≤ 8) (k7 : p7 ≤ 8)
    (h3 : p0 + 256 * p1 + 65536 * p2 + 16777216 * p3 + 4294967296 * p4 + 1099511627776 * p5 + 281474976710656 * p6 + 72057594037927936 * p7 = y3) (h4 : y3 + y3 / 256 = y4) (h5 : y4 + y4 / 65536 = y5) (h6 : y5 + y5 / 4294967296 = y6) :
    y6 % 128 = p0 + p1 + p2 + p3 + p4 + p5 + p6 + p7 ∧ y6 < 18446744073709551616 := by
  obtain ⟨A7, a7⟩ : ∃ A, A = p7 := ⟨_, rfl⟩
  obtain ⟨A6, a6⟩ : ∃ A, A = p6 + 256 * A7 := ⟨_, rfl⟩
  obtain ⟨A5, a5⟩ : ∃ A, A = p5 + 256 * A6 := ⟨_, rfl⟩
  obtain ⟨A4, a4⟩ : ∃ A, A = p4 + 256 * A5 := ⟨_, rfl⟩
  obtain ⟨A3, a3⟩ : ∃ A, A = p3 + 256 * A4 := ⟨_, rfl⟩
  obtain ⟨A2, a2⟩ : ∃ A, A = p2 + 256 * A3 := ⟨_, rfl⟩
  obtain ⟨A1, a1⟩ : ∃ A, A = p1 + 256 * A2 := ⟨_, rfl⟩
  have f1 := fold1 p0 A1 y3 y4 k0 (by rw [← h3, a1, a2, a3, a4, a5, a6, a7]; simp only [Nat.mul_add, ← Nat.mul_assoc, ← Nat.add_assoc]) h4
  have f2 := fold2 ((p0 + p1) + 256 * (p1 + p2)) (A2 + A3) y4 y5 (by clear h3 h4 h5 h6 f1 a1 a2 a3 a4 a5 a6 a7; omega) (by rw [f1, a1, a2]; clear h3 h4 h5 h6 f1 a1 a2 a3 a4 a5 a6 a7; omega) h5
  obtain ⟨C, hC⟩ : ∃ C, C = (A4 + A5) + (A6 + A7) := ⟨_, rfl⟩
  have c1 : C = (p4 + p5 + p6 + p7) + 256 * (A5 + A6 + A7) := by rw [hC, a4, a5, a6, a7]; clear h3 h4 h5 h6 f1 f2 a1 a2 a3 a4 a5 a6 a7 hC; omega
  have f3 := fold3 (((p0 + p1) + (p2 + p3)) + 256 * ((p1 + p2) + (p3 + p4)) + 65536 * (p2 + p3 + (p4 + p5)) + 16777216 * (p3 + p4 + (p5 + p6))) C y5 y6 (by clear h3 h4 h5 h6 f1 f2 a1 a2 a3 a4 a5 a6 a7 hC c1; omega)
    (by
      rw [f2, hC, a2, a3, a4, a5, a6]
      clear h3 h4 h5 h6 f1 f2 a1 a2 a3 a4 a5 a6 a7 hC c1
      omega) h6
  have cb : C ≤ 1000000000 := by rw [hC, a4, a5, a6, a7]; clear h3 h4 h5 h6 f1 f2 f3 a1 a2 a3 a4 a5 a6 a7 hC c1; omega
  clear h3 h4 h5 h6 f1 f2 a1 a2 a3 a4 a5 a6 a7 hC
  generalize A5 + A6 + A7 = X at c1
  constructor
  · rw [f3, c1]
    clear f3 c1 cb
    omega
  · rw [f3]
    clear f3 c1
    omega
/-- The seven numbers that bits.OnesCount64 goes through. -/
theorem ones_way (x : Nat) (hx : x < 18446744073709551616) : ∃ y1 y2 y3 y4 y5 y6 : Nat,
    IntKind.u64.wrap (bits .and .u64 ((x : Int) / 2) 6148914691236517205 + bits .and .u64 (x : Int) 6148914691236517205) = (y1 : Int) ∧
    IntKind.u64.wrap (bits .and .u64 ((y1 : Int) / 4) 3689348814741910323 + bits .and .u64 (y1 : Int) 3689348814741910323) = (y2 : Int) ∧
    bits .and .u64 (IntKind.u64.wrap ((y2 : Int) / 16 + (y2 : Int))) 1085102592571150095 = (y3 : Int) ∧
    IntKind.u64.wrap ((y3 : Int) + (y3 : Int) / 256) = (y4 : Int) ∧ IntKind.u64.wrap ((y4 : Int) + (y4 : Int) / 65536) = (y5 : Int) ∧ IntKind.u64.wrap ((y5 : Int) + (y5 : Int) / 4294967296) = (y6 : Int) ∧
    bits .and .i64 (wrap64 (y6 : Int)) 127 = (popN 64 x : Int) := by
  have b1 : mapB s1 8 x < 18446744073709551616 := mapB_lt s1 (fun b hb => s1_lt ⟨b, hb⟩) 8 x
  have b2 : mapB s2 8 (mapB s1 8 x) < 18446744073709551616 := by
    rw [mapB_comp s2 s1 (fun b hb => s1_lt ⟨b, hb⟩)]
    exact mapB_lt _ (fun b hb => (s2_lt ⟨b, hb⟩).1) 8 x
  have g3 : mapB s2 8 (mapB s1 8 x) / 16 + mapB s2 8 (mapB s1 8 x) < 18446744073709551616 := by
    have hs : mapB s2 8 (mapB s1 8 x) / 72057594037927936 < 69 := by
      rw [mapB_comp s2 s1 (fun b hb => s1_lt ⟨b, hb⟩)]
      have h8 : ∀ z, (fun b => s2 (s1 b)) (z % 256) < 69 := fun z => by
        have h9 : s2 (s1 (z % 256)) < 256 ∧ s2 (s1 (z % 256)) % 16 ≤ 4 ∧ s2 (s1 (z % 256)) / 16 ≤ 4 := s2_lt ⟨z % 256, Nat.mod_lt _ (by decide)⟩
        show s2 (s1 (z % 256)) < 69
        omega
      have h256 : ∀ z, (fun b => s2 (s1 b)) (z % 256) < 256 := fun z => by have := h8 z; omega
      simp only [mapB] at *
      have q0 := h256 x; have q1 := h256 (x / 256); have q2 := h256 (x / 256 / 256); have q3 := h256 (x / 256 / 256 / 256); have q4 := h256 (x / 256 / 256 / 256 / 256); have q5 := h256 (x / 256 / 256 / 256 / 256 / 256); have q6 := h256 (x / 256 / 256 / 256 / 256 / 256 / 256); have q7 := h8 (x / 256 / 256 / 256 / 256 / 256 / 256 / 256)
      omega
    omega
  have e1 := swar1 x
  have e2 := swar2 x
  have e3 := swar3 x
  obtain ⟨p0, p1, p2, p3, p4, p5, p6, p7, k0, k1, k2, k3, k4, k5, k6, k7, hp, hs⟩ := pop64 x
  rw [hp] at e3
  generalize mapB s1 8 x = y1 at e1 e2 e3 b1 b2 g3
  generalize mapB s2 8 y1 = y2 at e2 e3 b2 g3
  obtain ⟨y3, hy3⟩ : ∃ y3, p0 + 256 * p1 + 65536 * p2 + 16777216 * p3 + 4294967296 * p4 + 1099511627776 * p5 + 281474976710656 * p6 + 72057594037927936 * p7 = y3 := ⟨_, rfl⟩
  obtain ⟨y4, hy4⟩ : ∃ y4, y3 + y3 / 256 = y4 := ⟨_, rfl⟩
  obtain ⟨y5, hy5⟩ : ∃ y5, y4 + y4 / 65536 = y5 := ⟨_, rfl⟩
  obtain ⟨y6, hy6⟩ : ∃ y6, y5 + y5 / 4294967296 = y6 := ⟨_, rfl⟩
  rw [hy3] at e3
  obtain ⟨d6, hq⟩ := fold_way p0 p1 p2 p3 p4 p5 p6 p7 y3 y4 y5 y6 k0 k1 k2 k3 k4 k5 k6 k7 hy3 hy4 hy5 hy6
  have hq3 : y3 < 18446744073709551616 ∧ y4 < 18446744073709551616 ∧ y5 < 18446744073709551616 := by clear hy3 hp hs d6 e1 e2 e3 b1 b2 g3; omega
  clear hy3 hp k0 k1 k2 k3 k4 k5 k6 k7
  refine ⟨y1, y2, y3, y4, y5, y6, ?_, ?_, ?_, ?_, ?_, ?_, ?_⟩
  · rw [show ((x : Int) / 2) = ((x / 2 : Nat) : Int) from by omega, show (6148914691236517205 : Int) = ((6148914691236517205 : Nat) : Int) from rfl, u64_and_nat _ _ (by omega) (by decide), u64_and_nat _ _ hx (by decide), IntKind.wrap_u64]
    omega
  · rw [show ((y1 : Int) / 4) = ((y1 / 4 : Nat) : Int) from by omega, show (3689348814741910323 : Int) = ((3689348814741910323 : Nat) : Int) from rfl, u64_and_nat _ _ (by omega) (by decide), u64_and_nat _ _ b1 (by decide), IntKind.wrap_u64]
    omega
  · rw [IntKind.wrap_u64, show ((y2 : Int) / 16 + (y2 : Int)) % 18446744073709551616 = ((y2 / 16 + y2 : Nat) : Int) from by omega, show (1085102592571150095 : Int) = ((1085102592571150095 : Nat) : Int) from rfl, u64_and_nat _ _ g3 (by decide)]
    omega
  · rw [IntKind.wrap_u64]; omega
  · rw [IntKind.wrap_u64]; omega
  · rw [IntKind.wrap_u64]; omega
  · rw [show wrap64 (y6 : Int) = IntKind.i64.wrap (y6 : Int) from by unfold wrap64; rw [IntKind.wrap_i64], and127 _ (by omega) (by omega), hs]
    omega
end Plain

set_option maxRecDepth 10000 in
theorem OnesCount64_calls (x : Nat) (w : World) (hx : x < 18446744073709551616) :
    Calls Tryd.prog 70 #[.int .u64 x] w fun e w' => e = .returned (.int .i64 (popN 64 x)) ∧ w = w' := by
  obtain ⟨y1, y2, y3, y4, y5, y6, e1, e2, e3, e4, e5, e6, e7⟩ := ones_way x hx
  generalize popN 64 x = R at e7
  go_enter Tryd.func70, Tryd.ntmps70
  go_wp2_with fail
  go_ret
  exact ⟨rfl, rfl⟩

set_option maxRecDepth 10000 in
theorem size_calls (x : Nat) (w : World) (hx : x < 18446744073709551616) :
    Calls Tryd.prog 65 #[.int .u64 x] w fun e w' => e = .returned (.int .i64 (popN 64 x)) ∧ w = w' := by
  go_enter Tryd.func65, Tryd.ntmps65
  go_wp2_with fail
  refine (OnesCount64_calls x _ hx).mono ?_
  rintro e w1 ⟨rfl, rfl⟩
  go_wp2_with fail
  go_ret
  exact ⟨rfl, rfl⟩



set_option maxRecDepth 10000 in
theorem only_calls (n : Nat) (w : World) (hn : n ≤ 63) :
    Calls Tryd.prog 64 #[.int .i64 n] w fun e w' => e = .returned (.int .u64 ((2 ^ n : Nat) : Int)) ∧ w = w' := by
  have h1 : (0 : Int) ≤ (n : Int) := by omega
  have hp : 2 ^ n ≤ 9223372036854775808 := Nat.pow_le_pow_right (by decide) hn
  have h3 : (2 : Int) ^ n = ((2 ^ n : Nat) : Int) := by rw [Int.natCast_pow]; rfl
  generalize 2 ^ n = P at hp h3
  have h2 : (P : Int) % 18446744073709551616 = (P : Int) := by omega
  go_enter Tryd.func64, Tryd.ntmps64
  go_wp2_with fail
  go_ret
  exact ⟨rfl, rfl⟩
end Go.Proofs.YtiakhgafibgpgaaDoor
