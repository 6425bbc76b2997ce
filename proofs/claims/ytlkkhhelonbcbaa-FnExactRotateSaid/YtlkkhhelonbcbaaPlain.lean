/- Plain facts on numbers: a 32-bit word rotated, in the forms in which the two programs reckon it. -/
import Derived.WalkKit
import Derived.WalkLawsBesides
import Derived.Laws.BitsAllLaws
import Derived.OpenShut
import Derived.Below
namespace Go.Proofs.Ytlkkhhelonbcbaa.Plain
open Go Go.RowKit

theorem hide {p : Prop} (h : p) : Hid p := h
theorem unhide {p : Prop} (h : Hid p) : p := h

theorem bcell {W w1 : World} (hb : Below W.heap.size W w1) : (∀ b o, b < W.heap.size → w1.cell? ⟨b, o, none⟩ = W.cell? ⟨b, o, none⟩) ∧ (∀ b o, b < W.heap.size → w1.frozen? ⟨b, o, none⟩ = W.frozen? ⟨b, o, none⟩) :=
  ⟨fun b o h => hb.cell (p := ⟨b, o, none⟩) h, fun b o h => hb.frozen (p := ⟨b, o, none⟩) h⟩

/-- What a walk is told of a slice of integers that came in. -/
def IsRow (k : IntKind) (w : World) (a : Option Addr) (len cap : Nat) (zs : List Int) : Prop :=
  (a = none ∧ len = 0 ∧ cap = 0 ∧ zs = []) ∨
  ∃ x, a = some x ∧ len ≤ cap ∧ cap ≤ maxLen ∧ zs.length = cap ∧ (∀ i, i < zs.length → w.cell? (x.add i) = some (.int k (zs.getD i 0))) ∧ ∀ n ∈ zs, (Lit.int k n).wf = true

theorem wf_u32 {x : Int} (h : (Lit.int .u32 x).wf = true) : 0 ≤ x ∧ x < 4294967296 := by
  have := Go.bounds_u32 h; omega
theorem wf_i64 {x : Int} (h : (Lit.int .i64 x).wf = true) : -9223372036854775808 ≤ x ∧ x ≤ 9223372036854775807 := Go.bounds_i64 h

def rotI (x n : Int) : Int := (((BitVec.ofInt 32 x).rotateRight (n % 32).toNat).toNat : Int)

theorem rotI_bounds (x n : Int) : 0 ≤ rotI x n ∧ rotI x n < 4294967296 := by
  unfold rotI
  have h := ((BitVec.ofInt 32 x).rotateRight (n % 32).toNat).isLt
  omega

theorem rot_nat (X k : Nat) (hX : X < 4294967296) (hk : k < 32) :
    ((BitVec.ofNat 32 X).rotateRight k).toNat = X / 2 ^ k ||| X * 2 ^ (32 - k) % 4294967296 := by
  rw [BitVec.rotateRight_def, Nat.mod_eq_of_lt hk, BitVec.toNat_or, BitVec.toNat_ushiftRight, BitVec.toNat_shiftLeft, BitVec.toNat_ofNat, Nat.mod_eq_of_lt hX, Nat.shiftRight_eq_div_pow, Nat.shiftLeft_eq]

theorem cast_div (x : Int) (X k : Nat) (h : x = X) : x / 2 ^ k = ((X / 2 ^ k : Nat) : Int) := by
  subst h; rw [Int.natCast_ediv, Int.natCast_pow]; rfl

theorem cast_mulmod (x : Int) (X k : Nat) (h : x = X) : x * 2 ^ k % 4294967296 = ((X * 2 ^ k % 4294967296 : Nat) : Int) := by
  subst h; rw [Int.natCast_emod, Int.natCast_mul, Int.natCast_pow]; rfl

theorem rot_spec (x n : Int) (k : Nat) (h0 : 0 ≤ x) (h1 : x < 4294967296) (hk : n % 32 = k) :
    bits .or .u32 (x / 2 ^ k) (x * 2 ^ (32 - k) % 4294967296) = rotI x n := by
  obtain ⟨X, rfl⟩ := Int.eq_ofNat_of_zero_le h0
  have hk2 : k < 32 := by omega
  rw [cast_div _ X k rfl, cast_mulmod _ X (32 - k) rfl]
  rw [u32_or_nat _ _ (Nat.lt_of_le_of_lt (Nat.div_le_self _ _) (by omega)) (Nat.mod_lt _ (by decide))]
  unfold rotI
  rw [hk, Int.toNat_natCast, BitVec.ofInt_natCast, rot_nat X k (by omega) hk2]

theorem rot_impl (x n : Int) (k s : Nat) (h0 : 0 ≤ x) (h1 : x < 4294967296) (hk : n % 32 = k) (hs : s = (32 - k) % 32) :
    bits .or .u32 (x * 2 ^ s % 4294967296) (x / 2 ^ (32 - s)) = rotI x n := by
  obtain ⟨X, rfl⟩ := Int.eq_ofNat_of_zero_le h0
  have hk2 : k < 32 := by omega
  rw [cast_div _ X (32 - s) rfl, cast_mulmod _ X s rfl]
  rw [u32_or_nat _ _ (Nat.mod_lt _ (by decide)) (Nat.lt_of_le_of_lt (Nat.div_le_self _ _) (by omega))]
  unfold rotI
  rw [hk, Int.toNat_natCast, BitVec.ofInt_natCast, rot_nat X k (by omega) hk2, Nat.or_comm]
  by_cases hz : k = 0
  · subst hz
    have : s = 0 := by omega
    subst this
    have e1 : X / 2 ^ (32 - 0) = 0 := Nat.div_eq_of_lt (by omega)
    have e2 : X * 2 ^ (32 - 0) % 4294967296 = 0 := by omega
    rw [e1, e2]
    simp
    omega
  · have : s = 32 - k := by omega
    subst this
    rw [show 32 - (32 - k) = k from by omega]

theorem and31 (n : Int) : bits .and .i64 n 31 = n % 32 := by
  unfold bits
  have e : (BitVec.ofInt 64 n &&& BitVec.ofInt 64 31).toNat = (n % 32).toNat := by
    rw [BitVec.toNat_and, BitVec.toNat_ofInt]
    rw [show (BitVec.ofInt 64 31).toNat = 31 from rfl, Nat.and_two_pow_sub_one_eq_mod _ 5]
    omega
  show IntKind.wrap .i64 ((BitVec.ofInt 64 n &&& BitVec.ofInt 64 31).toNat : Int) = _
  rw [e, IntKind.wrap_i64]
  omega

theorem and31u (k : Int) : bits .and .u64 (IntKind.u64.wrap k) 31 = k % 32 := by
  unfold bits
  have e : (BitVec.ofInt 64 (IntKind.u64.wrap k) &&& BitVec.ofInt 64 31).toNat = (k % 32).toNat := by
    rw [BitVec.toNat_and, BitVec.toNat_ofInt]
    rw [show (BitVec.ofInt 64 31).toNat = 31 from rfl, Nat.and_two_pow_sub_one_eq_mod _ 5, IntKind.wrap_u64]
    omega
  show IntKind.wrap .u64 ((BitVec.ofInt 64 (IntKind.u64.wrap k) &&& BitVec.ofInt 64 31).toNat : Int) = _
  rw [e, IntKind.wrap_u64]
  omega

theorem specCount (n : Int) : (wrap64 (n.tmod 32 + 32)).tmod 32 = n % 32 := by
  have h1 : -32 < n.tmod 32 ∧ n.tmod 32 < 32 ∧ (n.tmod 32) % 32 = n % 32 := by
    rw [Int.tmod_eq_emod]
    split <;> simp <;> omega
  have h2 : wrap64 (n.tmod 32 + 32) = n.tmod 32 + 32 := by unfold wrap64; omega
  rw [h2, Int.tmod_eq_emod_of_nonneg (by omega)]
  omega

end Go.Proofs.Ytlkkhhelonbcbaa.Plain
