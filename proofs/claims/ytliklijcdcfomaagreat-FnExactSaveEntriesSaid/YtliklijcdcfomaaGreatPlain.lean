/- Plain facts on numbers: a 32-bit word rotated, in the forms in which the two programs reckon it. -/
import Derived.WalkKit
import Derived.WalkLawsBesides
import Derived.Laws.BitsAllLaws
import Derived.OpenShut
import Derived.Below
import Derived.Laws.BytesArg
import Derived.Laws.OwnMore
import Derived.OwnWalk
import Derived.Deep.Draws
import Derived.WalkSpells
namespace Go.Proofs.YtliklijcdcfomaaGreat.Plain
open Go Go.RowKit
set_option linter.unusedVariables false

theorem hide {p : Prop} (h : p) : Hid p := h
theorem unhide {p : Prop} (h : Hid p) : p := h

theorem bcell {W w1 : World} (hb : Below W.heap.size W w1) : (∀ b o, b < W.heap.size → w1.cell? ⟨b, o, none⟩ = W.cell? ⟨b, o, none⟩) ∧ (∀ b o, b < W.heap.size → w1.frozen? ⟨b, o, none⟩ = W.frozen? ⟨b, o, none⟩) :=
  ⟨fun b o h => hb.cell (p := ⟨b, o, none⟩) h, fun b o h => hb.frozen (p := ⟨b, o, none⟩) h⟩

/-- What a walk is told of a slice of integers that came in. -/
def IsRow (k : IntKind) (w : World) (a : Option Addr) (len cap : Nat) (zs : List Int) : Prop :=
  (a = none ∧ len = 0 ∧ cap = 0 ∧ zs = []) ∨
  ∃ x, a = some x ∧ len ≤ cap ∧ cap ≤ maxLen ∧ zs.length = cap ∧ (∀ i, i < zs.length → w.cell? (x.add i) = some (.int k (zs.getD i 0))) ∧ ∀ n ∈ zs, (Lit.int k n).wf = true

theorem wf_u32 {x : Int} (h : (Lit.int .u32 x).wf = true) : 0 ≤ x ∧ x < 4294967296 := by
  have := Go.bounds_u32 h; omega
theorem wf_i64 {x : Int} (h : (Lit.int .i64 x).wf = true) : -9223372036854775808 ≤ x ∧ x ≤ 9223372036854775807 := Go.bounds_i64 h

def rotI (x n : Int) : Int := (((BitVec.ofInt 32 x).rotateRight (n % 32).toNat).toNat : Int)

theorem rotI_bounds (x n : Int) : 0 ≤ rotI x n ∧ rotI x n < 4294967296 := by
  unfold rotI
  have h := ((BitVec.ofInt 32 x).rotateRight (n % 32).toNat).isLt
  omega

theorem rot_nat (X k : Nat) (hX : X < 4294967296) (hk : k < 32) :
    ((BitVec.ofNat 32 X).rotateRight k).toNat = X / 2 ^ k ||| X * 2 ^ (32 - k) % 4294967296 := by
  rw [BitVec.rotateRight_def, Nat.mod_eq_of_lt hk, BitVec.toNat_or, BitVec.toNat_ushiftRight, BitVec.toNat_shiftLeft, BitVec.toNat_ofNat, Nat.mod_eq_of_lt hX, Nat.shiftRight_eq_div_pow, Nat.shiftLeft_eq]

theorem cast_div (x : Int) (X k : Nat) (h : x = X) : x / 2 ^ k = ((X / 2 ^ k : Nat) : Int) := by
  subst h; rw [Int.natCast_ediv, Int.natCast_pow]; rfl

theorem cast_mulmod (x : Int) (X k : Nat) (h : x = X) : x * 2 ^ k % 4294967296 = ((X * 2 ^ k % 4294967296 : Nat) : Int) := by
  subst h; rw [Int.natCast_emod, Int.natCast_mul, Int.natCast_pow]; rfl

theorem rot_spec (x n : Int) (k : Nat) (h0 : 0 ≤ x) (h1 : x < 4294967296) (hk : n % 32 = k) :
    bits .or .u32 (x / 2 ^ k) (x * 2 ^ (32 - k) % 4294967296) = rotI x n := by
  obtain ⟨X, rfl⟩ := Int.eq_ofNat_of_zero_le h0
  have hk2 : k < 32 := by omega
  rw [cast_div _ X k rfl, cast_mulmod _ X (32 - k) rfl]
  rw [u32_or_nat _ _ (Nat.lt_of_le_of_lt (Nat.div_le_self _ _) (by omega)) (Nat.mod_lt _ (by decide))]
  unfold rotI
  rw [hk, Int.toNat_natCast, BitVec.ofInt_natCast, rot_nat X k (by omega) hk2]

theorem rot_impl (x n : Int) (k s : Nat) (h0 : 0 ≤ x) (h1 : x < 4294967296) (hk : n % 32 = k) (hs : s = (32 - k) % 32) :
    bits .or .u32 (x * 2 ^ s % 4294967296) (x / 2 ^ (32 - s)) = rotI x n := by
  obtain ⟨X, rfl⟩ := Int.eq_ofNat_of_zero_le h0
  have hk2 : k < 32 := by omega
  rw [cast_div _ X (32 - s) rfl, cast_mulmod _ X s rfl]
  rw [u32_or_nat _ _ (Nat.mod_lt _ (by decide)) (Nat.lt_of_le_of_lt (Nat.div_le_self _ _) (by omega))]
  unfold rotI
  rw [hk, Int.toNat_natCast, BitVec.ofInt_natCast, rot_nat X k (by omega) hk2, Nat.or_comm]
  by_cases hz : k = 0
  · subst hz
    have : s = 0 := by omega
    subst this
    have e1 : X / 2 ^ (32 - 0) = 0 := Nat.div_eq_of_lt (by omega)
    have e2 : X * 2 ^ (32 - 0) % 4294967296 = 0 := by omega
    rw [e1, e2]
    simp
    omega
  · have : s = 32 - k := by omega
    subst this
    rw [show 32 - (32 - k) = k from by omega]

theorem and31 (n : Int) : bits .and .i64 n 31 = n % 32 := by
  unfold bits
  have e : (BitVec.ofInt 64 n &&& BitVec.ofInt 64 31).toNat = (n % 32).toNat := by
    rw [BitVec.toNat_and, BitVec.toNat_ofInt]
    rw [show (BitVec.ofInt 64 31).toNat = 31 from rfl, Nat.and_two_pow_sub_one_eq_mod _ 5]
    omega
  show IntKind.wrap .i64 ((BitVec.ofInt 64 n &&& BitVec.ofInt 64 31).toNat : Int) = _
  rw [e, IntKind.wrap_i64]
  omega

theorem and31u (k : Int) : bits .and .u64 (IntKind.u64.wrap k) 31 = k % 32 := by
  unfold bits
  have e : (BitVec.ofInt 64 (IntKind.u64.wrap k) &&& BitVec.ofInt 64 31).toNat = (k % 32).toNat := by
    rw [BitVec.toNat_and, BitVec.toNat_ofInt]
    rw [show (BitVec.ofInt 64 31).toNat = 31 from rfl, Nat.and_two_pow_sub_one_eq_mod _ 5, IntKind.wrap_u64]
    omega
  show IntKind.wrap .u64 ((BitVec.ofInt 64 (IntKind.u64.wrap k) &&& BitVec.ofInt 64 31).toNat : Int) = _
  rw [e, IntKind.wrap_u64]
  omega

theorem specCount (n : Int) : (wrap64 (n.tmod 32 + 32)).tmod 32 = n % 32 := by
  have h1 : -32 < n.tmod 32 ∧ n.tmod 32 < 32 ∧ (n.tmod 32) % 32 = n % 32 := by
    rw [Int.tmod_eq_emod]
    split <;> simp <;> omega
  have h2 : wrap64 (n.tmod 32 + 32) = n.tmod 32 + 32 := by unfold wrap64; omega
  rw [h2, Int.tmod_eq_emod_of_nonneg (by omega)]
  omega

/-! ### A world that differs from another in one cell, and by new blocks -/
structure OnlyAt (a : Addr) (w w' : World) : Prop where
  os : w'.os = w.os
  tape : w'.tape = w.tape
  output : w'.output = w.output
  size : w.heap.size ≤ w'.heap.size
  block : ∀ k, k < w.heap.size → k ≠ a.block → w'.heap[k]? = w.heap[k]?
  cell : ∀ q : Addr, q.block < w.heap.size → q ≠ a → w'.cell? q = w.cell? q
  frozen : ∀ q : Addr, q.block < w.heap.size → w'.frozen? q = w.frozen? q

theorem OnlyAt.refl (a : Addr) (w : World) : OnlyAt a w w := ⟨rfl, rfl, rfl, Nat.le_refl _, fun _ _ _ => rfl, fun _ _ _ => rfl, fun _ _ => rfl⟩

theorem OnlyAt.trans {a : Addr} {u v w : World} (h : OnlyAt a u v) (k : OnlyAt a v w) : OnlyAt a u w :=
  ⟨k.os.trans h.os, k.tape.trans h.tape, k.output.trans h.output, Nat.le_trans h.size k.size,
   fun i hi hn => (k.block i (Nat.lt_of_lt_of_le hi h.size) hn).trans (h.block i hi hn),
   fun q hq hn => (k.cell q (Nat.lt_of_lt_of_le hq h.size) hn).trans (h.cell q hq hn),
   fun q hq => (k.frozen q (Nat.lt_of_lt_of_le hq h.size)).trans (h.frozen q hq)⟩

theorem OnlyAt.drewN {a : Addr} {u v : World} (h : OnlyAt a u v) (n : Nat) : OnlyAt a u (v.drewN n) := ⟨h.os, h.tape, h.output, h.size, h.block, h.cell, h.frozen⟩

theorem OnlyAt.setCell (a : Addr) (w : World) (v : Value) : OnlyAt a w (w.setCell a v) :=
  ⟨rfl, rfl, rfl, by simp, fun k _ hk => Below.heap_setCell w a v k hk, fun q _ hq => World.cell?_setCell_other w _ _ v (fun h => hq h.symm), fun q _ => by simp⟩

theorem OnlyAt.below {a : Addr} {u v : World} (h : OnlyAt a u v) {B : Nat} (hB : B ≤ a.block) (hs : B ≤ u.heap.size) : Below B u v :=
  ⟨h.os, h.tape, h.output, h.size, fun k hk => h.block k (by omega) (by omega)⟩

theorem OnlyAt.of_below {a : Addr} {u v : World} (h : Below u.heap.size u v) : OnlyAt a u v :=
  ⟨h.os, h.tape, h.output, h.size, fun k hk _ => h.block k hk, fun q hq _ => h.cell hq, fun q hq => h.frozen hq⟩

theorem lt_of_cell {w : World} {a : Addr} {v : Value} (h : w.cell? a = some v) : a.block < w.heap.size := by
  have : w.heap[a.block]? ≠ none := by
    intro e
    simp [World.cell?, e] at h
  rcases Nat.lt_or_ge a.block w.heap.size with k | k
  · exact k
  · exact absurd (Array.getElem?_eq_none k) this

/-! ### Worlds that differ by what was drawn, or in one block -/
theorem belDrew {B : Nat} {w w' : World} (h : Below B w w') : Below B w w'.drew := ⟨h.os, h.tape, h.output, h.size, h.block⟩
theorem bOfDrew {w w' : World} (h : Below w.drew.heap.size w.drew w') : Below w.heap.size w w' := (belDrew (Below.refl w.heap.size w)).trans h
/-- Nothing has changed but the block that a lies in, and new blocks. -/
structure OnlyRow (a : Option Addr) (w w' : World) : Prop where
  os : w'.os = w.os
  tape : w'.tape = w.tape
  output : w'.output = w.output
  size : w.heap.size ≤ w'.heap.size
  block : ∀ k, k < w.heap.size → (∀ o, a ≠ some ⟨k, o, none⟩) → w'.heap[k]? = w.heap[k]?
theorem OnlyRow.refl (a : Option Addr) (w : World) : OnlyRow a w w := ⟨rfl, rfl, rfl, Nat.le_refl _, fun _ _ _ => rfl⟩
theorem OnlyRow.trans {a : Option Addr} {u v w : World} (h : OnlyRow a u v) (h2 : OnlyRow a v w) : OnlyRow a u w :=
  ⟨h2.os.trans h.os, h2.tape.trans h.tape, h2.output.trans h.output, Nat.le_trans h.size h2.size, fun k hk hne => (h2.block k (Nat.lt_of_lt_of_le hk h.size) hne).trans (h.block k hk hne)⟩
theorem OnlyRow.of {a : Option Addr} {w w' : World} (h : Below w.heap.size w w') : OnlyRow a w w' := ⟨h.os, h.tape, h.output, h.size, fun k hk _ => h.block k hk⟩
theorem OnlyRow.set {g o : Nat} {w : World} (k : Nat) (v : Value) : OnlyRow (some ⟨g, o, none⟩) w (w.setCell ⟨g, k, none⟩ v) :=
  ⟨rfl, rfl, rfl, by simp, fun j _ hne => Below.heap_setCell _ _ _ _ (fun e => hne o (by simp at e; rw [e]))⟩
theorem OnlyRow.below {a : Option Addr} {w w' : World} {B : Nat} (h : OnlyRow a w w') (hB : ∀ g o, a = some ⟨g, o, none⟩ → B ≤ g) (hBw : B ≤ w.heap.size) : Below B w w' :=
  ⟨h.os, h.tape, h.output, h.size, fun k hk => h.block k (Nat.lt_of_lt_of_le hk hBw) (fun o e => by have := hB k o e; omega)⟩
theorem OnlyRow.cell {a : Option Addr} {w w' : World} (h : OnlyRow a w w') {g i : Nat} (hg : g < w.heap.size) (hne : ∀ o, a ≠ some ⟨g, o, none⟩) : w'.cell? ⟨g, i, none⟩ = w.cell? ⟨g, i, none⟩ := World.cell?_of_block (a := ⟨g, i, none⟩) (h.block g hg hne)
theorem OnlyRow.frozen {a : Option Addr} {w w' : World} (h : OnlyRow a w w') {g i : Nat} (hg : g < w.heap.size) (hne : ∀ o, a ≠ some ⟨g, o, none⟩) : w'.frozen? ⟨g, i, none⟩ = w.frozen? ⟨g, i, none⟩ := World.frozen?_of_block (a := ⟨g, i, none⟩) (h.block g hg hne)

/-! ### Numbers in bytes of seven bits -/
def putL : Nat → Nat → List Int
  | 0, m => [(m : Int)]
  | f + 1, m => if m < 128 then [(m : Int)] else ((m % 128 + 128 : Nat) : Int) :: putL f (m / 128)

def putS (n : Int) : ByteArray := if 0 ≤ n ∧ n ≤ 1000000000000 then strOfNums (putL 5 n.toNat) else ByteArray.empty

theorem putL_small (f m : Nat) (h : m < 128) : putL f m = [(m : Int)] := by
  cases f with
  | zero => rfl
  | succ f => simp [putL, h]

theorem putL_big (f m : Nat) (h : ¬ m < 128) : putL (f + 1) m = ((m % 128 + 128 : Nat) : Int) :: putL f (m / 128) := by simp [putL, h]

theorem put_round (f m : Nat) (L done : List Int) (h : done ++ putL f m = L) (hm : ¬ m < 128) (hmf : m < 128 ^ (f + 1)) :
    ∃ f', f = f' + 1 ∧ m / 128 < 128 ^ (f' + 1) ∧ (done ++ [((m : Int) % 128 + 128)]) ++ putL f' (m / 128) = L := by
  cases f with
  | zero => simp at hmf; omega
  | succ f =>
    refine ⟨f, rfl, ?_, ?_⟩
    · rw [Nat.pow_succ] at hmf; exact Nat.div_lt_of_lt_mul (by rw [Nat.mul_comm]; exact hmf)
    · rw [putL_big f m hm] at h
      rw [← h, List.append_assoc]
      simp

def tkGo (s : ByteArray) (p : Nat) : Nat → Nat → Nat → Option (Nat × Nat)
  | 0, _, _ => none
  | f + 1, i, n =>
    if h : p + i < s.size then
      if s[p + i].toNat < 128 then
        if (s[p + i].toNat = 0 ∧ 0 < i) ∨ 1000000000000 < n + s[p + i].toNat % 128 * 128 ^ i then none else some (n + s[p + i].toNat % 128 * 128 ^ i, i + 1)
      else tkGo s p f (i + 1) (n + s[p + i].toNat % 128 * 128 ^ i)
    else none

/-- The number with which the bytes of s begin at p, and how many bytes it takes. -/
def tkN (s : ByteArray) (p : Nat) : Option (Nat × Nat) := tkGo s p 6 0 0

theorem tkGo_end (s : ByteArray) (p f i n : Nat) (h : ¬ p + i < s.size) : tkGo s p f i n = none := by
  cases f with
  | zero => rfl
  | succ f => rw [tkGo, dif_neg h]

theorem tkGo_more (s : ByteArray) (p f i n : Nat) (h : p + i < s.size) (hc : ¬ s[p + i].toNat < 128) : tkGo s p (f + 1) i n = tkGo s p f (i + 1) (n + s[p + i].toNat % 128 * 128 ^ i) := by
  rw [tkGo, dif_pos h, if_neg hc]

theorem tkGo_bad (s : ByteArray) (p f i n : Nat) (h : p + i < s.size) (hc : s[p + i].toNat < 128) (hb : (s[p + i].toNat = 0 ∧ 0 < i) ∨ 1000000000000 < n + s[p + i].toNat % 128 * 128 ^ i) : tkGo s p (f + 1) i n = none := by
  rw [tkGo, dif_pos h, if_pos hc, if_pos hb]

theorem tkGo_good (s : ByteArray) (p f i n : Nat) (h : p + i < s.size) (hc : s[p + i].toNat < 128) (hb : ¬ ((s[p + i].toNat = 0 ∧ 0 < i) ∨ 1000000000000 < n + s[p + i].toNat % 128 * 128 ^ i)) : tkGo s p (f + 1) i n = some (n + s[p + i].toNat % 128 * 128 ^ i, i + 1) := by
  rw [tkGo, dif_pos h, if_pos hc, if_neg hb]

theorem tk_bound (n c i : Nat) (hn : n < 128 ^ i) : n + c % 128 * 128 ^ i < 128 ^ (i + 1) := by
  have h : c % 128 ≤ 127 := by omega
  have h2 : c % 128 * 128 ^ i ≤ 127 * 128 ^ i := Nat.mul_le_mul_right _ h
  rw [Nat.pow_succ]
  omega

theorem tkGo_le (s : ByteArray) (p : Nat) : ∀ f i n v l, n < 128 ^ i → tkGo s p f i n = some (v, l) → v ≤ 1000000000000 ∧ i < l ∧ l ≤ i + f ∧ p + l ≤ s.size := by
  intro f
  induction f with
  | zero => intro i n v l _ h; simp [tkGo] at h
  | succ f ih =>
    intro i n v l hn h
    rw [tkGo] at h
    by_cases h1 : p + i < s.size
    · rw [dif_pos h1] at h
      by_cases h2 : s[p + i].toNat < 128
      · rw [if_pos h2] at h
        by_cases h3 : (s[p + i].toNat = 0 ∧ 0 < i) ∨ 1000000000000 < n + s[p + i].toNat % 128 * 128 ^ i
        · rw [if_pos h3] at h; simp at h
        · rw [if_neg h3] at h
          simp at h
          omega
      · rw [if_neg h2] at h
        have := ih (i + 1) _ v l (tk_bound _ _ _ hn) h
        omega
    · rw [dif_neg h1] at h; simp at h

theorem tkN_le {s : ByteArray} {p v l : Nat} (h : tkN s p = some (v, l)) : v ≤ 1000000000000 ∧ 0 < l ∧ l ≤ 6 ∧ p + l ≤ s.size := by
  have := tkGo_le s p 6 0 0 v l (by decide) h
  omega

theorem tk_round {s : ByteArray} {p k N c M P f j : Nat} {R : Option (Nat × Nat)} (hj : p + k = j) (hlt : j < s.size) (hc : s[j].toNat = c) (hM : 128 ^ k = M) (hP : c % 128 * M = P) (hrel : tkGo s p (f + 1) k N = R) :
    (¬ c < 128 → tkGo s p f (k + 1) (N + P) = R) ∧ (c < 128 → ((c = 0 ∧ 0 < k) ∨ 1000000000000 < N + P) → R = none) ∧ (c < 128 → ¬ ((c = 0 ∧ 0 < k) ∨ 1000000000000 < N + P) → R = some (N + P, k + 1)) := by
  subst hj hc hM hP
  refine ⟨fun h => ?_, fun h h2 => ?_, fun h h2 => ?_⟩
  · rw [← hrel, tkGo_more s p f k N hlt h]
  · rw [← hrel, tkGo_bad s p f k N hlt h h2]
  · rw [← hrel, tkGo_good s p f k N hlt h h2]

theorem pow_next {k M N c P : Nat} (hM : 128 ^ k = M) (hP : c % 128 * M = P) (hN : N < M) : N + P < 128 ^ (k + 1) := by
  subst hM hP; exact tk_bound N c k hN

theorem extract_one (s : ByteArray) (j : Nat) (h : j < s.size) : ∃ (hz : 0 < (s.extract j (j + 1)).size), (s.extract j (j + 1)).size = 1 ∧ (s.extract j (j + 1))[0].toNat = s[j].toNat := by
  have e : (s.extract j (j + 1)).size = 1 := by rw [ByteArray.size_extract]; omega
  refine ⟨by omega, e, ?_⟩
  rw [ByteArray.getElem_extract]
  simp

theorem extract_name (s : ByteArray) (j c : Nat) (h : j < s.size) (hc : s[j].toNat = c) : ∃ t : ByteArray, s.extract j (j + 1) = t ∧ ∃ (hz : 0 < t.size), t.size = 1 ∧ t[0].toNat = c := by
  obtain ⟨hz, h1, h2⟩ := extract_one s j h
  exact ⟨_, rfl, hz, h1, h2.trans hc⟩

theorem or64 (a b : Nat) (ha : a < 9223372036854775808) (hb : b < 9223372036854775808) : bits .or .i64 (a : Int) (b : Int) = ((a ||| b : Nat) : Int) := by
  have h1 : (BitVec.ofInt 64 (a : Int)).toNat = a := by rw [BitVec.ofInt_natCast, BitVec.toNat_ofNat]; omega
  have h2 : (BitVec.ofInt 64 (b : Int)).toNat = b := by rw [BitVec.ofInt_natCast, BitVec.toNat_ofNat]; omega
  have h3 : a ||| b < 2 ^ 63 := Nat.or_lt_two_pow (by omega) (by omega)
  show IntKind.wrap .i64 ((BitVec.ofInt 64 (a : Int) ||| BitVec.ofInt 64 (b : Int)).toNat : Int) = _
  rw [BitVec.toNat_or, h1, h2, IntKind.wrap_i64]
  omega

theorem shift_rules {k N c M P : Nat} (hM : 128 ^ k = M) (hP : c % 128 * M = P) (hN : N < M) (hM0 : M ≤ 34359738368) (hP0 : P ≤ 4398046511104) :
    wrap64 ((c : Int) % 128 * 2 ^ (7 * k)) = (P : Int) ∧ bits .or .i64 (N : Int) (P : Int) = ((N + P : Nat) : Int) := by
  have e : (2 : Nat) ^ (7 * k) = M := by rw [← hM, Nat.pow_mul]
  constructor
  · have : (c : Int) % 128 * 2 ^ (7 * k) = ((P : Nat) : Int) := by rw [← hP, ← e]; simp
    rw [this]; unfold wrap64; omega
  · rw [or64 N P (by omega) (by omega), Nat.or_comm, nat_join (7 * k) P N (by rw [e, ← hP]; exact Nat.mul_mod_left _ _) (by rw [e]; exact hN), Nat.add_comm]

theorem q_bound {N P M Q : Nat} (hQ : N + P = Q) (hN : N < M) (hM0 : M ≤ 34359738368) (hP0 : P ≤ 4398046511104) : Q ≤ 5000000000000 := by omega

/-- The text with which the bytes of s begin at p: how many bytes its length takes, and the length. -/
def tkT (s : ByteArray) (p : Nat) : Option (Nat × Nat) := match tkN s p with
  | none => none
  | some (v, l) => if v ≤ 20000 ∧ p + l + v ≤ s.size then some (l, v) else none

theorem tkT_none {s : ByteArray} {p : Nat} (h : tkN s p = none) : tkT s p = none := by unfold tkT; rw [h]
theorem tkT_some {s : ByteArray} {p v l : Nat} (h : tkN s p = some (v, l)) (h1 : v ≤ 20000) (h2 : p + l + v ≤ s.size) : tkT s p = some (l, v) := by
  unfold tkT; rw [h]; simp [h1, h2]
theorem tkT_not {s : ByteArray} {p v l : Nat} (h : tkN s p = some (v, l)) (h1 : ¬ (v ≤ 20000 ∧ p + l + v ≤ s.size)) : tkT s p = none := by
  unfold tkT; rw [h]; exact if_neg h1

theorem ext_front (s : ByteArray) (l n : Nat) (h : l + n ≤ s.size) : (s.extract l s.size).extract 0 n = s.extract l (l + n) := by
  rw [ByteArray.extract_extract, Nat.add_zero, Nat.min_eq_left h]
theorem ext_back (s : ByteArray) (l n : Nat) (h : l + n ≤ s.size) : (s.extract l s.size).extract n (s.size - l) = s.extract (l + n) s.size := by
  rw [ByteArray.extract_extract]; congr 1; omega

def putT (s : ByteArray) : ByteArray := if s.size ≤ 20000 then putS s.size ++ s else ByteArray.empty

theorem info_u8 {P : Program} {e : TypeId} (h : (P.info? e).map (fun i => (i.zero, i.size, i.bytes)) = some (some (.int .u8 0), 1, 1)) : ∃ i : TypeInfo, P.info? e = some i ∧ i.zero = some (.int .u8 0) ∧ i.size = 1 ∧ i.bytes = 1 := by
  obtain ⟨i, hi, h0, h1, h2⟩ := info_parts h
  exact ⟨i, hi, h0, h1, h2⟩

/-- A row of bytes that the call owns, converted into a string. -/
theorem conv_own {P : Program} (W : World) (B : Nat) (src e dst : TypeId) (hs : P.underlying src = some (.slice e)) (he : P.underlying e = some (.int .u8)) (hd : P.underlying dst = some .string)
    (v : Value) (n : Nat) (xs : List Int) (h : W.ownsRow B e 1 v n (xs.map (Value.int .u8))) : (convert src dst v).run P W = .ok (.string (strOfNums xs)) W := by
  obtain ⟨hl, h1 | ⟨g, cap, cur, rfl, hg, hb, hn, hm, hc, ht⟩⟩ := h
  · obtain ⟨rfl, rfl⟩ := h1
    have : xs = [] := by simpa using hl
    subst this
    rw [run_convert_bytes_nil W src e hs he 0 0 dst hd]
    rfl
  · have hlen : xs.length = n := by simpa using hl
    refine run_convert_bytes_arg W src e hs he g 0 n cap xs hlen ?_ dst hd
    intro i hi
    have hown : W.ownsRow B e 1 (.slice (some ⟨g, 0, none⟩) n cap) n (xs.map (Value.int .u8)) := ⟨hl, .inr ⟨g, cap, cur, rfl, hg, hb, hn, hm, hc, ht⟩⟩
    have := hown.cellAt i (by omega)
    rw [Nat.zero_add, this]
    simp [List.getElem?_eq_getElem (show i < xs.length by omega), List.getD]

end Go.Proofs.YtliklijcdcfomaaGreat.Plain
