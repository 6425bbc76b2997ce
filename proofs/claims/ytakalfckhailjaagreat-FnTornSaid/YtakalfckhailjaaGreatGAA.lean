/- Texts of one kind, put together. -/
import Derived.WalkKit
import Derived.WalkLawsBesides
import Derived.Laws.BitsAllLaws
import Derived.OpenShut
import Derived.Below
import Derived.Laws.BytesArg
import Derived.Laws.OwnMore
import Derived.OwnWalk
import Derived.Deep.Draws
import Derived.WalkSpells
import Derived.Test.YtakalfckhailjaaGreatRows

/- Plain facts on numbers: a 32-bit word rotated, in the forms in which the two programs reckon it. -/
namespace Go.Proofs.YtakalfckhailjaaGreat.Plain
open Go Go.RowKit
set_option linter.unusedVariables false

theorem hide {p : Prop} (h : p) : Hid p := h
theorem unhide {p : Prop} (h : Hid p) : p := h

/-- What a walk is told of a slice of integers that came in. -/
def IsRow (k : IntKind) (w : World) (a : Option Addr) (len cap : Nat) (zs : List Int) : Prop :=
  (a = none ∧ len = 0 ∧ cap = 0 ∧ zs = []) ∨
  ∃ x, a = some x ∧ len ≤ cap ∧ cap ≤ maxLen ∧ zs.length = cap ∧ (∀ i, i < zs.length → w.cell? (x.add i) = some (.int k (zs.getD i 0))) ∧ ∀ n ∈ zs, (Lit.int k n).wf = true

def rotI (x n : Int) : Int := (((BitVec.ofInt 32 x).rotateRight (n % 32).toNat).toNat : Int)

/-! ### A world that differs from another in one cell, and by new blocks -/
structure OnlyAt (a : Addr) (w w' : World) : Prop where
  os : w'.os = w.os
  tape : w'.tape = w.tape
  output : w'.output = w.output
  size : w.heap.size ≤ w'.heap.size
  block : ∀ k, k < w.heap.size → k ≠ a.block → w'.heap[k]? = w.heap[k]?
  cell : ∀ q : Addr, q.block < w.heap.size → q ≠ a → w'.cell? q = w.cell? q
  frozen : ∀ q : Addr, q.block < w.heap.size → w'.frozen? q = w.frozen? q

theorem OnlyAt.refl (a : Addr) (w : World) : OnlyAt a w w := ⟨rfl, rfl, rfl, Nat.le_refl _, fun _ _ _ => rfl, fun _ _ _ => rfl, fun _ _ => rfl⟩

theorem OnlyAt.trans {a : Addr} {u v w : World} (h : OnlyAt a u v) (k : OnlyAt a v w) : OnlyAt a u w :=
  ⟨k.os.trans h.os, k.tape.trans h.tape, k.output.trans h.output, Nat.le_trans h.size k.size,
   fun i hi hn => (k.block i (Nat.lt_of_lt_of_le hi h.size) hn).trans (h.block i hi hn),
   fun q hq hn => (k.cell q (Nat.lt_of_lt_of_le hq h.size) hn).trans (h.cell q hq hn),
   fun q hq => (k.frozen q (Nat.lt_of_lt_of_le hq h.size)).trans (h.frozen q hq)⟩

theorem OnlyAt.drewN {a : Addr} {u v : World} (h : OnlyAt a u v) (n : Nat) : OnlyAt a u (v.drewN n) := ⟨h.os, h.tape, h.output, h.size, h.block, h.cell, h.frozen⟩

theorem OnlyAt.setCell (a : Addr) (w : World) (v : Value) : OnlyAt a w (w.setCell a v) :=
  ⟨rfl, rfl, rfl, by simp, fun k _ hk => Below.heap_setCell w a v k hk, fun q _ hq => World.cell?_setCell_other w _ _ v (fun h => hq h.symm), fun q _ => by simp⟩

theorem OnlyAt.below {a : Addr} {u v : World} (h : OnlyAt a u v) {B : Nat} (hB : B ≤ a.block) (hs : B ≤ u.heap.size) : Below B u v :=
  ⟨h.os, h.tape, h.output, h.size, fun k hk => h.block k (by omega) (by omega)⟩

theorem OnlyAt.of_below {a : Addr} {u v : World} (h : Below u.heap.size u v) : OnlyAt a u v :=
  ⟨h.os, h.tape, h.output, h.size, fun k hk _ => h.block k hk, fun q hq _ => h.cell hq, fun q hq => h.frozen hq⟩

theorem lt_of_cell {w : World} {a : Addr} {v : Value} (h : w.cell? a = some v) : a.block < w.heap.size := by
  have : w.heap[a.block]? ≠ none := by
    intro e
    simp [World.cell?, e] at h
  rcases Nat.lt_or_ge a.block w.heap.size with k | k
  · exact k
  · exact absurd (Array.getElem?_eq_none k) this

/-! ### Worlds that differ by what was drawn, or in one block -/
theorem belDrew {B : Nat} {w w' : World} (h : Below B w w') : Below B w w'.drew := ⟨h.os, h.tape, h.output, h.size, h.block⟩
theorem bOfDrew {w w' : World} (h : Below w.drew.heap.size w.drew w') : Below w.heap.size w w' := (belDrew (Below.refl w.heap.size w)).trans h
/-- Nothing has changed but the block that a lies in, and new blocks. -/
structure OnlyRow (a : Option Addr) (w w' : World) : Prop where
  os : w'.os = w.os
  tape : w'.tape = w.tape
  output : w'.output = w.output
  size : w.heap.size ≤ w'.heap.size
  block : ∀ k, k < w.heap.size → (∀ o, a ≠ some ⟨k, o, none⟩) → w'.heap[k]? = w.heap[k]?
theorem OnlyRow.refl (a : Option Addr) (w : World) : OnlyRow a w w := ⟨rfl, rfl, rfl, Nat.le_refl _, fun _ _ _ => rfl⟩
theorem OnlyRow.trans {a : Option Addr} {u v w : World} (h : OnlyRow a u v) (h2 : OnlyRow a v w) : OnlyRow a u w :=
  ⟨h2.os.trans h.os, h2.tape.trans h.tape, h2.output.trans h.output, Nat.le_trans h.size h2.size, fun k hk hne => (h2.block k (Nat.lt_of_lt_of_le hk h.size) hne).trans (h.block k hk hne)⟩
theorem OnlyRow.of {a : Option Addr} {w w' : World} (h : Below w.heap.size w w') : OnlyRow a w w' := ⟨h.os, h.tape, h.output, h.size, fun k hk _ => h.block k hk⟩
theorem OnlyRow.set {g o : Nat} {w : World} (k : Nat) (v : Value) : OnlyRow (some ⟨g, o, none⟩) w (w.setCell ⟨g, k, none⟩ v) :=
  ⟨rfl, rfl, rfl, by simp, fun j _ hne => Below.heap_setCell _ _ _ _ (fun e => hne o (by simp at e; rw [e]))⟩
theorem OnlyRow.below {a : Option Addr} {w w' : World} {B : Nat} (h : OnlyRow a w w') (hB : ∀ g o, a = some ⟨g, o, none⟩ → B ≤ g) (hBw : B ≤ w.heap.size) : Below B w w' :=
  ⟨h.os, h.tape, h.output, h.size, fun k hk => h.block k (Nat.lt_of_lt_of_le hk hBw) (fun o e => by have := hB k o e; omega)⟩
theorem OnlyRow.cell {a : Option Addr} {w w' : World} (h : OnlyRow a w w') {g i : Nat} (hg : g < w.heap.size) (hne : ∀ o, a ≠ some ⟨g, o, none⟩) : w'.cell? ⟨g, i, none⟩ = w.cell? ⟨g, i, none⟩ := World.cell?_of_block (a := ⟨g, i, none⟩) (h.block g hg hne)
theorem OnlyRow.frozen {a : Option Addr} {w w' : World} (h : OnlyRow a w w') {g i : Nat} (hg : g < w.heap.size) (hne : ∀ o, a ≠ some ⟨g, o, none⟩) : w'.frozen? ⟨g, i, none⟩ = w.frozen? ⟨g, i, none⟩ := World.frozen?_of_block (a := ⟨g, i, none⟩) (h.block g hg hne)

/-! ### Numbers in bytes of seven bits -/
def putL : Nat → Nat → List Int
  | 0, m => [(m : Int)]
  | f + 1, m => if m < 128 then [(m : Int)] else ((m % 128 + 128 : Nat) : Int) :: putL f (m / 128)

def putS (n : Int) : ByteArray := if 0 ≤ n ∧ n ≤ 1000000000000 then strOfNums (putL 5 n.toNat) else ByteArray.empty

theorem putL_small (f m : Nat) (h : m < 128) : putL f m = [(m : Int)] := by
  cases f with
  | zero => rfl
  | succ f => simp [putL, h]

theorem putL_big (f m : Nat) (h : ¬ m < 128) : putL (f + 1) m = ((m % 128 + 128 : Nat) : Int) :: putL f (m / 128) := by simp [putL, h]

theorem put_round (f m : Nat) (L done : List Int) (h : done ++ putL f m = L) (hm : ¬ m < 128) (hmf : m < 128 ^ (f + 1)) :
    ∃ f', f = f' + 1 ∧ m / 128 < 128 ^ (f' + 1) ∧ (done ++ [((m : Int) % 128 + 128)]) ++ putL f' (m / 128) = L := by
  cases f with
  | zero => simp at hmf; omega
  | succ f =>
    refine ⟨f, rfl, ?_, ?_⟩
    · rw [Nat.pow_succ] at hmf; exact Nat.div_lt_of_lt_mul (by rw [Nat.mul_comm]; exact hmf)
    · rw [putL_big f m hm] at h
      rw [← h, List.append_assoc]
      simp

def tkGo (s : ByteArray) (p : Nat) : Nat → Nat → Nat → Option (Nat × Nat)
  | 0, _, _ => none
  | f + 1, i, n =>
    if h : p + i < s.size then
      if s[p + i].toNat < 128 then
        if (s[p + i].toNat = 0 ∧ 0 < i) ∨ 1000000000000 < n + s[p + i].toNat % 128 * 128 ^ i then none else some (n + s[p + i].toNat % 128 * 128 ^ i, i + 1)
      else tkGo s p f (i + 1) (n + s[p + i].toNat % 128 * 128 ^ i)
    else none

/-- The number with which the bytes of s begin at p, and how many bytes it takes. -/
def tkN (s : ByteArray) (p : Nat) : Option (Nat × Nat) := tkGo s p 6 0 0

theorem tkGo_end (s : ByteArray) (p f i n : Nat) (h : ¬ p + i < s.size) : tkGo s p f i n = none := by
  cases f with
  | zero => rfl
  | succ f => rw [tkGo, dif_neg h]

theorem tkGo_more (s : ByteArray) (p f i n : Nat) (h : p + i < s.size) (hc : ¬ s[p + i].toNat < 128) : tkGo s p (f + 1) i n = tkGo s p f (i + 1) (n + s[p + i].toNat % 128 * 128 ^ i) := by
  rw [tkGo, dif_pos h, if_neg hc]

theorem tkGo_bad (s : ByteArray) (p f i n : Nat) (h : p + i < s.size) (hc : s[p + i].toNat < 128) (hb : (s[p + i].toNat = 0 ∧ 0 < i) ∨ 1000000000000 < n + s[p + i].toNat % 128 * 128 ^ i) : tkGo s p (f + 1) i n = none := by
  rw [tkGo, dif_pos h, if_pos hc, if_pos hb]

theorem tkGo_good (s : ByteArray) (p f i n : Nat) (h : p + i < s.size) (hc : s[p + i].toNat < 128) (hb : ¬ ((s[p + i].toNat = 0 ∧ 0 < i) ∨ 1000000000000 < n + s[p + i].toNat % 128 * 128 ^ i)) : tkGo s p (f + 1) i n = some (n + s[p + i].toNat % 128 * 128 ^ i, i + 1) := by
  rw [tkGo, dif_pos h, if_pos hc, if_neg hb]

theorem tk_bound (n c i : Nat) (hn : n < 128 ^ i) : n + c % 128 * 128 ^ i < 128 ^ (i + 1) := by
  have h : c % 128 ≤ 127 := by omega
  have h2 : c % 128 * 128 ^ i ≤ 127 * 128 ^ i := Nat.mul_le_mul_right _ h
  rw [Nat.pow_succ]
  omega

theorem tkGo_le (s : ByteArray) (p : Nat) : ∀ f i n v l, n < 128 ^ i → tkGo s p f i n = some (v, l) → v ≤ 1000000000000 ∧ i < l ∧ l ≤ i + f ∧ p + l ≤ s.size := by
  intro f
  induction f with
  | zero => intro i n v l _ h; simp [tkGo] at h
  | succ f ih =>
    intro i n v l hn h
    rw [tkGo] at h
    by_cases h1 : p + i < s.size
    · rw [dif_pos h1] at h
      by_cases h2 : s[p + i].toNat < 128
      · rw [if_pos h2] at h
        by_cases h3 : (s[p + i].toNat = 0 ∧ 0 < i) ∨ 1000000000000 < n + s[p + i].toNat % 128 * 128 ^ i
        · rw [if_pos h3] at h; simp at h
        · rw [if_neg h3] at h
          simp at h
          omega
      · rw [if_neg h2] at h
        have := ih (i + 1) _ v l (tk_bound _ _ _ hn) h
        omega
    · rw [dif_neg h1] at h; simp at h

theorem tkN_le {s : ByteArray} {p v l : Nat} (h : tkN s p = some (v, l)) : v ≤ 1000000000000 ∧ 0 < l ∧ l ≤ 6 ∧ p + l ≤ s.size := by
  have := tkGo_le s p 6 0 0 v l (by decide) h
  omega

theorem tk_round {s : ByteArray} {p k N c M P f j : Nat} {R : Option (Nat × Nat)} (hj : p + k = j) (hlt : j < s.size) (hc : s[j].toNat = c) (hM : 128 ^ k = M) (hP : c % 128 * M = P) (hrel : tkGo s p (f + 1) k N = R) :
    (¬ c < 128 → tkGo s p f (k + 1) (N + P) = R) ∧ (c < 128 → ((c = 0 ∧ 0 < k) ∨ 1000000000000 < N + P) → R = none) ∧ (c < 128 → ¬ ((c = 0 ∧ 0 < k) ∨ 1000000000000 < N + P) → R = some (N + P, k + 1)) := by
  subst hj hc hM hP
  refine ⟨fun h => ?_, fun h h2 => ?_, fun h h2 => ?_⟩
  · rw [← hrel, tkGo_more s p f k N hlt h]
  · rw [← hrel, tkGo_bad s p f k N hlt h h2]
  · rw [← hrel, tkGo_good s p f k N hlt h h2]

theorem pow_next {k M N c P : Nat} (hM : 128 ^ k = M) (hP : c % 128 * M = P) (hN : N < M) : N + P < 128 ^ (k + 1) := by
  subst hM hP; exact tk_bound N c k hN

theorem extract_one (s : ByteArray) (j : Nat) (h : j < s.size) : ∃ (hz : 0 < (s.extract j (j + 1)).size), (s.extract j (j + 1)).size = 1 ∧ (s.extract j (j + 1))[0].toNat = s[j].toNat := by
  have e : (s.extract j (j + 1)).size = 1 := by rw [ByteArray.size_extract]; omega
  refine ⟨by omega, e, ?_⟩
  rw [ByteArray.getElem_extract]
  simp

theorem extract_name (s : ByteArray) (j c : Nat) (h : j < s.size) (hc : s[j].toNat = c) : ∃ t : ByteArray, s.extract j (j + 1) = t ∧ ∃ (hz : 0 < t.size), t.size = 1 ∧ t[0].toNat = c := by
  obtain ⟨hz, h1, h2⟩ := extract_one s j h
  exact ⟨_, rfl, hz, h1, h2.trans hc⟩

theorem or64 (a b : Nat) (ha : a < 9223372036854775808) (hb : b < 9223372036854775808) : bits .or .i64 (a : Int) (b : Int) = ((a ||| b : Nat) : Int) := by
  have h1 : (BitVec.ofInt 64 (a : Int)).toNat = a := by rw [BitVec.ofInt_natCast, BitVec.toNat_ofNat]; omega
  have h2 : (BitVec.ofInt 64 (b : Int)).toNat = b := by rw [BitVec.ofInt_natCast, BitVec.toNat_ofNat]; omega
  have h3 : a ||| b < 2 ^ 63 := Nat.or_lt_two_pow (by omega) (by omega)
  show IntKind.wrap .i64 ((BitVec.ofInt 64 (a : Int) ||| BitVec.ofInt 64 (b : Int)).toNat : Int) = _
  rw [BitVec.toNat_or, h1, h2, IntKind.wrap_i64]
  omega

theorem shift_rules {k N c M P : Nat} (hM : 128 ^ k = M) (hP : c % 128 * M = P) (hN : N < M) (hM0 : M ≤ 34359738368) (hP0 : P ≤ 4398046511104) :
    wrap64 ((c : Int) % 128 * 2 ^ (7 * k)) = (P : Int) ∧ bits .or .i64 (N : Int) (P : Int) = ((N + P : Nat) : Int) := by
  have e : (2 : Nat) ^ (7 * k) = M := by rw [← hM, Nat.pow_mul]
  constructor
  · have : (c : Int) % 128 * 2 ^ (7 * k) = ((P : Nat) : Int) := by rw [← hP, ← e]; simp
    rw [this]; unfold wrap64; omega
  · rw [or64 N P (by omega) (by omega), Nat.or_comm, nat_join (7 * k) P N (by rw [e, ← hP]; exact Nat.mul_mod_left _ _) (by rw [e]; exact hN), Nat.add_comm]

theorem q_bound {N P M Q : Nat} (hQ : N + P = Q) (hN : N < M) (hM0 : M ≤ 34359738368) (hP0 : P ≤ 4398046511104) : Q ≤ 5000000000000 := by omega

/-- The text with which the bytes of s begin at p: how many bytes its length takes, and the length. -/
def tkT (s : ByteArray) (p : Nat) : Option (Nat × Nat) := match tkN s p with
  | none => none
  | some (v, l) => if v ≤ 20000 ∧ p + l + v ≤ s.size then some (l, v) else none

theorem tkT_none {s : ByteArray} {p : Nat} (h : tkN s p = none) : tkT s p = none := by unfold tkT; rw [h]
theorem tkT_some {s : ByteArray} {p v l : Nat} (h : tkN s p = some (v, l)) (h1 : v ≤ 20000) (h2 : p + l + v ≤ s.size) : tkT s p = some (l, v) := by
  unfold tkT; rw [h]; simp [h1, h2]
theorem tkT_not {s : ByteArray} {p v l : Nat} (h : tkN s p = some (v, l)) (h1 : ¬ (v ≤ 20000 ∧ p + l + v ≤ s.size)) : tkT s p = none := by
  unfold tkT; rw [h]; exact if_neg h1

theorem ext_front (s : ByteArray) (l n : Nat) (h : l + n ≤ s.size) : (s.extract l s.size).extract 0 n = s.extract l (l + n) := by
  rw [ByteArray.extract_extract, Nat.add_zero, Nat.min_eq_left h]
theorem ext_back (s : ByteArray) (l n : Nat) (h : l + n ≤ s.size) : (s.extract l s.size).extract n (s.size - l) = s.extract (l + n) s.size := by
  rw [ByteArray.extract_extract]; congr 1; omega

def putT (s : ByteArray) : ByteArray := if s.size ≤ 20000 then putS s.size ++ s else ByteArray.empty

/-- A row of bytes that the call owns, converted into a string. -/
theorem conv_own {P : Program} (W : World) (B : Nat) (src e dst : TypeId) (hs : P.underlying src = some (.slice e)) (he : P.underlying e = some (.int .u8)) (hd : P.underlying dst = some .string)
    (v : Value) (n : Nat) (xs : List Int) (h : W.ownsRow B e 1 v n (xs.map (Value.int .u8))) : (convert src dst v).run P W = .ok (.string (strOfNums xs)) W := by
  obtain ⟨hl, h1 | ⟨g, cap, cur, rfl, hg, hb, hn, hm, hc, ht⟩⟩ := h
  · obtain ⟨rfl, rfl⟩ := h1
    have : xs = [] := by simpa using hl
    subst this
    rw [run_convert_bytes_nil W src e hs he 0 0 dst hd]
    rfl
  · have hlen : xs.length = n := by simpa using hl
    refine run_convert_bytes_arg W src e hs he g 0 n cap xs hlen ?_ dst hd
    intro i hi
    have hown : W.ownsRow B e 1 (.slice (some ⟨g, 0, none⟩) n cap) n (xs.map (Value.int .u8)) := ⟨hl, .inr ⟨g, cap, cur, rfl, hg, hb, hn, hm, hc, ht⟩⟩
    have := hown.cellAt i (by omega)
    rw [Nat.zero_add, this]
    simp [List.getElem?_eq_getElem (show i < xs.length by omega), List.getD]

end Go.Proofs.YtakalfckhailjaaGreat.Plain


/- SHA-256 as plain functions on words that are numbers below 2 to 32. -/
namespace Go.Proofs.YtakalfckhailjaaGreat.Plain
open Go Go.RowKit
set_option linter.unusedVariables false

def bS1 (e : Int) : Int := bits .xor .u32 (bits .xor .u32 (rotI e 6) (rotI e 11)) (rotI e 25)
def bS0 (a : Int) : Int := bits .xor .u32 (bits .xor .u32 (rotI a 2) (rotI a 13)) (rotI a 22)
def lS0 (x : Int) : Int := bits .xor .u32 (bits .xor .u32 (rotI x 7) (rotI x 18)) (x / 8)
def lS1 (y : Int) : Int := bits .xor .u32 (bits .xor .u32 (rotI y 17) (rotI y 19)) (y / 1024)
def chI (e f g : Int) : Int := bits .xor .u32 (bits .and .u32 e f) (bits .and .u32 (bits .xor .u32 IntKind.u32.max e) g)
def majI (a b c : Int) : Int := bits .xor .u32 (bits .xor .u32 (bits .and .u32 a b) (bits .and .u32 a c)) (bits .and .u32 b c)

/-- A value that is a word. -/
def U (x : Int) : Value := .int .u32 x
def Word (x : Int) : Prop := 0 ≤ x ∧ x < 4294967296

/-- One round: the eight words behind it. -/
def rnd0 (a b c d e f g h x : Int) : Int := (h + bS1 e + chI e f g + x + (bS0 a + majI a b c)) % 4294967296
def rnd4 (a b c d e f g h x : Int) : Int := (d + (h + bS1 e + chI e f g + x)) % 4294967296

def rndL (v : List Int) (x : Int) : List Int :=
  [rnd0 (v.getD 0 0) (v.getD 1 0) (v.getD 2 0) (v.getD 3 0) (v.getD 4 0) (v.getD 5 0) (v.getD 6 0) (v.getD 7 0) x, v.getD 0 0, v.getD 1 0, v.getD 2 0,
   rnd4 (v.getD 0 0) (v.getD 1 0) (v.getD 2 0) (v.getD 3 0) (v.getD 4 0) (v.getD 5 0) (v.getD 6 0) (v.getD 7 0) x, v.getD 4 0, v.getD 5 0, v.getD 6 0]

/-- The word of four bytes, the first one highest, as both programs put it together. -/
def hiI (a b c d : Int) : Int := bits .or .u32 (bits .or .u32 (bits .or .u32 (a * 16777216) (b * 65536)) (c * 256)) d

/-- The first t words of a block's schedule. -/
def schedTo (b : List Int) : Nat → List Int
  | 0 => []
  | t + 1 => schedTo b t ++ [if t < 16 then hiI (b.getD (4 * t) 0) (b.getD (4 * t + 1) 0) (b.getD (4 * t + 2) 0) (b.getD (4 * t + 3) 0)
      else (lS1 ((schedTo b t).getD (t - 2) 0) + (schedTo b t).getD (t - 7) 0 + lS0 ((schedTo b t).getD (t - 15) 0) + (schedTo b t).getD (t - 16) 0) % 4294967296]

theorem bits_word (op : BinOp) (x y : Int) : Word (bits op .u32 x y) := by
  unfold Word bits
  simp only
  rw [IntKind.wrap_u32']
  omega

/-- The words of the rounds' constants. -/
def kL : List Int := [
  0x428a2f98, 0x71374491, 0xb5c0fbcf, 0xe9b5dba5, 0x3956c25b, 0x59f111f1, 0x923f82a4, 0xab1c5ed5,
  0xd807aa98, 0x12835b01, 0x243185be, 0x550c7dc3, 0x72be5d74, 0x80deb1fe, 0x9bdc06a7, 0xc19bf174,
  0xe49b69c1, 0xefbe4786, 0x0fc19dc6, 0x240ca1cc, 0x2de92c6f, 0x4a7484aa, 0x5cb0a9dc, 0x76f988da,
  0x983e5152, 0xa831c66d, 0xb00327c8, 0xbf597fc7, 0xc6e00bf3, 0xd5a79147, 0x06ca6351, 0x14292967,
  0x27b70a85, 0x2e1b2138, 0x4d2c6dfc, 0x53380d13, 0x650a7354, 0x766a0abb, 0x81c2c92e, 0x92722c85,
  0xa2bfe8a1, 0xa81a664b, 0xc24b8b70, 0xc76c51a3, 0xd192e819, 0xd6990624, 0xf40e3585, 0x106aa070,
  0x19a4c116, 0x1e376c08, 0x2748774c, 0x34b0bcb5, 0x391c0cb3, 0x4ed8aa4a, 0x5b9cca4f, 0x682e6ff3,
  0x748f82ee, 0x78a5636f, 0x84c87814, 0x8cc70208, 0x90befffa, 0xa4506ceb, 0xbef9a3f7, 0xc67178f2]

/-- The eight words behind t rounds. -/
def compTo (W v : List Int) : Nat → List Int
  | 0 => v
  | t + 1 => rndL (compTo W v t) ((kL.getD t 0 + W.getD t 0) % 4294967296)

/-- The eight words behind a block. -/
def blockL (h b : List Int) : List Int := (List.range 8).map fun i => (h.getD i 0 + (compTo (schedTo b 64) h 64).getD i 0) % 4294967296

end Go.Proofs.YtakalfckhailjaaGreat.Plain


/- Rows of bytes that a call itself makes: a byte appended to one, over this program's types. -/
namespace Go.Proofs.YtakalfckhailjaaGreat
open Go.RowKit Plain
set_option linter.unusedVariables false

theorem info5 : (Tryz.prog.info? 5).map (fun i => (i.zero, i.size, i.bytes)) = some (some (.int .u8 0), 1, 1) := by kernel_rfl

/-- The value v is a slice of bytes which the call owns (from block B on), holding xs. -/
def OwnB (W : World) (B : Nat) (v : Value) (xs : List Int) : Prop := W.ownsRow B 5 1 v xs.length (xs.map (Value.int .u8))

theorem ownB_nil (W : World) (B : Nat) : OwnB W B (.slice none 0 0) [] := World.ownsRow_nil _ _ _ _

theorem ownB_empty (W : World) (B : Nat) (hB : B ≤ W.heap.size) : OwnB (W.alloc (.cells #[] 5)) B (.slice (some ⟨W.heap.size, 0, none⟩) 0 0) [] :=
  World.ownsRow_made W #[] 0 hB (by unfold maxLen; omega) rfl

theorem own_below {W w' : World} {B : Nat} {v : Value} {e : TypeId} {size n : Nat} {xs : List Value} (h : W.ownsRow B e size v n xs) (hg : W.grownBy w' v.ownBlock) (hB : B ≤ W.heap.size) : Below B W w' :=
  (Below.refl B W).grown hg hB fun k hk => (h.lt k hk).1

theorem app1 {ops : Array Oper} {rest : List Oper} {o : Oper} {a : Act} {Q : Exit → Act → World → Prop} (hgd : o.guard = none) (s x : Operand)
    (ho : o.op = .call { callee := .builtin .append, args := #[s, x], argTypes := #[22, 22] })
    {w : World} {B : Nat} {b : Int} {v : Value} {xs : List Int} (hown : OwnB w B v xs) (hs : a.eval s = v)
    (hx : a.eval x = .slice (some ⟨w.heap.size, 0, none⟩) 1 1) (hlen : xs.length < 1000000000000) (hB : B ≤ w.heap.size)
    (h : ∀ v' w', OwnB w' B v' (xs ++ [b]) → (w.alloc (.cells #[.int .u8 b] 5)).grownBy w' v.ownBlock → Below B w w' → wpList Tryz.prog ops Q rest (a.put o.dst v') w') :
    wpList Tryz.prog ops Q (o :: rest) a (w.alloc (.cells #[.int .u8 b] 5)) := by
  obtain ⟨i0, hi, hz0, hz1, hz2⟩ := info_parts info5
  have ha := World.ownsRow.alloc hown (.cells #[.int .u8 b] 5)
  refine wpList_append_own _ hgd s x 22 ho B 5 i0 (.int .u8 0) 1 1 Tryz.underlying22 hi hz0 hz1 hz2 rfl (by decide) v xs.length (xs.map (Value.int .u8)) hs ha
    ⟨w.heap.size, 0, none⟩ 1 1 [.int .u8 b] hx rfl (cell_one_new _ _ _) ?_ (by unfold maxLen; omega) (by omega) (by simp; omega) ?_
  · intro u hu; simp at hu; subst hu; rfl
  · intro v' w' h1 h2 _
    refine h v' w' ?_ h2 ?_
    · unfold OwnB; simpa using h1
    · exact (((Below.refl B w).alloc hB _).trans (own_below ha h2 (by simp; omega)))

theorem conv_ownB (W : World) (B : Nat) (v : Value) (xs : List Int) (h : OwnB W B v xs) : (convert 22 9 v).run Tryz.prog W = .ok (.string (strOfNums xs)) W :=
  conv_own W B 22 5 9 Tryz.underlying22 Tryz.underlying5 Tryz.underlying9 v xs.length xs h

end Go.Proofs.YtakalfckhailjaaGreat


/- The CRC-32 as plain mathematics: a step is linear and one to one; eight steps by a table. -/
namespace Go.Proofs.YtakalfckhailjaaGreat.Plain
open Go Go.RowKit
set_option linter.unusedVariables false

/-- One step, as both programs reckon it. -/
def stepI (x : Int) : Int := if (bits .and .u32 x 1 == 1) = true then bits .xor .u32 (x / 2) 3988292384 else x / 2
def stepsI : Nat → Int → Int
  | 0, x => x
  | n + 1, x => stepsI n (stepI x)

def crcAt (s : ByteArray) : Nat → Int
  | 0 => 4294967295
  | k + 1 => stepsI 8 (bits .xor .u32 (crcAt s k) ((s.data.toList.getD k 0).toNat : Int))

def crcI (s : ByteArray) : Int := bits .xor .u32 IntKind.u32.max (crcAt s s.size)

theorem bits_u32_range (op : BinOp) (x y : Int) : 0 ≤ bits op .u32 x y ∧ bits op .u32 x y < 4294967296 := by
  unfold bits
  simp only
  rw [IntKind.wrap_u32']
  omega

theorem stepI_range (x : Int) (h0 : 0 ≤ x) (h1 : x < 4294967296) : 0 ≤ stepI x ∧ stepI x < 4294967296 := by
  unfold stepI
  split
  · exact bits_u32_range _ _ _
  · omega

theorem stepsI_range (n : Nat) : ∀ x : Int, 0 ≤ x → x < 4294967296 → 0 ≤ stepsI n x ∧ stepsI n x < 4294967296 := by
  induction n with
  | zero => intro x h0 h1; exact ⟨h0, h1⟩
  | succ n ih => intro x h0 h1; have := stepI_range x h0 h1; exact ih _ this.1 this.2

theorem crcAt_range (s : ByteArray) (k : Nat) : 0 ≤ crcAt s k ∧ crcAt s k < 4294967296 := by
  cases k with
  | zero => unfold crcAt; omega
  | succ k => exact stepsI_range 8 _ (bits_u32_range _ _ _).1 (bits_u32_range _ _ _).2

theorem crcAt_succ (s : ByteArray) (k c : Nat) (h : k < s.size) (hc : s[k].toNat = c) : crcAt s (k + 1) = stepsI 8 (bits .xor .u32 (crcAt s k) (c : Int)) := by
  rw [crcAt, List.getD, List.getElem?_eq_getElem (by simpa using h), ← hc]
  rfl

theorem steps_next {j : Nat} {Z R : Int} (hj : j < 8) (h : stepsI (8 - j) Z = R) : stepsI (8 - (j + 1)) (stepI Z) = R := by
  rw [show 8 - j = (8 - (j + 1)) + 1 from by omega] at h
  exact h
theorem stepI_yes {Z : Int} (h : (bits .and .u32 Z 1 == 1) = true) : stepI Z = bits .xor .u32 (Z / 2) 3988292384 := by unfold stepI; rw [if_pos h]
theorem stepI_no {Z : Int} (h : (bits .and .u32 Z 1 == 1) = false) : stepI Z = Z / 2 := by unfold stepI; rw [h]; simp

end Go.Proofs.YtakalfckhailjaaGreat.Plain


/- More plain facts on numbers and texts in bytes. -/
namespace Go.Proofs.YtakalfckhailjaaGreat.Plain
open Go Go.RowKit
set_option linter.unusedVariables false

theorem putL_length (f m : Nat) : (putL f m).length ≤ f + 1 := by
  induction f generalizing m with
  | zero => simp [putL]
  | succ f ih =>
    unfold putL
    split
    · simp
    · have := ih (m / 128); simp; omega

theorem putS_size (n : Int) : (putS n).size ≤ 6 := by
  unfold putS
  split
  · rw [strOfNums_size]; exact putL_length 5 _
  · simp

end Go.Proofs.YtakalfckhailjaaGreat.Plain


/- Names of repositories as plain mathematics: one automaton over the bytes, which both programs follow. -/
namespace Go.Proofs.YtakalfckhailjaaGreat
open Go.RowKit Plain
set_option linter.unusedVariables false
namespace Plain
theorem u8 {c : UInt8} {n : Nat} (hn : n < 256) (h : c.toNat = n) : c = UInt8.ofNat n := by
  apply UInt8.toNat_inj.1
  rw [h, UInt8.toNat_ofNat']
  omega

/-! ### What the scanner takes: a word, a mark -/
def hy : List UInt8 → Nat
  | [] => 0
  | c :: l => if c.toNat = 45 then hy l + 1 else 0
/-- How many bytes the mark at the beginning takes. -/
def un : List UInt8 → Nat
  | [] => 1
  | d :: _ => if d.toNat = 95 then 2 else 1
def mk : List UInt8 → Nat
  | [] => 0
  | c :: l => if c.toNat = 95 then un l else if c.toNat = 46 then 1 else hy (c :: l)
end Plain
end Go.Proofs.YtakalfckhailjaaGreat

