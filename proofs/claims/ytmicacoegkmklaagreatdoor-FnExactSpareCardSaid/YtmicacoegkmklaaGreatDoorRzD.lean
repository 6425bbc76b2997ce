/- Texts of one kind, put together. -/
import Derived.Test.YtmicacoegkmklaaGreatDoorRzC
import Derived.Lib.TrailingZeros
import Derived.Test.YtmicacoegkmklaaGreatDoorGen
import Derived.Shelf.Spec.TrailingZeros

/- Changes of members as plain mathematics: a number put into a rising list and cut out of it, and the same of words. -/
namespace Go.Proofs.YtmicacoegkmklaaGreatDoor.Plain
open Go
set_option linter.unusedVariables false

def cutZ (x : Int) (l : List Int) : List Int := l.filter fun y => decide (y ≠ x)
def putZ (x : Int) : List Int → List Int
  | [] => [x]
  | a :: l => if x < a then x :: a :: l else a :: putZ x l
theorem mem_cutZ (x y : Int) (l : List Int) : y ∈ cutZ x l ↔ y ∈ l ∧ y ≠ x := by unfold cutZ; rw [List.mem_filter]; simp
theorem mem_putZ (x y : Int) : ∀ l : List Int, y ∈ putZ x l ↔ y = x ∨ y ∈ l
  | [] => by simp [putZ]
  | a :: l => by
    rw [putZ]
    split
    · simp
    · rw [List.mem_cons, mem_putZ x y l, List.mem_cons]
      constructor
      · rintro (h | h | h)
        · exact .inr (.inl h)
        · exact .inl h
        · exact .inr (.inr h)
      · rintro (h | h | h)
        · exact .inr (.inl h)
        · exact .inl h
        · exact .inr (.inr h)
theorem okIds_mono : ∀ (l : List Int) (p q : Int), q ≤ p → okIds p l = true → okIds q l = true
  | [], _, _, _, _ => rfl
  | a :: l, p, q, h, hk => by
    rw [okIds, Bool.and_eq_true, Bool.and_eq_true, decide_eq_true_iff, decide_eq_true_iff] at hk ⊢
    exact ⟨⟨by omega, hk.1.2⟩, hk.2⟩
theorem okIds_cut (x : Int) : ∀ (l : List Int) (p : Int), okIds p l = true → okIds p (cutZ x l) = true
  | [], _, _ => rfl
  | a :: l, p, hk => by
    rw [okIds, Bool.and_eq_true, Bool.and_eq_true, decide_eq_true_iff, decide_eq_true_iff] at hk
    have ih := okIds_cut x l a hk.2
    unfold cutZ at ih ⊢
    rw [List.filter_cons]
    split
    · rw [okIds, ih, decide_eq_true hk.1.1, decide_eq_true hk.1.2]; rfl
    · exact okIds_mono _ a p (by omega) ih
theorem okIds_put (x : Int) (h50 : x ≤ 50) : ∀ (l : List Int) (p : Int), p < x → x ∉ l → okIds p l = true → okIds p (putZ x l) = true
  | [], p, hp, _, _ => by rw [putZ, okIds, okIds, decide_eq_true hp, decide_eq_true h50]; rfl
  | a :: l, p, hp, hn, hk => by
    rw [okIds, Bool.and_eq_true, Bool.and_eq_true, decide_eq_true_iff, decide_eq_true_iff] at hk
    rw [List.mem_cons] at hn
    rw [putZ]
    split
    · rename_i hxa
      rw [okIds, okIds, decide_eq_true hp, decide_eq_true h50, decide_eq_true hxa, decide_eq_true hk.1.2, hk.2]; rfl
    · rename_i hxa
      have : a < x := by omega
      rw [okIds, okIds_put x h50 l a this (fun q => hn (.inr q)) hk.2, decide_eq_true hk.1.1, decide_eq_true hk.1.2]; rfl
theorem putZ_len (x : Int) : ∀ l : List Int, (putZ x l).length = l.length + 1
  | [] => rfl
  | a :: l => by rw [putZ]; split <;> simp [putZ_len x l]
theorem cutZ_len (x : Int) (l : List Int) : (cutZ x l).length ≤ l.length := List.length_filter_le _ _

theorem setN_ext {S : Nat} {l : List Int} (h : ∀ i, S.testBit i = (decide (1 ≤ i) && decide (i ≤ 50) && decide ((i : Int) ∈ l))) : S = setN l := by
  apply Nat.eq_of_testBit_eq
  intro i
  rw [h, setN_bit]
theorem set_put (x : Nat) (h1 : 1 ≤ x) (h50 : x ≤ 50) (l : List Int) : setN l ||| 2 ^ x = setN (putZ (x : Int) l) := by
  apply setN_ext
  intro i
  rw [Nat.testBit_or, setN_bit, Nat.testBit_two_pow]
  have hm : decide ((i : Int) ∈ putZ (x : Int) l) = decide ((i : Int) = (x : Int) ∨ (i : Int) ∈ l) := decide_eq_decide.2 (mem_putZ (x : Int) (i : Int) l)
  rw [hm]
  by_cases hx : x = i
  · subst hx
    simp [h1, h50]
  · have : ¬ (i : Int) = (x : Int) := by omega
    simp [hx, this]
theorem set_cut (x : Nat) (h50 : x ≤ 50) (l : List Int) : setN l &&& (18446744073709551615 - 2 ^ x) = setN (cutZ (x : Int) l) := by
  have hp : 2 ^ x ≤ 1125899906842624 := Nat.pow_le_pow_right (show 0 < 2 by decide) h50
  apply setN_ext
  intro i
  have hm : decide ((i : Int) ∈ cutZ (x : Int) l) = decide ((i : Int) ∈ l ∧ (i : Int) ≠ (x : Int)) := decide_eq_decide.2 (mem_cutZ (x : Int) (i : Int) l)
  rw [Nat.testBit_and, setN_bit, hm]
  rw [show 18446744073709551615 - 2 ^ x = 2 ^ 64 - (2 ^ x + 1) from by omega, Nat.testBit_two_pow_sub_succ (by omega), Nat.testBit_two_pow]
  by_cases hx : x = i
  · subst hx
    simp
  · have : ¬ (i : Int) = (x : Int) := by omega
    by_cases h3 : i ≤ 50
    · have : i < 64 := by omega
      simp [*]
    · simp [h3]
theorem set_has (x : Nat) (h1 : 1 ≤ x) (h50 : x ≤ 50) (l : List Int) : (setN l &&& 2 ^ x = 0) ↔ ¬ (x : Int) ∈ l := by
  constructor
  · intro h hm
    have hb : (setN l &&& 2 ^ x).testBit x = true := by rw [Nat.testBit_and, setN_bit, Nat.testBit_two_pow]; simp [h1, h50, hm]
    rw [h] at hb
    simp at hb
  · intro h
    apply Nat.eq_of_testBit_eq
    intro i
    rw [Nat.testBit_and, setN_bit, Nat.testBit_two_pow, Nat.zero_testBit]
    by_cases hx : x = i
    · subst hx
      simp [h]
    · simp [hx]
theorem set_all (v l : List Int) : setN v ||| setN l = setN (v ++ l) := by
  apply setN_ext
  intro i
  rw [Nat.testBit_or, setN_bit, setN_bit]
  by_cases h1 : (i : Int) ∈ v <;> by_cases h2 : (i : Int) ∈ l <;> simp [h1, h2]

/-! ### The lowest bit -/
theorem setN_cons (a : Nat) (h1 : 1 ≤ a) (h50 : a ≤ 50) (l : List Int) : setN ((a : Int) :: l) = setN l ||| 2 ^ a := by
  symm
  apply setN_ext
  intro i
  rw [Nat.testBit_or, setN_bit, Nat.testBit_two_pow]
  by_cases hx : a = i
  · subst hx
    simp [h1, h50]
  · have : ¬ (i : Int) = (a : Int) := by omega
    simp [hx, this]
theorem set_split (a : Nat) (h1 : 1 ≤ a) (h50 : a ≤ 50) (l : List Int) (hk : okIds (a : Int) l = true) : ∃ q, setN l = 2 ^ (a + 1) * q ∧ setN ((a : Int) :: l) = 2 ^ (a + 1) * q + 2 ^ a := by
  have hf := (okIds_facts l a (by omega) hk).2
  have hdiv : setN l = 2 ^ (a + 1) * (setN l / 2 ^ (a + 1)) := by
    have hm : setN l % 2 ^ (a + 1) = 0 := by
      apply Nat.eq_of_testBit_eq
      intro i
      rw [Nat.testBit_mod_two_pow, setN_bit, Nat.zero_testBit]
      by_cases hi : i < a + 1
      · have : ¬ (i : Int) ∈ l := fun hm => by have := hf _ hm; omega
        simp [this]
      · simp [hi]
    have := Nat.div_add_mod (setN l) (2 ^ (a + 1))
    omega
  refine ⟨_, hdiv, ?_⟩
  rw [setN_cons a h1 h50]
  generalize setN l / 2 ^ (a + 1) = q at hdiv
  rw [hdiv]
  exact (Nat.two_pow_add_eq_or_of_lt (Nat.pow_lt_pow_right (by decide) (by omega)) q).symm
theorem and_low (a q : Nat) : (2 ^ (a + 1) * q + 2 ^ a) &&& (2 ^ (a + 1) * q + 2 ^ a - 1) = 2 ^ (a + 1) * q := by
  have hp : 0 < 2 ^ a := Nat.two_pow_pos a
  have e : 2 ^ (a + 1) * q + 2 ^ a - 1 = 2 ^ (a + 1) * q + (2 ^ a - 1) := by omega
  have hl : 2 ^ a < 2 ^ (a + 1) := Nat.pow_lt_pow_right (by decide) (by omega)
  apply Nat.eq_of_testBit_eq
  intro i
  rw [e, Nat.testBit_and, Nat.testBit_two_pow_mul_add _ hl, Nat.testBit_two_pow_mul_add _ (by omega), Nat.testBit_two_pow_mul]
  by_cases hi : i < a + 1
  · rw [if_pos hi, if_pos hi, Nat.testBit_two_pow, Nat.testBit_two_pow_sub_one]
    have h2 : ¬ (a + 1 ≤ i) := by omega
    by_cases h3 : a = i
    · subst h3
      simp
      omega
    · simp [h3]
      omega
  · rw [if_neg hi, if_neg hi, Bool.and_self]
    have h2 : a + 1 ≤ i := by omega
    simp [h2]
theorem ctz_low : ∀ (a f q : Nat), a < f → Lib.ctzFrom f (2 ^ a * (2 * q + 1)) = a
  | 0, 0, q, h => by omega
  | 0, f + 1, q, h => by rw [Lib.ctzFrom, if_pos (by omega)]
  | a + 1, 0, q, h => by omega
  | a + 1, f + 1, q, h => by
    have e : 2 ^ (a + 1) * (2 * q + 1) = 2 * (2 ^ a * (2 * q + 1)) := by rw [Nat.pow_succ, Nat.mul_comm (2 ^ a) 2, Nat.mul_assoc]
    rw [Lib.ctzFrom, e, if_neg (by omega), show 2 * (2 ^ a * (2 * q + 1)) / 2 = 2 ^ a * (2 * q + 1) from by omega, ctz_low a f q (by omega)]
    omega
theorem low_bit (a : Nat) (h1 : 1 ≤ a) (h50 : a ≤ 50) (l : List Int) (hk : okIds (a : Int) l = true) : Lib.ctz 64 (setN ((a : Int) :: l)) = a ∧ setN ((a : Int) :: l) &&& (setN ((a : Int) :: l) - 1) = setN l ∧ setN ((a : Int) :: l) ≠ 0 := by
  obtain ⟨q, e1, e2⟩ := set_split a h1 h50 l hk
  have hp : 0 < 2 ^ a := Nat.two_pow_pos a
  have h0 : setN ((a : Int) :: l) ≠ 0 := by rw [e2]; omega
  refine ⟨?_, ?_, h0⟩
  · unfold Lib.ctz
    rw [if_neg h0, e2, show 2 ^ (a + 1) * q + 2 ^ a = 2 ^ a * (2 * q + 1) from by rw [Nat.pow_succ, Nat.mul_assoc, Nat.mul_add, Nat.mul_one]]
    exact ctz_low a 64 q (by omega)
  · rw [e2, and_low, e1]
end Go.Proofs.YtmicacoegkmklaaGreatDoor.Plain


/- Worlds that differ in some blocks alone; rows that lie elsewhere. -/
namespace Go.Proofs.YtmicacoegkmklaaGreatDoor
open Go.RowKit Plain
set_option linter.unusedVariables false

namespace Plain
/-- Nothing has changed but blocks of which p is so, and new blocks. -/
structure OnlyP (p : Nat → Prop) (w w' : World) : Prop where
  os : w'.os = w.os
  tape : w'.tape = w.tape
  output : w'.output = w.output
  size : w.heap.size ≤ w'.heap.size
  block : ∀ k, k < w.heap.size → ¬ p k → w'.heap[k]? = w.heap[k]?
theorem OnlyP.of {p : Nat → Prop} {w w' : World} (h : Below w.heap.size w w') : OnlyP p w w' := ⟨h.os, h.tape, h.output, h.size, fun k hk _ => h.block k hk⟩
theorem OnlyP.row {p : Nat → Prop} {a : Option Addr} {w w' : World} (h : OnlyRow a w w') (hp : ∀ g o, a = some ⟨g, o, none⟩ → p g) : OnlyP p w w' := ⟨h.os, h.tape, h.output, h.size, fun k hk hn => h.block k hk fun o e => hn (hp k o e)⟩
theorem OnlyP.trans {p : Nat → Prop} {u v w : World} (h : OnlyP p u v) (h2 : OnlyP p v w) : OnlyP p u w :=
  ⟨h2.os.trans h.os, h2.tape.trans h.tape, h2.output.trans h.output, Nat.le_trans h.size h2.size, fun k hk hne => (h2.block k (Nat.lt_of_lt_of_le hk h.size) hne).trans (h.block k hk hne)⟩
theorem OnlyP.below {p : Nat → Prop} {w w' : World} {B : Nat} (h : OnlyP p w w') (hB : ∀ g, p g → B ≤ g) (hBw : B ≤ w.heap.size) : Below B w w' :=
  ⟨h.os, h.tape, h.output, h.size, fun k hk => h.block k (Nat.lt_of_lt_of_le hk hBw) (fun e => by have := hB k e; omega)⟩
/-- The block that a slice lies in. -/
def inB (a : Option Addr) (g : Nat) : Prop := ∃ o, a = some ⟨g, o, none⟩
end Plain
theorem RowAt.offP {α : Type} {e : Elem α} {p : Nat → Prop} {w w' : World} {a : Option Addr} {xs : List α} (h : RowAt e w a xs) (ho : OnlyP p w w') (hne : ∀ g, inB a g → ¬ p g) : RowAt e w' a xs := fun i hi => by
  obtain ⟨g, e1, hl, hc⟩ := h i hi
  have hb := ho.block g hl (hne g ⟨0, e1⟩)
  exact ⟨g, e1, Nat.lt_of_lt_of_le hl ho.size, fun j hj => ⟨(World.cell?_of_block (a := ⟨g, i * e.n + j, none⟩) hb).trans (hc j hj).1, (World.frozen?_of_block (a := ⟨g, i * e.n + j, none⟩) hb).trans (hc j hj).2⟩⟩
theorem RowAt.offR {α : Type} {e : Elem α} {w w' : World} {a b : Option Addr} {xs : List α} (h : RowAt e w a xs) (ho : OnlyRow b w w') (hne : ∀ g, inB a g → ¬ inB b g) : RowAt e w' a xs := h.offP (OnlyP.row (p := inB b) ho fun g o e => ⟨o, e⟩) hne
theorem OwnR.bl {α : Type} {e : Elem α} {w : World} {B n c : Nat} {a : Option Addr} {ls : List α} (h : OwnR e w B (.slice a n c) ls) : ∀ g, inB a g → B ≤ g ∧ g < w.heap.size := by
  rintro g ⟨o, rfl⟩
  exact World.ownsRow.lt h g rfl
end Go.Proofs.YtmicacoegkmklaaGreatDoor


/- The nodes of a set as a list, by the program. -/
namespace Go.Proofs.YtmicacoegkmklaaGreatDoor
open Go.RowKit Plain
set_option linter.unusedVariables false

/-- The library's table is as its text lays it. -/
def Plain.TzAt (w : World) : Prop := TabAt 0 Lib.deBruijn64tab w ∧ 0 < w.heap.size
theorem Plain.TzAt.below {w w' : World} {B : Nat} (h : TzAt w) (hb : Below B w w') (hB : 0 < B) : TzAt w' := ⟨fun j hj => (hb.cell (p := ⟨0, j, none⟩) hB).trans (h.1 j hj), Nat.lt_of_lt_of_le h.2 hb.size⟩

set_option maxRecDepth 10000 in
set_option maxHeartbeats 1000000 in
theorem tz_core (x k idx : Nat) (w : World) (hx0 : ((x : Int) == 0) = false)
    (key : IntKind.u64.wrap (bits BinOp.and IntKind.u64 (x : Int) (IntKind.u64.wrap (-(x : Int))) * 285870213051353865) / 288230376151711744 = (idx : Int))
    (hi : idx < 64) (hk : k < 64) (hcell : w.cell? ⟨0, idx, none⟩ = some (.int .u8 k)) :
    Calls Tryz.prog 63 #[.int .u64 x] w fun e w' => e = .returned (.int .i64 k) ∧ w = w' := by
  go_enter Tryz.func63, Tryz.ntmps63
  go_wp2_with (simp only [key])
  go_ret
  exact ⟨rfl, rfl⟩
theorem TrailingZeros64_calls (x : Nat) (w : World) (hx : x < 18446744073709551616) (h0 : x ≠ 0) (hT : TzAt w) :
    Calls Tryz.prog 63 #[.int .u64 x] w fun e w' => e = .returned (.int .i64 (Lib.ctz 64 x : Nat)) ∧ w = w' := by
  obtain ⟨hlow, hk⟩ := Lib.lowest_bit 64 x h0 hx
  obtain ⟨hi, htab⟩ := Lib.deBruijn64_at _ hk
  have hcell := hT.1 _ hi
  rw [htab] at hcell
  exact tz_core x _ _ w (by simp; omega) (tz64_key x _ hx h0 hlow) hi hk hcell

set_option maxRecDepth 10000 in
set_option maxHeartbeats 2000000 in
theorem ids_calls (l : List Int) (w : World) (hk : okIds 0 l = true) (hl : l.length ≤ 100) (hT : TzAt w) :
    Calls Tryz.prog 48 #[.int .u64 (setN l : Nat)] w fun e w' => ∃ a c, e = .returned (.slice a l.length c) ∧ OwnR i64E w' w.heap.size (.slice a l.length c) l ∧ Below w.heap.size w w' := by
  have HK := hide hk
  have HT := hide hT
  have hlt := setN_lt l
  clear hT hk
  go_enter Tryz.func48, Tryz.ntmps48
  go_wp2_with fail
  go_loopw [0, 3] (fun s0 s3 wr => ∃ (k : Nat), s0 = .int .u64 (setN (l.drop k) : Nat) ∧ k ≤ l.length ∧ Hid (okIds (prevZ l k) (l.drop k) = true) ∧ w.heap.size ≤ wr.heap.size ∧ Hid (OwnR i64E wr w.heap.size s3 (l.take k)) ∧ Hid (Below w.heap.size w wr)) (fun s0 _ _ => (intOf s0).toNat)
  case atStart => exact ⟨0, rfl, by omega, hide (unhide HK), Nat.le_refl _, hide (ownR_nil _ _ _), hide (Below.refl _ _)⟩
  case round =>
    obtain ⟨k, rfl, hkl, HO, hz, HR, HB⟩ := hrel
    obtain ⟨a, c, hv⟩ := (unhide HR).form
    subst hv
    have hlk : (l.take k).length = k := by rw [List.length_take]; omega
    rw [hlk] at HR ⊢
    by_cases hkn : k < l.length
    · have hst := okIds_step l k hkn
      rw [unhide HO] at hst
      have hst2 := hst.symm
      rw [Bool.and_eq_true, Bool.and_eq_true, decide_eq_true_iff, decide_eq_true_iff] at hst2
      have hp0 : 0 ≤ prevZ l k := by
        cases k with
        | zero => exact Int.le_refl 0
        | succ k =>
          have hk2 : k < l.length := by omega
          rw [prevZ, List.getElem?_eq_getElem hk2]
          have := ((okIds_facts l 0 (by decide) (unhide HK)).2 l[k] (by simp)).1
          simp
          omega
      have hpn : prevZ l (k + 1) = l[k] := by rw [prevZ, List.getElem?_eq_getElem hkn]; rfl
      have hdr := List.drop_eq_getElem_cons hkn
      have htk := List.take_succ_eq_append_getElem hkn
      rw [hpn] at hst2
      obtain ⟨⟨b1, b2⟩, b3⟩ := hst2
      generalize l[k] = x at b1 b2 b3 hpn hdr htk
      obtain ⟨X, rfl⟩ := Int.eq_ofNat_of_zero_le (show 0 ≤ x by omega)
      obtain ⟨z1, z2, z3⟩ := low_bit X (by omega) (by omega) _ b3
      rw [← hdr] at z1 z2 z3
      have hlt2 := setN_lt (l.drop k)
      have hlt3 := setN_lt (l.drop (k + 1))
      have HTZ := hide (TrailingZeros64_calls (setN (l.drop k)) wr (by omega) z3 ((unhide HT).below (unhide HB) (unhide HT).2))
      rw [z1] at HTZ
      have hne : (((setN (l.drop k) : Nat) : Int) != 0) = true := by rw [bne_iff_ne]; omega
      have hsub : IntKind.u64.wrap (((setN (l.drop k) : Nat) : Int) - 1) = ((setN (l.drop k) - 1 : Nat) : Int) := by rw [IntKind.wrap_u64]; omega
      have hand : bits .and .u64 ((setN (l.drop k) : Nat) : Int) ((setN (l.drop k) - 1 : Nat) : Int) = ((setN (l.drop (k + 1)) : Nat) : Int) := by rw [u64_and_nat _ _ (by omega) (by omega), z2]
      have hle : setN (l.drop (k + 1)) ≤ setN (l.drop k) - 1 := by rw [← z2]; exact Nat.and_le_right
      have HO2 := hide (show okIds (prevZ l (k + 1)) (l.drop (k + 1)) = true from by rw [hpn]; exact b3)
      have HTK := hide htk
      have hlen : (l.take k).length < 100000000 := by omega
      generalize hS2 : setN (l.drop (k + 1)) = S2 at hand hle hlt3
      generalize setN (l.drop k) = S at HTZ hne hsub hand hle hlt2 z3
      have HS2 := hide hS2
      clear hst hdr htk b3 z1 z2 hS2 hlt
      have hless : S2 < S := by omega
      generalize S - 1 = S1 at hsub hand hle
      go_wp2_with fail
      refine (unhide HTZ).mono ?_
      rintro e w1 ⟨rfl, rfl⟩
      go_wp2_with (at_builtin; go_must (refine appR (e := i64E) rfl _ _ rfl (unhide HR) rfl (X : Int) rfl _ rfl rfl hlen hz ?_); intro v' w6 hown6 hb6 hg6; obtain ⟨a', c', hv'⟩ := hown6.form; subst hv')
      go_roundw
      case rel => exact ⟨k + 1, by rw [unhide HS2], by omega, HO2, by have := hb6.size; omega, hide (by rw [unhide HTK, show k + 1 = (l.take k ++ [(X : Int)]).length from by rw [List.length_append, hlk]; rfl]; exact hown6), hide ((unhide HB).trans hb6)⟩
      case measure => simp [intOf]; omega
    · obtain rfl : k = l.length := by omega
      have he : setN (l.drop l.length) = 0 := by rw [List.drop_length]; rfl
      rw [List.take_length] at HR
      rw [he]
      go_wp2_with fail
      go_ret
      exact ⟨a, c, rfl, unhide HR, unhide HB⟩
end Go.Proofs.YtmicacoegkmklaaGreatDoor


/- Rows of numbers, and members, marked and looked at again, as the exact laws do it. -/
namespace Go.Proofs.YtmicacoegkmklaaGreatDoor
open Go.RowKit Plain
set_option linter.unusedVariables false

namespace Plain
/-- What the marking leaves. -/
def mkI (b n : Nat) : List Int := (List.range n).map fun i : Nat => ((b + i : Nat) : Int)
theorem mkI_length (b n : Nat) : (mkI b n).length = n := by simp [mkI]
theorem mkI_get (b n k : Nat) (h : k < (mkI b n).length) : (mkI b n)[k] = ((b + k : Nat) : Int) := by simp [mkI]
def mixI (b : Nat) (fs : List Int) (k : Nat) : List Int := mkI b k ++ fs.drop k
theorem mixI_length (b : Nat) (fs : List Int) (k : Nat) (h : k ≤ fs.length) : (mixI b fs k).length = fs.length := by simp [mixI, mkI_length]; omega
theorem mixI_zero (b : Nat) (fs : List Int) : mixI b fs 0 = fs := by simp [mixI, mkI]
theorem mixI_end (b : Nat) (fs : List Int) : mixI b fs fs.length = mkI b fs.length := by simp [mixI]
theorem mixI_next (b : Nat) (fs : List Int) (k : Nat) (h : k < fs.length) : (mixI b fs k).set k ((b + k : Nat) : Int) = mixI b fs (k + 1) := by
  have hl := mkI_length b k
  unfold mixI
  rw [List.set_append_right _ _ (by omega), hl, Nat.sub_self, List.drop_eq_getElem_cons h, List.set_cons_zero]
  simp [mkI, List.range_succ]
end Plain

set_option maxHeartbeats 1000000 in
theorem markInt64S_calls (b : Nat) (a : Option Addr) (c n : Nat) (fs : List Int) (w : World) (hb2 : b ≤ 100000000) (hn : fs.length = n) (hn2 : n ≤ 100000000) (h1 : RowAt i64E w a fs) :
    Calls Tryz.prog 17 #[.slice a n c, .int .i64 b] w fun e w' => e = .returned (.int .i64 ((b + n : Nat) : Int)) ∧ RowAt i64E w' a (mkI b n) ∧ OnlyRow a w w' := by
  have H1 := hide h1
  have HN := hide hn
  clear h1 hn
  go_enter Tryz.func17, Tryz.ntmps17
  go_wp2_with fail
  go_loopw [1, 5] (fun m i wr => ∃ (k : Nat), i = .int .i64 k ∧ m = .int .i64 ((b + k : Nat) : Int) ∧ k ≤ n ∧ Hid (RowAt i64E wr a (mixI b fs k)) ∧ Hid (OnlyRow a w wr)) (fun _ i _ => n - (intOf i).toNat)
  case atStart => exact ⟨0, rfl, rfl, by omega, hide (by rw [mixI_zero]; exact unhide H1), OnlyRow.refl _ _⟩
  case round =>
    clear H1
    obtain ⟨k, rfl, rfl, hk, HF, HB⟩ := hrel
    by_cases hlt : k < n
    · have hfl : k < fs.length := by rw [unhide HN]; exact hlt
      have hml := mixI_length b fs k (by omega)
      have hkl : k < (mixI b fs k).length := by omega
      obtain ⟨g, e1, l1, p1, z1⟩ := (unhide HF).ix k hkl
      subst e1
      have hnx := mixI_next b fs k hfl
      have i0 : (0 : Int) ≤ (k : Int) := by omega
      have i1 : (k : Int) < (n : Int) := by omega
      obtain ⟨M, hM⟩ : ∃ M, b + k = M := ⟨_, rfl⟩
      rw [hM] at hnx ⊢
      have hS := (unhide HF).setJ k hkl 0 (by decide) (.int .i64 M) (M : Int) rfl
      rw [hnx, show k * i64E.n + 0 = k from Nat.mul_one k] at hS
      have HF2 := hide hS
      generalize (mixI b fs k)[k] = x at p1
      clear hS hnx HF
      go_wp2_with fail
      go_roundw
      case rel => exact ⟨k + 1, by go_num, by rw [show b + (k + 1) = M + 1 from by omega]; go_num, by omega, HF2, hide ((unhide HB).trans (OnlyRow.set _ _))⟩
      case measure => simp [intOf]; omega
    · obtain rfl : k = n := by omega
      have hF := unhide HF
      rw [← unhide HN, mixI_end, unhide HN] at hF
      have HF2 := hide hF
      clear hF HF
      go_wp2_with fail
      go_ret
      exact ⟨rfl, unhide HF2, unhide HB⟩



namespace Plain
/-- The blocks of members' two lists. -/
def inC (a b : Option Addr) (g : Nat) : Prop := inB a g ∨ inB b g
/-- Two lists, marked one behind the other. -/
structure CMark (W : World) (a b : Option Addr) (n m : Nat) : Prop where
  v : RowAt i64E W a (mkI 1 n)
  l : RowAt i64E W b (mkI (1 + n) m)
theorem CMark.below {W W' : World} {a b : Option Addr} {n m : Nat} (h : CMark W a b n m) (hb : Below W.heap.size W W') : CMark W' a b n m := ⟨h.v.below hb, h.l.below hb⟩
end Plain



end Go.Proofs.YtmicacoegkmklaaGreatDoor
