/- What is read of a command's bytes, as plain mathematics. -/
import Derived.Test.YtnkjdojpegmlcaaTxt
import Derived.Test.YtnkjdojpegmlcaaFmdM
namespace Go.Proofs.Ytnkjdojpegmlcaa
open Go.RowKit Plain
set_option linter.unusedVariables false

namespace Plain
theorem tkGo_shift (s : ByteArray) (p : Nat) (hp : p ≤ s.size) : ∀ f i n, tkGo (s.extract p s.size) 0 f i n = tkGo s p f i n := by
  intro f
  induction f with
  | zero => intro i n; rfl
  | succ f ih =>
    intro i n
    have hz : (s.extract p s.size).size = s.size - p := by rw [ByteArray.size_extract]; omega
    by_cases h : p + i < s.size
    · have h0 : 0 + i < (s.extract p s.size).size := by omega
      have he : (s.extract p s.size)[0 + i].toNat = s[p + i].toNat := by
        rw [ByteArray.getElem_extract]
        simp
      by_cases hc : s[p + i].toNat < 128
      · by_cases hb : (s[p + i].toNat = 0 ∧ 0 < i) ∨ 1000000000000 < n + s[p + i].toNat % 128 * 128 ^ i
        · rw [tkGo_bad _ _ _ _ _ h hc hb, tkGo_bad _ _ _ _ _ h0 (by rw [he]; exact hc) (by rw [he]; exact hb)]
        · rw [tkGo_good _ _ _ _ _ h hc hb, tkGo_good _ _ _ _ _ h0 (by rw [he]; exact hc) (by rw [he]; exact hb), he]
      · rw [tkGo_more _ _ _ _ _ h hc, tkGo_more _ _ _ _ _ h0 (by rw [he]; exact hc), he, ih]
    · rw [tkGo_end _ _ _ _ _ h, tkGo_end _ _ _ _ _ (by omega)]
theorem tkN_shift (s : ByteArray) (p : Nat) (hp : p ≤ s.size) : tkN (s.extract p s.size) 0 = tkN s p := tkGo_shift s p hp 6 0 0
theorem tkT_shift (s : ByteArray) (p : Nat) (hp : p ≤ s.size) : tkT (s.extract p s.size) 0 = tkT s p := by
  have hz : (s.extract p s.size).size = s.size - p := by rw [ByteArray.size_extract]; omega
  unfold tkT
  rw [tkN_shift s p hp, hz]
  cases h : tkN s p with
  | none => rfl
  | some x =>
    obtain ⟨v, l⟩ := x
    have := tkN_le h
    by_cases h2 : v ≤ 20000 ∧ p + l + v ≤ s.size
    · show (if _ then _ else _) = if _ then _ else _
      rw [if_pos h2, if_pos (by omega)]
    · show (if _ then _ else _) = if _ then _ else _
      rw [if_neg h2, if_neg (by omega)]
theorem tkT_le {s : ByteArray} {p l v : Nat} (h : tkT s p = some (l, v)) : p + l + v ≤ s.size ∧ v ≤ 20000 := by
  unfold tkT at h
  cases hn : tkN s p with
  | none => rw [hn] at h; simp at h
  | some x =>
    obtain ⟨v', l'⟩ := x
    rw [hn] at h
    simp at h
    omega

/-- The number at a place, and the place behind it; the same of a text. -/
def stp (s : ByteArray) (p : Nat) : Option (Int × Nat) := (tkN s p).map fun x => ((x.1 : Int), p + x.2)
def txp (s : ByteArray) (p : Nat) : Option (ByteArray × Nat) := (tkT s p).map fun x => (s.extract (p + x.1) (p + x.1 + x.2), p + x.1 + x.2)
/-- One thing more is read: the flag f' behind it, from the flag f ahead of it. -/
def MoR {α : Type} (o : Option (α × Nat)) (p' : Nat) (f f' : Bool) (v : α) : Prop := (f' = true ∧ (f = true ∨ o = none)) ∨ (f' = false ∧ f = false ∧ o = some (v, p'))
def stN {α : Type} (s : ByteArray) (S : Option (α × Nat)) : Option ((α × Int) × Nat) := S.bind fun x => (stp s x.2).map fun y => ((x.1, y.1), y.2)
def stT {α : Type} (s : ByteArray) (S : Option (α × Nat)) : Option ((α × ByteArray) × Nat) := S.bind fun x => (txp s x.2).map fun y => ((x.1, y.1), y.2)
/-- So much has been read: nothing when the flag is up. -/
def HasR {α : Type} (S : Option (α × Nat)) (f : Bool) (a : α) (p : Nat) : Prop := (f = true ∧ S = none) ∨ (f = false ∧ S = some (a, p))
theorem HasR.num {α : Type} {s : ByteArray} {S : Option (α × Nat)} {f f' : Bool} {a : α} {p p' : Nat} {v : Int} (h : HasR S f a p) (m : MoR (stp s p) p' f f' v) : HasR (stN s S) f' (a, v) p' := by
  unfold HasR stN at *
  rcases h with ⟨rfl, rfl⟩ | ⟨rfl, rfl⟩
  · rcases m with ⟨rfl, _⟩ | ⟨_, h, _⟩
    · exact .inl ⟨rfl, rfl⟩
    · cases h
  · rcases m with ⟨rfl, h | h⟩ | ⟨rfl, _, h⟩
    · cases h
    · exact .inl ⟨rfl, by simp [h]⟩
    · exact .inr ⟨rfl, by simp [h]⟩
theorem HasR.txt {α : Type} {s : ByteArray} {S : Option (α × Nat)} {f f' : Bool} {a : α} {p p' : Nat} {v : ByteArray} (h : HasR S f a p) (m : MoR (txp s p) p' f f' v) : HasR (stT s S) f' (a, v) p' := by
  unfold HasR stT at *
  rcases h with ⟨rfl, rfl⟩ | ⟨rfl, rfl⟩
  · rcases m with ⟨rfl, _⟩ | ⟨_, h, _⟩
    · exact .inl ⟨rfl, rfl⟩
    · cases h
  · rcases m with ⟨rfl, h | h⟩ | ⟨rfl, _, h⟩
    · cases h
    · exact .inl ⟨rfl, by simp [h]⟩
    · exact .inr ⟨rfl, by simp [h]⟩
theorem HasR.start : HasR (some ((), 0)) false () 0 := .inr ⟨rfl, rfl⟩
def rd3 (s : ByteArray) : Option ((((Unit × Int) × Int) × Int) × Nat) := stN s (stN s (stN s (some ((), 0))))
def rd7 (s : ByteArray) : Option ((((((((Unit × Int) × Int) × Int) × ByteArray) × ByteArray) × ByteArray) × ByteArray) × Nat) := stT s (stT s (stT s (stT s (rd3 s))))
def cmdA (a b c : Int) (r t d x : ByteArray) : Value := .agg #[.int .i64 a, .int .i64 b, .int .i64 c, .string r, .string t, .string d, .string x]
def cmdZ : Value := .tuple #[cmdA 0 0 0 ⟨#[]⟩ ⟨#[]⟩ ⟨#[]⟩ ⟨#[]⟩, .bool false]
/-- What ReadCmd answers: a, b, c, .. are what was read, where something was. -/
def cmdW (s : ByteArray) : Option ((((((((Unit × Int) × Int) × Int) × ByteArray) × ByteArray) × ByteArray) × ByteArray) × Nat) → Value
  | none => cmdZ
  | some (((((((((), a), b), c), r), t), d), x), p) => if p = s.size ∧ fmB a b c r t d x = true then .tuple #[cmdA a b c r t d x, .bool true] else cmdZ
def cmdV (s : ByteArray) : Value := cmdW s (rd7 s)
theorem cmdV_fail {s : ByteArray} {a b c : Int} {r t d x : ByteArray} {p : Nat} (h : HasR (rd7 s) true ((((((((), a), b), c), r), t), d), x) p) : cmdV s = cmdZ := by
  rcases h with ⟨_, h⟩ | ⟨h, _⟩
  · unfold cmdV; rw [h]; rfl
  · cases h
theorem cmdV_rest {s : ByteArray} {a b c : Int} {r t d x : ByteArray} {p : Nat} (h : HasR (rd7 s) false ((((((((), a), b), c), r), t), d), x) p) (hp : ¬ p = s.size) : cmdV s = cmdZ := by
  rcases h with ⟨h, _⟩ | ⟨_, h⟩
  · cases h
  · unfold cmdV cmdW; rw [h]; exact if_neg (fun k => hp k.1)
theorem cmdV_form {s : ByteArray} {a b c : Int} {r t d x : ByteArray} {p : Nat} (h : HasR (rd7 s) false ((((((((), a), b), c), r), t), d), x) p) (hp : fmB a b c r t d x = false) : cmdV s = cmdZ := by
  rcases h with ⟨h, _⟩ | ⟨_, h⟩
  · cases h
  · unfold cmdV cmdW; rw [h]; exact if_neg (fun k => by rw [hp] at k; cases k.2)
theorem cmdV_good {s : ByteArray} {a b c : Int} {r t d x : ByteArray} {p : Nat} (h : HasR (rd7 s) false ((((((((), a), b), c), r), t), d), x) p) (hp : p = s.size) (hf : fmB a b c r t d x = true) : cmdV s = .tuple #[cmdA a b c r t d x, .bool true] := by
  rcases h with ⟨h, _⟩ | ⟨_, h⟩
  · cases h
  · unfold cmdV cmdW; rw [h]; exact if_pos ⟨hp, hf⟩
/-- Texts that were read are short. -/
theorem txp_size {s : ByteArray} {p p' : Nat} {v : ByteArray} (h : txp s p = some (v, p')) : v.size ≤ 20000 := by
  unfold txp at h
  cases ht : tkT s p with
  | none => rw [ht] at h; simp at h
  | some x =>
    obtain ⟨l, n⟩ := x
    rw [ht] at h
    simp at h
    have := tkT_le ht
    rw [← h.1, ByteArray.size_extract]
    omega
theorem rest_nil (s : ByteArray) (p : Nat) (hp : p ≤ s.size) : (s.extract p s.size).toList = [] ↔ p = s.size := by
  rw [ByteArray.toList_eq]
  constructor
  · intro h
    have hz : (s.extract p s.size).size = s.size - p := by rw [ByteArray.size_extract]; omega
    have : (s.extract p s.size).data.toList.length = 0 := by rw [h]; rfl
    rw [Array.length_toList] at this
    have h2 : (s.extract p s.size).size = 0 := this
    omega
  · intro h
    subst h
    simp
end Plain
end Go.Proofs.Ytnkjdojpegmlcaa
