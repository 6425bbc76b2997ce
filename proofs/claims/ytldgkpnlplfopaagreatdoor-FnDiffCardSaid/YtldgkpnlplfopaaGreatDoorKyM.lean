/- Keys of digests: the mathematics. Keys rise as the texts do; a text comes back from its key. -/
import Derived.Test.YtldgkpnlplfopaaGreatDoorKyX
import Derived.Test.YtldgkpnlplfopaaGreatDoorKyS
namespace Go.Proofs.YtldgkpnlplfopaaGreatDoor
open Go.RowKit Plain
set_option linter.unusedVariables false

namespace Plain
def by1 (a b : UInt8) : UInt8 := (hexI a.toNat * 16 + hexI b.toNat).toNat.toUInt8
def kyP : List UInt8 → List UInt8
  | a :: b :: r => by1 a b :: kyP r
  | _ => []
def HexL (l : List UInt8) : Prop := ∀ c ∈ l, 0 ≤ hexI c.toNat
theorem kyP_len : ∀ l : List UInt8, (kyP l).length = l.length / 2
  | [] => rfl
  | [_] => by simp [kyP]
  | a :: b :: r => by rw [kyP, List.length_cons, kyP_len r]; simp; omega
theorem kyP_get : ∀ (l : List UInt8) (i : Nat), 2 * i + 1 < l.length → (kyP l).getD i 0 = by1 (l.getD (2 * i) 0) (l.getD (2 * i + 1) 0)
  | [], i, h => by simp at h
  | [_], i, h => by simp at h
  | a :: b :: r, 0, h => rfl
  | a :: b :: r, i + 1, h => by
    rw [kyP, show (by1 a b :: kyP r).getD (i + 1) 0 = (kyP r).getD i 0 from rfl, kyP_get r i (by simp at h; omega)]
    rfl
theorem hexI_lt {a b : UInt8} (ha : 0 ≤ hexI a.toNat) (hb : 0 ≤ hexI b.toNat) : (hexI a.toNat < hexI b.toNat ↔ a < b) ∧ (hexI a.toNat = hexI b.toNat ↔ a = b) := by
  rw [UInt8.lt_iff_toNat_lt, ← UInt8.toNat_inj]
  unfold hexI at *
  constructor <;> (split at ha <;> split at hb <;> (try split at ha) <;> (try split at hb) <;> simp_all <;> omega)
theorem by1_nat {a b : UInt8} (ha : 0 ≤ hexI a.toNat) (hb : 0 ≤ hexI b.toNat) : ((by1 a b).toNat : Int) = hexI a.toNat * 16 + hexI b.toNat := by
  have h1 := hexI_bounds (a.toNat : Int)
  have h2 := hexI_bounds (b.toNat : Int)
  unfold by1
  simp
  omega
theorem by1_lt {a b a' b' : UInt8} (ha : 0 ≤ hexI a.toNat) (hb : 0 ≤ hexI b.toNat) (ha' : 0 ≤ hexI a'.toNat) (hb' : 0 ≤ hexI b'.toNat) : (by1 a b < by1 a' b' ↔ a < a' ∨ (a = a' ∧ b < b')) ∧ (by1 a b = by1 a' b' ↔ a = a' ∧ b = b') := by
  have h1 := hexI_lt ha ha'
  have h2 := hexI_lt hb hb'
  rw [← h1.1, ← h1.2, ← h2.1, ← h2.2, UInt8.lt_iff_toNat_lt, ← UInt8.toNat_inj (a := by1 a b)]
  have n1 := by1_nat ha hb
  have n2 := by1_nat ha' hb'
  have c1 := hexI_bounds (b.toNat : Int)
  have c2 := hexI_bounds (b'.toNat : Int)
  omega
theorem kyP_lt : ∀ l1 l2 : List UInt8, l1.length = l2.length → l1.length % 2 = 0 → HexL l1 → HexL l2 → (kyP l1 < kyP l2 ↔ l1 < l2)
  | [], [], _, _, _, _ => by simp [kyP]
  | [], _ :: _, h, _, _, _ => by simp at h
  | [_], _, _, h, _, _ => by simp at h
  | _ :: _ :: _, [], h, _, _, _ => by simp at h
  | _ :: _ :: _, [_], h, _, _, _ => by simp at h
  | a :: b :: r, a' :: b' :: r', h, hp, h1, h2 => by
    have q := by1_lt (h1 a (by simp)) (h1 b (by simp)) (h2 a' (by simp)) (h2 b' (by simp))
    have ih := kyP_lt r r' (by simpa using h) (by simp at hp; omega) (fun c hc => h1 c (by simp [hc])) (fun c hc => h2 c (by simp [hc]))
    rw [kyP, kyP, List.cons_lt_cons_iff, List.cons_lt_cons_iff, List.cons_lt_cons_iff, ih, q.1, q.2]
    constructor
    · rintro ((h | ⟨h, h'⟩) | ⟨⟨h, h'⟩, h''⟩)
      · exact .inl h
      · exact .inr ⟨h, .inl h'⟩
      · exact .inr ⟨h, .inr ⟨h', h''⟩⟩
    · rintro (h | ⟨h, h' | ⟨h', h''⟩⟩)
      · exact .inl (.inl h)
      · exact .inl (.inr ⟨h, h'⟩)
      · exact .inr ⟨⟨h, h'⟩, h''⟩
theorem app_lt (l : List UInt8) (a b : List UInt8) : (l ++ a < l ++ b) ↔ a < b := by
  induction l with
  | nil => rfl
  | cons x l ih => rw [List.cons_append, List.cons_append, List.cons_lt_cons_iff, ih]; simp
theorem digB_form {d : ByteArray} (h : digB d = true) : d.size = 71 ∧ d.data.toList = shaL ++ d.data.toList.drop 7 ∧ (d.data.toList.drop 7).length = 64 ∧ HexL (d.data.toList.drop 7) := by
  have hs : d.size = 71 := by
    by_cases q : d.size = 71
    · exact q
    · rw [digB_size q] at h; cases h
  have hl : d.data.toList.length = 71 := by simpa using hs
  unfold digB at h
  rw [Bool.and_eq_true, Bool.and_eq_true] at h
  refine ⟨hs, ?_, by simp [hs], ?_⟩
  · have h2 := eq_of_beq h.1.2
    rw [ByteArray.toList_eq] at h2
    simp at h2
    rw [← h2]
    simp
  · intro c hc
    have h3 := h.2
    unfold hexFrom at h3
    rw [List.all_eq_true] at h3
    exact of_decide_eq_true (h3 c hc)
theorem kyL_P {d : ByteArray} (h : d.size = 71) : kyL d = kyP (d.data.toList.drop 7) := by
  have hl : (d.data.toList.drop 7).length = 64 := by simp [h]
  apply List.ext_getElem
  · rw [kyL_len, kyP_len, hl]
  · intro i h1 h2
    rw [kyL_len] at h1
    have e := kyP_get (d.data.toList.drop 7) i (by rw [hl]; omega)
    have e2 : (kyP (d.data.toList.drop 7)).getD i 0 = (kyP (d.data.toList.drop 7))[i] := by simp [List.getD, List.getElem?_eq_getElem h2]
    rw [← e2, e]
    simp [kyL, kyI, by1, List.getD, Nat.add_comm]
    rw [show 1 + 2 * i + 7 = 2 * i + 8 from by omega]
theorem kyL_lt {a b : ByteArray} (ha : digB a = true) (hb : digB b = true) : kyL a < kyL b ↔ ltB a b := by
  obtain ⟨a1, a2, a3, a4⟩ := digB_form ha
  obtain ⟨b1, b2, b3, b4⟩ := digB_form hb
  unfold ltB
  rw [kyL_P a1, kyL_P b1, kyP_lt _ _ (by rw [a3, b3]) (by rw [a3]) a4 b4, a2, b2, app_lt]
  simp [shaL]
theorem kyL_inj {a b : ByteArray} (ha : digB a = true) (hb : digB b = true) (h : kyL a = kyL b) : a = b := by
  rcases Classical.em (a = b) with e | e
  · exact e
  · exfalso
    by_cases q : ltB a b
    · have := (kyL_lt ha hb).2 q
      rw [h] at this
      exact List.lt_irrefl _ this
    · have := (kyL_lt hb ha).2 (ltB_tri q e)
      rw [h] at this
      exact List.lt_irrefl _ this
/-- A digit's sign. -/
def hxC (n : Nat) : UInt8 := "0123456789abcdef".toUTF8.data.toList.getD n 0
def dgL (k : List UInt8) : List UInt8 := shaL ++ k.flatMap fun b => [hxC (b.toNat / 16), hxC (b.toNat % 16)]
/-- The digest of a key. -/
def dgT (k : List UInt8) : ByteArray := ⟨(dgL k).toArray⟩
theorem hxC_all : ∀ c : Fin 256, 0 ≤ hexI c.val → (hxC (hexI c.val).toNat).toNat = c.val := by decide +kernel
theorem hxC_hex (c : UInt8) (h : 0 ≤ hexI c.toNat) : hxC (hexI c.toNat).toNat = c := UInt8.toNat_inj.1 (hxC_all ⟨c.toNat, c.toNat_lt⟩ h)
theorem flat_P : ∀ l : List UInt8, l.length % 2 = 0 → HexL l → ((kyP l).flatMap fun b => [hxC (b.toNat / 16), hxC (b.toNat % 16)]) = l
  | [], _, _ => rfl
  | [_], h, _ => by simp at h
  | a :: b :: r, h, h1 => by
    have ha := h1 a (by simp)
    have hb := h1 b (by simp)
    have n1 := by1_nat ha hb
    have c1 := hexI_bounds (a.toNat : Int)
    have c2 := hexI_bounds (b.toNat : Int)
    rw [kyP, List.flatMap_cons, flat_P r (by simp at h; omega) (fun c hc => h1 c (by simp [hc]))]
    rw [show (by1 a b).toNat / 16 = (hexI a.toNat).toNat from by omega, show (by1 a b).toNat % 16 = (hexI b.toNat).toNat from by omega, hxC_hex a ha, hxC_hex b hb]
    rfl
theorem dgT_kyL {d : ByteArray} (h : digB d = true) : dgT (kyL d) = d := by
  obtain ⟨a1, a2, a3, a4⟩ := digB_form h
  apply ByteArray.ext
  apply Array.toList_inj.1
  unfold dgT dgL
  rw [kyL_P a1, flat_P _ (by rw [a3]) a4]
  exact a2.symm
end Plain
end Go.Proofs.YtldgkpnlplfopaaGreatDoor
