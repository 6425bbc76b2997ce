/- Texts of one kind, put together. -/
import Derived.Test.YtakalfckhailjaaGreatGAE
import Derived.Test.YtakalfckhailjaaGreatGAC
import Derived.Deep.RegionWith
import Derived.Test.YtakalfckhailjaaGreatGAA
import Derived.Test.YtakalfckhailjaaGreatGAB
import Derived.Laws.StructEq

/- The bytes of a frame, and facts that both programs' WriteFrame need. -/
namespace Go.Proofs.YtakalfckhailjaaGreat
open Go.RowKit Plain
set_option linter.unusedVariables false

namespace Plain
def sealB (k : Int) (body : ByteArray) : ByteArray := strOfNums [k] ++ strOfNums (fourL body.size) ++ body
def frameB (k : Int) (body : ByteArray) : ByteArray := if 1 ≤ k ∧ k ≤ 100 ∧ body.size ≤ 20000 then sealB k body ++ strOfNums (fourL (crcI (sealB k body))) else ByteArray.empty
theorem crcI_range (s : ByteArray) : 0 ≤ crcI s ∧ crcI s < 4294967296 := bits_u32_range _ _ _
theorem four_size (x : Int) : (strOfNums (fourL x)).size = 4 := by rw [strOfNums_size]; rfl
theorem seal_size (k : Int) (body : ByteArray) : (sealB k body).size = 5 + body.size := by unfold sealB; rw [ByteArray.size_append, ByteArray.size_append, strOfNums_size, strOfNums_size]; simp [fourL]
theorem one_size (x : Int) : (strOfNums [x]).size = 1 := by rw [strOfNums_size]; rfl
end Plain

theorem conv_cell (k : Int) : ∀ (W : World) (n : Nat), W.cell? ⟨n, 0, none⟩ = some (.int .u8 k) →
    (convert 22 9 (.slice (some ⟨n, 0, none⟩) 1 1)).run Tryz.prog W = .ok (.string (strOfNums [k])) W := by
  intro W n hc
  refine run_convert_bytes_arg W 22 5 Tryz.underlying22 Tryz.underlying5 n 0 1 1 [k] rfl ?_ 9 Tryz.underlying9
  intro i hi
  obtain rfl : i = 0 := by omega
  exact hc


theorem below_allocs2 {w : World} {A B C : Obj} (n : Nat) : Below w.heap.size w ((((w.alloc A).alloc B).alloc C).drewN n) :=
  below_drewN ((((Below.refl _ _).alloc (Nat.le_refl _) _).alloc (by simp) _).alloc (by simp; omega) _) n

end Go.Proofs.YtakalfckhailjaaGreat


/- What is put is taken back: numbers and texts in bytes, as plain mathematics. -/
namespace Go.Proofs.YtakalfckhailjaaGreat.Plain
open Go Go.RowKit
set_option linter.unusedVariables false

theorem byte_val (n : Nat) (h : n < 256) : (UInt8.ofNat ((n : Int).toNat)).toNat = n := by
  rw [Int.toNat_natCast, UInt8.toNat_ofNat']
  omega

/-- Byte i of a string that begins with the list pre ++ cs. -/
theorem str_byte (cs : List Int) (t : ByteArray) (i : Nat) (hi : i < cs.length) (n : Nat) (hn : cs[i]? = some (n : Int)) (hb : n < 256) :
    ∃ h : i < (strOfNums cs ++ t).size, (strOfNums cs ++ t)[i].toNat = n := by
  have hs : (strOfNums cs).size = cs.length := strOfNums_size cs
  have h : i < (strOfNums cs ++ t).size := by rw [ByteArray.size_append]; omega
  refine ⟨h, ?_⟩
  rw [ByteArray.getElem_append_left (by omega)]
  have e : (strOfNums cs)[i]'(by omega) = UInt8.ofNat (cs[i]).toNat := by
    show (strOfNums cs).data[i]'(by simpa [strOfNums] using hi) = _
    simp [strOfNums]
  rw [e]
  have e2 : cs[i] = (n : Int) := by
    rw [List.getElem?_eq_getElem hi] at hn
    simpa using hn
  rw [e2]
  exact byte_val n hb

/-- The bytes of put are taken back, whatever stands ahead of them in pre. -/
theorem tk_put (f : Nat) : ∀ (m i N : Nat) (pre : List Int) (t : ByteArray), pre.length = i → m < 128 ^ (f + 1) → (i = 0 ∨ 0 < m) → N + m * 128 ^ i ≤ 1000000000000 →
    tkGo (strOfNums (pre ++ putL f m) ++ t) 0 (f + 1) i N = some (N + m * 128 ^ i, i + (putL f m).length) := by
  induction f with
  | zero =>
    intro m i N pre t hp hm h0 hN
    have hm' : m < 128 := by simpa using hm
    obtain ⟨h, hc⟩ := str_byte (pre ++ putL 0 m) t i (by simp [putL]; omega) m (by simp [putL, hp]) (by omega)
    rw [tkGo, dif_pos (by rw [Nat.zero_add]; exact h)]
    simp only [Nat.zero_add, hc]
    rw [if_pos hm', Nat.mod_eq_of_lt hm', if_neg (by omega)]
    simp [putL]
  | succ f ih =>
    intro m i N pre t hp hm h0 hN
    by_cases hs : m < 128
    · rw [putL_small _ _ hs]
      obtain ⟨h, hc⟩ := str_byte (pre ++ [(m : Int)]) t i (by simp; omega) m (by simp [hp]) (by omega)
      rw [tkGo, dif_pos (by rw [Nat.zero_add]; exact h)]
      simp only [Nat.zero_add, hc]
      rw [if_pos hs, Nat.mod_eq_of_lt hs, if_neg (by omega)]
      simp
    · rw [putL_big f m hs]
      obtain ⟨h, hc⟩ := str_byte (pre ++ ((m % 128 + 128 : Nat) : Int) :: putL f (m / 128)) t i (by simp; omega) (m % 128 + 128) (by simp [hp]) (by omega)
      rw [tkGo, dif_pos (by rw [Nat.zero_add]; exact h)]
      simp only [Nat.zero_add, hc]
      rw [if_neg (by omega), show (m % 128 + 128) % 128 = m % 128 from by omega]
      have e : N + m % 128 * 128 ^ i + m / 128 * 128 ^ (i + 1) = N + m * 128 ^ i := by
        have hd : m = m % 128 + 128 * (m / 128) := by omega
        have : m * 128 ^ i = m % 128 * 128 ^ i + m / 128 * 128 ^ (i + 1) := by
          conv => lhs; rw [hd]
          rw [Nat.add_mul, Nat.pow_succ]
          congr 1
          rw [Nat.mul_comm 128, Nat.mul_assoc, Nat.mul_comm 128 (128 ^ i)]
        omega
      have hih := ih (m / 128) (i + 1) (N + m % 128 * 128 ^ i) (pre ++ [((m % 128 + 128 : Nat) : Int)]) t (by simp [hp]) (by rw [Nat.pow_succ] at hm; exact Nat.div_lt_of_lt_mul (by rw [Nat.mul_comm]; exact hm)) (.inr (by omega)) (by rw [e]; exact hN)
      rw [List.append_assoc, List.singleton_append] at hih
      rw [hih, e]
      simp
      omega

theorem tkN_put (n : Nat) (t : ByteArray) (h : n ≤ 1000000000000) : tkN (putS n ++ t) 0 = some (n, (putS n).size) := by
  have e : putS (n : Int) = strOfNums (putL 5 n) := by unfold putS; rw [if_pos (by omega), Int.toNat_natCast]
  rw [e, strOfNums_size]
  have := tk_put 5 n 0 0 [] t rfl (by omega) (.inl rfl) (by omega)
  unfold tkN
  simpa using this

end Go.Proofs.YtakalfckhailjaaGreat.Plain


/- What is taken has just the bytes that it was taken from. -/
namespace Go.Proofs.YtakalfckhailjaaGreat.Plain
open Go Go.RowKit
set_option linter.unusedVariables false

/-- The bytes of s from place i up to place l. -/
def seg (s : ByteArray) (i l : Nat) : List Int := ((bL s).drop i).take (l - i)
theorem seg_cons (s : ByteArray) (i l : Nat) (h : i < l) (hl : l ≤ s.size) : seg s i l = ((s[i]'(by omega)).toNat : Int) :: seg s (i + 1) l := by
  unfold seg
  have hi : i < (bL s).length := by rw [bL_length]; omega
  rw [List.drop_eq_getElem_cons hi, show l - i = (l - (i + 1)) + 1 from by omega, List.take_succ_cons]
  congr 1
  simp [bL]
  rfl
theorem seg_nil (s : ByteArray) (i : Nat) : seg s i i = [] := by simp [seg]

theorem tk_back (s : ByteArray) (f : Nat) : ∀ (i n v l : Nat), tkGo s 0 (f + 1) i n = some (v, l) →
    ∃ m, v = n + m * 128 ^ i ∧ (i = 0 ∨ 0 < m) ∧ i < l ∧ l ≤ s.size ∧ v ≤ 1000000000000 ∧ putL f m = seg s i l := by
  induction f with
  | zero =>
    intro i n v l h
    rw [tkGo] at h
    split at h
    · rename_i hi
      rw [Nat.zero_add] at hi
      simp only [Nat.zero_add] at h
      split at h
      · rename_i hc
        split at h
        · cases h
        · rename_i hno
          simp only [Option.some.injEq, Prod.mk.injEq] at h
          obtain ⟨rfl, rfl⟩ := h
          refine ⟨s[i].toNat, by rw [Nat.mod_eq_of_lt hc], by omega, by omega, by omega, by omega, ?_⟩
          rw [putL_small _ _ hc, seg_cons s i (i + 1) (by omega) (by omega), seg_nil]
      · simp [tkGo] at h
    · cases h
  | succ f ih =>
    intro i n v l h
    rw [tkGo] at h
    split at h
    · rename_i hi
      rw [Nat.zero_add] at hi
      simp only [Nat.zero_add] at h
      split at h
      · rename_i hc
        split at h
        · cases h
        · rename_i hno
          simp only [Option.some.injEq, Prod.mk.injEq] at h
          obtain ⟨rfl, rfl⟩ := h
          refine ⟨s[i].toNat, by rw [Nat.mod_eq_of_lt hc], by omega, by omega, by omega, by omega, ?_⟩
          rw [putL_small _ _ hc, seg_cons s i (i + 1) (by omega) (by omega), seg_nil]
      · rename_i hc
        obtain ⟨m, h1, h2, h3, h4, h5, h6⟩ := ih (i + 1) _ v l h
        have hb : s[i].toNat < 256 := s[i].toNat_lt
        refine ⟨s[i].toNat % 128 + 128 * m, ?_, .inr (by omega), by omega, h4, h5, ?_⟩
        · rw [h1, Nat.add_mul, Nat.pow_succ, Nat.add_assoc]
          congr 2
          rw [Nat.mul_comm 128 m, Nat.mul_assoc, Nat.mul_comm 128]
        · rw [putL_big f _ (by omega), seg_cons s i l (by omega) h4, ← h6, show (s[i].toNat % 128 + 128 * m) / 128 = m from by omega]
          congr 2
          omega
    · cases h

theorem strOf_seg (s : ByteArray) (l : Nat) (h : l ≤ s.size) : strOfNums (seg s 0 l) = s.extract 0 l := by
  apply ByteArray.ext
  rw [ByteArray.data_extract]
  unfold strOfNums seg bL
  simp only [List.drop_zero, Nat.sub_zero, List.map_take, List.map_map]
  apply Array.ext'
  rw [Array.toList_extract]
  simp [List.extract_eq_take_drop]
  congr 1
  have e : ((fun n : Int => UInt8.ofNat n.toNat) ∘ fun b : UInt8 => ((b.toNat : Nat) : Int)) = id := by funext x; simp
  rw [e, List.map_id]

theorem take_back (s : ByteArray) (v l : Nat) (h : tkN s 0 = some (v, l)) : v ≤ 1000000000000 ∧ l ≤ s.size ∧ putS v ++ s.extract l s.size = s := by
  obtain ⟨m, h1, h2, h3, h4, h5, h6⟩ := tk_back s 5 0 0 v l h
  obtain rfl : v = m := by simpa using h1
  refine ⟨h5, h4, ?_⟩
  have e : putS (v : Int) = s.extract 0 l := by
    unfold putS
    rw [if_pos (by omega), Int.toNat_natCast, h6]
    exact strOf_seg s l h4
  rw [e]
  apply ByteArray.ext
  simp

theorem extract_list (x : ByteArray) (i j : Nat) : (x.extract i j).data.toList = (x.data.toList.drop i).take (j - i) := by rw [ByteArray.data_extract, Array.toList_extract, List.extract_eq_take_drop]
theorem app_list (a b : ByteArray) : (a ++ b).data.toList = a.data.toList ++ b.data.toList := by simp
theorem len_list (a : ByteArray) : a.data.toList.length = a.size := by simp
theorem rest_of (a b : ByteArray) : (a ++ b).extract a.size (a ++ b).size = b := by
  apply ByteArray.ext
  apply Array.ext'
  rw [extract_list, app_list, ← len_list a, List.drop_left, List.take_of_length_le (by rw [len_list, len_list, ByteArray.size_append]; omega)]
theorem mid_of (a b c : ByteArray) : (a ++ (b ++ c)).extract a.size (a.size + b.size) = b := by
  apply ByteArray.ext
  apply Array.ext'
  rw [extract_list, app_list, app_list, Nat.add_sub_cancel_left, ← len_list a, List.drop_left, ← len_list b, List.take_left]
theorem tkT_put (t r : ByteArray) (h : t.size ≤ 20000) : tkT (putS t.size ++ (t ++ r)) 0 = some ((putS t.size).size, t.size) :=
  tkT_some (tkN_put t.size (t ++ r) (by omega)) h (by simp only [ByteArray.size_append]; omega)
end Go.Proofs.YtakalfckhailjaaGreat.Plain


/- Manifests as plain mathematics: when one is right, its text, what is read of a text. -/
namespace Go.Proofs.YtakalfckhailjaaGreat
open Go.RowKit Plain
set_option linter.unusedVariables false
namespace Plain
end Plain
end Go.Proofs.YtakalfckhailjaaGreat


/- Manifests: when one is right, and its text: both programs by their contracts. -/
namespace Go.Proofs.YtakalfckhailjaaGreat
open Go.RowKit Plain
set_option linter.unusedVariables false

namespace Plain
theorem bel1 (w : World) (o : Obj) : Below w.heap.size w (w.alloc o) := (Below.refl _ _).alloc (Nat.le_refl _) _
theorem bcl {w w' : World} {B : Nat} (h : Below B w w') {g i : Nat} {v : Value} (hg : g < B) (hc : w.cell? ⟨g, i, none⟩ = some v) : w'.cell? ⟨g, i, none⟩ = some v := (h.cell (p := ⟨g, i, none⟩) hg).trans hc
theorem belOn {w W W' : World} (h0 : Below w.heap.size w W) (h1 : Below W.heap.size W W') : Below w.heap.size w W' := h0.trans (h1.mono h0.size)
end Plain









end Go.Proofs.YtakalfckhailjaaGreat


/- What is left of a purse. -/
namespace Go.Proofs.YtakalfckhailjaaGreat.Plain
open Go.RowKit
set_option linter.unusedVariables false
/-- What is left of a purse behind n. -/
def purse (left : Int) (n : Nat) : Int := if left < n then -1 else left - n
theorem belQ {B : Nat} {w w' : World} (h : Below B w w') (k : Nat) : Below B w (w'.drewN k) := ⟨h.os, h.tape, h.output, h.size, h.block⟩
end Go.Proofs.YtakalfckhailjaaGreat.Plain


/- Commands that are formed, as plain mathematics; how two of them are compared. -/
namespace Go.Proofs.YtakalfckhailjaaGreat
open Go.RowKit Plain
set_option linter.unusedVariables false

namespace Plain
end Plain

end Go.Proofs.YtakalfckhailjaaGreat

