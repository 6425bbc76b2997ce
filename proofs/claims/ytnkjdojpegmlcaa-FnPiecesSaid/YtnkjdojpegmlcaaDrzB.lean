/- Texts of one kind, put together. -/
import Derived.Test.YtnkjdojpegmlcaaPlainB
import Derived.Test.YtnkjdojpegmlcaaShaD
import Derived.Test.YtnkjdojpegmlcaaRdM
import Derived.Test.YtnkjdojpegmlcaaWf
import Derived.Test.YtnkjdojpegmlcaaCrcW
import Derived.Test.YtnkjdojpegmlcaaPcM
import Derived.Test.YtnkjdojpegmlcaaWhM

/- What is put is taken back: numbers and texts in bytes, as plain mathematics. -/
namespace Go.Proofs.Ytnkjdojpegmlcaa.Plain
open Go Go.RowKit
set_option linter.unusedVariables false

theorem byte_val (n : Nat) (h : n < 256) : (UInt8.ofNat ((n : Int).toNat)).toNat = n := by
  rw [Int.toNat_natCast, UInt8.toNat_ofNat']
  omega

/-- Byte i of a string that begins with the list pre ++ cs. -/
theorem str_byte (cs : List Int) (t : ByteArray) (i : Nat) (hi : i < cs.length) (n : Nat) (hn : cs[i]? = some (n : Int)) (hb : n < 256) :
    ∃ h : i < (strOfNums cs ++ t).size, (strOfNums cs ++ t)[i].toNat = n := by
  have hs : (strOfNums cs).size = cs.length := strOfNums_size cs
  have h : i < (strOfNums cs ++ t).size := by rw [ByteArray.size_append]; omega
  refine ⟨h, ?_⟩
  rw [ByteArray.getElem_append_left (by omega)]
  have e : (strOfNums cs)[i]'(by omega) = UInt8.ofNat (cs[i]).toNat := by
    show (strOfNums cs).data[i]'(by simpa [strOfNums] using hi) = _
    simp [strOfNums]
  rw [e]
  have e2 : cs[i] = (n : Int) := by
    rw [List.getElem?_eq_getElem hi] at hn
    simpa using hn
  rw [e2]
  exact byte_val n hb

/-- The bytes of put are taken back, whatever stands ahead of them in pre. -/
theorem tk_put (f : Nat) : ∀ (m i N : Nat) (pre : List Int) (t : ByteArray), pre.length = i → m < 128 ^ (f + 1) → (i = 0 ∨ 0 < m) → N + m * 128 ^ i ≤ 1000000000000 →
    tkGo (strOfNums (pre ++ putL f m) ++ t) 0 (f + 1) i N = some (N + m * 128 ^ i, i + (putL f m).length) := by
  induction f with
  | zero =>
    intro m i N pre t hp hm h0 hN
    have hm' : m < 128 := by simpa using hm
    obtain ⟨h, hc⟩ := str_byte (pre ++ putL 0 m) t i (by simp [putL]; omega) m (by simp [putL, hp]) (by omega)
    rw [tkGo, dif_pos (by rw [Nat.zero_add]; exact h)]
    simp only [Nat.zero_add, hc]
    rw [if_pos hm', Nat.mod_eq_of_lt hm', if_neg (by omega)]
    simp [putL]
  | succ f ih =>
    intro m i N pre t hp hm h0 hN
    by_cases hs : m < 128
    · rw [putL_small _ _ hs]
      obtain ⟨h, hc⟩ := str_byte (pre ++ [(m : Int)]) t i (by simp; omega) m (by simp [hp]) (by omega)
      rw [tkGo, dif_pos (by rw [Nat.zero_add]; exact h)]
      simp only [Nat.zero_add, hc]
      rw [if_pos hs, Nat.mod_eq_of_lt hs, if_neg (by omega)]
      simp
    · rw [putL_big f m hs]
      obtain ⟨h, hc⟩ := str_byte (pre ++ ((m % 128 + 128 : Nat) : Int) :: putL f (m / 128)) t i (by simp; omega) (m % 128 + 128) (by simp [hp]) (by omega)
      rw [tkGo, dif_pos (by rw [Nat.zero_add]; exact h)]
      simp only [Nat.zero_add, hc]
      rw [if_neg (by omega), show (m % 128 + 128) % 128 = m % 128 from by omega]
      have e : N + m % 128 * 128 ^ i + m / 128 * 128 ^ (i + 1) = N + m * 128 ^ i := by
        have hd : m = m % 128 + 128 * (m / 128) := by omega
        have : m * 128 ^ i = m % 128 * 128 ^ i + m / 128 * 128 ^ (i + 1) := by
          conv => lhs; rw [hd]
          rw [Nat.add_mul, Nat.pow_succ]
          congr 1
          rw [Nat.mul_comm 128, Nat.mul_assoc, Nat.mul_comm 128 (128 ^ i)]
        omega
      have hih := ih (m / 128) (i + 1) (N + m % 128 * 128 ^ i) (pre ++ [((m % 128 + 128 : Nat) : Int)]) t (by simp [hp]) (by rw [Nat.pow_succ] at hm; exact Nat.div_lt_of_lt_mul (by rw [Nat.mul_comm]; exact hm)) (.inr (by omega)) (by rw [e]; exact hN)
      rw [List.append_assoc, List.singleton_append] at hih
      rw [hih, e]
      simp
      omega

theorem tkN_put (n : Nat) (t : ByteArray) (h : n ≤ 1000000000000) : tkN (putS n ++ t) 0 = some (n, (putS n).size) := by
  have e : putS (n : Int) = strOfNums (putL 5 n) := by unfold putS; rw [if_pos (by omega), Int.toNat_natCast]
  rw [e, strOfNums_size]
  have := tk_put 5 n 0 0 [] t rfl (by omega) (.inl rfl) (by omega)
  unfold tkN
  simpa using this

end Go.Proofs.Ytnkjdojpegmlcaa.Plain


/- What is taken has just the bytes that it was taken from. -/
namespace Go.Proofs.Ytnkjdojpegmlcaa.Plain
open Go Go.RowKit
set_option linter.unusedVariables false

/-- The bytes of s from place i up to place l. -/
def seg (s : ByteArray) (i l : Nat) : List Int := ((bL s).drop i).take (l - i)
theorem seg_cons (s : ByteArray) (i l : Nat) (h : i < l) (hl : l ≤ s.size) : seg s i l = ((s[i]'(by omega)).toNat : Int) :: seg s (i + 1) l := by
  unfold seg
  have hi : i < (bL s).length := by rw [bL_length]; omega
  rw [List.drop_eq_getElem_cons hi, show l - i = (l - (i + 1)) + 1 from by omega, List.take_succ_cons]
  congr 1
  simp [bL]
  rfl
theorem seg_nil (s : ByteArray) (i : Nat) : seg s i i = [] := by simp [seg]

theorem tk_back (s : ByteArray) (f : Nat) : ∀ (i n v l : Nat), tkGo s 0 (f + 1) i n = some (v, l) →
    ∃ m, v = n + m * 128 ^ i ∧ (i = 0 ∨ 0 < m) ∧ i < l ∧ l ≤ s.size ∧ v ≤ 1000000000000 ∧ putL f m = seg s i l := by
  induction f with
  | zero =>
    intro i n v l h
    rw [tkGo] at h
    split at h
    · rename_i hi
      rw [Nat.zero_add] at hi
      simp only [Nat.zero_add] at h
      split at h
      · rename_i hc
        split at h
        · cases h
        · rename_i hno
          simp only [Option.some.injEq, Prod.mk.injEq] at h
          obtain ⟨rfl, rfl⟩ := h
          refine ⟨s[i].toNat, by rw [Nat.mod_eq_of_lt hc], by omega, by omega, by omega, by omega, ?_⟩
          rw [putL_small _ _ hc, seg_cons s i (i + 1) (by omega) (by omega), seg_nil]
      · simp [tkGo] at h
    · cases h
  | succ f ih =>
    intro i n v l h
    rw [tkGo] at h
    split at h
    · rename_i hi
      rw [Nat.zero_add] at hi
      simp only [Nat.zero_add] at h
      split at h
      · rename_i hc
        split at h
        · cases h
        · rename_i hno
          simp only [Option.some.injEq, Prod.mk.injEq] at h
          obtain ⟨rfl, rfl⟩ := h
          refine ⟨s[i].toNat, by rw [Nat.mod_eq_of_lt hc], by omega, by omega, by omega, by omega, ?_⟩
          rw [putL_small _ _ hc, seg_cons s i (i + 1) (by omega) (by omega), seg_nil]
      · rename_i hc
        obtain ⟨m, h1, h2, h3, h4, h5, h6⟩ := ih (i + 1) _ v l h
        have hb : s[i].toNat < 256 := s[i].toNat_lt
        refine ⟨s[i].toNat % 128 + 128 * m, ?_, .inr (by omega), by omega, h4, h5, ?_⟩
        · rw [h1, Nat.add_mul, Nat.pow_succ, Nat.add_assoc]
          congr 2
          rw [Nat.mul_comm 128 m, Nat.mul_assoc, Nat.mul_comm 128]
        · rw [putL_big f _ (by omega), seg_cons s i l (by omega) h4, ← h6, show (s[i].toNat % 128 + 128 * m) / 128 = m from by omega]
          congr 2
          omega
    · cases h

theorem strOf_seg (s : ByteArray) (l : Nat) (h : l ≤ s.size) : strOfNums (seg s 0 l) = s.extract 0 l := by
  apply ByteArray.ext
  rw [ByteArray.data_extract]
  unfold strOfNums seg bL
  simp only [List.drop_zero, Nat.sub_zero, List.map_take, List.map_map]
  apply Array.ext'
  rw [Array.toList_extract]
  simp [List.extract_eq_take_drop]
  congr 1
  have e : ((fun n : Int => UInt8.ofNat n.toNat) ∘ fun b : UInt8 => ((b.toNat : Nat) : Int)) = id := by funext x; simp
  rw [e, List.map_id]

theorem take_back (s : ByteArray) (v l : Nat) (h : tkN s 0 = some (v, l)) : v ≤ 1000000000000 ∧ l ≤ s.size ∧ putS v ++ s.extract l s.size = s := by
  obtain ⟨m, h1, h2, h3, h4, h5, h6⟩ := tk_back s 5 0 0 v l h
  obtain rfl : v = m := by simpa using h1
  refine ⟨h5, h4, ?_⟩
  have e : putS (v : Int) = s.extract 0 l := by
    unfold putS
    rw [if_pos (by omega), Int.toNat_natCast, h6]
    exact strOf_seg s l h4
  rw [e]
  apply ByteArray.ext
  simp

theorem extract_list (x : ByteArray) (i j : Nat) : (x.extract i j).data.toList = (x.data.toList.drop i).take (j - i) := by rw [ByteArray.data_extract, Array.toList_extract, List.extract_eq_take_drop]
theorem app_list (a b : ByteArray) : (a ++ b).data.toList = a.data.toList ++ b.data.toList := by simp
theorem len_list (a : ByteArray) : a.data.toList.length = a.size := by simp
theorem rest_of (a b : ByteArray) : (a ++ b).extract a.size (a ++ b).size = b := by
  apply ByteArray.ext
  apply Array.ext'
  rw [extract_list, app_list, ← len_list a, List.drop_left, List.take_of_length_le (by rw [len_list, len_list, ByteArray.size_append]; omega)]
theorem mid_of (a b c : ByteArray) : (a ++ (b ++ c)).extract a.size (a.size + b.size) = b := by
  apply ByteArray.ext
  apply Array.ext'
  rw [extract_list, app_list, app_list, Nat.add_sub_cancel_left, ← len_list a, List.drop_left, ← len_list b, List.take_left]
theorem end_of (a b c : ByteArray) : (a ++ (b ++ c)).extract (a.size + b.size) (a ++ (b ++ c)).size = c := by
  have h := rest_of (a ++ b) c
  rwa [ByteArray.append_assoc, ByteArray.size_append] at h
theorem bytes_assoc (a b c : ByteArray) : (a ++ b) ++ c = a ++ (b ++ c) := ByteArray.append_assoc
theorem tkT_put (t r : ByteArray) (h : t.size ≤ 20000) : tkT (putS t.size ++ (t ++ r)) 0 = some ((putS t.size).size, t.size) :=
  tkT_some (tkN_put t.size (t ++ r) (by omega)) h (by simp only [ByteArray.size_append]; omega)
end Go.Proofs.Ytnkjdojpegmlcaa.Plain


/- A frame is read back from its bytes; with one byte turned, but in its length, it is not read. -/
namespace Go.Proofs.Ytnkjdojpegmlcaa.Plain
open Go Go.RowKit
set_option linter.unusedVariables false

theorem or_nat (x y : Nat) (hx : x < 4294967296) (hy : y < 4294967296) : bits .or .u32 (x : Int) (y : Int) = ((x ||| y : Nat) : Int) := by
  rw [or_bv, BitVec.toNat_or]
  have e : ∀ z : Nat, z < 4294967296 → (BitVec.ofInt 32 (z : Int)).toNat = z := fun z hz => by rw [BitVec.toNat_ofInt]; omega
  rw [e x hx, e y hy]
theorem hi_sum (a b c d : Nat) (ha : a < 256) (hb : b < 256) (hc : c < 256) (hd : d < 256) : hiI a b c d = ((16777216 * a + 65536 * b + 256 * c + d : Nat) : Int) := by
  unfold hiI
  have e1 : (a : Int) * 16777216 = ((2 ^ 24 * a : Nat) : Int) := by omega
  have e2 : (b : Int) * 65536 = ((2 ^ 16 * b : Nat) : Int) := by omega
  have e3 : (c : Int) * 256 = ((2 ^ 8 * c : Nat) : Int) := by omega
  rw [e1, e2, e3, or_nat _ _ (by omega) (by omega), ← Nat.two_pow_add_eq_or_of_lt (by omega), or_nat _ _ (by omega) (by omega)]
  rw [show 2 ^ 24 * a + 2 ^ 16 * b = 2 ^ 16 * (2 ^ 8 * a + b) from by omega, ← Nat.two_pow_add_eq_or_of_lt (by omega), or_nat _ _ (by omega) (by omega)]
  rw [show 2 ^ 16 * (2 ^ 8 * a + b) + 2 ^ 8 * c = 2 ^ 8 * (2 ^ 16 * a + 2 ^ 8 * b + c) from by omega, ← Nat.two_pow_add_eq_or_of_lt (by omega)]
  first | done | (congr 1; omega)
theorem wd_sum (r : ByteArray) : wdI r = ((16777216 * bAt r 3 + 65536 * bAt r 2 + 256 * bAt r 1 + bAt r 0 : Nat) : Int) := hi_sum _ _ _ _ (bAt_lt _ _) (bAt_lt _ _) (bAt_lt _ _) (bAt_lt _ _)

theorem bAt_strOf (xs : List Int) (i : Nat) (h : i < xs.length) (h0 : 0 ≤ xs[i]) (h1 : xs[i] < 256) : (bAt (strOfNums xs) i : Int) = xs[i] := by
  unfold bAt
  rw [strOfNums_data, List.getD, List.getElem?_map, List.getElem?_eq_getElem h]
  simp
  omega
theorem wd_four (x : Int) (h0 : 0 ≤ x) (h1 : x < 4294967296) : wdI (strOfNums (fourL x)) = x := by
  rw [wd_sum]
  have a0 : (bAt (strOfNums (fourL x)) 0 : Int) = x % 256 := bAt_strOf (fourL x) 0 (by simp [fourL]) (by simp [fourL]; omega) (by simp [fourL]; omega)
  have a1 : (bAt (strOfNums (fourL x)) 1 : Int) = x / 256 % 256 := bAt_strOf (fourL x) 1 (by simp [fourL]) (by simp [fourL]; omega) (by simp [fourL]; omega)
  have a2 : (bAt (strOfNums (fourL x)) 2 : Int) = x / 65536 % 256 := bAt_strOf (fourL x) 2 (by simp [fourL]) (by simp [fourL]; omega) (by simp [fourL]; omega)
  have a3 : (bAt (strOfNums (fourL x)) 3 : Int) = x / 16777216 := bAt_strOf (fourL x) 3 (by simp [fourL]) (by simp [fourL]; omega) (by simp [fourL]; omega)
  omega

theorem bAt_extract (r : ByteArray) (a b j : Nat) (h : a + j < b) (hb : b ≤ r.size) : bAt (r.extract a b) j = bAt r (a + j) := by
  rw [← bAt_get _ j (by simp; omega), ← bAt_get _ (a + j) (by omega), ByteArray.getElem_extract]
theorem bAt_out (r : ByteArray) (j : Nat) (h : r.size ≤ j) : bAt r j = 0 := by
  unfold bAt
  rw [List.getD, List.getElem?_eq_none (by simpa using h)]
  rfl
theorem ext_bAt (r t : ByteArray) (hsz : r.size = t.size) (h : ∀ j, j < r.size → bAt r j = bAt t j) : r = t := by
  apply ByteArray.ext
  apply Array.ext'
  apply List.ext_getElem
  · simpa using hsz
  · intro i h1 h2
    have h1' : i < r.size := by simpa using h1
    have h2' : i < t.size := by simpa using h2
    have e := h i h1'
    rw [← bAt_get r i h1', ← bAt_get t i h2'] at e
    exact UInt8.toNat_inj.1 e
theorem pre_of (a b : ByteArray) : (a ++ b).extract 0 a.size = a := by
  apply ByteArray.ext
  apply Array.ext'
  rw [extract_list, app_list, ← len_list a]
  simp

/-- What a frame's bytes are made of. -/
theorem frame_parts (k : Int) (body : ByteArray) (h0 : 1 ≤ k) (h1 : k ≤ 100) (h2 : body.size ≤ 20000) :
    (frameB k body).size = body.size + 9 ∧ (bAt (frameB k body) 0 : Int) = k ∧ wdI ((frameB k body).extract 1 5) = body.size ∧ (frameB k body).extract 5 (body.size + 5) = body ∧
    (frameB k body).extract 0 (body.size + 5) = sealB k body ∧ (frameB k body).extract (body.size + 5) (body.size + 9) = strOfNums (fourL (crcI (sealB k body))) := by
  have e : frameB k body = sealB k body ++ strOfNums (fourL (crcI (sealB k body))) := by unfold frameB; rw [if_pos ⟨h0, h1, h2⟩]
  have hs := seal_size k body
  have h4 := four_size (crcI (sealB k body))
  have h5 := four_size body.size
  have h6 := one_size k
  have hsz : (frameB k body).size = body.size + 9 := by rw [e, ByteArray.size_append, hs, h4]; omega
  refine ⟨hsz, ?_, ?_, ?_, ?_, ?_⟩
  · have := bAt_strOf [k] 0 (by simp) (by simp; omega) (by simp; omega)
    have e2 : frameB k body = strOfNums [k] ++ (strOfNums (fourL body.size) ++ (body ++ strOfNums (fourL (crcI (sealB k body))))) := by rw [e]; unfold sealB; simp only [ByteArray.append_assoc]
    have hx := pre_of (strOfNums [k]) (strOfNums (fourL body.size) ++ (body ++ strOfNums (fourL (crcI (sealB k body)))))
    rw [← e2, h6] at hx
    have hy := bAt_extract (frameB k body) 0 1 0 (by omega) (by omega)
    rw [hx, Nat.add_zero] at hy
    rw [← hy]
    simpa using this
  · have e2 : frameB k body = strOfNums [k] ++ (strOfNums (fourL body.size) ++ (body ++ strOfNums (fourL (crcI (sealB k body))))) := by rw [e]; unfold sealB; simp only [ByteArray.append_assoc]
    have hx := mid_of (strOfNums [k]) (strOfNums (fourL body.size)) (body ++ strOfNums (fourL (crcI (sealB k body))))
    rw [← e2, h6, h5] at hx
    rw [hx]
    exact wd_four _ (by omega) (by omega)
  · have e2 : frameB k body = (strOfNums [k] ++ strOfNums (fourL body.size)) ++ (body ++ strOfNums (fourL (crcI (sealB k body)))) := by rw [e]; unfold sealB; simp only [ByteArray.append_assoc]
    have hx := mid_of (strOfNums [k] ++ strOfNums (fourL body.size)) body (strOfNums (fourL (crcI (sealB k body))))
    rw [← e2, ByteArray.size_append, h6, h5] at hx
    rw [show body.size + 5 = 1 + 4 + body.size from by omega]
    exact hx
  · have hx := pre_of (sealB k body) (strOfNums (fourL (crcI (sealB k body))))
    rw [← e, hs] at hx
    rw [show body.size + 5 = 5 + body.size from by omega]
    exact hx
  · have hx := rest_of (sealB k body) (strOfNums (fourL (crcI (sealB k body))))
    rw [← e, hs, hsz] at hx
    rw [show body.size + 5 = 5 + body.size from by omega]
    exact hx

theorem frame_back (k : Int) (body : ByteArray) (h0 : 1 ≤ k) (h1 : k ≤ 100) (h2 : body.size ≤ 20000) :
    szI (frameB k body) = (0, body.size + 9) ∧ frC (frameB k body) = 0 ∧ frm (frameB k body) = (k, body) := by
  obtain ⟨p1, p2, p3, p4, p5, p6⟩ := frame_parts k body h0 h1 h2
  have hsz : szI (frameB k body) = (0, body.size + 9) := by
    unfold szI
    rw [if_neg (by omega), if_neg (by omega), p3, if_neg (by omega), Int.toNat_natCast, if_neg (by omega)]
    rw [Nat.add_comm]
  have hr := crcI_range (sealB k body)
  refine ⟨hsz, ?_, ?_⟩
  · unfold frC
    rw [hsz, if_neg (by simp)]
    simp only
    rw [show body.size + 9 - 4 = body.size + 5 from by omega, p5, p6, wd_four _ hr.1 hr.2, if_pos rfl]
  · unfold frm frB frN
    rw [hsz]
    simp only
    rw [show body.size + 9 - 4 = body.size + 5 from by omega, p4, p2]

theorem read_one (s : ByteArray) (hs : 1 ≤ s.size) (h : frC s = 0) (hn : (szI s).2 = s.size) : readF s = ([frm s], s.size, 0) := by
  have hx : s.extract 0 s.size = s := by apply ByteArray.ext; apply Array.ext'; rw [extract_list, List.drop_zero, Nat.sub_zero, ← len_list s, List.take_length]
  have m0 := Mid.start s
  have m1 := m0.next (by omega) (by simp) (by rw [hx]; exact h)
  rw [hx] at m1
  have hfn : frN s = s.size := hn
  rw [hfn] at m1
  simpa using m1.ends (by omega)
theorem read_none (s : ByteArray) (hs : 1 ≤ s.size) (h : frC s ≠ 0) : readF s = ([], 0, frC s) := by
  have hx : s.extract 0 s.size = s := by apply ByteArray.ext; apply Array.ext'; rw [extract_list, List.drop_zero, Nat.sub_zero, ← len_list s, List.take_length]
  have := (Mid.start s).code (by omega) (by simp) (by rw [hx]; exact h)
  rwa [hx] at this

/-! ### One byte turned -/
theorem steps_inj {x y : Int} (hx : 0 ≤ x ∧ x < 4294967296) (hy : 0 ≤ y ∧ y < 4294967296) (h : stepsI 8 x = stepsI 8 y) : x = y := by
  obtain ⟨a, rfl⟩ := word_of hx.1 hx.2
  obtain ⟨b, rfl⟩ := word_of hy.1 hy.2
  rw [stepsI_word, stepsI_word] at h
  have : bsteps 8 a = bsteps 8 b := BitVec.eq_of_toNat_eq (by omega)
  rw [bsteps_inj 8 a b this]
theorem xor_left {x y c : Int} (hx : 0 ≤ x ∧ x < 4294967296) (hy : 0 ≤ y ∧ y < 4294967296) (hc : 0 ≤ c ∧ c < 4294967296) (h : bits .xor .u32 x c = bits .xor .u32 y c) : x = y := by
  obtain ⟨a, rfl⟩ := word_of hx.1 hx.2
  obtain ⟨b, rfl⟩ := word_of hy.1 hy.2
  obtain ⟨d, rfl⟩ := word_of hc.1 hc.2
  rw [xor_word, xor_word] at h
  have h2 : a ^^^ d = b ^^^ d := BitVec.eq_of_toNat_eq (by omega)
  have h3 : (a ^^^ d) ^^^ d = (b ^^^ d) ^^^ d := by rw [h2]
  simp only [BitVec.xor_assoc, BitVec.xor_self, BitVec.xor_zero] at h3
  rw [h3]
theorem xor_right {x c d : Int} (hx : 0 ≤ x ∧ x < 4294967296) (hc : 0 ≤ c ∧ c < 4294967296) (hd : 0 ≤ d ∧ d < 4294967296) (h : bits .xor .u32 x c = bits .xor .u32 x d) : c = d := by
  obtain ⟨a, rfl⟩ := word_of hx.1 hx.2
  obtain ⟨b, rfl⟩ := word_of hc.1 hc.2
  obtain ⟨e, rfl⟩ := word_of hd.1 hd.2
  rw [xor_word, xor_word] at h
  have h2 : a ^^^ b = a ^^^ e := BitVec.eq_of_toNat_eq (by omega)
  have h3 : a ^^^ (a ^^^ b) = a ^^^ (a ^^^ e) := by rw [h2]
  simp only [← BitVec.xor_assoc, BitVec.xor_self, BitVec.zero_xor] at h3
  rw [h3]
theorem crcAt_step (s : ByteArray) (k : Nat) : crcAt s (k + 1) = stepsI 8 (bits .xor .u32 (crcAt s k) (bAt s k : Int)) := rfl
theorem crc_diff (s t : ByteArray) (i : Nat) (hsz : s.size = t.size) (hi : i < s.size) (hne : bAt s i ≠ bAt t i) (heq : ∀ j, j ≠ i → bAt s j = bAt t j) : crcI s ≠ crcI t := by
  have hw : ∀ (r : ByteArray) (j : Nat), (0 : Int) ≤ (bAt r j : Int) ∧ (bAt r j : Int) < 4294967296 := fun r j => by have := bAt_lt r j; omega
  have pre : ∀ k, k ≤ i → crcAt s k = crcAt t k := by
    intro k
    induction k with
    | zero => intro _; rfl
    | succ k ih => intro h; rw [crcAt_step, crcAt_step, ih (by omega), heq k (by omega)]
  have post : ∀ k, i < k → crcAt s k ≠ crcAt t k := by
    intro k
    induction k with
    | zero => intro h; omega
    | succ k ih =>
      intro h e
      rw [crcAt_step, crcAt_step] at e
      have e2 := steps_inj (bits_u32_range _ _ _) (bits_u32_range _ _ _) e
      by_cases hk : k = i
      · subst hk
        rw [pre k (Nat.le_refl _)] at e2
        have := xor_right (crcAt_range t k) (hw s k) (hw t k) e2
        omega
      · rw [heq k hk] at e2
        exact ih (by omega) (xor_left (crcAt_range s k) (crcAt_range t k) (hw t k) e2)
  intro e
  unfold crcI at e
  rw [← hsz] at e
  have := xor_right (by decide) (crcAt_range s s.size) (crcAt_range t s.size) e
  exact post s.size hi this

theorem wd_diff (r t : ByteArray) (i : Nat) (hi : i < 4) (hne : bAt r i ≠ bAt t i) (heq : ∀ j, j ≠ i → bAt r j = bAt t j) : wdI r ≠ wdI t := by
  intro e
  rw [wd_sum, wd_sum] at e
  have r0 := bAt_lt r 0; have r1 := bAt_lt r 1; have r2 := bAt_lt r 2; have r3 := bAt_lt r 3
  have t0 := bAt_lt t 0; have t1 := bAt_lt t 1; have t2 := bAt_lt t 2; have t3 := bAt_lt t 3
  match i, hi with
  | 0, _ => omega
  | 1, _ => omega
  | 2, _ => omega
  | 3, _ => omega

theorem wd_same (r t : ByteArray) (h : ∀ j, j < 4 → bAt r j = bAt t j) : wdI r = wdI t := by
  rw [wd_sum, wd_sum, h 0 (by omega), h 1 (by omega), h 2 (by omega), h 3 (by omega)]

/-- The sum is no more that of the bytes. -/
theorem bad_sum (s t : ByteArray) (i n : Nat) (hsz : s.size = n) (hts : t.size = n) (hn : 9 ≤ n) (hi : i < n) (hne : bAt s i ≠ bAt t i) (heq : ∀ j, j ≠ i → bAt s j = bAt t j)
    (hcrc : crcI (s.extract 0 (n - 4)) = wdI (s.extract (n - 4) n)) : crcI (t.extract 0 (n - 4)) ≠ wdI (t.extract (n - 4) n) := by
  have z1 : (t.extract 0 (n - 4)).size = n - 4 := by simp; omega
  have z2 : (s.extract 0 (n - 4)).size = n - 4 := by simp; omega
  have z3 : (t.extract (n - 4) n).size = 4 := by simp; omega
  have z4 : (s.extract (n - 4) n).size = 4 := by simp; omega
  by_cases hlo : i < n - 4
  · have e1 : wdI (t.extract (n - 4) n) = wdI (s.extract (n - 4) n) := wd_same _ _ (fun j hj => by
      rw [bAt_extract t (n - 4) n j (by omega) (by omega), bAt_extract s (n - 4) n j (by omega) (by omega)]
      exact (heq (n - 4 + j) (by omega)).symm)
    rw [e1, ← hcrc]
    refine crc_diff _ _ i (z1.trans z2.symm) (by rw [z1]; exact hlo) ?_ ?_
    · rw [bAt_extract t 0 (n - 4) i (by omega) (by omega), bAt_extract s 0 (n - 4) i (by omega) (by omega), Nat.zero_add]
      exact fun e => hne e.symm
    · intro j hj
      by_cases hjn : j < n - 4
      · rw [bAt_extract t 0 (n - 4) j (by omega) (by omega), bAt_extract s 0 (n - 4) j (by omega) (by omega), Nat.zero_add]
        exact (heq j hj).symm
      · rw [bAt_out _ _ (by rw [z1]; omega), bAt_out _ _ (by rw [z2]; omega)]
  · have e1 : crcI (t.extract 0 (n - 4)) = crcI (s.extract 0 (n - 4)) := by
      congr 1
      apply ext_bAt _ _ (z1.trans z2.symm)
      intro j hj
      rw [z1] at hj
      rw [bAt_extract t 0 (n - 4) j (by omega) (by omega), bAt_extract s 0 (n - 4) j (by omega) (by omega), Nat.zero_add]
      exact (heq j (by omega)).symm
    rw [e1, hcrc]
    refine wd_diff _ _ (i - (n - 4)) (by omega) ?_ ?_
    · rw [bAt_extract t (n - 4) n _ (by omega) (by omega), bAt_extract s (n - 4) n _ (by omega) (by omega), show n - 4 + (i - (n - 4)) = i from by omega]
      exact hne
    · intro j hj
      by_cases hjn : j < 4
      · rw [bAt_extract t (n - 4) n j (by omega) (by omega), bAt_extract s (n - 4) n j (by omega) (by omega)]
        exact heq _ (by omega)
      · rw [bAt_out _ _ (by rw [z4]; omega), bAt_out _ _ (by rw [z3]; omega)]

/-- A frame s, of which t has one byte turned, but in its length. -/
theorem bit_found (s t : ByteArray) (i n : Nat) (hs : szI s = (0, n)) (hsz : s.size = n) (hts : t.size = n) (hok : frC s = 0) (hi : i < n) (hi4 : ¬ (1 ≤ i ∧ i ≤ 4)) (hne : bAt s i ≠ bAt t i) (heq : ∀ j, j ≠ i → bAt s j = bAt t j) : frC t ≠ 0 := by
  have h0 : (szI s).1 = 0 := by rw [hs]
  obtain ⟨q1, q2, q3, q4, q5⟩ := szI_ok h0
  rw [hs] at q1 q2 q3
  simp only at q1 q2 q3
  have hw : wdI (t.extract 1 5) = wdI (s.extract 1 5) := wd_same _ _ (fun j hj => by
    rw [bAt_extract t 1 5 j (by omega) (by omega), bAt_extract s 1 5 j (by omega) (by omega)]
    exact (heq (1 + j) (by omega)).symm)
  have hcrc : crcI (s.extract 0 (n - 4)) = wdI (s.extract (n - 4) n) := by
    unfold frC at hok
    rw [hs, if_neg (by simp)] at hok
    simp only at hok
    split at hok
    · assumption
    · simp at hok
  by_cases hk : bAt t 0 < 1 ∨ 100 < bAt t 0
  · have : szI t = (2, 0) := by unfold szI; rw [if_pos hk]
    unfold frC
    rw [this]
    simp
  · have hst : szI t = (0, n) := by
      unfold szI at hs ⊢
      rw [if_neg (by omega), if_neg (by omega)] at hs
      rw [if_neg hk, if_neg (by omega), hw]
      split at hs
      · simp at hs
      · rename_i h3
        rw [if_neg h3]
        split at hs
        · simp at hs
        · rename_i h4
          rw [hts, ← hsz, if_neg h4]
          rw [← hsz] at hs
          exact hs
    unfold frC
    rw [hst, if_neg (by simp)]
    simp only
    have hbad := bad_sum s t i n hsz hts q1 hi hne heq hcrc
    rw [if_neg hbad]
    simp
end Go.Proofs.Ytnkjdojpegmlcaa.Plain


/- A text comes back from its pieces, as plain mathematics. -/
namespace Go.Proofs.Ytnkjdojpegmlcaa
open Go.RowKit Plain
set_option linter.unusedVariables false

namespace Plain
theorem pcP_size (t : ByteArray) (n i : Nat) : (pcP t n i).size ≤ n := by
  unfold pcP
  rw [ByteArray.size_extract]
  omega
theorem bod_back (a c : Nat) (x : ByteArray) (ha : a ≤ 1000000000000) (hc : c ≤ 1000000000000) (hx : x.size ≤ 20000) (hac : a < c) : bodR (putS (a : Int) ++ putS (c : Int) ++ putT x) = some ((a : Int), (c : Int), x) := by
  have hp : putT x = putS (x.size : Int) ++ x := by unfold putT; rw [if_pos hx]
  rw [hp, ByteArray.append_assoc]
  obtain ⟨A, hA⟩ : ∃ A, putS (a : Int) = A := ⟨_, rfl⟩
  obtain ⟨C, hC⟩ : ∃ C, putS (c : Int) = C := ⟨_, rfl⟩
  obtain ⟨X, hX⟩ : ∃ X, putS (x.size : Int) = X := ⟨_, rfl⟩
  have k1 := tkN_put a (C ++ (X ++ x)) ha
  have k2 := tkN_put c (X ++ x) hc
  have k3 := tkT_put x ⟨#[]⟩ hx
  have hxe : x ++ ⟨#[]⟩ = x := by apply ByteArray.ext; simp
  rw [hxe] at k3
  rw [hA] at k1
  rw [hC] at k2
  rw [hX] at k3
  rw [hA, hC, hX]
  obtain ⟨b, hb⟩ : ∃ b, A ++ (C ++ (X ++ x)) = b := ⟨_, rfl⟩
  have hs : b.size = A.size + (C.size + (X.size + x.size)) := by rw [← hb]; simp only [ByteArray.size_append]
  have r1 : b.extract A.size b.size = C ++ (X ++ x) := by rw [← hb]; exact rest_of _ _
  have r2 : b.extract (A.size + C.size) b.size = X ++ x := by rw [← hb]; exact end_of _ _ _
  have r3 : b.extract (A.size + C.size + X.size) b.size = x := by
    have := end_of (A ++ C) X x
    rw [ByteArray.append_assoc, hb, ByteArray.size_append] at this
    exact this
  rw [hb] at k1 ⊢
  rw [← r1, tkN_shift b _ (by omega)] at k2
  rw [← r2, tkT_shift b _ (by omega)] at k3
  have e1 : stp b 0 = some ((a : Int), A.size) := by unfold stp; rw [k1]; simp
  have e2 : stp b A.size = some ((c : Int), A.size + C.size) := by unfold stp; rw [k2]; simp
  have e3 : txp b (A.size + C.size) = some (x, b.size) := by
    unfold txp
    rw [k3]
    have : A.size + C.size + X.size + x.size = b.size := by omega
    simp only [Option.map_some, this, r3]
  unfold bodR
  have f : stT b (stN b (stN b (some ((), 0)))) = some (((((), (a : Int)), (c : Int)), x), b.size) := by
    simp [stN, stT, e1, e2, e3]
  rw [f]
  show (if _ then _ else _) = _
  rw [if_pos ⟨rfl, by omega⟩]
theorem piece_back (t : ByteArray) (n i : Nat) (hn : 1 ≤ n) (hn2 : n ≤ 4000) (ht : t.size ≤ 20000) (hi : i < pcN t n) : pieceR (pcT t n i) = some ((i : Int), (pcN t n : Int), pcP t n i) := by
  have hN := pcN_le t n hn ht
  have hx := pcP_size t n i
  have hb := bod_back i (pcN t n) (pcP t n i) (by omega) (by omega) (by omega) hi
  obtain ⟨b, hbb⟩ : ∃ b, putS (i : Int) ++ putS (pcN t n : Int) ++ putT (pcP t n i) = b := ⟨_, rfl⟩
  have hsz : b.size ≤ 20000 := by
    rw [← hbb, ByteArray.size_append, ByteArray.size_append]
    have q1 := putS_size (i : Int)
    have q2 := putS_size (pcN t n : Int)
    unfold putT
    rw [if_pos (by omega), ByteArray.size_append]
    have q3 := putS_size ((pcP t n i).size : Int)
    omega
  unfold pcT
  rw [hbb] at hb ⊢
  obtain ⟨f1, f2, f3⟩ := frame_back 3 b (by omega) (by omega) hsz
  have f4 := (frame_parts 3 b (by omega) (by omega) hsz).1
  have hr := read_one (frameB 3 b) (by omega) f2 (by rw [f1]; exact f4.symm)
  unfold pieceR
  rw [hr, f3]
  show (if _ then _ else _) = _
  rw [if_pos ⟨rfl, rfl⟩, hb]

/-- Texts by their places. -/
def pr (f : Nat → ByteArray) (js : List Nat) : List (Int × ByteArray) := js.map fun (j : Nat) => ((j : Int), f j)
theorem lk_in (f : Nat → ByteArray) (m : Nat) : ∀ js : List Nat, m ∈ js → lk (pr f js) m = some (f m) := by
  intro js
  induction js with
  | nil => intro h; simp at h
  | cons j js ih =>
    intro h
    unfold pr at ih ⊢
    rw [List.map_cons, lk_cons]
    by_cases e : j = m
    · subst e; simp
    · rw [if_neg (by simp; omega)]
      exact ih (by simpa [Ne.symm e] using h)
theorem lk_out (f : Nat → ByteArray) (m : Nat) : ∀ js : List Nat, m ∉ js → lk (pr f js) m = none := by
  intro js
  induction js with
  | nil => intro h; rfl
  | cons j js ih =>
    intro h
    simp only [List.mem_cons, not_or] at h
    unfold pr at ih ⊢
    rw [List.map_cons, lk_cons, if_neg (by have := h.1; simp only; omega)]
    exact ih h.2
theorem whG_app (a b : List ByteArray) : ∀ k c L, whG k c L (a ++ b) = match whG k c L a with | none => none | some (c', L') => whG (k + a.length) c' L' b := by
  induction a with
  | nil => intro k c L; rfl
  | cons s a ih =>
    intro k c L
    rw [List.cons_append, whG, whG]
    cases whS k c L s with
    | none => rfl
    | some y =>
      obtain ⟨c', M⟩ := y
      show whG (k + 1) c' M (a ++ b) = _
      rw [ih, List.length_cons, show k + 1 + a.length = k + (a.length + 1) from by omega]
theorem whG_in (T f : Nat → ByteArray) (N : Nat) (hT : ∀ i, i < N → pieceR (T i) = some ((i : Int), (N : Int), f i)) : ∀ (is js : List Nat) (k : Nat) (c : Int), (∀ i ∈ is, i < N) → (js ++ is).Nodup → (0 < k → c = N) →
    whG k c (pr f js) (is.map T) = some (if is = [] then c else (N : Int), pr f (js ++ is)) := by
  intro is
  induction is with
  | nil => intro js k c _ _ _; rw [List.append_nil]; rfl
  | cons i is ih =>
    intro js k c h1 h2 h3
    have hi := h1 i (by simp)
    have hout : i ∉ js := by
      intro q
      rw [List.nodup_append] at h2
      exact h2.2.2 i q i (by simp) rfl
    rw [List.map_cons, whG]
    have hs : whS k c (pr f js) (T i) = some ((N : Int), pr f (js ++ [i])) := by
      unfold whS
      rw [hT i hi]
      show (if _ then _ else _) = _
      rw [if_neg (by rintro ⟨q1, q2⟩; exact q2 (h3 q1).symm), lk_out f i js hout]
      simp [pr]
    rw [hs]
    show whG (k + 1) (N : Int) (pr f (js ++ [i])) (is.map T) = _
    rw [ih (js ++ [i]) (k + 1) N (fun j hj => h1 j (by simp [hj])) (by rw [List.append_assoc]; exact h2) (fun _ => rfl)]
    rw [List.append_assoc]
    simp
theorem join_pr (t : ByteArray) (n : Nat) (js : List Nat) : ∀ m, (∀ i, i < m → i ∈ js) → joinL (pr (pcP t n) js) m = t.extract 0 (min (m * n) t.size) := by
  intro m
  induction m with
  | zero =>
    intro _
    rw [Nat.zero_mul, Nat.min_eq_left (Nat.zero_le _)]
    apply ByteArray.ext
    apply Array.ext'
    rw [extract_list]
    simp [joinL]
  | succ m ih =>
    intro h
    rw [joinL, ih (fun i hi => h i (by omega)), lk_in _ _ _ (h m (by omega))]
    show t.extract 0 (min (m * n) t.size) ++ pcP t n m = _
    unfold pcP
    rw [Nat.succ_mul]
    obtain ⟨p, hp⟩ : ∃ p, m * n = p := ⟨_, rfl⟩
    rw [hp]
    apply ByteArray.ext
    apply Array.ext'
    rw [app_list, extract_list, extract_list, extract_list, List.drop_zero]
    have hl := len_list t
    by_cases q : p ≤ t.size
    · rw [Nat.min_eq_left q, Nat.sub_zero, Nat.sub_zero, show min (p + n) t.size = p + (min (p + n) t.size - p) from by omega, List.take_add, Nat.add_sub_cancel_left]
    · rw [Nat.min_eq_right (by omega), Nat.min_eq_right (by omega), show t.size - p = 0 from by omega, List.take_zero, List.append_nil]
theorem pcN_mul (t : ByteArray) (n : Nat) (hn : 1 ≤ n) : t.size ≤ pcN t n * n := by
  rcases Nat.lt_or_ge (pcN t n * n) t.size with h | h
  · have := (pcN_lt t n (pcN t n) hn).2 h
    omega
  · exact h
theorem all_of (t : ByteArray) (k : Nat) (h : t.size ≤ k) : t.extract 0 (min k t.size) = t := by
  rw [Nat.min_eq_right h]
  apply ByteArray.ext
  apply Array.ext'
  rw [extract_list, List.drop_zero, Nat.sub_zero, ← len_list t, List.take_length]
/-- The pieces from the last to the first, and the first once more. -/
def trn (t : ByteArray) (n N k : Nat) : List ByteArray := (List.range k).map fun j => pcT t n (N - 1 - j)
theorem whole_trn (t : ByteArray) (n : Nat) (hn : 1 ≤ n) (hn2 : n ≤ 4000) (ht : t.size ≤ 20000) (hN : pcN t n < 2000) (h0 : 0 < pcN t n) : wholeR (trn t n (pcN t n) (pcN t n) ++ [pcT t n 0]) = (t, true) := by
  have hT := fun i hi => piece_back t n i hn hn2 ht hi
  have hmul := pcN_mul t n hn
  obtain ⟨N, hNN⟩ : ∃ N, pcN t n = N := ⟨_, rfl⟩
  rw [hNN] at hT hmul hN h0 ⊢
  obtain ⟨js, hjs⟩ : ∃ js, (List.range N).map (fun j => N - 1 - j) = js := ⟨_, rfl⟩
  have he : trn t n N N = js.map (pcT t n) := by rw [← hjs, List.map_map]; rfl
  have hlen : js.length = N := by rw [← hjs]; simp
  have hmem : ∀ i, i < N → i ∈ js := by
    intro i hi
    rw [← hjs, List.mem_map]
    exact ⟨N - 1 - i, by simp; omega, by omega⟩
  have hlt : ∀ i ∈ js, i < N := by
    intro i hi
    rw [← hjs, List.mem_map] at hi
    obtain ⟨j, hj, rfl⟩ := hi
    omega
  have hnd : js.Nodup := by
    rw [← hjs, List.Nodup, List.pairwise_map]
    refine List.Pairwise.imp_of_mem ?_ (List.nodup_range (n := N))
    intro a b ha hb hab
    simp at ha hb
    omega
  have hne : js ≠ [] := by intro q; rw [q] at hlen; simp at hlen; omega
  unfold wholeR
  rw [if_pos (by simp [trn]; omega), whG_app, he]
  have h1 := whG_in (pcT t n) (pcP t n) N hT js [] 0 0 hlt (by simpa using hnd) (by omega)
  rw [show pr (pcP t n) [] = [] from rfl] at h1
  rw [h1, if_neg hne, List.nil_append]
  show endR (whG _ (N : Int) (pr (pcP t n) js) [pcT t n 0]) = _
  rw [whG]
  have hs : whS (0 + (js.map (pcT t n)).length) (N : Int) (pr (pcP t n) js) (pcT t n 0) = some ((N : Int), pr (pcP t n) js) := by
    unfold whS
    rw [hT 0 h0]
    show (if _ then _ else _) = _
    have := lk_in (pcP t n) 0 js (hmem 0 h0)
    rw [if_neg (by rintro ⟨_, q⟩; exact q rfl), this]
    show (if _ then _ else _) = _
    rw [if_pos rfl]
  rw [hs]
  show endR (some ((N : Int), pr (pcP t n) js)) = _
  unfold endR
  have hpl : (pr (pcP t n) js).length = N := by simp [pr, hlen]
  show (if _ then _ else _) = _
  rw [if_pos (by rw [hpl]), hpl, join_pr t n js N hmem, all_of t _ hmul]
theorem whole_rest (t : ByteArray) (n : Nat) (hn : 1 ≤ n) (hn2 : n ≤ 4000) (ht : t.size ≤ 20000) (h0 : 1 < pcN t n) : (wholeR ((pcL t n (pcN t n)).drop 1)).2 = false := by
  have hT := fun i hi => piece_back t n i hn hn2 ht hi
  obtain ⟨N, hNN⟩ : ∃ N, pcN t n = N := ⟨_, rfl⟩
  rw [hNN] at hT h0 ⊢
  have he : (pcL t n N).drop 1 = ((List.range N).drop 1).map (pcT t n) := by unfold pcL; rw [List.map_drop]
  obtain ⟨js, hjs⟩ : ∃ js, (List.range N).drop 1 = js := ⟨_, rfl⟩
  have hlen : js.length = N - 1 := by rw [← hjs]; simp
  have hlt : ∀ i ∈ js, i < N := by
    intro i hi
    rw [← hjs] at hi
    simpa using List.mem_of_mem_drop hi
  have hnd : js.Nodup := by rw [← hjs]; exact List.Nodup.sublist (List.drop_sublist _ _) List.nodup_range
  have hne : js ≠ [] := by intro q; rw [q] at hlen; simp at hlen; omega
  rw [he, hjs]
  unfold wholeR
  by_cases hb : (js.map (pcT t n)).length ≤ 2000
  · rw [if_pos hb]
    have h1 := whG_in (pcT t n) (pcP t n) N hT js [] 0 0 hlt (by simpa using hnd) (by omega)
    rw [show pr (pcP t n) [] = [] from rfl] at h1
    rw [h1, if_neg hne, List.nil_append]
    unfold endR
    show (if _ then _ else _ : ByteArray × Bool).2 = _
    rw [if_neg (by simp [pr, hlen]; omega)]
  · rw [if_neg hb]
theorem whole_nil (t : ByteArray) (n : Nat) (hn : 1 ≤ n) (h0 : pcN t n = 0) : wholeR [] = (t, true) := by
  have hmul := pcN_mul t n hn
  rw [h0, Nat.zero_mul] at hmul
  have hz : t = ⟨#[]⟩ := by
    apply ByteArray.ext
    apply Array.ext'
    have := len_list t
    simpa using List.eq_nil_of_length_eq_zero (by omega : t.data.toList.length = 0)
  rw [hz]
  rfl
end Plain
end Go.Proofs.Ytnkjdojpegmlcaa

