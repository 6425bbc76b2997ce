/- Texts of one kind, put together. -/
import Derived.Test.YtliklijcdcfomaaGreatRzA
import Derived.Test.YtliklijcdcfomaaGreatAzD
import Derived.Test.YtliklijcdcfomaaGreatNzA
import Derived.Test.YtliklijcdcfomaaGreatRzB

/- A frame is read back from its bytes; with one byte turned, but in its length, it is not read. -/
namespace Go.Proofs.YtliklijcdcfomaaGreat.Plain
open Go Go.RowKit
set_option linter.unusedVariables false

theorem or_nat (x y : Nat) (hx : x < 4294967296) (hy : y < 4294967296) : bits .or .u32 (x : Int) (y : Int) = ((x ||| y : Nat) : Int) := by
  rw [or_bv, BitVec.toNat_or]
  have e : ∀ z : Nat, z < 4294967296 → (BitVec.ofInt 32 (z : Int)).toNat = z := fun z hz => by rw [BitVec.toNat_ofInt]; omega
  rw [e x hx, e y hy]
theorem hi_sum (a b c d : Nat) (ha : a < 256) (hb : b < 256) (hc : c < 256) (hd : d < 256) : hiI a b c d = ((16777216 * a + 65536 * b + 256 * c + d : Nat) : Int) := by
  unfold hiI
  have e1 : (a : Int) * 16777216 = ((2 ^ 24 * a : Nat) : Int) := by omega
  have e2 : (b : Int) * 65536 = ((2 ^ 16 * b : Nat) : Int) := by omega
  have e3 : (c : Int) * 256 = ((2 ^ 8 * c : Nat) : Int) := by omega
  rw [e1, e2, e3, or_nat _ _ (by omega) (by omega), ← Nat.two_pow_add_eq_or_of_lt (by omega), or_nat _ _ (by omega) (by omega)]
  rw [show 2 ^ 24 * a + 2 ^ 16 * b = 2 ^ 16 * (2 ^ 8 * a + b) from by omega, ← Nat.two_pow_add_eq_or_of_lt (by omega), or_nat _ _ (by omega) (by omega)]
  rw [show 2 ^ 16 * (2 ^ 8 * a + b) + 2 ^ 8 * c = 2 ^ 8 * (2 ^ 16 * a + 2 ^ 8 * b + c) from by omega, ← Nat.two_pow_add_eq_or_of_lt (by omega)]
  first | done | (congr 1; omega)
theorem wd_sum (r : ByteArray) : wdI r = ((16777216 * bAt r 3 + 65536 * bAt r 2 + 256 * bAt r 1 + bAt r 0 : Nat) : Int) := hi_sum _ _ _ _ (bAt_lt _ _) (bAt_lt _ _) (bAt_lt _ _) (bAt_lt _ _)

theorem bAt_strOf (xs : List Int) (i : Nat) (h : i < xs.length) (h0 : 0 ≤ xs[i]) (h1 : xs[i] < 256) : (bAt (strOfNums xs) i : Int) = xs[i] := by
  unfold bAt
  rw [strOfNums_data, List.getD, List.getElem?_map, List.getElem?_eq_getElem h]
  simp
  omega
theorem wd_four (x : Int) (h0 : 0 ≤ x) (h1 : x < 4294967296) : wdI (strOfNums (fourL x)) = x := by
  rw [wd_sum]
  have a0 : (bAt (strOfNums (fourL x)) 0 : Int) = x % 256 := bAt_strOf (fourL x) 0 (by simp [fourL]) (by simp [fourL]; omega) (by simp [fourL]; omega)
  have a1 : (bAt (strOfNums (fourL x)) 1 : Int) = x / 256 % 256 := bAt_strOf (fourL x) 1 (by simp [fourL]) (by simp [fourL]; omega) (by simp [fourL]; omega)
  have a2 : (bAt (strOfNums (fourL x)) 2 : Int) = x / 65536 % 256 := bAt_strOf (fourL x) 2 (by simp [fourL]) (by simp [fourL]; omega) (by simp [fourL]; omega)
  have a3 : (bAt (strOfNums (fourL x)) 3 : Int) = x / 16777216 := bAt_strOf (fourL x) 3 (by simp [fourL]) (by simp [fourL]; omega) (by simp [fourL]; omega)
  omega

theorem bAt_extract (r : ByteArray) (a b j : Nat) (h : a + j < b) (hb : b ≤ r.size) : bAt (r.extract a b) j = bAt r (a + j) := by
  rw [← bAt_get _ j (by simp; omega), ← bAt_get _ (a + j) (by omega), ByteArray.getElem_extract]
theorem bAt_out (r : ByteArray) (j : Nat) (h : r.size ≤ j) : bAt r j = 0 := by
  unfold bAt
  rw [List.getD, List.getElem?_eq_none (by simpa using h)]
  rfl
theorem ext_bAt (r t : ByteArray) (hsz : r.size = t.size) (h : ∀ j, j < r.size → bAt r j = bAt t j) : r = t := by
  apply ByteArray.ext
  apply Array.ext'
  apply List.ext_getElem
  · simpa using hsz
  · intro i h1 h2
    have h1' : i < r.size := by simpa using h1
    have h2' : i < t.size := by simpa using h2
    have e := h i h1'
    rw [← bAt_get r i h1', ← bAt_get t i h2'] at e
    exact UInt8.toNat_inj.1 e
theorem pre_of (a b : ByteArray) : (a ++ b).extract 0 a.size = a := by
  apply ByteArray.ext
  apply Array.ext'
  rw [extract_list, app_list, ← len_list a]
  simp

/-- What a frame's bytes are made of. -/
theorem frame_parts (k : Int) (body : ByteArray) (h0 : 1 ≤ k) (h1 : k ≤ 100) (h2 : body.size ≤ 20000) :
    (frameB k body).size = body.size + 9 ∧ (bAt (frameB k body) 0 : Int) = k ∧ wdI ((frameB k body).extract 1 5) = body.size ∧ (frameB k body).extract 5 (body.size + 5) = body ∧
    (frameB k body).extract 0 (body.size + 5) = sealB k body ∧ (frameB k body).extract (body.size + 5) (body.size + 9) = strOfNums (fourL (crcI (sealB k body))) := by
  have e : frameB k body = sealB k body ++ strOfNums (fourL (crcI (sealB k body))) := by unfold frameB; rw [if_pos ⟨h0, h1, h2⟩]
  have hs := seal_size k body
  have h4 := four_size (crcI (sealB k body))
  have h5 := four_size body.size
  have h6 := one_size k
  have hsz : (frameB k body).size = body.size + 9 := by rw [e, ByteArray.size_append, hs, h4]; omega
  refine ⟨hsz, ?_, ?_, ?_, ?_, ?_⟩
  · have := bAt_strOf [k] 0 (by simp) (by simp; omega) (by simp; omega)
    have e2 : frameB k body = strOfNums [k] ++ (strOfNums (fourL body.size) ++ (body ++ strOfNums (fourL (crcI (sealB k body))))) := by rw [e]; unfold sealB; simp only [ByteArray.append_assoc]
    have hx := pre_of (strOfNums [k]) (strOfNums (fourL body.size) ++ (body ++ strOfNums (fourL (crcI (sealB k body)))))
    rw [← e2, h6] at hx
    have hy := bAt_extract (frameB k body) 0 1 0 (by omega) (by omega)
    rw [hx, Nat.add_zero] at hy
    rw [← hy]
    simpa using this
  · have e2 : frameB k body = strOfNums [k] ++ (strOfNums (fourL body.size) ++ (body ++ strOfNums (fourL (crcI (sealB k body))))) := by rw [e]; unfold sealB; simp only [ByteArray.append_assoc]
    have hx := mid_of (strOfNums [k]) (strOfNums (fourL body.size)) (body ++ strOfNums (fourL (crcI (sealB k body))))
    rw [← e2, h6, h5] at hx
    rw [hx]
    exact wd_four _ (by omega) (by omega)
  · have e2 : frameB k body = (strOfNums [k] ++ strOfNums (fourL body.size)) ++ (body ++ strOfNums (fourL (crcI (sealB k body)))) := by rw [e]; unfold sealB; simp only [ByteArray.append_assoc]
    have hx := mid_of (strOfNums [k] ++ strOfNums (fourL body.size)) body (strOfNums (fourL (crcI (sealB k body))))
    rw [← e2, ByteArray.size_append, h6, h5] at hx
    rw [show body.size + 5 = 1 + 4 + body.size from by omega]
    exact hx
  · have hx := pre_of (sealB k body) (strOfNums (fourL (crcI (sealB k body))))
    rw [← e, hs] at hx
    rw [show body.size + 5 = 5 + body.size from by omega]
    exact hx
  · have hx := rest_of (sealB k body) (strOfNums (fourL (crcI (sealB k body))))
    rw [← e, hs, hsz] at hx
    rw [show body.size + 5 = 5 + body.size from by omega]
    exact hx

theorem frame_back (k : Int) (body : ByteArray) (h0 : 1 ≤ k) (h1 : k ≤ 100) (h2 : body.size ≤ 20000) :
    szI (frameB k body) = (0, body.size + 9) ∧ frC (frameB k body) = 0 ∧ frm (frameB k body) = (k, body) := by
  obtain ⟨p1, p2, p3, p4, p5, p6⟩ := frame_parts k body h0 h1 h2
  have hsz : szI (frameB k body) = (0, body.size + 9) := by
    unfold szI
    rw [if_neg (by omega), if_neg (by omega), p3, if_neg (by omega), Int.toNat_natCast, if_neg (by omega)]
    rw [Nat.add_comm]
  have hr := crcI_range (sealB k body)
  refine ⟨hsz, ?_, ?_⟩
  · unfold frC
    rw [hsz, if_neg (by simp)]
    simp only
    rw [show body.size + 9 - 4 = body.size + 5 from by omega, p5, p6, wd_four _ hr.1 hr.2, if_pos rfl]
  · unfold frm frB frN
    rw [hsz]
    simp only
    rw [show body.size + 9 - 4 = body.size + 5 from by omega, p4, p2]

theorem read_one (s : ByteArray) (hs : 1 ≤ s.size) (h : frC s = 0) (hn : (szI s).2 = s.size) : readF s = ([frm s], s.size, 0) := by
  have hx : s.extract 0 s.size = s := by apply ByteArray.ext; apply Array.ext'; rw [extract_list, List.drop_zero, Nat.sub_zero, ← len_list s, List.take_length]
  have m0 := Mid.start s
  have m1 := m0.next (by omega) (by simp) (by rw [hx]; exact h)
  rw [hx] at m1
  have hfn : frN s = s.size := hn
  rw [hfn] at m1
  simpa using m1.ends (by omega)
theorem read_none (s : ByteArray) (hs : 1 ≤ s.size) (h : frC s ≠ 0) : readF s = ([], 0, frC s) := by
  have hx : s.extract 0 s.size = s := by apply ByteArray.ext; apply Array.ext'; rw [extract_list, List.drop_zero, Nat.sub_zero, ← len_list s, List.take_length]
  have := (Mid.start s).code (by omega) (by simp) (by rw [hx]; exact h)
  rwa [hx] at this

/-! ### One byte turned -/
theorem steps_inj {x y : Int} (hx : 0 ≤ x ∧ x < 4294967296) (hy : 0 ≤ y ∧ y < 4294967296) (h : stepsI 8 x = stepsI 8 y) : x = y := by
  obtain ⟨a, rfl⟩ := word_of hx.1 hx.2
  obtain ⟨b, rfl⟩ := word_of hy.1 hy.2
  rw [stepsI_word, stepsI_word] at h
  have : bsteps 8 a = bsteps 8 b := BitVec.eq_of_toNat_eq (by omega)
  rw [bsteps_inj 8 a b this]
theorem xor_left {x y c : Int} (hx : 0 ≤ x ∧ x < 4294967296) (hy : 0 ≤ y ∧ y < 4294967296) (hc : 0 ≤ c ∧ c < 4294967296) (h : bits .xor .u32 x c = bits .xor .u32 y c) : x = y := by
  obtain ⟨a, rfl⟩ := word_of hx.1 hx.2
  obtain ⟨b, rfl⟩ := word_of hy.1 hy.2
  obtain ⟨d, rfl⟩ := word_of hc.1 hc.2
  rw [xor_word, xor_word] at h
  have h2 : a ^^^ d = b ^^^ d := BitVec.eq_of_toNat_eq (by omega)
  have h3 : (a ^^^ d) ^^^ d = (b ^^^ d) ^^^ d := by rw [h2]
  simp only [BitVec.xor_assoc, BitVec.xor_self, BitVec.xor_zero] at h3
  rw [h3]
theorem xor_right {x c d : Int} (hx : 0 ≤ x ∧ x < 4294967296) (hc : 0 ≤ c ∧ c < 4294967296) (hd : 0 ≤ d ∧ d < 4294967296) (h : bits .xor .u32 x c = bits .xor .u32 x d) : c = d := by
  obtain ⟨a, rfl⟩ := word_of hx.1 hx.2
  obtain ⟨b, rfl⟩ := word_of hc.1 hc.2
  obtain ⟨e, rfl⟩ := word_of hd.1 hd.2
  rw [xor_word, xor_word] at h
  have h2 : a ^^^ b = a ^^^ e := BitVec.eq_of_toNat_eq (by omega)
  have h3 : a ^^^ (a ^^^ b) = a ^^^ (a ^^^ e) := by rw [h2]
  simp only [← BitVec.xor_assoc, BitVec.xor_self, BitVec.zero_xor] at h3
  rw [h3]
theorem crcAt_step (s : ByteArray) (k : Nat) : crcAt s (k + 1) = stepsI 8 (bits .xor .u32 (crcAt s k) (bAt s k : Int)) := rfl
theorem crc_diff (s t : ByteArray) (i : Nat) (hsz : s.size = t.size) (hi : i < s.size) (hne : bAt s i ≠ bAt t i) (heq : ∀ j, j ≠ i → bAt s j = bAt t j) : crcI s ≠ crcI t := by
  have hw : ∀ (r : ByteArray) (j : Nat), (0 : Int) ≤ (bAt r j : Int) ∧ (bAt r j : Int) < 4294967296 := fun r j => by have := bAt_lt r j; omega
  have pre : ∀ k, k ≤ i → crcAt s k = crcAt t k := by
    intro k
    induction k with
    | zero => intro _; rfl
    | succ k ih => intro h; rw [crcAt_step, crcAt_step, ih (by omega), heq k (by omega)]
  have post : ∀ k, i < k → crcAt s k ≠ crcAt t k := by
    intro k
    induction k with
    | zero => intro h; omega
    | succ k ih =>
      intro h e
      rw [crcAt_step, crcAt_step] at e
      have e2 := steps_inj (bits_u32_range _ _ _) (bits_u32_range _ _ _) e
      by_cases hk : k = i
      · subst hk
        rw [pre k (Nat.le_refl _)] at e2
        have := xor_right (crcAt_range t k) (hw s k) (hw t k) e2
        omega
      · rw [heq k hk] at e2
        exact ih (by omega) (xor_left (crcAt_range s k) (crcAt_range t k) (hw t k) e2)
  intro e
  unfold crcI at e
  rw [← hsz] at e
  have := xor_right (by decide) (crcAt_range s s.size) (crcAt_range t s.size) e
  exact post s.size hi this

theorem wd_diff (r t : ByteArray) (i : Nat) (hi : i < 4) (hne : bAt r i ≠ bAt t i) (heq : ∀ j, j ≠ i → bAt r j = bAt t j) : wdI r ≠ wdI t := by
  intro e
  rw [wd_sum, wd_sum] at e
  have r0 := bAt_lt r 0; have r1 := bAt_lt r 1; have r2 := bAt_lt r 2; have r3 := bAt_lt r 3
  have t0 := bAt_lt t 0; have t1 := bAt_lt t 1; have t2 := bAt_lt t 2; have t3 := bAt_lt t 3
  match i, hi with
  | 0, _ => omega
  | 1, _ => omega
  | 2, _ => omega
  | 3, _ => omega

theorem wd_same (r t : ByteArray) (h : ∀ j, j < 4 → bAt r j = bAt t j) : wdI r = wdI t := by
  rw [wd_sum, wd_sum, h 0 (by omega), h 1 (by omega), h 2 (by omega), h 3 (by omega)]

/-- The sum is no more that of the bytes. -/
theorem bad_sum (s t : ByteArray) (i n : Nat) (hsz : s.size = n) (hts : t.size = n) (hn : 9 ≤ n) (hi : i < n) (hne : bAt s i ≠ bAt t i) (heq : ∀ j, j ≠ i → bAt s j = bAt t j)
    (hcrc : crcI (s.extract 0 (n - 4)) = wdI (s.extract (n - 4) n)) : crcI (t.extract 0 (n - 4)) ≠ wdI (t.extract (n - 4) n) := by
  have z1 : (t.extract 0 (n - 4)).size = n - 4 := by simp; omega
  have z2 : (s.extract 0 (n - 4)).size = n - 4 := by simp; omega
  have z3 : (t.extract (n - 4) n).size = 4 := by simp; omega
  have z4 : (s.extract (n - 4) n).size = 4 := by simp; omega
  by_cases hlo : i < n - 4
  · have e1 : wdI (t.extract (n - 4) n) = wdI (s.extract (n - 4) n) := wd_same _ _ (fun j hj => by
      rw [bAt_extract t (n - 4) n j (by omega) (by omega), bAt_extract s (n - 4) n j (by omega) (by omega)]
      exact (heq (n - 4 + j) (by omega)).symm)
    rw [e1, ← hcrc]
    refine crc_diff _ _ i (z1.trans z2.symm) (by rw [z1]; exact hlo) ?_ ?_
    · rw [bAt_extract t 0 (n - 4) i (by omega) (by omega), bAt_extract s 0 (n - 4) i (by omega) (by omega), Nat.zero_add]
      exact fun e => hne e.symm
    · intro j hj
      by_cases hjn : j < n - 4
      · rw [bAt_extract t 0 (n - 4) j (by omega) (by omega), bAt_extract s 0 (n - 4) j (by omega) (by omega), Nat.zero_add]
        exact (heq j hj).symm
      · rw [bAt_out _ _ (by rw [z1]; omega), bAt_out _ _ (by rw [z2]; omega)]
  · have e1 : crcI (t.extract 0 (n - 4)) = crcI (s.extract 0 (n - 4)) := by
      congr 1
      apply ext_bAt _ _ (z1.trans z2.symm)
      intro j hj
      rw [z1] at hj
      rw [bAt_extract t 0 (n - 4) j (by omega) (by omega), bAt_extract s 0 (n - 4) j (by omega) (by omega), Nat.zero_add]
      exact (heq j (by omega)).symm
    rw [e1, hcrc]
    refine wd_diff _ _ (i - (n - 4)) (by omega) ?_ ?_
    · rw [bAt_extract t (n - 4) n _ (by omega) (by omega), bAt_extract s (n - 4) n _ (by omega) (by omega), show n - 4 + (i - (n - 4)) = i from by omega]
      exact hne
    · intro j hj
      by_cases hjn : j < 4
      · rw [bAt_extract t (n - 4) n j (by omega) (by omega), bAt_extract s (n - 4) n j (by omega) (by omega)]
        exact heq _ (by omega)
      · rw [bAt_out _ _ (by rw [z4]; omega), bAt_out _ _ (by rw [z3]; omega)]

/-- A frame s, of which t has one byte turned, but in its length. -/
theorem bit_found (s t : ByteArray) (i n : Nat) (hs : szI s = (0, n)) (hsz : s.size = n) (hts : t.size = n) (hok : frC s = 0) (hi : i < n) (hi4 : ¬ (1 ≤ i ∧ i ≤ 4)) (hne : bAt s i ≠ bAt t i) (heq : ∀ j, j ≠ i → bAt s j = bAt t j) : frC t ≠ 0 := by
  have h0 : (szI s).1 = 0 := by rw [hs]
  obtain ⟨q1, q2, q3, q4, q5⟩ := szI_ok h0
  rw [hs] at q1 q2 q3
  simp only at q1 q2 q3
  have hw : wdI (t.extract 1 5) = wdI (s.extract 1 5) := wd_same _ _ (fun j hj => by
    rw [bAt_extract t 1 5 j (by omega) (by omega), bAt_extract s 1 5 j (by omega) (by omega)]
    exact (heq (1 + j) (by omega)).symm)
  have hcrc : crcI (s.extract 0 (n - 4)) = wdI (s.extract (n - 4) n) := by
    unfold frC at hok
    rw [hs, if_neg (by simp)] at hok
    simp only at hok
    split at hok
    · assumption
    · simp at hok
  by_cases hk : bAt t 0 < 1 ∨ 100 < bAt t 0
  · have : szI t = (2, 0) := by unfold szI; rw [if_pos hk]
    unfold frC
    rw [this]
    simp
  · have hst : szI t = (0, n) := by
      unfold szI at hs ⊢
      rw [if_neg (by omega), if_neg (by omega)] at hs
      rw [if_neg hk, if_neg (by omega), hw]
      split at hs
      · simp at hs
      · rename_i h3
        rw [if_neg h3]
        split at hs
        · simp at hs
        · rename_i h4
          rw [hts, ← hsz, if_neg h4]
          rw [← hsz] at hs
          exact hs
    unfold frC
    rw [hst, if_neg (by simp)]
    simp only
    have hbad := bad_sum s t i n hsz hts q1 hi hne heq hcrc
    rw [if_neg hbad]
    simp
end Go.Proofs.YtliklijcdcfomaaGreat.Plain


/- The frames that are read are written as the bytes that they were read from; cut anywhere they are a beginning of these. -/
namespace Go.Proofs.YtliklijcdcfomaaGreat.Plain
open Go Go.RowKit
set_option linter.unusedVariables false

theorem glue (r : ByteArray) (a b c : Nat) (h1 : a ≤ b) (h2 : b ≤ c) : r.extract a b ++ r.extract b c = r.extract a c := by
  apply ByteArray.ext
  apply Array.ext'
  rw [app_list, extract_list, extract_list, extract_list]
  have e : (r.data.toList.drop b) = (r.data.toList.drop a).drop (b - a) := by rw [List.drop_drop]; congr 1; omega
  rw [e, show c - a = (b - a) + (c - b) from by omega, List.take_add]
theorem ext_in (r : ByteArray) (m a b : Nat) (h : b ≤ m) : (r.extract 0 m).extract a b = r.extract a b := by
  apply ByteArray.ext
  apply Array.ext'
  rw [extract_list, extract_list, extract_list, List.drop_zero, Nat.sub_zero, List.drop_take, List.take_take, Nat.min_eq_left (by omega)]
theorem four_wd (q : ByteArray) (h : q.size = 4) : strOfNums (fourL (wdI q)) = q := by
  have hr := wdI_word q
  have b0 := bAt_lt q 0
  have b1 := bAt_lt q 1
  have b2 := bAt_lt q 2
  have b3 := bAt_lt q 3
  have hw := wd_sum q
  have a0 : (bAt (strOfNums (fourL (wdI q))) 0 : Int) = wdI q % 256 := bAt_strOf (fourL (wdI q)) 0 (by simp [fourL]) (by simp [fourL]; omega) (by simp [fourL]; omega)
  have a1 : (bAt (strOfNums (fourL (wdI q))) 1 : Int) = wdI q / 256 % 256 := bAt_strOf (fourL (wdI q)) 1 (by simp [fourL]) (by simp [fourL]; omega) (by simp [fourL]; omega)
  have a2 : (bAt (strOfNums (fourL (wdI q))) 2 : Int) = wdI q / 65536 % 256 := bAt_strOf (fourL (wdI q)) 2 (by simp [fourL]) (by simp [fourL]; omega) (by simp [fourL]; omega)
  have a3 : (bAt (strOfNums (fourL (wdI q))) 3 : Int) = wdI q / 16777216 := bAt_strOf (fourL (wdI q)) 3 (by simp [fourL]) (by simp [fourL]; omega) (by simp [fourL]; omega)
  have hs := four_size (wdI q)
  apply ext_bAt _ _ (by omega)
  intro j hj
  rw [hs] at hj
  clear hr hs
  match j, hj with
  | 0, _ => omega
  | 1, _ => omega
  | 2, _ => omega
  | 3, _ => omega
theorem one_byte (r : ByteArray) (h : 1 ≤ r.size) : strOfNums [(bAt r 0 : Int)] = r.extract 0 1 := by
  have hb := bAt_lt r 0
  have a0 : (bAt (strOfNums [(bAt r 0 : Int)]) 0 : Int) = (bAt r 0 : Int) := bAt_strOf [(bAt r 0 : Int)] 0 (by simp) (by simp) (by simp; omega)
  have hs := one_size (bAt r 0 : Int)
  have hs2 : (r.extract 0 1).size = 1 := by simp; omega
  apply ext_bAt _ _ (by omega)
  intro j hj
  obtain rfl : j = 0 := by omega
  rw [bAt_extract r 0 1 0 (by omega) (by omega)]
  simp only [Nat.add_zero]
  omega

/-- What szI says where a frame is read. -/
theorem szI_form {r : ByteArray} (h : (szI r).1 = 0) : (wdI (r.extract 1 5)).toNat + 9 = (szI r).2 := by
  unfold szI at *
  split at h
  · simp at h
  · rename_i h1
    split at h
    · simp at h
    · rename_i h2
      split at h
      · simp at h
      · rename_i h3
        split at h
        · simp at h
        · rename_i h4
          rw [if_neg h1, if_neg h2, if_neg h3, if_neg h4]
          exact Nat.add_comm _ _
theorem frC_crc {r : ByteArray} (h : frC r = 0) : crcI (r.extract 0 (frN r - 4)) = wdI (r.extract (frN r - 4) (frN r)) := by
  have h0 := frC_ok h
  unfold frC at h
  rw [if_neg (by simp [h0])] at h
  split at h
  · assumption
  · simp at h
theorem write_back (r : ByteArray) (h : frC r = 0) : frameB (frm r).1 (frm r).2 = r.extract 0 (frN r) ∧ 1 ≤ (frm r).1 ∧ (frm r).1 ≤ 100 ∧ (frm r).2.size ≤ 20000 := by
  have h0 := frC_ok h
  obtain ⟨q1, q2, q3, q4, q5⟩ := szI_ok h0
  have hf := szI_form h0
  have hc := frC_crc h
  have hn : frN r = (szI r).2 := rfl
  have hB : frB r = r.extract 5 (frN r - 4) := rfl
  have hm : frm r = ((bAt r 0 : Int), frB r) := rfl
  rw [← hn] at q1 q2 q3 hf
  rw [hm, hB]
  clear hm hB hn h h0
  generalize frN r = n at *
  have hwd := wdI_word (r.extract 1 5)
  have hbs : (r.extract 5 (n - 4)).size = n - 9 := by simp; omega
  have hsz : ((r.extract 5 (n - 4)).size : Int) = wdI (r.extract 1 5) := by rw [hbs]; omega
  have hseal : sealB (bAt r 0 : Int) (r.extract 5 (n - 4)) = r.extract 0 (n - 4) := by
    unfold sealB
    rw [hsz, four_wd _ (by simp; omega), one_byte r (by omega), glue r 0 1 5 (by omega) (by omega), glue r 0 5 (n - 4) (by omega) (by omega)]
  refine ⟨?_, by simp only; omega, by simp only; omega, by simp only; omega⟩
  simp only
  unfold frameB
  rw [if_pos (by omega), hseal, hc, four_wd _ (by simp; omega), glue r 0 (n - 4) n (by omega) (by omega)]

theorem szI_of (r : ByteArray) (n : Nat) (h0 : 1 ≤ bAt r 0) (h1 : bAt r 0 ≤ 100) (hw : wdI (r.extract 1 5) = ((n - 9 : Nat) : Int)) (hn : 9 ≤ n) (hn2 : n ≤ 20009) (hs : n ≤ r.size) : szI r = (0, n) := by
  unfold szI
  rw [if_neg (by omega), if_neg (by omega), hw, if_neg (by omega), Int.toNat_natCast, if_neg (by omega)]
  congr 1
  omega
theorem nat_of (x : Int) (n : Nat) (h : 0 ≤ x) (hf : x.toNat + 9 = n) : x = ((n - 9 : Nat) : Int) := by omega
/-- A frame is read off its own bytes alone. -/
theorem frame_pre (r : ByteArray) (m : Nat) (hm : m ≤ r.size) (h : frC (r.extract 0 m) = 0) : frC r = 0 ∧ frN r = frN (r.extract 0 m) ∧ frm r = frm (r.extract 0 m) ∧ frN r ≤ m := by
  have h0 := frC_ok h
  obtain ⟨q1, q2, q3, q4, q5⟩ := szI_ok h0
  have hf := szI_form h0
  have hc := frC_crc h
  have hms : (r.extract 0 m).size = m := by simp; omega
  have hn : frN (r.extract 0 m) = (szI (r.extract 0 m)).2 := rfl
  rw [← hn] at q1 q2 q3 hf
  rw [hms] at q2
  have hb0 := bAt_ext r m (by clear hc hf; omega) hm
  rw [hb0] at q4 q5
  rw [ext_in r m 1 5 (by clear hc hf; omega)] at hf
  obtain ⟨n, hnn⟩ : ∃ n, frN (r.extract 0 m) = n := ⟨_, rfl⟩
  rw [hnn] at q1 q2 q3 hf hc hn
  have hn4 : n - 4 ≤ m := by clear hc hf; omega
  rw [ext_in r m _ _ hn4, ext_in r m _ _ q2] at hc
  have hsz : szI r = (0, n) := szI_of r n q4 q5 (nat_of _ n (wdI_word (r.extract 1 5)).1 hf) q1 q3 (Nat.le_trans q2 hm)
  have hN : frN r = n := by unfold frN; rw [hsz]
  refine ⟨?_, by rw [hN, hnn], ?_, by rw [hN]; exact q2⟩
  · unfold frC
    rw [hsz, if_neg (by simp)]
    simp only
    rw [if_pos hc]
  · unfold frm frB
    rw [hN, hnn, hb0, ext_in r m _ _ hn4]

theorem run_ge (s : ByteArray) : ∀ (f p done : Nat), p ≤ (run s f p done).2.1 := by
  intro f
  induction f with
  | zero => intro p done; exact Nat.le_refl _
  | succ f ih =>
    intro p done
    rw [run]
    split
    · exact Nat.le_refl _
    · split
      · exact Nat.le_refl _
      · split
        · exact Nat.le_refl _
        · exact Nat.le_trans (Nat.le_add_right _ _) (ih _ _)

theorem cut_rest (s : ByteArray) (k p : Nat) (hk : k ≤ s.size) (hp : p ≤ k) : (s.extract 0 k).extract p (s.extract 0 k).size = (s.extract p s.size).extract 0 (k - p) := by
  have h1 : (s.extract 0 k).size = k := by simp; omega
  rw [h1, ext_in s k p k (Nat.le_refl _)]
  apply ByteArray.ext
  apply Array.ext'
  rw [extract_list, extract_list, extract_list, List.drop_zero, Nat.sub_zero, List.take_take, Nat.min_eq_left (by omega)]

theorem run_cut (s : ByteArray) (k : Nat) (hk : k ≤ s.size) : ∀ (f p done : Nat), p ≤ k → ∃ rest, (run s f p done).1 = (run (s.extract 0 k) f p done).1 ++ rest ∧ (run (s.extract 0 k) f p done).2.1 ≤ (run s f p done).2.1 ∧ (run (s.extract 0 k) f p done).2.1 ≤ k := by
  have hts : (s.extract 0 k).size = k := by simp; omega
  intro f
  induction f with
  | zero => intro p done hp; exact ⟨[], rfl, Nat.le_refl _, hp⟩
  | succ f ih =>
    intro p done hp
    by_cases h1 : k ≤ p
    · rw [run_end (s.extract 0 k) f p done (by rw [hts]; exact h1)]
      exact ⟨_, rfl, run_ge s _ _ _, hp⟩
    · have h1s : ¬ s.size ≤ p := by omega
      have h1t : ¬ (s.extract 0 k).size ≤ p := by rw [hts]; exact h1
      by_cases h2 : done = 2000
      · subst h2
        rw [run_many _ f p h1t, run_many s f p h1s]
        exact ⟨[], rfl, Nat.le_refl _, hp⟩
      · by_cases h3 : frC ((s.extract 0 k).extract p (s.extract 0 k).size) = 0
        · have h4 := h3
          rw [cut_rest s k p hk hp] at h4
          obtain ⟨a, b, c, d⟩ := frame_pre (s.extract p s.size) (k - p) (by simp; omega) h4
          rw [run_next _ f p done h1t h2 h3, run_next s f p done h1s h2 a, cut_rest s k p hk hp, ← b, ← c]
          obtain ⟨rest, e1, e2, e3⟩ := ih (p + frN (s.extract p s.size)) (done + 1) (by omega)
          exact ⟨rest, by simp only [List.cons_append]; rw [e1], e2, e3⟩
        · rw [run_code _ f p done h1t h2 h3]
          exact ⟨_, rfl, run_ge s _ _ _, hp⟩
theorem read_cut (s : ByteArray) (k : Nat) (hk : k ≤ s.size) : ∃ rest, (readF s).1 = (readF (s.extract 0 k)).1 ++ rest ∧ (readF (s.extract 0 k)).2.1 ≤ (readF s).2.1 ∧ (readF (s.extract 0 k)).2.1 ≤ k := by
  unfold readF
  exact run_cut s k hk 2001 0 0 (Nat.zero_le _)

/-- Frames written one behind another. -/
def catF : List (Int × ByteArray) → ByteArray
  | [] => ⟨#[]⟩
  | f :: l => frameB f.1 f.2 ++ catF l
theorem run_cat (s : ByteArray) : ∀ (f p done : Nat), p ≤ s.size → catF (run s f p done).1 = s.extract p (run s f p done).2.1 ∧ (run s f p done).2.1 ≤ s.size := by
  have hnil : ∀ p, s.extract p p = ⟨#[]⟩ := fun p => by apply ByteArray.ext; apply Array.ext'; rw [extract_list]; simp
  intro f
  induction f with
  | zero => intro p done hp; exact ⟨(hnil p).symm, hp⟩
  | succ f ih =>
    intro p done hp
    by_cases h1 : s.size ≤ p
    · rw [run_end s f p done h1]; exact ⟨(hnil p).symm, hp⟩
    · by_cases h2 : done = 2000
      · subst h2; rw [run_many s f p h1]; exact ⟨(hnil p).symm, hp⟩
      · by_cases h3 : frC (s.extract p s.size) = 0
        · have hw := (write_back _ h3).1
          have hz := (szI_ok (frC_ok h3)).2.1
          have hn : frN (s.extract p s.size) = (szI (s.extract p s.size)).2 := rfl
          rw [← hn, rest_size] at hz
          rw [run_next s f p done h1 h2 h3]
          obtain ⟨e1, e2⟩ := ih (p + frN (s.extract p s.size)) (done + 1) (by omega)
          refine ⟨?_, e2⟩
          simp only [catF]
          rw [hw, e1]
          have e3 : (s.extract p s.size).extract 0 (frN (s.extract p s.size)) = s.extract p (p + frN (s.extract p s.size)) := by
            apply ByteArray.ext
            apply Array.ext'
            rw [extract_list, extract_list, extract_list, List.drop_zero, Nat.sub_zero, List.take_take, Nat.min_eq_left (by omega)]
            congr 1
            omega
          rw [e3]
          exact glue s p _ _ (by omega) (run_ge s _ _ _)
        · rw [run_code s f p done h1 h2 h3]; exact ⟨(hnil p).symm, hp⟩
theorem read_cat (s : ByteArray) : catF (readF s).1 = s.extract 0 (readF s).2.1 ∧ (readF s).2.1 ≤ s.size := by
  unfold readF
  exact run_cat s 2001 0 0 (Nat.zero_le _)
theorem catF_app (l m : List (Int × ByteArray)) : catF (l ++ m) = catF l ++ catF m := by
  induction l with
  | nil => rw [List.nil_append, catF]; apply ByteArray.ext; simp
  | cons x l ih => rw [List.cons_append, catF, catF, ih, ByteArray.append_assoc]
end Go.Proofs.YtliklijcdcfomaaGreat.Plain

