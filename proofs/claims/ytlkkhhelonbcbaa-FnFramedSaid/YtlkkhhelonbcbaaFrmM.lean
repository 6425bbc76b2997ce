/- The frames that are read are written as the bytes that they were read from; cut anywhere they are a beginning of these. -/
import Derived.Test.YtlkkhhelonbcbaaBitM
import Derived.Test.YtlkkhhelonbcbaaRdJ
namespace Go.Proofs.Ytlkkhhelonbcbaa.Plain
open Go Go.RowKit
set_option linter.unusedVariables false

theorem glue (r : ByteArray) (a b c : Nat) (h1 : a ≤ b) (h2 : b ≤ c) : r.extract a b ++ r.extract b c = r.extract a c := by
  apply ByteArray.ext
  apply Array.ext'
  rw [app_list, extract_list, extract_list, extract_list]
  have e : (r.data.toList.drop b) = (r.data.toList.drop a).drop (b - a) := by rw [List.drop_drop]; congr 1; omega
  rw [e, show c - a = (b - a) + (c - b) from by omega, List.take_add]
theorem ext_in (r : ByteArray) (m a b : Nat) (h : b ≤ m) : (r.extract 0 m).extract a b = r.extract a b := by
  apply ByteArray.ext
  apply Array.ext'
  rw [extract_list, extract_list, extract_list, List.drop_zero, Nat.sub_zero, List.drop_take, List.take_take, Nat.min_eq_left (by omega)]
theorem four_wd (q : ByteArray) (h : q.size = 4) : strOfNums (fourL (wdI q)) = q := by
  have hr := wdI_word q
  have b0 := bAt_lt q 0
  have b1 := bAt_lt q 1
  have b2 := bAt_lt q 2
  have b3 := bAt_lt q 3
  have hw := wd_sum q
  have a0 : (bAt (strOfNums (fourL (wdI q))) 0 : Int) = wdI q % 256 := bAt_strOf (fourL (wdI q)) 0 (by simp [fourL]) (by simp [fourL]; omega) (by simp [fourL]; omega)
  have a1 : (bAt (strOfNums (fourL (wdI q))) 1 : Int) = wdI q / 256 % 256 := bAt_strOf (fourL (wdI q)) 1 (by simp [fourL]) (by simp [fourL]; omega) (by simp [fourL]; omega)
  have a2 : (bAt (strOfNums (fourL (wdI q))) 2 : Int) = wdI q / 65536 % 256 := bAt_strOf (fourL (wdI q)) 2 (by simp [fourL]) (by simp [fourL]; omega) (by simp [fourL]; omega)
  have a3 : (bAt (strOfNums (fourL (wdI q))) 3 : Int) = wdI q / 16777216 := bAt_strOf (fourL (wdI q)) 3 (by simp [fourL]) (by simp [fourL]; omega) (by simp [fourL]; omega)
  have hs := four_size (wdI q)
  apply ext_bAt _ _ (by omega)
  intro j hj
  rw [hs] at hj
  clear hr hs
  match j, hj with
  | 0, _ => omega
  | 1, _ => omega
  | 2, _ => omega
  | 3, _ => omega
theorem one_byte (r : ByteArray) (h : 1 ≤ r.size) : strOfNums [(bAt r 0 : Int)] = r.extract 0 1 := by
  have hb := bAt_lt r 0
  have a0 : (bAt (strOfNums [(bAt r 0 : Int)]) 0 : Int) = (bAt r 0 : Int) := bAt_strOf [(bAt r 0 : Int)] 0 (by simp) (by simp) (by simp; omega)
  have hs := one_size (bAt r 0 : Int)
  have hs2 : (r.extract 0 1).size = 1 := by simp; omega
  apply ext_bAt _ _ (by omega)
  intro j hj
  obtain rfl : j = 0 := by omega
  rw [bAt_extract r 0 1 0 (by omega) (by omega)]
  simp only [Nat.add_zero]
  omega

/-- What szI says where a frame is read. -/
theorem szI_form {r : ByteArray} (h : (szI r).1 = 0) : (wdI (r.extract 1 5)).toNat + 9 = (szI r).2 := by
  unfold szI at *
  split at h
  · simp at h
  · rename_i h1
    split at h
    · simp at h
    · rename_i h2
      split at h
      · simp at h
      · rename_i h3
        split at h
        · simp at h
        · rename_i h4
          rw [if_neg h1, if_neg h2, if_neg h3, if_neg h4]
          exact Nat.add_comm _ _
theorem frC_crc {r : ByteArray} (h : frC r = 0) : crcI (r.extract 0 (frN r - 4)) = wdI (r.extract (frN r - 4) (frN r)) := by
  have h0 := frC_ok h
  unfold frC at h
  rw [if_neg (by simp [h0])] at h
  split at h
  · assumption
  · simp at h
theorem write_back (r : ByteArray) (h : frC r = 0) : frameB (frm r).1 (frm r).2 = r.extract 0 (frN r) ∧ 1 ≤ (frm r).1 ∧ (frm r).1 ≤ 100 ∧ (frm r).2.size ≤ 20000 := by
  have h0 := frC_ok h
  obtain ⟨q1, q2, q3, q4, q5⟩ := szI_ok h0
  have hf := szI_form h0
  have hc := frC_crc h
  have hn : frN r = (szI r).2 := rfl
  have hB : frB r = r.extract 5 (frN r - 4) := rfl
  have hm : frm r = ((bAt r 0 : Int), frB r) := rfl
  rw [← hn] at q1 q2 q3 hf
  rw [hm, hB]
  clear hm hB hn h h0
  generalize frN r = n at *
  have hwd := wdI_word (r.extract 1 5)
  have hbs : (r.extract 5 (n - 4)).size = n - 9 := by simp; omega
  have hsz : ((r.extract 5 (n - 4)).size : Int) = wdI (r.extract 1 5) := by rw [hbs]; omega
  have hseal : sealB (bAt r 0 : Int) (r.extract 5 (n - 4)) = r.extract 0 (n - 4) := by
    unfold sealB
    rw [hsz, four_wd _ (by simp; omega), one_byte r (by omega), glue r 0 1 5 (by omega) (by omega), glue r 0 5 (n - 4) (by omega) (by omega)]
  refine ⟨?_, by simp only; omega, by simp only; omega, by simp only; omega⟩
  simp only
  unfold frameB
  rw [if_pos (by omega), hseal, hc, four_wd _ (by simp; omega), glue r 0 (n - 4) n (by omega) (by omega)]

theorem szI_of (r : ByteArray) (n : Nat) (h0 : 1 ≤ bAt r 0) (h1 : bAt r 0 ≤ 100) (hw : wdI (r.extract 1 5) = ((n - 9 : Nat) : Int)) (hn : 9 ≤ n) (hn2 : n ≤ 20009) (hs : n ≤ r.size) : szI r = (0, n) := by
  unfold szI
  rw [if_neg (by omega), if_neg (by omega), hw, if_neg (by omega), Int.toNat_natCast, if_neg (by omega)]
  congr 1
  omega
theorem nat_of (x : Int) (n : Nat) (h : 0 ≤ x) (hf : x.toNat + 9 = n) : x = ((n - 9 : Nat) : Int) := by omega
/-- A frame is read off its own bytes alone. -/
theorem frame_pre (r : ByteArray) (m : Nat) (hm : m ≤ r.size) (h : frC (r.extract 0 m) = 0) : frC r = 0 ∧ frN r = frN (r.extract 0 m) ∧ frm r = frm (r.extract 0 m) ∧ frN r ≤ m := by
  have h0 := frC_ok h
  obtain ⟨q1, q2, q3, q4, q5⟩ := szI_ok h0
  have hf := szI_form h0
  have hc := frC_crc h
  have hms : (r.extract 0 m).size = m := by simp; omega
  have hn : frN (r.extract 0 m) = (szI (r.extract 0 m)).2 := rfl
  rw [← hn] at q1 q2 q3 hf
  rw [hms] at q2
  have hb0 := bAt_ext r m (by clear hc hf; omega) hm
  rw [hb0] at q4 q5
  rw [ext_in r m 1 5 (by clear hc hf; omega)] at hf
  obtain ⟨n, hnn⟩ : ∃ n, frN (r.extract 0 m) = n := ⟨_, rfl⟩
  rw [hnn] at q1 q2 q3 hf hc hn
  have hn4 : n - 4 ≤ m := by clear hc hf; omega
  rw [ext_in r m _ _ hn4, ext_in r m _ _ q2] at hc
  have hsz : szI r = (0, n) := szI_of r n q4 q5 (nat_of _ n (wdI_word (r.extract 1 5)).1 hf) q1 q3 (Nat.le_trans q2 hm)
  have hN : frN r = n := by unfold frN; rw [hsz]
  refine ⟨?_, by rw [hN, hnn], ?_, by rw [hN]; exact q2⟩
  · unfold frC
    rw [hsz, if_neg (by simp)]
    simp only
    rw [if_pos hc]
  · unfold frm frB
    rw [hN, hnn, hb0, ext_in r m _ _ hn4]

theorem run_ge (s : ByteArray) : ∀ (f p done : Nat), p ≤ (run s f p done).2.1 := by
  intro f
  induction f with
  | zero => intro p done; exact Nat.le_refl _
  | succ f ih =>
    intro p done
    rw [run]
    split
    · exact Nat.le_refl _
    · split
      · exact Nat.le_refl _
      · split
        · exact Nat.le_refl _
        · exact Nat.le_trans (Nat.le_add_right _ _) (ih _ _)

theorem cut_rest (s : ByteArray) (k p : Nat) (hk : k ≤ s.size) (hp : p ≤ k) : (s.extract 0 k).extract p (s.extract 0 k).size = (s.extract p s.size).extract 0 (k - p) := by
  have h1 : (s.extract 0 k).size = k := by simp; omega
  rw [h1, ext_in s k p k (Nat.le_refl _)]
  apply ByteArray.ext
  apply Array.ext'
  rw [extract_list, extract_list, extract_list, List.drop_zero, Nat.sub_zero, List.take_take, Nat.min_eq_left (by omega)]

theorem run_cut (s : ByteArray) (k : Nat) (hk : k ≤ s.size) : ∀ (f p done : Nat), p ≤ k → ∃ rest, (run s f p done).1 = (run (s.extract 0 k) f p done).1 ++ rest ∧ (run (s.extract 0 k) f p done).2.1 ≤ (run s f p done).2.1 ∧ (run (s.extract 0 k) f p done).2.1 ≤ k := by
  have hts : (s.extract 0 k).size = k := by simp; omega
  intro f
  induction f with
  | zero => intro p done hp; exact ⟨[], rfl, Nat.le_refl _, hp⟩
  | succ f ih =>
    intro p done hp
    by_cases h1 : k ≤ p
    · rw [run_end (s.extract 0 k) f p done (by rw [hts]; exact h1)]
      exact ⟨_, rfl, run_ge s _ _ _, hp⟩
    · have h1s : ¬ s.size ≤ p := by omega
      have h1t : ¬ (s.extract 0 k).size ≤ p := by rw [hts]; exact h1
      by_cases h2 : done = 2000
      · subst h2
        rw [run_many _ f p h1t, run_many s f p h1s]
        exact ⟨[], rfl, Nat.le_refl _, hp⟩
      · by_cases h3 : frC ((s.extract 0 k).extract p (s.extract 0 k).size) = 0
        · have h4 := h3
          rw [cut_rest s k p hk hp] at h4
          obtain ⟨a, b, c, d⟩ := frame_pre (s.extract p s.size) (k - p) (by simp; omega) h4
          rw [run_next _ f p done h1t h2 h3, run_next s f p done h1s h2 a, cut_rest s k p hk hp, ← b, ← c]
          obtain ⟨rest, e1, e2, e3⟩ := ih (p + frN (s.extract p s.size)) (done + 1) (by omega)
          exact ⟨rest, by simp only [List.cons_append]; rw [e1], e2, e3⟩
        · rw [run_code _ f p done h1t h2 h3]
          exact ⟨_, rfl, run_ge s _ _ _, hp⟩
theorem read_cut (s : ByteArray) (k : Nat) (hk : k ≤ s.size) : ∃ rest, (readF s).1 = (readF (s.extract 0 k)).1 ++ rest ∧ (readF (s.extract 0 k)).2.1 ≤ (readF s).2.1 ∧ (readF (s.extract 0 k)).2.1 ≤ k := by
  unfold readF
  exact run_cut s k hk 2001 0 0 (Nat.zero_le _)

/-- Frames written one behind another. -/
def catF : List (Int × ByteArray) → ByteArray
  | [] => ⟨#[]⟩
  | f :: l => frameB f.1 f.2 ++ catF l
theorem run_cat (s : ByteArray) : ∀ (f p done : Nat), p ≤ s.size → catF (run s f p done).1 = s.extract p (run s f p done).2.1 ∧ (run s f p done).2.1 ≤ s.size := by
  have hnil : ∀ p, s.extract p p = ⟨#[]⟩ := fun p => by apply ByteArray.ext; apply Array.ext'; rw [extract_list]; simp
  intro f
  induction f with
  | zero => intro p done hp; exact ⟨(hnil p).symm, hp⟩
  | succ f ih =>
    intro p done hp
    by_cases h1 : s.size ≤ p
    · rw [run_end s f p done h1]; exact ⟨(hnil p).symm, hp⟩
    · by_cases h2 : done = 2000
      · subst h2; rw [run_many s f p h1]; exact ⟨(hnil p).symm, hp⟩
      · by_cases h3 : frC (s.extract p s.size) = 0
        · have hw := (write_back _ h3).1
          have hz := (szI_ok (frC_ok h3)).2.1
          have hn : frN (s.extract p s.size) = (szI (s.extract p s.size)).2 := rfl
          rw [← hn, rest_size] at hz
          rw [run_next s f p done h1 h2 h3]
          obtain ⟨e1, e2⟩ := ih (p + frN (s.extract p s.size)) (done + 1) (by omega)
          refine ⟨?_, e2⟩
          simp only [catF]
          rw [hw, e1]
          have e3 : (s.extract p s.size).extract 0 (frN (s.extract p s.size)) = s.extract p (p + frN (s.extract p s.size)) := by
            apply ByteArray.ext
            apply Array.ext'
            rw [extract_list, extract_list, extract_list, List.drop_zero, Nat.sub_zero, List.take_take, Nat.min_eq_left (by omega)]
            congr 1
            omega
          rw [e3]
          exact glue s p _ _ (by omega) (run_ge s _ _ _)
        · rw [run_code s f p done h1 h2 h3]; exact ⟨(hnil p).symm, hp⟩
theorem read_cat (s : ByteArray) : catF (readF s).1 = s.extract 0 (readF s).2.1 ∧ (readF s).2.1 ≤ s.size := by
  unfold readF
  exact run_cat s 2001 0 0 (Nat.zero_le _)
theorem catF_app (l m : List (Int × ByteArray)) : catF (l ++ m) = catF l ++ catF m := by
  induction l with
  | nil => rw [List.nil_append, catF]; apply ByteArray.ext; simp
  | cons x l ih => rw [List.cons_append, catF, catF, ih, ByteArray.append_assoc]
end Go.Proofs.Ytlkkhhelonbcbaa.Plain
