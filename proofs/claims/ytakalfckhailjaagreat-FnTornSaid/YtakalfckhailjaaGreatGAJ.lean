/- Texts of one kind, put together. -/
import Derived.Test.YtakalfckhailjaaGreatGAG
import Derived.Test.YtakalfckhailjaaGreatGAI
import Derived.Test.YtakalfckhailjaaGreatGAM

/- The frames that are read are written as the bytes that they were read from; cut anywhere they are a beginning of these. -/
namespace Go.Proofs.YtakalfckhailjaaGreat.Plain
open Go Go.RowKit
set_option linter.unusedVariables false

theorem glue (r : ByteArray) (a b c : Nat) (h1 : a ≤ b) (h2 : b ≤ c) : r.extract a b ++ r.extract b c = r.extract a c := by
  apply ByteArray.ext
  apply Array.ext'
  rw [app_list, extract_list, extract_list, extract_list]
  have e : (r.data.toList.drop b) = (r.data.toList.drop a).drop (b - a) := by rw [List.drop_drop]; congr 1; omega
  rw [e, show c - a = (b - a) + (c - b) from by omega, List.take_add]
theorem ext_in (r : ByteArray) (m a b : Nat) (h : b ≤ m) : (r.extract 0 m).extract a b = r.extract a b := by
  apply ByteArray.ext
  apply Array.ext'
  rw [extract_list, extract_list, extract_list, List.drop_zero, Nat.sub_zero, List.drop_take, List.take_take, Nat.min_eq_left (by omega)]
theorem four_wd (q : ByteArray) (h : q.size = 4) : strOfNums (fourL (wdI q)) = q := by
  have hr := wdI_word q
  have b0 := bAt_lt q 0
  have b1 := bAt_lt q 1
  have b2 := bAt_lt q 2
  have b3 := bAt_lt q 3
  have hw := wd_sum q
  have a0 : (bAt (strOfNums (fourL (wdI q))) 0 : Int) = wdI q % 256 := bAt_strOf (fourL (wdI q)) 0 (by simp [fourL]) (by simp [fourL]; omega) (by simp [fourL]; omega)
  have a1 : (bAt (strOfNums (fourL (wdI q))) 1 : Int) = wdI q / 256 % 256 := bAt_strOf (fourL (wdI q)) 1 (by simp [fourL]) (by simp [fourL]; omega) (by simp [fourL]; omega)
  have a2 : (bAt (strOfNums (fourL (wdI q))) 2 : Int) = wdI q / 65536 % 256 := bAt_strOf (fourL (wdI q)) 2 (by simp [fourL]) (by simp [fourL]; omega) (by simp [fourL]; omega)
  have a3 : (bAt (strOfNums (fourL (wdI q))) 3 : Int) = wdI q / 16777216 := bAt_strOf (fourL (wdI q)) 3 (by simp [fourL]) (by simp [fourL]; omega) (by simp [fourL]; omega)
  have hs := four_size (wdI q)
  apply ext_bAt _ _ (by omega)
  intro j hj
  rw [hs] at hj
  clear hr hs
  match j, hj with
  | 0, _ => omega
  | 1, _ => omega
  | 2, _ => omega
  | 3, _ => omega
theorem one_byte (r : ByteArray) (h : 1 ≤ r.size) : strOfNums [(bAt r 0 : Int)] = r.extract 0 1 := by
  have hb := bAt_lt r 0
  have a0 : (bAt (strOfNums [(bAt r 0 : Int)]) 0 : Int) = (bAt r 0 : Int) := bAt_strOf [(bAt r 0 : Int)] 0 (by simp) (by simp) (by simp; omega)
  have hs := one_size (bAt r 0 : Int)
  have hs2 : (r.extract 0 1).size = 1 := by simp; omega
  apply ext_bAt _ _ (by omega)
  intro j hj
  obtain rfl : j = 0 := by omega
  rw [bAt_extract r 0 1 0 (by omega) (by omega)]
  simp only [Nat.add_zero]
  omega

/-- What szI says where a frame is read. -/
theorem szI_form {r : ByteArray} (h : (szI r).1 = 0) : (wdI (r.extract 1 5)).toNat + 9 = (szI r).2 := by
  unfold szI at *
  split at h
  · simp at h
  · rename_i h1
    split at h
    · simp at h
    · rename_i h2
      split at h
      · simp at h
      · rename_i h3
        split at h
        · simp at h
        · rename_i h4
          rw [if_neg h1, if_neg h2, if_neg h3, if_neg h4]
          exact Nat.add_comm _ _
theorem frC_crc {r : ByteArray} (h : frC r = 0) : crcI (r.extract 0 (frN r - 4)) = wdI (r.extract (frN r - 4) (frN r)) := by
  have h0 := frC_ok h
  unfold frC at h
  rw [if_neg (by simp [h0])] at h
  split at h
  · assumption
  · simp at h
theorem write_back (r : ByteArray) (h : frC r = 0) : frameB (frm r).1 (frm r).2 = r.extract 0 (frN r) ∧ 1 ≤ (frm r).1 ∧ (frm r).1 ≤ 100 ∧ (frm r).2.size ≤ 20000 := by
  have h0 := frC_ok h
  obtain ⟨q1, q2, q3, q4, q5⟩ := szI_ok h0
  have hf := szI_form h0
  have hc := frC_crc h
  have hn : frN r = (szI r).2 := rfl
  have hB : frB r = r.extract 5 (frN r - 4) := rfl
  have hm : frm r = ((bAt r 0 : Int), frB r) := rfl
  rw [← hn] at q1 q2 q3 hf
  rw [hm, hB]
  clear hm hB hn h h0
  generalize frN r = n at *
  have hwd := wdI_word (r.extract 1 5)
  have hbs : (r.extract 5 (n - 4)).size = n - 9 := by simp; omega
  have hsz : ((r.extract 5 (n - 4)).size : Int) = wdI (r.extract 1 5) := by rw [hbs]; omega
  have hseal : sealB (bAt r 0 : Int) (r.extract 5 (n - 4)) = r.extract 0 (n - 4) := by
    unfold sealB
    rw [hsz, four_wd _ (by simp; omega), one_byte r (by omega), glue r 0 1 5 (by omega) (by omega), glue r 0 5 (n - 4) (by omega) (by omega)]
  refine ⟨?_, by simp only; omega, by simp only; omega, by simp only; omega⟩
  simp only
  unfold frameB
  rw [if_pos (by omega), hseal, hc, four_wd _ (by simp; omega), glue r 0 (n - 4) n (by omega) (by omega)]

theorem szI_of (r : ByteArray) (n : Nat) (h0 : 1 ≤ bAt r 0) (h1 : bAt r 0 ≤ 100) (hw : wdI (r.extract 1 5) = ((n - 9 : Nat) : Int)) (hn : 9 ≤ n) (hn2 : n ≤ 20009) (hs : n ≤ r.size) : szI r = (0, n) := by
  unfold szI
  rw [if_neg (by omega), if_neg (by omega), hw, if_neg (by omega), Int.toNat_natCast, if_neg (by omega)]
  congr 1
  omega
theorem nat_of (x : Int) (n : Nat) (h : 0 ≤ x) (hf : x.toNat + 9 = n) : x = ((n - 9 : Nat) : Int) := by omega
/-- A frame is read off its own bytes alone. -/
theorem frame_pre (r : ByteArray) (m : Nat) (hm : m ≤ r.size) (h : frC (r.extract 0 m) = 0) : frC r = 0 ∧ frN r = frN (r.extract 0 m) ∧ frm r = frm (r.extract 0 m) ∧ frN r ≤ m := by
  have h0 := frC_ok h
  obtain ⟨q1, q2, q3, q4, q5⟩ := szI_ok h0
  have hf := szI_form h0
  have hc := frC_crc h
  have hms : (r.extract 0 m).size = m := by simp; omega
  have hn : frN (r.extract 0 m) = (szI (r.extract 0 m)).2 := rfl
  rw [← hn] at q1 q2 q3 hf
  rw [hms] at q2
  have hb0 := bAt_ext r m (by clear hc hf; omega) hm
  rw [hb0] at q4 q5
  rw [ext_in r m 1 5 (by clear hc hf; omega)] at hf
  obtain ⟨n, hnn⟩ : ∃ n, frN (r.extract 0 m) = n := ⟨_, rfl⟩
  rw [hnn] at q1 q2 q3 hf hc hn
  have hn4 : n - 4 ≤ m := by clear hc hf; omega
  rw [ext_in r m _ _ hn4, ext_in r m _ _ q2] at hc
  have hsz : szI r = (0, n) := szI_of r n q4 q5 (nat_of _ n (wdI_word (r.extract 1 5)).1 hf) q1 q3 (Nat.le_trans q2 hm)
  have hN : frN r = n := by unfold frN; rw [hsz]
  refine ⟨?_, by rw [hN, hnn], ?_, by rw [hN]; exact q2⟩
  · unfold frC
    rw [hsz, if_neg (by simp)]
    simp only
    rw [if_pos hc]
  · unfold frm frB
    rw [hN, hnn, hb0, ext_in r m _ _ hn4]

theorem run_ge (s : ByteArray) : ∀ (f p done : Nat), p ≤ (run s f p done).2.1 := by
  intro f
  induction f with
  | zero => intro p done; exact Nat.le_refl _
  | succ f ih =>
    intro p done
    rw [run]
    split
    · exact Nat.le_refl _
    · split
      · exact Nat.le_refl _
      · split
        · exact Nat.le_refl _
        · exact Nat.le_trans (Nat.le_add_right _ _) (ih _ _)

/-- Frames written one behind another. -/
def catF : List (Int × ByteArray) → ByteArray
  | [] => ⟨#[]⟩
  | f :: l => frameB f.1 f.2 ++ catF l
theorem run_cat (s : ByteArray) : ∀ (f p done : Nat), p ≤ s.size → catF (run s f p done).1 = s.extract p (run s f p done).2.1 ∧ (run s f p done).2.1 ≤ s.size := by
  have hnil : ∀ p, s.extract p p = ⟨#[]⟩ := fun p => by apply ByteArray.ext; apply Array.ext'; rw [extract_list]; simp
  intro f
  induction f with
  | zero => intro p done hp; exact ⟨(hnil p).symm, hp⟩
  | succ f ih =>
    intro p done hp
    by_cases h1 : s.size ≤ p
    · rw [run_end s f p done h1]; exact ⟨(hnil p).symm, hp⟩
    · by_cases h2 : done = 2000
      · subst h2; rw [run_many s f p h1]; exact ⟨(hnil p).symm, hp⟩
      · by_cases h3 : frC (s.extract p s.size) = 0
        · have hw := (write_back _ h3).1
          have hz := (szI_ok (frC_ok h3)).2.1
          have hn : frN (s.extract p s.size) = (szI (s.extract p s.size)).2 := rfl
          rw [← hn, rest_size] at hz
          rw [run_next s f p done h1 h2 h3]
          obtain ⟨e1, e2⟩ := ih (p + frN (s.extract p s.size)) (done + 1) (by omega)
          refine ⟨?_, e2⟩
          simp only [catF]
          rw [hw, e1]
          have e3 : (s.extract p s.size).extract 0 (frN (s.extract p s.size)) = s.extract p (p + frN (s.extract p s.size)) := by
            apply ByteArray.ext
            apply Array.ext'
            rw [extract_list, extract_list, extract_list, List.drop_zero, Nat.sub_zero, List.take_take, Nat.min_eq_left (by omega)]
            congr 1
            omega
          rw [e3]
          exact glue s p _ _ (by omega) (run_ge s _ _ _)
        · rw [run_code s f p done h1 h2 h3]; exact ⟨(hnil p).symm, hp⟩
theorem read_cat (s : ByteArray) : catF (readF s).1 = s.extract 0 (readF s).2.1 ∧ (readF s).2.1 ≤ s.size := by
  unfold readF
  exact run_cat s 2001 0 0 (Nat.zero_le _)
theorem catF_app (l m : List (Int × ByteArray)) : catF (l ++ m) = catF l ++ catF m := by
  induction l with
  | nil => rw [List.nil_append, catF]; apply ByteArray.ext; simp
  | cons x l ih => rw [List.cons_append, catF, catF, ih, ByteArray.append_assoc]
end Go.Proofs.YtakalfckhailjaaGreat.Plain


/- Which journals are right, by both programs. -/
namespace Go.Proofs.YtakalfckhailjaaGreat
open Go.RowKit Plain
set_option linter.unusedVariables false

/-- A journal in memory. -/
structure Plain.JouAt (W : World) (a : Option Addr) (n c : Nat) (es : List Ent) : Prop where
  row : RowAt entE W a es
  len : es.length = n
  bn : n ≤ 2000000
  fit : ∀ e ∈ es, e.body.size ≤ 1000000000
theorem Plain.JouAt.below {W W' : World} {a : Option Addr} {n c : Nat} {es : List Ent} (h : JouAt W a n c es) (hb : Below W.heap.size W W') : JouAt W' a n c es := ⟨h.row.below hb, h.len, h.bn, h.fit⟩

set_option maxRecDepth 10000 in
set_option maxHeartbeats 4000000 in
theorem impl_JournalOk (t v : Int) (a : Option Addr) (n c : Nat) (es : List Ent) (w : World) (h : JouAt w a n c es) (hnc : n ≤ c) :
    Calls Tryz.prog 37 #[.agg #[.int .i64 t, .int .i64 v, .slice a n c]] w fun e w' => e = .returned (.bool (jouB t v es)) ∧ Below w.heap.size w w' := by
  obtain ⟨W0, hW0⟩ : ∃ W0, W0 = w.alloc (.cells #[.int .i64 t, .int .i64 v, .slice a n c] 34) := ⟨_, rfl⟩
  have hb0 : Below w.heap.size w W0 := by rw [hW0]; exact bel1 _ _
  have hlt : w.heap.size < W0.heap.size := by rw [hW0]; simp
  have c0 : W0.cell? ⟨w.heap.size, 0, none⟩ = some (.int .i64 t) := by rw [hW0]; simp [go_sem]
  have c1 : W0.cell? ⟨w.heap.size, 1, none⟩ = some (.int .i64 v) := by rw [hW0]; simp [go_sem]
  have c2 : W0.cell? ⟨w.heap.size, 2, none⟩ = some (.slice a n c) := by rw [hW0]; simp [go_sem]
  have HC := hide (fun (W : World) (hW : Below W0.heap.size W0 W) => And.intro (bcl hW hlt c0) (And.intro (bcl hW hlt c1) (bcl hW hlt c2)))
  have HFIN := hide (fun (W : World) (hW : Below W0.heap.size W0 W) => belOn hb0 hW)
  have HD := hide (fun (W : World) (hW : Below W0.heap.size W0 W) => (h.below hb0).below hW)
  have HW0 := hide hW0.symm
  have hbn := h.bn
  have HH := hide h
  clear hb0 hlt hW0 h
  unfold jouB
  cases ht : numB t with
  | false =>
    have HT := hide ht
    clear ht c0 c1 c2
    go_enter Tryz.func37, Tryz.ntmps37
    go_wp2_with fail
    rw [unhide HW0]
    refine (numberOk_calls t _).mono ?_
    rintro e w1 ⟨rfl, rfl⟩
    rw [unhide HT]
    go_wp2_with fail
    go_ret
    exact ⟨rfl, unhide HFIN _ (Below.refl _ _)⟩
  | true =>
    have HT := hide ht
    cases hv : numB v with
    | false =>
      have HV := hide hv
      clear ht hv
      go_enter Tryz.func37, Tryz.ntmps37
      go_wp2_with fail
      rw [unhide HW0]
      refine (numberOk_calls t _).mono ?_
      rintro e w1 ⟨rfl, rfl⟩
      rw [unhide HT]
      go_wp2_with fail
      refine (numberOk_calls v _).mono ?_
      rintro e w1 ⟨rfl, rfl⟩
      rw [unhide HV]
      go_wp2_with fail
      go_ret
      exact ⟨rfl, unhide HFIN _ (Below.refl _ _)⟩
    | true =>
      have HV := hide hv
      clear ht hv
      rw [Bool.and_self, Bool.true_and, (unhide HH).len]
      obtain ⟨R, hR⟩ : ∃ R, (decide (n ≤ 500) && okE t 0 es) = R := ⟨_, rfl⟩
      rw [hR]
      have HR := hide hR
      clear hR
      go_enter Tryz.func37, Tryz.ntmps37
      go_wp2_with fail
      rw [unhide HW0]
      refine (numberOk_calls t _).mono ?_
      rintro e w1 ⟨rfl, rfl⟩
      rw [unhide HT]
      go_wp2_with fail
      refine (numberOk_calls v _).mono ?_
      rintro e w1 ⟨rfl, rfl⟩
      rw [unhide HV]
      go_wp2_with fail
      clear c0 c1 c2
      go_loopw [18] (fun i wr => ∃ k : Nat, i = .int .i64 k ∧ k ≤ n ∧ k ≤ 500 ∧ Hid (okE t (prevT es k) (es.drop k) = okE t 0 es) ∧ Hid (Below W0.heap.size W0 wr)) (fun i _ => n - (intOf i).toNat)
      case atStart => exact ⟨0, rfl, by omega, by omega, hide rfl, hide (Below.refl _ _)⟩
      case round =>
        obtain ⟨k, rfl, hk, hk5, HO, HB⟩ := hrel
        obtain ⟨q0, q1, q2⟩ := unhide HC _ (unhide HB)
        by_cases hkn : k < n
        · have hkl : k < es.length := by rw [(unhide HH).len]; exact hkn
          obtain ⟨g, e1, l1, p0, p1, p2⟩ := (unhide HD _ (unhide HB)).row.ex k hkl
          have hst := okE_step t es k hkl
          have hbs := (unhide HH).fit es[k] (by simp)
          have HFO := hide (fun (W : World) (hW : Below W0.heap.size W0 W) => follows_calls es[k].term es[k].kind es[k].body a k c es t W (by omega) (by omega) (by omega) (unhide HD _ hW).row)
          generalize hx : es[k] = x at p0 p1 p2 hst HFO hbs
          obtain ⟨tm, kd, bd⟩ := x
          simp only at p0 p1 p2 HFO
          subst e1
          have i0 : (0 : Int) ≤ (k : Int) := by omega
          have i1 : (k : Int) < (n : Int) := by omega
          have i2 : (k : Int) ≤ (n : Int) := by omega
          have i3 : (k : Int) ≤ (c : Int) := by omega
          have HST := hide (hst.symm.trans (unhide HO))
          generalize folB t (prevT es k) ⟨tm, kd, bd⟩ = F at HFO HST
          have hlw : w.heap.size < wr.heap.size := lt_of_cell q0
          obtain ⟨W1, hW1⟩ : ∃ W1, W1 = wr.alloc (.cells #[.int .i64 tm, .int .i64 kd, .string bd] 45) := ⟨_, rfl⟩
          have hb1 : Below wr.heap.size wr W1 := by rw [hW1]; exact bel1 _ _
          have r0 := bcl hb1 hlw q0
          have r1 := bcl hb1 hlw q1
          have r2 := bcl hb1 hlw q2
          have s0 : W1.cell? ⟨wr.heap.size, 0, none⟩ = some (.int .i64 tm) := by rw [hW1]; simp [go_sem]
          have s1 : W1.cell? ⟨wr.heap.size, 1, none⟩ = some (.int .i64 kd) := by rw [hW1]; simp [go_sem]
          have s2 : W1.cell? ⟨wr.heap.size, 2, none⟩ = some (.string bd) := by rw [hW1]; simp [go_sem]
          have HB1 := hide (belOn (unhide HB) hb1)
          have HW1 := hide hW1.symm
          have HF2 := hide (unhide HFO W1.drew (belDrew (unhide HB1)))
          clear hst HO hx hb1 hW1 HFO
          by_cases h5 : k < 500
          · rw [decide_eq_true h5, Bool.true_and] at HF2
            cases F with
            | false =>
              have HX := hide (show R = false from by rw [← unhide HR, ← unhide HST]; simp)
              clear HST
              go_wp2_with fail
              rw [unhide HW1]
              go_region_with (go_at_call 81; refine (unhide HF2).mono ?_; rintro e w2 ⟨rfl, hb2⟩)
              all_goals (try go_wp2_with fail)
              all_goals (try go_ret)
              all_goals exact ⟨by rw [unhide HX]; rfl, unhide HFIN _ (belOn (unhide HB1) (bOfDrew hb2))⟩
            | true =>
              have HX := hide (show okE t (prevT es (k + 1)) (es.drop (k + 1)) = okE t 0 es from by rw [← unhide HST]; simp)
              clear HST
              go_wp2_with fail
              rw [unhide HW1]
              go_region_with (go_at_call 81; refine (unhide HF2).mono ?_; rintro e w2 ⟨rfl, hb2⟩)
              all_goals (try go_wp2_with fail)
              all_goals exact ⟨⟨k + 1, by go_num, by omega, by omega, HX, hide (belOn (unhide HB1) (bOfDrew hb2))⟩, by simp [intOf]; omega⟩
          · rw [decide_eq_false h5, Bool.false_and] at HF2
            have HX := hide (show R = false from by rw [← unhide HR, decide_eq_false (show ¬ n ≤ 500 by omega)]; rfl)
            clear HST
            go_wp2_with fail
            rw [unhide HW1]
            go_region_with (go_at_call 81; refine (unhide HF2).mono ?_; rintro e w2 ⟨rfl, hb2⟩)
            all_goals (try go_wp2_with fail)
            all_goals (try go_ret)
            all_goals exact ⟨by rw [unhide HX]; rfl, unhide HFIN _ (belOn (unhide HB1) (bOfDrew hb2))⟩
        · obtain rfl : k = n := by omega
          have hO := unhide HO
          rw [List.drop_of_length_le (by rw [(unhide HH).len]; exact Nat.le_refl _)] at hO
          have HX := hide (show R = true from by rw [← unhide HR, ← hO, decide_eq_true hk5]; rfl)
          clear hO HO
          go_wp2_with fail
          go_ret
          exact ⟨by rw [unhide HX]; rfl, unhide HFIN _ (unhide HB)⟩

end Go.Proofs.YtakalfckhailjaaGreat

