/- The loads of nodes, by the program. -/
import Derived.Test.YtbcfejplaffbnaaDoorLdsS
namespace Go.Proofs.YtbcfejplaffbnaaDoor
open Go.RowKit Plain
set_option linter.unusedVariables false

theorem has_calls (l : List Int) (x : Int) (w : World) (h1 : 1 ≤ x) (h2 : x ≤ 50) :
    Calls Tryd.prog 35 #[.int .u64 (setN l : Nat), .int .i64 x] w fun e w' => e = .returned (.bool (decide (x ∈ l))) ∧ w = w' := by
  obtain ⟨X, rfl⟩ := Int.eq_ofNat_of_zero_le (show 0 ≤ x by omega)
  have hlt := setN_lt l
  have hpl : 2 ^ X ≤ 1125899906842624 := Nat.pow_le_pow_right (show 0 < 2 by decide) (show X ≤ 50 by omega)
  have HON := hide (fun W => only_calls X W (by omega))
  have hand : bits .and .u64 ((setN l : Nat) : Int) ((2 ^ X : Nat) : Int) = ((setN l &&& 2 ^ X : Nat) : Int) := u64_and_nat _ _ (by omega) (by omega)
  have hbit := setN_bit l X
  have hx1 : 1 ≤ X := by omega
  have hx2 : X ≤ 50 := by omega
  rw [decide_eq_true hx1, decide_eq_true hx2, Bool.true_and, Bool.true_and] at hbit
  have hpos : 0 < 2 ^ X := Nat.pow_pos (by decide)
  have hres : ((((setN l &&& 2 ^ X : Nat) : Int)) != 0) = decide ((X : Int) ∈ l) := by
    rw [← hbit]
    cases hb : (setN l).testBit X with
    | false =>
      have : setN l &&& 2 ^ X = 0 := by
        apply Nat.eq_of_testBit_eq
        intro i
        rw [Nat.testBit_and, Nat.testBit_two_pow, Nat.zero_testBit]
        by_cases hi : X = i
        · subst hi; rw [hb]; rfl
        · simp [hi]
      rw [this]
      rfl
    | true =>
      have : (setN l &&& 2 ^ X).testBit X = true := by rw [Nat.testBit_and, Nat.testBit_two_pow, hb]; simp
      have hne : setN l &&& 2 ^ X ≠ 0 := fun e => by rw [e, Nat.zero_testBit] at this; cases this
      rw [bne_iff_ne]
      omega
  generalize setN l = S at hand hres
  generalize decide ((X : Int) ∈ l) = R at hres
  generalize hA : S &&& 2 ^ X = A at hand hres
  generalize 2 ^ X = P at HON hand
  clear hlt hpl hbit hpos hA
  go_enter Tryd.func35, Tryd.ntmps35
  go_wp2_with fail
  refine (unhide HON _).mono ?_
  rintro e w1 ⟨rfl, rfl⟩
  go_wp2_with fail
  go_ret
  exact ⟨rfl, rfl⟩

set_option maxRecDepth 10000 in
set_option maxHeartbeats 4000000 in
theorem impl_Loads (ad : Option Addr) (nd cd : Nat) (ds : List ByteArray) (a : Option Addr) (n c : Nat) (ls : List Int) (k : Int) (w : World) (hs : TxtsAt w ad nd ds) (h : IntsAt w a n ls) (hK : KAt w) :
    Calls Tryd.prog 17 #[.slice ad nd cd, .slice a n c, .int .i64 k] w fun e w' => ∃ v, e = .returned (.tuple #[v, .bool (ldB ds ls k)]) ∧ OwnR i64E w' w.heap.size v (ldL ds ls k) ∧ Below w.heap.size w w' := by
  have h0 : 1 < w.heap.size := lt_of_cell (hK 0 (by omega))
  have HD := hide (readSet_calls ad nd cd ds w hs)
  have HI := hide (fun (W : World) (hW : Below w.heap.size w W) => rosterOf_calls a n c ls k W (h.below hW))
  cases h1 : setB ds with
  | false =>
    have hb : ldB ds ls k = false := by unfold ldB; rw [h1]; rfl
    rw [hb, ldL_no hb]
    rw [h1] at HD
    clear h hs hb h1 hK
    generalize rosB ls k = rb at HI
    go_enter Tryd.func17, Tryd.ntmps17
    go_wp2_with fail
    refine (unhide HD).mono ?_
    rintro e w1 ⟨mv, rfl, hb1⟩
    have HB1 := hide hb1
    clear hb1
    go_wp2_with fail
    refine (unhide HI _ (unhide HB1)).mono ?_
    rintro e w2 ⟨rfl, hb2⟩
    have HB2 := hide (belOnD (belOnD (unhide HB1) hb2) (bel1D w2 (.cells #[.slice a n c, .int .i64 k] 50)))
    clear hb2
    go_wp2_with fail
    exact bodyPost_ret (v := .tuple #[_, .bool false]) (by simp [results, Tryd.results17, go_sem]) rfl ⟨_, rfl, ownR_nil _ _ _, unhide HB2⟩
  | true =>
    rw [h1] at HD
    cases h2 : rosB ls k with
    | false =>
      have hb : ldB ds ls k = false := by unfold ldB; rw [h2, Bool.and_false]
      rw [hb, ldL_no hb]
      rw [h2] at HI
      clear h hs hb h1 h2 hK
      go_enter Tryd.func17, Tryd.ntmps17
      go_wp2_with fail
      refine (unhide HD).mono ?_
      rintro e w1 ⟨mv, rfl, hb1⟩
      have HB1 := hide hb1
      clear hb1
      go_wp2_with fail
      refine (unhide HI _ (unhide HB1)).mono ?_
      rintro e w2 ⟨rfl, hb2⟩
      have HB2 := hide (belOnD (belOnD (unhide HB1) hb2) (bel1D w2 (.cells #[.slice a n c, .int .i64 k] 50)))
      clear hb2
      go_wp2_with fail
      exact bodyPost_ret (v := .tuple #[_, .bool false]) (by simp [results, Tryd.results17, go_sem]) rfl ⟨_, rfl, ownR_nil _ _ _, unhide HB2⟩
    | true =>
      have hb : ldB ds ls k = true := by unfold ldB; rw [h1, h2]; rfl
      rw [hb, ldL_yes hb]
      rw [h2] at HI
      have h3 : okIds 0 ls = true ∧ kB k = true := by unfold rosB at h2; rwa [Bool.and_eq_true] at h2
      have hk := (kB_iff k).1 h3.2
      obtain ⟨K, rfl⟩ := Int.eq_ofNat_of_zero_le (show 0 ≤ k by omega)
      rw [Int.toNat_natCast]
      have hall := setB_all h1
      have HSE := hide (fun (W : World) (hW : Below w.heap.size w W) (d : ByteArray) (hd : d ∈ ds) => (show Calls Tryd.prog 30 #[.agg #[.slice a n c, .int .i64 K], .string d] W fun e w' => ∃ v, e = .returned (.agg #[v, .int .u64 (setN (hld (wt d) ls K) : Nat)]) ∧ Below W.heap.size W w' from by
        refine (seatingOf_calls a n c ls K d W (h.below hW) h3.1 (digB_len71 (hall.2 d hd)) (hK.below hW h0) (by omega) (by omega)).mono ?_
        rintro e w' ⟨v, rfl, -, hb⟩
        exact ⟨v, by rw [hld_set], hb⟩))
      have HDS := hide (fun (W : World) (hW : Below w.heap.size w W) => hs.below hW)
      have HLS := hide (fun (W : World) (hW : Below w.heap.size w W) => h.below hW)
      have HRG := hide (okIds_facts ls 0 (by decide) h3.1).2
      have hnb := h.bn
      have HLN := hide h.len
      have HDN := hide hs.len
      have hd200 := hall.1
      rw [hs.len] at hd200
      clear h hs hb h1 h2 h3 hk hall hK
      go_enter Tryd.func17, Tryd.ntmps17
      go_wp2_with fail
      refine (unhide HD).mono ?_
      rintro e w1 ⟨mv, rfl, hb1⟩
      have HB1 := hide hb1
      clear hb1
      go_wp2_with fail
      refine (unhide HI _ (unhide HB1)).mono ?_
      rintro e w2 ⟨rfl, hb2⟩
      obtain ⟨W3, hW3⟩ : ∃ W3, W3 = w2.alloc (.cells #[.slice a n c, .int .i64 K] 50) := ⟨_, rfl⟩
      have HB3 := hide (show Below w.heap.size w W3 from by rw [hW3]; exact belOnD (belOnD (unhide HB1) hb2) (bel1D _ _))
      have hl3 : w2.heap.size < W3.heap.size := by rw [hW3]; simp
      have q0 : W3.cell? ⟨w2.heap.size, 0, none⟩ = some (.slice a n c) := by rw [hW3]; simp [go_sem]
      have q1 : W3.cell? ⟨w2.heap.size, 1, none⟩ = some (.int .i64 K) := by rw [hW3]; simp [go_sem]
      have HQ := hide (fun (W : World) (hW : Below W3.heap.size W3 W) => And.intro (bclW hW hl3 q0) (bclW hW hl3 q1))
      have hmk : (Instr.makeSlice 22 (.int .i64 n) (.int .i64 n)).run Tryd.prog W3 = _ := make_row i64E n W3 (by omega)
      have HO0 := hide (own_made i64E 0 rfl n W3 (by omega))
      have HB4 := hide (bel1D W3 (.cells (madeCells i64E.zero.cells (n * i64E.n)) i64E.E))
      obtain ⟨W4, hW4⟩ : ∃ W4, W4 = W3.alloc (.cells (madeCells i64E.zero.cells (n * i64E.n)) i64E.E) := ⟨_, rfl⟩
      rw [← hW4] at hmk HO0 HB4
      have hmk1 : (Instr.makeSlice 22 (.int .i64 n) (.int .i64 n)).run Tryd.prog (w2.alloc (.cells #[.slice a n c, .int .i64 K] 50)) = .ok (.slice (some ⟨W3.heap.size, 0, none⟩) n n) W4 := by rw [← hW3]; exact hmk
      clear hmk
      have HW3 := hide hW3.symm
      have hz3 := (unhide HB3).size
      clear hb2 q0 q1 hW3 hW4 HB1 HD HI
      go_wp2_with fail
      clear hmk1 HW3
      have HZ := hide (show List.replicate n (0 : Int) = ldsL ls K (ds.take 0) from by
        rw [List.take_zero]
        unfold ldsL cntL
        rw [← unhide HLN]
        simpa using rep_map ls)
      rw [unhide HZ] at HO0
      go_loopw [40] (fun s40 wq => ∃ (m : Nat), s40 = .int .i64 m ∧ m ≤ nd ∧ W3.heap.size < wq.heap.size ∧ Hid (OwnR i64E wq W3.heap.size (.slice (some ⟨W3.heap.size, 0, none⟩) n n) (ldsL ls K (ds.take m))) ∧ Hid (Below W3.heap.size W3 wq)) (fun s40 _ => nd - (intOf s40).toNat)
      case atStart => exact ⟨0, rfl, by omega, (unhide HO0).lt _ rfl, HO0, HB4⟩
      case round =>
        clear HO0 HB4 HZ
        obtain ⟨m, rfl, hm, hz, HO, HB⟩ := hrel
        have HBW := hide (belOnD (unhide HB3) (unhide HB))
        by_cases hmn : m < nd
        · have hml : m < ds.length := by rw [unhide HDN]; exact hmn
          obtain ⟨gd, e1, l1, p0, -⟩ := (unhide HDS wr (unhide HBW)).row.str m hml
          obtain ⟨q0, q1⟩ := unhide HQ wr (unhide HB)
          have HHD := hide (unhide HSE wr (unhide HBW) ds[m] (by simp))
          have HST := hide (fun (j : Nat) (hj : j < ls.length) (hA : j < (ldsL ls K (ds.take m)).length) (hB : j < (ldsL ls K (ds.take (m + 1))).length) => (show (ldsL ls K (ds.take (m + 1)))[j] = (ldsL ls K (ds.take m))[j] + (if ls[j] ∈ hld (wt ds[m]) ls K then 1 else 0) from ldsL_step ls K ds m hml j hj))
          have hAl : (ldsL ls K (ds.take m)).length = n := by rw [ldsL_len]; exact unhide HLN
          have hBl : (ldsL ls K (ds.take (m + 1))).length = n := by rw [ldsL_len]; exact unhide HLN
          have HAB := hide (fun (z : Int) (hz : z ∈ ldsL ls K (ds.take m)) => (show 0 ≤ z ∧ z ≤ 200 from by
            have h1 := ldsL_bound ls K (ds.take m) z hz
            rw [List.length_take] at h1
            have := unhide HDN
            omega))
          generalize ds[m] = d at p0 HHD HST
          generalize hld (wt d) ls K = H at HHD HST
          generalize ldsL ls K (ds.take m) = A at HO HST hAl HAB
          generalize hBB : ldsL ls K (ds.take (m + 1)) = B at HST hBl
          have HBB := hide hBB
          have HAL := hide hAl
          have HBL := hide hBl
          subst e1
          have i0 : (0 : Int) ≤ (m : Int) := by omega
          have i1 : (m : Int) < (nd : Int) := by omega
          clear hBB hAl hBl
          go_wp2_with fail
          refine (unhide HHD).mono ?_
          rintro e w3 ⟨v, rfl, hb3⟩
          have HO3 := hide ((unhide HO).keep hb3)
          have HB3' := hide ((unhide HB).trans (hb3.mono (Nat.le_of_lt hz)))
          have hz3' : W3.heap.size < w3.heap.size := Nat.lt_of_lt_of_le hz hb3.size
          have hfd := field_seat v (setN H)
          clear hb3 HHD p0 HO HB HBW q0 q1
          go_wp2_with fail
          clear hfd
          go_loopw [50] (fun s50 wq => ∃ (j : Nat), s50 = .int .i64 j ∧ j ≤ n ∧ W3.heap.size < wq.heap.size ∧ Hid (OwnR i64E wq W3.heap.size (.slice (some ⟨W3.heap.size, 0, none⟩) n n) (mixL A B j)) ∧ Hid (Below W3.heap.size W3 wq)) (fun s50 _ => n - (intOf s50).toNat)
          case atStart => exact ⟨0, rfl, by omega, hz3', hide (by rw [mixL_zero]; exact unhide HO3), HB3'⟩
          case round =>
            clear HO3 HB3' hz3' hz
            obtain ⟨j, rfl, hj, hzj, HOj, HBj⟩ := hrel
            by_cases hjn : j < n
            · have hjl : j < ls.length := by rw [unhide HLN]; exact hjn
              have hjA : j < A.length := by rw [unhide HAL]; exact hjn
              have hjB : j < B.length := by rw [unhide HBL]; exact hjn
              have hAB : A.length = B.length := by rw [unhide HAL, unhide HBL]
              obtain ⟨gn, e2, l2, pn, -⟩ := (unhide HLS wr (belOnD (unhide HB3) (unhide HBj))).row.ix j hjl
              have hst := unhide HST j hjl hjA hjB
              have hml := mixL_len A B j hAB (Nat.le_of_lt hjA)
              rw [unhide HAL] at hml
              obtain ⟨pc, pf⟩ := ownCell (unhide HOj) j (mixL_get A B j hAB hjA)
              have hbd := unhide HAB A[j] (by simp)
              have hrg := unhide HRG ls[j] (by simp)
              have HSET := hide (fun (y : Int) (hy : B[j] = y) => (show OwnR i64E (wr.setCell ⟨W3.heap.size, j, none⟩ (.int .i64 y)) W3.heap.size (.slice (some ⟨W3.heap.size, 0, none⟩) n n) (mixL A B (j + 1)) from by
                have := ownSet1 (unhide HOj) hml j (by omega) y
                rwa [mixL_set A B j hAB hjA y hy] at this))
              have HSAM := hide (fun (hy : B[j] = A[j]) => mixL_same A B j hAB hjA hy)
              have HBS := hide (fun (y : Int) => (unhide HBj).setCell (p := ⟨W3.heap.size, j, none⟩) (Nat.le_refl _) (.int .i64 y))
              generalize ls[j] = x at pn hst hrg
              have HIN := hide (has_calls H x wr (by omega) (by omega))
              generalize setN H = SH at HIN
              generalize A[j] = aj at pc hst HSAM hbd
              generalize B[j] = bj at hst HSET HSAM
              subst e2
              have j0 : (0 : Int) ≤ (j : Int) := by omega
              have j1 : (j : Int) < (n : Int) := by omega
              have hwr : IntKind.i64.wrap (aj + 1) = aj + 1 := by rw [IntKind.wrap_i64]; omega
              cases hx : decide (x ∈ H) with
              | true =>
                rw [hx] at HIN
                rw [if_pos (by simpa using hx)] at hst
                have HS2 := hide (unhide HSET (aj + 1) hst)
                have HB2 := hide (unhide HBS (aj + 1))
                clear hx hst HSET HSAM HBS HOj
                go_wp2_with fail
                refine (unhide HIN).mono ?_
                rintro e w9 ⟨rfl, rfl⟩
                go_wp2_with fail
                go_roundw
                case rel => exact ⟨j + 1, by go_num, by omega, by simpa using hzj, HS2, HB2⟩
                case measure => simp [intOf]; omega
              | false =>
                rw [hx] at HIN
                rw [if_neg (by simpa using hx), Int.add_zero] at hst
                have HS2 := hide (unhide HSAM hst)
                clear hx hst HSET HSAM HBS
                go_wp2_with fail
                refine (unhide HIN).mono ?_
                rintro e w9 ⟨rfl, rfl⟩
                go_wp2_with fail
                go_roundw
                case rel => exact ⟨j + 1, by go_num, by omega, hzj, hide (by rw [← unhide HS2]; exact unhide HOj), HBj⟩
                case measure => simp [intOf]; omega
            · obtain rfl : j = n := by omega
              have HOE := hide (show OwnR i64E wr W3.heap.size (.slice (some ⟨W3.heap.size, 0, none⟩) j j) (ldsL ls K (ds.take (m + 1))) from by
                have h1 := mixL_end A B (by rw [unhide HAL, unhide HBL])
                rw [unhide HBL] at h1
                have h2 := unhide HOj
                rw [h1] at h2
                rw [unhide HBB]
                exact h2)
              clear HOj
              go_wp2_with fail
              go_roundw
              case rel => exact ⟨m + 1, by go_num, by omega, hzj, HOE, HBj⟩
              case measure => simp [intOf]; omega
        · obtain rfl : m = nd := by omega
          rw [List.take_of_length_le (by rw [unhide HDN]; exact Nat.le_refl _)] at HO
          go_wp2_with fail
          exact bodyPost_ret (v := .tuple #[.slice (some ⟨W3.heap.size, 0, none⟩) n n, .bool true]) (by simp [results, Tryd.results17, go_sem]) rfl ⟨_, rfl, (unhide HO).le hz3, unhide HBW⟩
end Go.Proofs.YtbcfejplaffbnaaDoor
