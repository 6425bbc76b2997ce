/- Texts of one kind, put together. -/
import Derived.Test.YtdmkephnpmglkaaGreatDoorRzM

/- What moves, by the specification. -/
namespace Go.Proofs.YtdmkephnpmglkaaGreatDoor
open Go.RowKit Plain
set_option linter.unusedVariables false

set_option maxRecDepth 10000 in
set_option maxHeartbeats 8000000 in
theorem spec_Moves0 (ad : Option Addr) (nd cd : Nat) (ds : List ByteArray) (a1 : Option Addr) (c1 : Nat) (bs : List Int) (a2 : Option Addr) (n2 c2 : Nat) (zs : List Int) (k : Int) (w : World) (hs : TxtsAt w ad nd ds) (h1 : IntsAt w a1 0 bs) (h2 : IntsAt w a2 n2 zs) :
    Calls Tryz.prog 6 #[.slice ad nd cd, .slice a1 0 c1, .slice a2 n2 c2, .int .i64 k] w fun e w' => ∃ v, e = .returned (.tuple #[v, .bool (mvB ds bs zs k)]) ∧ OwnR cpyE w' w.heap.size v (mvL ds bs zs k) ∧ Below w.heap.size w w' := by
  obtain ⟨W0, hW0⟩ : ∃ W0, W0 = w.alloc (.cells #[] 32) := ⟨_, rfl⟩
  have HB0 := hide (show Below w.heap.size w W0 from by rw [hW0]; exact bel1D _ _)
  have HO0 := hide (show OwnR cpyE W0 w.heap.size (.slice (some ⟨w.heap.size, 0, none⟩) 0 0) [] from by rw [hW0]; exact ownR_empty cpyE w w.heap.size (Nat.le_refl _))
  have HD := hide (l7Set_calls ad nd cd ds W0 (hs.below (unhide HB0)))
  have HI1 := hide (fun (W : World) (hW : Below w.heap.size w W) => l9Ids_calls a1 0 c1 bs 50 W (h1.below hW) (by decide))
  have HI2 := hide (fun (W : World) (hW : Below w.heap.size w W) => l9Ids_calls a2 n2 c2 zs 50 W (h2.below hW) (by decide))
  rw [ids50 0 bs h1.len] at HI1
  rw [ids50 n2 zs h2.len] at HI2
  have HN := hide (fun W => l1In_calls k 1 7 W)
  rw [show (decide (1 ≤ k) && decide (k ≤ 7)) = kB k from rfl] at HN
  have HW0 := hide hW0.symm
  clear hW0
  cases q1 : setB ds with
  | false =>
    have hb : mvB ds bs zs k = false := by unfold mvB; simp [q1]
    rw [hb, mvL_no hb]
    rw [q1] at HD
    clear h1 h2 hs hb q1
    go_enter Tryz.func6, Tryz.ntmps6
    go_wp2_with fail
    rw [unhide HW0]
    refine (unhide HD).mono ?_
    rintro e w1 ⟨rfl, hb1⟩
    have HB1 := hide (belOnD (unhide HB0) hb1)
    have HO1 := hide ((unhide HO0).keep hb1)
    clear hb1
    go_wp2_with fail
    exact bodyPost_ret (v := .tuple #[_, .bool false]) (by simp [results, Tryz.results6, go_sem]) rfl ⟨_, rfl, unhide HO1, unhide HB1⟩
  | true =>
    rw [q1] at HD
    cases q2 : okIds 0 bs with
    | false =>
      have hb : mvB ds bs zs k = false := by unfold mvB; simp [q2]
      rw [hb, mvL_no hb]
      rw [q2] at HI1
      clear h1 h2 hs hb q1 q2
      go_enter Tryz.func6, Tryz.ntmps6
      go_wp2_with fail
      rw [unhide HW0]
      refine (unhide HD).mono ?_
      rintro e w1 ⟨rfl, hb1⟩
      have HB1 := hide (belOnD (unhide HB0) hb1)
      have HO1 := hide ((unhide HO0).keep hb1)
      clear hb1
      go_wp2_with fail
      refine (unhide HI1 _ (unhide HB1)).mono ?_
      rintro e w2 ⟨rfl, hb2⟩
      have HB2 := hide (belOnD (unhide HB1) hb2)
      have HO2 := hide ((unhide HO1).keep hb2)
      clear hb2
      go_wp2_with fail
      exact bodyPost_ret (v := .tuple #[_, .bool false]) (by simp [results, Tryz.results6, go_sem]) rfl ⟨_, rfl, unhide HO2, unhide HB2⟩
    | true =>
      rw [q2] at HI1
      cases q3 : okIds 0 zs with
      | false =>
        have hb : mvB ds bs zs k = false := by unfold mvB; simp [q3]
        rw [hb, mvL_no hb]
        rw [q3] at HI2
        clear h1 h2 hs hb q1 q2 q3
        go_enter Tryz.func6, Tryz.ntmps6
        go_wp2_with fail
        rw [unhide HW0]
        refine (unhide HD).mono ?_
        rintro e w1 ⟨rfl, hb1⟩
        have HB1 := hide (belOnD (unhide HB0) hb1)
        have HO1 := hide ((unhide HO0).keep hb1)
        clear hb1
        go_wp2_with fail
        refine (unhide HI1 _ (unhide HB1)).mono ?_
        rintro e w2 ⟨rfl, hb2⟩
        have HB2 := hide (belOnD (unhide HB1) hb2)
        have HO2 := hide ((unhide HO1).keep hb2)
        clear hb2
        go_wp2_with fail
        refine (unhide HI2 _ (unhide HB2)).mono ?_
        rintro e w3 ⟨rfl, hb3⟩
        have HB3 := hide (belOnD (unhide HB2) hb3)
        have HO3 := hide ((unhide HO2).keep hb3)
        clear hb3
        go_wp2_with fail
        exact bodyPost_ret (v := .tuple #[_, .bool false]) (by simp [results, Tryz.results6, go_sem]) rfl ⟨_, rfl, unhide HO3, unhide HB3⟩
      | true =>
        rw [q3] at HI2
        cases q4 : kB k with
        | false =>
          have hb : mvB ds bs zs k = false := by unfold mvB; simp [q4]
          rw [hb, mvL_no hb]
          rw [q4] at HN
          clear h1 h2 hs hb q1 q2 q3 q4
          go_enter Tryz.func6, Tryz.ntmps6
          go_wp2_with fail
          rw [unhide HW0]
          refine (unhide HD).mono ?_
          rintro e w1 ⟨rfl, hb1⟩
          have HB1 := hide (belOnD (unhide HB0) hb1)
          have HO1 := hide ((unhide HO0).keep hb1)
          clear hb1
          go_wp2_with fail
          refine (unhide HI1 _ (unhide HB1)).mono ?_
          rintro e w2 ⟨rfl, hb2⟩
          have HB2 := hide (belOnD (unhide HB1) hb2)
          have HO2 := hide ((unhide HO1).keep hb2)
          clear hb2
          go_wp2_with fail
          refine (unhide HI2 _ (unhide HB2)).mono ?_
          rintro e w3 ⟨rfl, hb3⟩
          have HB3 := hide (belOnD (unhide HB2) hb3)
          have HO3 := hide ((unhide HO2).keep hb3)
          clear hb3
          go_wp2_with fail
          refine (unhide HN _).mono ?_
          rintro e w9 ⟨rfl, rfl⟩
          go_wp2_with fail
          exact bodyPost_ret (v := .tuple #[_, .bool false]) (by simp [results, Tryz.results6, go_sem]) rfl ⟨_, rfl, unhide HO3, unhide HB3⟩
        | true =>
          rw [q4] at HN
          have hb : mvB ds bs zs k = true := by unfold mvB; rw [q1, q2, q3, q4]; rfl
          rw [hb, mvL_yes hb]
          have hk := (kB_iff k).1 q4
          obtain ⟨K, rfl⟩ := Int.eq_ofNat_of_zero_le (show 0 ≤ k by omega)
          rw [Int.toNat_natCast]
          have hall := setB_all q1
          have HH1 := hide (fun (W : World) (hW : Below w.heap.size w W) (d : ByteArray) (hd : d ∈ ds) => l13Holders_calls d a1 0 c1 bs K W (h1.below hW) q2 (digB_len71 (hall.2 d hd)) (by omega) (by omega))
          have HH2 := hide (fun (W : World) (hW : Below w.heap.size w W) (d : ByteArray) (hd : d ∈ ds) => l13Holders_calls d a2 n2 c2 zs K W (h2.below hW) q3 (digB_len71 (hall.2 d hd)) (by omega) (by omega))
          have HRK := hide (fun (W : World) (hW : Below w.heap.size w W) (d : ByteArray) (hd : d ∈ ds) => l13Ranked_calls d a1 0 c1 bs W (h1.below hW) q2 (digB_len71 (hall.2 d hd)))
          have HDS := hide (fun (W : World) (hW : Below w.heap.size w W) => hs.below hW)
          have h50 := okIds_len zs 0 (by decide) q3
          have HMV := hide (fun (l : List ByteArray) (hl : l.length ≤ 200) => (show (mvs bs zs K l).length ≤ 10000 from by have := mvs_len bs zs K (by omega) l; omega))
          have HFR := hide (fun (d : ByteArray) => (show frm (wt d) bs = (rk (wt d) bs).headD 0 from rfl))
          have HRL := hide (fun (d : ByteArray) => (show (rk (wt d) bs).length = 0 from by rw [rk_len]; exact h1.len))
          have HAL := hide h2.len
          have HBL := hide h1.len
          have HDN := hide hs.len
          have hn1 := h1.bn
          have hd200 := hall.1
          rw [hs.len] at hd200
          rw [h2.len] at h50
          clear h1 h2 hs hb q1 q2 q3 q4 hk hall
          go_enter Tryz.func6, Tryz.ntmps6
          go_wp2_with fail
          rw [unhide HW0]
          refine (unhide HD).mono ?_
          rintro e w1 ⟨rfl, hb1⟩
          have HB1 := hide (belOnD (unhide HB0) hb1)
          have HO1 := hide ((unhide HO0).keep hb1)
          clear hb1
          go_wp2_with fail
          refine (unhide HI1 _ (unhide HB1)).mono ?_
          rintro e w2 ⟨rfl, hb2⟩
          have HB2 := hide (belOnD (unhide HB1) hb2)
          have HO2 := hide ((unhide HO1).keep hb2)
          clear hb2
          go_wp2_with fail
          refine (unhide HI2 _ (unhide HB2)).mono ?_
          rintro e w3 ⟨rfl, hb3⟩
          have HB3 := hide (belOnD (unhide HB2) hb3)
          have HO3 := hide ((unhide HO2).keep hb3)
          clear hb3
          go_wp2_with fail
          refine (unhide HN _).mono ?_
          rintro e w9 ⟨rfl, rfl⟩
          go_wp2_with fail
          clear HB0 HO0 HB1 HO1 HB2 HO2 HD HI1 HI2 HN HW0
          go_loopw [10, 11] (fun s10 s11 wr => ∃ (m : Nat), s11 = .int .i64 m ∧ m ≤ nd ∧ w.heap.size ≤ wr.heap.size ∧ Hid (OwnR cpyE wr w.heap.size s10 (mvs bs zs K (ds.take m))) ∧ Hid (Below w.heap.size w wr)) (fun _ s11 _ => nd - (intOf s11).toNat)
          case atStart => exact ⟨0, rfl, by omega, (unhide HB3).size, HO3, HB3⟩
          case round =>
            clear HO3 HB3
            obtain ⟨m, rfl, hm, hz, HO, HB⟩ := hrel
            obtain ⟨a8, c8, hv8⟩ := (unhide HO).form
            have hPl := unhide HMV (ds.take m) (by rw [List.length_take]; have := unhide HDN; omega)
            obtain ⟨np, hnp⟩ : ∃ np, (mvs bs zs K (ds.take m)).length = np := ⟨_, rfl⟩
            rw [hnp] at hv8 hPl
            subst hv8
            by_cases hmn : m < nd
            · have hml : m < ds.length := by rw [unhide HDN]; exact hmn
              have HCD := hide (fun (W : World) (hW : Below w.heap.size w W) => (unhide HDS W hW).row.str m hml)
              have HST := hide (mvs_take bs zs K ds m hml)
              have HG1 := hide (fun (W : World) (hW : Below w.heap.size w W) => unhide HH1 W hW ds[m] (by simp))
              have HG2 := hide (fun (W : World) (hW : Below w.heap.size w W) => unhide HH2 W hW ds[m] (by simp))
              have HG3 := hide (fun (W : World) (hW : Below w.heap.size w W) => unhide HRK W hW ds[m] (by simp))
              have HOL := hide (show (hld (wt ds[m]) bs K).length ≤ 0 from by rw [← unhide HBL]; exact hld_len _ _ _)
              have HHL := hide (show (hld (wt ds[m]) zs K).length ≤ n2 from by rw [← unhide HAL]; exact hld_len _ _ _)
              generalize ds[m] = d at HCD HST HG1 HG2 HG3 HHL HOL
              have HFD := hide (unhide HFR d)
              have HRD := hide (unhide HRL d)
              obtain ⟨gd, e1, l1, p0, -⟩ := unhide HCD wr (unhide HB)
              subst e1
              have HCC := hide (fun (W : World) (hW : Below w.heap.size w W) => (show W.cell? ⟨gd, m, none⟩ = some (.string d) from by
                obtain ⟨g', e1, -, p0', -⟩ := unhide HCD W hW
                cases e1
                exact p0'))
              unfold mv1 cmr at HST
              generalize wt d = f at HST HG1 HG2 HG3 HHL HFD HRD HOL
              generalize hld f bs K = old at HST HG1 HOL
              generalize hld f zs K = now at HST HG2 HHL
              generalize frm f bs = fr at HST HFD
              generalize rk f bs = rs at HG3 HFD HRD
              generalize hP : mvs bs zs K (ds.take m) = P at HO HST hnp
              have HNP := hide hnp
              have i0 : (0 : Int) ≤ (m : Int) := by omega
              have i1 : (m : Int) < (nd : Int) := by omega
              clear hP hnp HCD
              go_wp2_with fail
              refine (unhide HG1 wr (unhide HB)).mono ?_
              rintro e w4 ⟨vO, rfl, oO, hb4⟩
              obtain ⟨aO, cO, hvO⟩ := oO.form
              obtain ⟨nO, hnO⟩ : ∃ nO, old.length = nO := ⟨_, rfl⟩
              rw [hnO] at hvO
              subst hvO
              have HB4 := hide ((unhide HB).trans (hb4.mono hz))
              have HO4 := hide ((unhide HO).keep hb4)
              have HR4 := hide (oO.le hz)
              have hz4 : w.heap.size ≤ w4.heap.size := Nat.le_trans hz hb4.size
              have p4 := unhide HCC w4 (unhide HB4)
              have HNO := hide hnO
              clear oO hb4 HO HB p0 hnO HG1
              go_wp2_with fail
              refine (unhide HG2 w4 (unhide HB4)).mono ?_
              rintro e w5 ⟨vN, rfl, oN, hb5⟩
              obtain ⟨aN, cN, hvN⟩ := oN.form
              obtain ⟨nN, hnN⟩ : ∃ nN, now.length = nN := ⟨_, rfl⟩
              rw [hnN] at hvN
              subst hvN
              have HB5 := hide ((unhide HB4).trans (hb5.mono hz4))
              have HO5 := hide ((unhide HO4).keep hb5)
              have HR5 := hide ((unhide HR4).keep hb5)
              have HW5 := hide (oN.le hz4)
              have hz5 : w.heap.size ≤ w5.heap.size := Nat.le_trans hz4 hb5.size
              have p5 := unhide HCC w5 (unhide HB5)
              have HNN := hide hnN
              have hNl : nN ≤ n2 := by have := unhide HHL; rw [hnN] at this; exact this
              clear oN hb5 HO4 HR4 HB4 p4 hnN HG2 HHL
              have HFZ := hide (show fr = 0 from by
                rw [unhide HFD]
                cases rs with
                | nil => rfl
                | cons x r => have := unhide HRD; simp at this)
              rw [unhide HFZ] at HST
              go_wp2_with fail
              go_loopw [10, 15] (fun s10 s15 wq => ∃ (j : Nat), s15 = .int .i64 j ∧ j ≤ nN ∧ w.heap.size ≤ wq.heap.size ∧ Hid (OwnR cpyE wq w.heap.size s10 (P ++ ((now.take j).filter fun x => !decide (x ∈ old)).map (mkC3 d 0))) ∧ Hid (OwnR i64E wq w.heap.size (.slice aO nO cO) old) ∧ Hid (OwnR i64E wq w.heap.size (.slice aN nN cN) now) ∧ Hid (Below w.heap.size w wq)) (fun _ s15 _ => nN - (intOf s15).toNat)
              case atStart => exact ⟨0, rfl, by omega, hz5, hide (by simpa using unhide HO5), HR5, HW5, HB5⟩
              case round =>
                clear HO5 HR5 HW5 HB5 hz5
                obtain ⟨j, rfl, hj, hzj, HOj, HRj, HWj, HBj⟩ := hrel
                have hQl : (((now.take j).filter fun x => !decide (x ∈ old)).map (mkC3 d 0)).length ≤ j := by rw [List.length_map]; exact Nat.le_trans (List.length_filter_le _ _) (by rw [List.length_take]; omega)
                obtain ⟨q, hq⟩ : ∃ q, (P ++ ((now.take j).filter fun x => !decide (x ∈ old)).map (mkC3 d 0)).length = q := ⟨_, rfl⟩
                have hqb : q ≤ 10100 := by rw [← hq, List.length_append, unhide HNP]; omega
                obtain ⟨ax, cx, hvx⟩ := (unhide HOj).form
                rw [hq] at hvx
                subst hvx
                by_cases hjn : j < nN
                · have hjl : j < now.length := by rw [unhide HNN]; exact hjn
                  obtain ⟨gn, e7, l7, p7, -⟩ := (unhide HWj).at.ix j hjl
                  have HFT := hide (filt_take (fun x => !decide (x ∈ old)) now j hjl)
                  have p8 := unhide HCC wr (unhide HBj)
                  generalize now[j] = x at p7 HFT
                  have HIN := hide (l1Ints_calls aO nO cO old x wr ⟨(unhide HRj).at, unhide HNO, by have := unhide HOL; have := unhide HNO; omega⟩)
                  subst e7
                  have j0 : (0 : Int) ≤ (j : Int) := by omega
                  have j1 : (j : Int) < (nN : Int) := by omega
                  cases hx : decide (x ∈ old) with
                  | true =>
                    rw [hx] at HIN
                    have HE := hide (show (now.take (j + 1)).filter (fun x => !decide (x ∈ old)) = (now.take j).filter fun x => !decide (x ∈ old) from by rw [unhide HFT, hx]; simp)
                    clear hx HFT hq
                    go_wp2_with fail
                    refine (unhide HIN).mono ?_
                    rintro e w9 ⟨rfl, rfl⟩
                    go_wp2_with fail
                    go_roundw
                    case rel => exact ⟨j + 1, by go_num, by omega, hzj, hide (by rw [unhide HE]; exact unhide HOj), HRj, HWj, HBj⟩
                    case measure => simp [intOf]; omega
                  | false =>
                    rw [hx] at HIN
                    have HE := hide (show P ++ ((now.take (j + 1)).filter fun x => !decide (x ∈ old)).map (mkC3 d 0) = (P ++ ((now.take j).filter fun x => !decide (x ∈ old)).map (mkC3 d 0)) ++ [(⟨d, 0, x⟩ : Cpy)] from by rw [unhide HFT, hx, List.append_assoc]; simp [mkC3])
                    generalize P ++ ((now.take j).filter fun x => !decide (x ∈ old)).map (mkC3 d 0) = Q at HOj HE hq
                    have HQ := hide (show (Q ++ [(⟨d, 0, x⟩ : Cpy)]).length = q + 1 from by rw [List.length_append, hq]; rfl)
                    have hlen : Q.length < 100000000 := by omega
                    have HOd := hide (show OwnR cpyE wr.drew w.heap.size (.slice ax q cx) Q from unhide HOj)
                    have HRd := hide (show OwnR i64E wr.drew w.heap.size (.slice aO nO cO) old from unhide HRj)
                    have HWd := hide (show OwnR i64E wr.drew w.heap.size (.slice (some ⟨gn, 0, none⟩) nN cN) now from unhide HWj)
                    have hzd : w.heap.size ≤ wr.drew.heap.size := hzj
                    clear hx HFT hq HOj
                    go_wp2_with fail
                    refine (unhide HIN).mono ?_
                    rintro e w9 ⟨rfl, rfl⟩
                    go_wp2_with fail
                    go_region_law (refine stepGG (e := cpyE) rfl _ _ rfl (w := wr.drew) (unhide HOd) (by simp [Act.eval]) (⟨d, 0, x⟩ : Cpy) rfl _ (by simp [Act.eval]) rfl hlen hzd ?_; intro v' w6 hown6 hb6 hg6; obtain ⟨av', cv', hv'⟩ := hown6.form; rw [unhide HQ] at hv'; subst hv')
                    all_goals (try go_wp2_with fail)
                    all_goals go_roundw
                    all_goals first
                      | exact ⟨j + 1, by go_num, by omega, by have := hb6.size; exact Nat.le_trans hzj this, hide (by rw [unhide HE]; exact hown6), hide ((unhide HRd).beside (unhide HOd) (by decide) hg6), hide ((unhide HWd).beside (unhide HOd) (by decide) hg6), hide ((unhide HBj).drew.trans hb6)⟩
                      | (simp [intOf]; omega)
                · obtain rfl : j = nN := by omega
                  have HOE := hide (show OwnR cpyE wr w.heap.size (.slice ax q cx) (mvs bs zs K (ds.take (m + 1))) from by
                    have h3 := unhide HOj
                    rw [List.take_of_length_le (by rw [unhide HNN]; exact Nat.le_refl _)] at h3
                    rw [unhide HST]
                    exact h3)
                  clear HOj hq
                  go_wp2_with fail
                  go_roundw
                  case rel => exact ⟨m + 1, by go_num, by omega, hzj, HOE, HBj⟩
                  case measure => simp [intOf]; omega
            · obtain rfl : m = nd := by omega
              rw [List.take_of_length_le (by rw [unhide HDN]; exact Nat.le_refl _)] at HO
              go_wp2_with fail
              exact bodyPost_ret (v := .tuple #[.slice a8 np c8, .bool true]) (by simp [results, Tryz.results6, go_sem]) rfl ⟨_, rfl, unhide HO, unhide HB⟩

end Go.Proofs.YtdmkephnpmglkaaGreatDoor


/- What moves, by the specification. -/
namespace Go.Proofs.YtdmkephnpmglkaaGreatDoor
open Go.RowKit Plain
set_option linter.unusedVariables false

set_option maxRecDepth 10000 in
set_option maxHeartbeats 8000000 in
theorem spec_Moves1 (ad : Option Addr) (nd cd : Nat) (ds : List ByteArray) (a1 : Option Addr) (n1 c1 : Nat) (bs : List Int) (a2 : Option Addr) (n2 c2 : Nat) (zs : List Int) (k : Int) (w : World) (hs : TxtsAt w ad nd ds) (h1 : IntsAt w a1 n1 bs) (h2 : IntsAt w a2 n2 zs) (hn0 : ¬ n1 = 0) :
    Calls Tryz.prog 6 #[.slice ad nd cd, .slice a1 n1 c1, .slice a2 n2 c2, .int .i64 k] w fun e w' => ∃ v, e = .returned (.tuple #[v, .bool (mvB ds bs zs k)]) ∧ OwnR cpyE w' w.heap.size v (mvL ds bs zs k) ∧ Below w.heap.size w w' := by
  obtain ⟨W0, hW0⟩ : ∃ W0, W0 = w.alloc (.cells #[] 32) := ⟨_, rfl⟩
  have HB0 := hide (show Below w.heap.size w W0 from by rw [hW0]; exact bel1D _ _)
  have HO0 := hide (show OwnR cpyE W0 w.heap.size (.slice (some ⟨w.heap.size, 0, none⟩) 0 0) [] from by rw [hW0]; exact ownR_empty cpyE w w.heap.size (Nat.le_refl _))
  have HD := hide (l7Set_calls ad nd cd ds W0 (hs.below (unhide HB0)))
  have HI1 := hide (fun (W : World) (hW : Below w.heap.size w W) => l9Ids_calls a1 n1 c1 bs 50 W (h1.below hW) (by decide))
  have HI2 := hide (fun (W : World) (hW : Below w.heap.size w W) => l9Ids_calls a2 n2 c2 zs 50 W (h2.below hW) (by decide))
  rw [ids50 n1 bs h1.len] at HI1
  rw [ids50 n2 zs h2.len] at HI2
  have HN := hide (fun W => l1In_calls k 1 7 W)
  rw [show (decide (1 ≤ k) && decide (k ≤ 7)) = kB k from rfl] at HN
  have HW0 := hide hW0.symm
  clear hW0
  cases q1 : setB ds with
  | false =>
    have hb : mvB ds bs zs k = false := by unfold mvB; simp [q1]
    rw [hb, mvL_no hb]
    rw [q1] at HD
    clear h1 h2 hs hb q1
    go_enter Tryz.func6, Tryz.ntmps6
    go_wp2_with fail
    rw [unhide HW0]
    refine (unhide HD).mono ?_
    rintro e w1 ⟨rfl, hb1⟩
    have HB1 := hide (belOnD (unhide HB0) hb1)
    have HO1 := hide ((unhide HO0).keep hb1)
    clear hb1
    go_wp2_with fail
    exact bodyPost_ret (v := .tuple #[_, .bool false]) (by simp [results, Tryz.results6, go_sem]) rfl ⟨_, rfl, unhide HO1, unhide HB1⟩
  | true =>
    rw [q1] at HD
    cases q2 : okIds 0 bs with
    | false =>
      have hb : mvB ds bs zs k = false := by unfold mvB; simp [q2]
      rw [hb, mvL_no hb]
      rw [q2] at HI1
      clear h1 h2 hs hb q1 q2
      go_enter Tryz.func6, Tryz.ntmps6
      go_wp2_with fail
      rw [unhide HW0]
      refine (unhide HD).mono ?_
      rintro e w1 ⟨rfl, hb1⟩
      have HB1 := hide (belOnD (unhide HB0) hb1)
      have HO1 := hide ((unhide HO0).keep hb1)
      clear hb1
      go_wp2_with fail
      refine (unhide HI1 _ (unhide HB1)).mono ?_
      rintro e w2 ⟨rfl, hb2⟩
      have HB2 := hide (belOnD (unhide HB1) hb2)
      have HO2 := hide ((unhide HO1).keep hb2)
      clear hb2
      go_wp2_with fail
      exact bodyPost_ret (v := .tuple #[_, .bool false]) (by simp [results, Tryz.results6, go_sem]) rfl ⟨_, rfl, unhide HO2, unhide HB2⟩
    | true =>
      rw [q2] at HI1
      cases q3 : okIds 0 zs with
      | false =>
        have hb : mvB ds bs zs k = false := by unfold mvB; simp [q3]
        rw [hb, mvL_no hb]
        rw [q3] at HI2
        clear h1 h2 hs hb q1 q2 q3
        go_enter Tryz.func6, Tryz.ntmps6
        go_wp2_with fail
        rw [unhide HW0]
        refine (unhide HD).mono ?_
        rintro e w1 ⟨rfl, hb1⟩
        have HB1 := hide (belOnD (unhide HB0) hb1)
        have HO1 := hide ((unhide HO0).keep hb1)
        clear hb1
        go_wp2_with fail
        refine (unhide HI1 _ (unhide HB1)).mono ?_
        rintro e w2 ⟨rfl, hb2⟩
        have HB2 := hide (belOnD (unhide HB1) hb2)
        have HO2 := hide ((unhide HO1).keep hb2)
        clear hb2
        go_wp2_with fail
        refine (unhide HI2 _ (unhide HB2)).mono ?_
        rintro e w3 ⟨rfl, hb3⟩
        have HB3 := hide (belOnD (unhide HB2) hb3)
        have HO3 := hide ((unhide HO2).keep hb3)
        clear hb3
        go_wp2_with fail
        exact bodyPost_ret (v := .tuple #[_, .bool false]) (by simp [results, Tryz.results6, go_sem]) rfl ⟨_, rfl, unhide HO3, unhide HB3⟩
      | true =>
        rw [q3] at HI2
        cases q4 : kB k with
        | false =>
          have hb : mvB ds bs zs k = false := by unfold mvB; simp [q4]
          rw [hb, mvL_no hb]
          rw [q4] at HN
          clear h1 h2 hs hb q1 q2 q3 q4
          go_enter Tryz.func6, Tryz.ntmps6
          go_wp2_with fail
          rw [unhide HW0]
          refine (unhide HD).mono ?_
          rintro e w1 ⟨rfl, hb1⟩
          have HB1 := hide (belOnD (unhide HB0) hb1)
          have HO1 := hide ((unhide HO0).keep hb1)
          clear hb1
          go_wp2_with fail
          refine (unhide HI1 _ (unhide HB1)).mono ?_
          rintro e w2 ⟨rfl, hb2⟩
          have HB2 := hide (belOnD (unhide HB1) hb2)
          have HO2 := hide ((unhide HO1).keep hb2)
          clear hb2
          go_wp2_with fail
          refine (unhide HI2 _ (unhide HB2)).mono ?_
          rintro e w3 ⟨rfl, hb3⟩
          have HB3 := hide (belOnD (unhide HB2) hb3)
          have HO3 := hide ((unhide HO2).keep hb3)
          clear hb3
          go_wp2_with fail
          refine (unhide HN _).mono ?_
          rintro e w9 ⟨rfl, rfl⟩
          go_wp2_with fail
          exact bodyPost_ret (v := .tuple #[_, .bool false]) (by simp [results, Tryz.results6, go_sem]) rfl ⟨_, rfl, unhide HO3, unhide HB3⟩
        | true =>
          rw [q4] at HN
          have hb : mvB ds bs zs k = true := by unfold mvB; rw [q1, q2, q3, q4]; rfl
          rw [hb, mvL_yes hb]
          have hk := (kB_iff k).1 q4
          obtain ⟨K, rfl⟩ := Int.eq_ofNat_of_zero_le (show 0 ≤ k by omega)
          rw [Int.toNat_natCast]
          have hall := setB_all q1
          have HH1 := hide (fun (W : World) (hW : Below w.heap.size w W) (d : ByteArray) (hd : d ∈ ds) => l13Holders_calls d a1 n1 c1 bs K W (h1.below hW) q2 (digB_len71 (hall.2 d hd)) (by omega) (by omega))
          have HH2 := hide (fun (W : World) (hW : Below w.heap.size w W) (d : ByteArray) (hd : d ∈ ds) => l13Holders_calls d a2 n2 c2 zs K W (h2.below hW) q3 (digB_len71 (hall.2 d hd)) (by omega) (by omega))
          have HRK := hide (fun (W : World) (hW : Below w.heap.size w W) (d : ByteArray) (hd : d ∈ ds) => l13Ranked_calls d a1 n1 c1 bs W (h1.below hW) q2 (digB_len71 (hall.2 d hd)))
          have HDS := hide (fun (W : World) (hW : Below w.heap.size w W) => hs.below hW)
          have h50 := okIds_len zs 0 (by decide) q3
          have HMV := hide (fun (l : List ByteArray) (hl : l.length ≤ 200) => (show (mvs bs zs K l).length ≤ 10000 from by have := mvs_len bs zs K (by omega) l; omega))
          have HFR := hide (fun (d : ByteArray) => (show frm (wt d) bs = (rk (wt d) bs).headD 0 from rfl))
          have HRL := hide (fun (d : ByteArray) => (show (rk (wt d) bs).length = n1 from by rw [rk_len]; exact h1.len))
          have HAL := hide h2.len
          have HBL := hide h1.len
          have HDN := hide hs.len
          have hn1 := h1.bn
          have hd200 := hall.1
          rw [hs.len] at hd200
          rw [h2.len] at h50
          clear h1 h2 hs hb q1 q2 q3 q4 hk hall
          go_enter Tryz.func6, Tryz.ntmps6
          go_wp2_with fail
          rw [unhide HW0]
          refine (unhide HD).mono ?_
          rintro e w1 ⟨rfl, hb1⟩
          have HB1 := hide (belOnD (unhide HB0) hb1)
          have HO1 := hide ((unhide HO0).keep hb1)
          clear hb1
          go_wp2_with fail
          refine (unhide HI1 _ (unhide HB1)).mono ?_
          rintro e w2 ⟨rfl, hb2⟩
          have HB2 := hide (belOnD (unhide HB1) hb2)
          have HO2 := hide ((unhide HO1).keep hb2)
          clear hb2
          go_wp2_with fail
          refine (unhide HI2 _ (unhide HB2)).mono ?_
          rintro e w3 ⟨rfl, hb3⟩
          have HB3 := hide (belOnD (unhide HB2) hb3)
          have HO3 := hide ((unhide HO2).keep hb3)
          clear hb3
          go_wp2_with fail
          refine (unhide HN _).mono ?_
          rintro e w9 ⟨rfl, rfl⟩
          go_wp2_with fail
          clear HB0 HO0 HB1 HO1 HB2 HO2 HD HI1 HI2 HN HW0
          go_loopw [10, 11] (fun s10 s11 wr => ∃ (m : Nat), s11 = .int .i64 m ∧ m ≤ nd ∧ w.heap.size ≤ wr.heap.size ∧ Hid (OwnR cpyE wr w.heap.size s10 (mvs bs zs K (ds.take m))) ∧ Hid (Below w.heap.size w wr)) (fun _ s11 _ => nd - (intOf s11).toNat)
          case atStart => exact ⟨0, rfl, by omega, (unhide HB3).size, HO3, HB3⟩
          case round =>
            clear HO3 HB3
            obtain ⟨m, rfl, hm, hz, HO, HB⟩ := hrel
            obtain ⟨a8, c8, hv8⟩ := (unhide HO).form
            have hPl := unhide HMV (ds.take m) (by rw [List.length_take]; have := unhide HDN; omega)
            obtain ⟨np, hnp⟩ : ∃ np, (mvs bs zs K (ds.take m)).length = np := ⟨_, rfl⟩
            rw [hnp] at hv8 hPl
            subst hv8
            by_cases hmn : m < nd
            · have hml : m < ds.length := by rw [unhide HDN]; exact hmn
              have HCD := hide (fun (W : World) (hW : Below w.heap.size w W) => (unhide HDS W hW).row.str m hml)
              have HST := hide (mvs_take bs zs K ds m hml)
              have HG1 := hide (fun (W : World) (hW : Below w.heap.size w W) => unhide HH1 W hW ds[m] (by simp))
              have HG2 := hide (fun (W : World) (hW : Below w.heap.size w W) => unhide HH2 W hW ds[m] (by simp))
              have HG3 := hide (fun (W : World) (hW : Below w.heap.size w W) => unhide HRK W hW ds[m] (by simp))
              have HOL := hide (show (hld (wt ds[m]) bs K).length ≤ n1 from by rw [← unhide HBL]; exact hld_len _ _ _)
              have HHL := hide (show (hld (wt ds[m]) zs K).length ≤ n2 from by rw [← unhide HAL]; exact hld_len _ _ _)
              generalize ds[m] = d at HCD HST HG1 HG2 HG3 HHL HOL
              have HFD := hide (unhide HFR d)
              have HRD := hide (unhide HRL d)
              obtain ⟨gd, e1, l1, p0, -⟩ := unhide HCD wr (unhide HB)
              subst e1
              have HCC := hide (fun (W : World) (hW : Below w.heap.size w W) => (show W.cell? ⟨gd, m, none⟩ = some (.string d) from by
                obtain ⟨g', e1, -, p0', -⟩ := unhide HCD W hW
                cases e1
                exact p0'))
              unfold mv1 cmr at HST
              generalize wt d = f at HST HG1 HG2 HG3 HHL HFD HRD HOL
              generalize hld f bs K = old at HST HG1 HOL
              generalize hld f zs K = now at HST HG2 HHL
              generalize frm f bs = fr at HST HFD
              generalize rk f bs = rs at HG3 HFD HRD
              generalize hP : mvs bs zs K (ds.take m) = P at HO HST hnp
              have HNP := hide hnp
              have i0 : (0 : Int) ≤ (m : Int) := by omega
              have i1 : (m : Int) < (nd : Int) := by omega
              clear hP hnp HCD
              go_wp2_with fail
              refine (unhide HG1 wr (unhide HB)).mono ?_
              rintro e w4 ⟨vO, rfl, oO, hb4⟩
              obtain ⟨aO, cO, hvO⟩ := oO.form
              obtain ⟨nO, hnO⟩ : ∃ nO, old.length = nO := ⟨_, rfl⟩
              rw [hnO] at hvO
              subst hvO
              have HB4 := hide ((unhide HB).trans (hb4.mono hz))
              have HO4 := hide ((unhide HO).keep hb4)
              have HR4 := hide (oO.le hz)
              have hz4 : w.heap.size ≤ w4.heap.size := Nat.le_trans hz hb4.size
              have p4 := unhide HCC w4 (unhide HB4)
              have HNO := hide hnO
              clear oO hb4 HO HB p0 hnO HG1
              go_wp2_with fail
              refine (unhide HG2 w4 (unhide HB4)).mono ?_
              rintro e w5 ⟨vN, rfl, oN, hb5⟩
              obtain ⟨aN, cN, hvN⟩ := oN.form
              obtain ⟨nN, hnN⟩ : ∃ nN, now.length = nN := ⟨_, rfl⟩
              rw [hnN] at hvN
              subst hvN
              have HB5 := hide ((unhide HB4).trans (hb5.mono hz4))
              have HO5 := hide ((unhide HO4).keep hb5)
              have HR5 := hide ((unhide HR4).keep hb5)
              have HW5 := hide (oN.le hz4)
              have hz5 : w.heap.size ≤ w5.heap.size := Nat.le_trans hz4 hb5.size
              have p5 := unhide HCC w5 (unhide HB5)
              have HNN := hide hnN
              have hNl : nN ≤ n2 := by have := unhide HHL; rw [hnN] at this; exact this
              clear oN hb5 HO4 HR4 HB4 p4 hnN HG2 HHL
              have hn0' : (0 : Int) < (n1 : Int) := by omega
              go_wp2_with fail
              refine (unhide HG3 w5 (unhide HB5)).mono ?_
              rintro e w6 ⟨vK, rfl, oK, hb6⟩
              obtain ⟨aK, cK, hvK⟩ := oK.form
              rw [unhide HRD] at hvK
              subst hvK
              have hr0 : 0 < rs.length := by rw [unhide HRD]; omega
              obtain ⟨gk, e6, l6, p6, -⟩ := oK.at.ix 0 hr0
              have HF0 := hide (show rs[0] = fr from by
                rw [unhide HFD]
                cases rs with
                | nil => simp at hr0
                | cons x r => rfl)
              rw [unhide HF0] at p6
              subst e6
              have HB6 := hide ((unhide HB5).trans (hb6.mono hz5))
              have HO6 := hide ((unhide HO5).keep hb6)
              have HR6 := hide ((unhide HR5).keep hb6)
              have HW6 := hide ((unhide HW5).keep hb6)
              have hz6 : w.heap.size ≤ w6.heap.size := Nat.le_trans hz5 hb6.size
              clear oK hb6 HO5 HR5 HB5 p5 HG3 HW5
              go_wp2_with fail
              go_loopw [10, 15] (fun s10 s15 wq => ∃ (j : Nat), s15 = .int .i64 j ∧ j ≤ nN ∧ w.heap.size ≤ wq.heap.size ∧ Hid (OwnR cpyE wq w.heap.size s10 (P ++ ((now.take j).filter fun x => !decide (x ∈ old)).map (mkC3 d fr))) ∧ Hid (OwnR i64E wq w.heap.size (.slice aO nO cO) old) ∧ Hid (OwnR i64E wq w.heap.size (.slice aN nN cN) now) ∧ Hid (Below w.heap.size w wq)) (fun _ s15 _ => nN - (intOf s15).toNat)
              case atStart => exact ⟨0, rfl, by omega, hz6, hide (by simpa using unhide HO6), HR6, HW6, HB6⟩
              case round =>
                clear HO6 HR6 HW6 HB6 hz6
                obtain ⟨j, rfl, hj, hzj, HOj, HRj, HWj, HBj⟩ := hrel
                have hQl : (((now.take j).filter fun x => !decide (x ∈ old)).map (mkC3 d fr)).length ≤ j := by rw [List.length_map]; exact Nat.le_trans (List.length_filter_le _ _) (by rw [List.length_take]; omega)
                obtain ⟨q, hq⟩ : ∃ q, (P ++ ((now.take j).filter fun x => !decide (x ∈ old)).map (mkC3 d fr)).length = q := ⟨_, rfl⟩
                have hqb : q ≤ 10100 := by rw [← hq, List.length_append, unhide HNP]; omega
                obtain ⟨ax, cx, hvx⟩ := (unhide HOj).form
                rw [hq] at hvx
                subst hvx
                by_cases hjn : j < nN
                · have hjl : j < now.length := by rw [unhide HNN]; exact hjn
                  obtain ⟨gn, e7, l7, p7, -⟩ := (unhide HWj).at.ix j hjl
                  have HFT := hide (filt_take (fun x => !decide (x ∈ old)) now j hjl)
                  have p8 := unhide HCC wr (unhide HBj)
                  generalize now[j] = x at p7 HFT
                  have HIN := hide (l1Ints_calls aO nO cO old x wr ⟨(unhide HRj).at, unhide HNO, by have := unhide HOL; have := unhide HNO; omega⟩)
                  subst e7
                  have j0 : (0 : Int) ≤ (j : Int) := by omega
                  have j1 : (j : Int) < (nN : Int) := by omega
                  cases hx : decide (x ∈ old) with
                  | true =>
                    rw [hx] at HIN
                    have HE := hide (show (now.take (j + 1)).filter (fun x => !decide (x ∈ old)) = (now.take j).filter fun x => !decide (x ∈ old) from by rw [unhide HFT, hx]; simp)
                    clear hx HFT hq
                    go_wp2_with fail
                    refine (unhide HIN).mono ?_
                    rintro e w9 ⟨rfl, rfl⟩
                    go_wp2_with fail
                    go_roundw
                    case rel => exact ⟨j + 1, by go_num, by omega, hzj, hide (by rw [unhide HE]; exact unhide HOj), HRj, HWj, HBj⟩
                    case measure => simp [intOf]; omega
                  | false =>
                    rw [hx] at HIN
                    have HE := hide (show P ++ ((now.take (j + 1)).filter fun x => !decide (x ∈ old)).map (mkC3 d fr) = (P ++ ((now.take j).filter fun x => !decide (x ∈ old)).map (mkC3 d fr)) ++ [(⟨d, fr, x⟩ : Cpy)] from by rw [unhide HFT, hx, List.append_assoc]; simp [mkC3])
                    generalize P ++ ((now.take j).filter fun x => !decide (x ∈ old)).map (mkC3 d fr) = Q at HOj HE hq
                    have HQ := hide (show (Q ++ [(⟨d, fr, x⟩ : Cpy)]).length = q + 1 from by rw [List.length_append, hq]; rfl)
                    have hlen : Q.length < 100000000 := by omega
                    have HOd := hide (show OwnR cpyE wr.drew w.heap.size (.slice ax q cx) Q from unhide HOj)
                    have HRd := hide (show OwnR i64E wr.drew w.heap.size (.slice aO nO cO) old from unhide HRj)
                    have HWd := hide (show OwnR i64E wr.drew w.heap.size (.slice (some ⟨gn, 0, none⟩) nN cN) now from unhide HWj)
                    have hzd : w.heap.size ≤ wr.drew.heap.size := hzj
                    clear hx HFT hq HOj
                    go_wp2_with fail
                    refine (unhide HIN).mono ?_
                    rintro e w9 ⟨rfl, rfl⟩
                    go_wp2_with fail
                    go_region_law (refine stepGG (e := cpyE) rfl _ _ rfl (w := wr.drew) (unhide HOd) (by simp [Act.eval]) (⟨d, fr, x⟩ : Cpy) rfl _ (by simp [Act.eval]) rfl hlen hzd ?_; intro v' w6 hown6 hb6 hg6; obtain ⟨av', cv', hv'⟩ := hown6.form; rw [unhide HQ] at hv'; subst hv')
                    all_goals (try go_wp2_with fail)
                    all_goals go_roundw
                    all_goals first
                      | exact ⟨j + 1, by go_num, by omega, by have := hb6.size; exact Nat.le_trans hzj this, hide (by rw [unhide HE]; exact hown6), hide ((unhide HRd).beside (unhide HOd) (by decide) hg6), hide ((unhide HWd).beside (unhide HOd) (by decide) hg6), hide ((unhide HBj).drew.trans hb6)⟩
                      | (simp [intOf]; omega)
                · obtain rfl : j = nN := by omega
                  have HOE := hide (show OwnR cpyE wr w.heap.size (.slice ax q cx) (mvs bs zs K (ds.take (m + 1))) from by
                    have h3 := unhide HOj
                    rw [List.take_of_length_le (by rw [unhide HNN]; exact Nat.le_refl _)] at h3
                    rw [unhide HST]
                    exact h3)
                  clear HOj hq
                  go_wp2_with fail
                  go_roundw
                  case rel => exact ⟨m + 1, by go_num, by omega, hzj, HOE, HBj⟩
                  case measure => simp [intOf]; omega
            · obtain rfl : m = nd := by omega
              rw [List.take_of_length_le (by rw [unhide HDN]; exact Nat.le_refl _)] at HO
              go_wp2_with fail
              exact bodyPost_ret (v := .tuple #[.slice a8 np c8, .bool true]) (by simp [results, Tryz.results6, go_sem]) rfl ⟨_, rfl, unhide HO, unhide HB⟩

end Go.Proofs.YtdmkephnpmglkaaGreatDoor


/- What moves, by the specification. -/
namespace Go.Proofs.YtdmkephnpmglkaaGreatDoor
open Go.RowKit Plain
set_option linter.unusedVariables false

theorem spec_Moves (ad : Option Addr) (nd cd : Nat) (ds : List ByteArray) (a1 : Option Addr) (n1 c1 : Nat) (bs : List Int) (a2 : Option Addr) (n2 c2 : Nat) (zs : List Int) (k : Int) (w : World) (hs : TxtsAt w ad nd ds) (h1 : IntsAt w a1 n1 bs) (h2 : IntsAt w a2 n2 zs) :
    Calls Tryz.prog 6 #[.slice ad nd cd, .slice a1 n1 c1, .slice a2 n2 c2, .int .i64 k] w fun e w' => ∃ v, e = .returned (.tuple #[v, .bool (mvB ds bs zs k)]) ∧ OwnR cpyE w' w.heap.size v (mvL ds bs zs k) ∧ Below w.heap.size w w' := by
  by_cases hn0 : n1 = 0
  · subst hn0
    exact spec_Moves0 ad nd cd ds a1 c1 bs a2 n2 c2 zs k w hs h1 h2
  · exact spec_Moves1 ad nd cd ds a1 n1 c1 bs a2 n2 c2 zs k w hs h1 h2 hn0
end Go.Proofs.YtdmkephnpmglkaaGreatDoor

