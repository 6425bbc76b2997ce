/- Changes of members, by the program: a council changed. -/
import Derived.Test.YtmokpgmehaakgaaGreatDoorChaI
import Derived.Deep.RegionHeld3
namespace Go.Proofs.YtmokpgmehaakgaaGreatDoor
open Go.RowKit Plain
set_option linter.unusedVariables false

namespace Plain
/-- What a change makes of right members, and its code. -/
def chgS (kind id : Int) (v l : List Int) : List Int × List Int × Int :=
  if (decide (1 ≤ kind) && decide (kind ≤ 3)) && (decide (1 ≤ id) && decide (id ≤ 50)) then
    if findB kind id v l = true then
      if (nxtV kind id v).length = 0 then (v, l, 13) else if 7 < (nxtV kind id v).length ∨ 7 < (nxtL kind id l).length then (v, l, 14) else (nxtV kind id v, nxtL kind id l, 0)
    else (v, l, 12)
  else (v, l, 11)
end Plain

set_option maxRecDepth 10000 in
set_option maxHeartbeats 8000000 in
theorem changed_calls (v l : List Int) (kind id : Int) (w : World) (hv : okIds 0 v = true) (hl : okIds 0 l = true) :
    Calls Tryz.prog 26 #[.agg #[.int .u64 (setN v : Nat), .int .u64 (setN l : Nat)], .int .i64 kind, .int .i64 id] w fun e w' => e = .returned (.tuple #[.agg #[.int .u64 (setN (chgS kind id v l).1 : Nat), .int .u64 (setN (chgS kind id v l).2.1 : Nat)], .int .i64 (chgS kind id v l).2.2]) ∧ Below w.heap.size w w' := by
  obtain ⟨W0, hW0⟩ : ∃ W0, W0 = (w.alloc (.cells #[.int .u64 (setN v : Nat), .int .u64 (setN l : Nat)] 50)).alloc (.cells #[.int .u64 0, .int .u64 0] 50) := ⟨_, rfl⟩
  have hb0 : Below w.heap.size w W0 := by rw [hW0]; exact belOn (bel1 _ _) (bel1 _ _)
  have hs0 : W0.heap.size = w.heap.size + 2 := by rw [hW0]; simp
  have HM := hide (show UB w.heap.size (.int .u64 (setN v : Nat)) (.int .u64 (setN l : Nat)) W0 from by rw [hW0]; exact (UB.new w _ _).below (bel1 _ _) (by simp))
  have HZ := hide (show UB (w.heap.size + 1) (.int .u64 0) (.int .u64 0) W0 from by rw [hW0, show w.heap.size + 1 = (w.alloc (.cells #[.int .u64 (setN v : Nat), .int .u64 (setN l : Nat)] 50)).heap.size from by simp]; exact UB.new _ _ _)
  have HB0 := hide hb0
  have HW0 := hide hW0.symm
  have HS0 := hide hs0
  clear hb0 hW0 hs0
  by_cases hform : ((decide (1 ≤ kind) && decide (kind ≤ 3)) && (decide (1 ≤ id) && decide (id ≤ 50))) = true
  · have hf2 : (1 ≤ kind ∧ kind ≤ 3) ∧ (1 ≤ id ∧ id ≤ 50) := by simpa using hform
    obtain ⟨⟨k1, k3⟩, i1, i50⟩ := hf2
    obtain ⟨x, rfl⟩ := Int.eq_ofNat_of_zero_le (show 0 ≤ id by omega)
    have hx1 : 1 ≤ x := by omega
    have hx50 : x ≤ 50 := by omega
    have hnk1 : ¬ kind < 1 := by omega
    have hnk3 : ¬ 3 < kind := by omega
    have HID := hide (fun W => nodeId_calls (x : Int) W)
    rw [decide_eq_true i1, decide_eq_true i50] at HID
    have HFI := hide (finds_calls v l kind x W0 k1 k3 hx1 hx50)
    have m0 := (unhide HM).c0
    have m1 := (unhide HM).c1
    cases hf : findB kind (x : Int) v l with
    | false =>
      have HX := hide (show chgS kind (x : Int) v l = (v, l, 12) from by unfold chgS; rw [if_pos hform, if_neg (by rw [hf]; decide)])
      rw [unhide HX]
      rw [hf] at HFI
      simp only
      clear hf hform HX
      generalize setN v = V at HM HW0 HFI m0
      generalize setN l = L at HM HW0 HFI m1
      go_enter Tryz.func26, Tryz.ntmps26
      go_wp2_with fail
      rw [unhide HW0]
      refine (unhide HID _).mono ?_
      rintro e w1 ⟨rfl, rfl⟩
      go_wp2_with fail
      refine (unhide HFI).mono ?_
      rintro e w1 ⟨rfl, hb1⟩
      have hs0 := unhide HS0
      have HM1 := hide ((unhide HM).below hb1 (by omega))
      have HZ1 := hide ((unhide HZ).below hb1 (by omega))
      have n0 := (unhide HM1).c0
      have n1 := (unhide HM1).c1
      have z0 := (unhide HZ1).c0
      have z1 := (unhide HZ1).c1
      have f0 := (unhide HZ1).f0
      have f1 := (unhide HZ1).f1
      have HB1 := hide (belOn (unhide HB0) hb1)
      clear hb1 hs0
      go_wp2_with fail
      exact bodyPost_ret (v := .tuple #[.agg #[.int .u64 (V : Nat), .int .u64 (L : Nat)], .int .i64 12]) (by simp [results, Tryz.results26, go_sem, z0, z1]) rfl ⟨rfl, ((unhide HB1).setCell (show w.heap.size ≤ w.heap.size + 1 by omega) _).setCell (show w.heap.size ≤ w.heap.size + 1 by omega) _⟩
    | true =>
      rw [hf] at HFI
      have hlt1 := setN_lt v
      have hlt2 := setN_lt l
      have hlt3 := setN_lt (cutZ (x : Int) v)
      have hlt4 := setN_lt (cutZ (x : Int) l)
      have hpl : 2 ^ x ≤ 1125899906842624 := Nat.pow_le_pow_right (show 0 < 2 by decide) hx50
      have HON := hide (fun W => only_calls x W (by omega))
      have a1 : bits .andNot .u64 ((setN v : Nat) : Int) ((2 ^ x : Nat) : Int) = ((setN (cutZ (x : Int) v) : Nat) : Int) := by rw [u64_andNot_nat _ _ (by omega) (by omega), set_cut x hx50]
      have a2 : bits .andNot .u64 ((setN l : Nat) : Int) ((2 ^ x : Nat) : Int) = ((setN (cutZ (x : Int) l) : Nat) : Int) := by rw [u64_andNot_nat _ _ (by omega) (by omega), set_cut x hx50]
      have HP1 := hide (show bits .or .u64 ((setN (cutZ (x : Int) v) : Nat) : Int) ((2 ^ x : Nat) : Int) = ((setN (putZ (x : Int) (cutZ (x : Int) v)) : Nat) : Int) from by rw [u64_or_nat _ _ (by omega) (by omega), set_put x hx1 hx50])
      have HP2 := hide (show bits .or .u64 ((setN (cutZ (x : Int) l) : Nat) : Int) ((2 ^ x : Nat) : Int) = ((setN (putZ (x : Int) (cutZ (x : Int) l)) : Nat) : Int) from by rw [u64_or_nat _ _ (by omega) (by omega), set_put x hx1 hx50])
      have HX := hide (show chgS kind (x : Int) v l = if (nxtV kind (x : Int) v).length = 0 then (v, l, 13) else if 7 < (nxtV kind (x : Int) v).length ∨ 7 < (nxtL kind (x : Int) l).length then (v, l, 14) else (nxtV kind (x : Int) v, nxtL kind (x : Int) l, 0) from by unfold chgS; rw [if_pos hform, if_pos hf])
      have hvk := nxtV_ok kind (x : Int) v i1 i50 hv
      have hlk := nxtL_ok kind (x : Int) l i1 i50 hl
      have HV0 := hide (set_zero _ hvk)
      have hlt5 := setN_lt (nxtV kind (x : Int) v)
      have hlt6 := setN_lt (nxtL kind (x : Int) l)
      have HT := hide (fun W => tooMany_calls (setN (nxtV kind (x : Int) v)) (setN (nxtL kind (x : Int) l)) W (by omega) (by omega))
      rw [pop_set _ hvk, pop_set _ hlk] at HT
      have HL7 := hide (show (¬ (7 < (nxtV kind (x : Int) v).length ∨ 7 < (nxtL kind (x : Int) l).length) → (decide (7 < (nxtV kind (x : Int) v).length) || decide (7 < (nxtL kind (x : Int) l).length)) = false) ∧ ((7 < (nxtV kind (x : Int) v).length ∨ 7 < (nxtL kind (x : Int) l).length) → (decide (7 < (nxtV kind (x : Int) v).length) || decide (7 < (nxtL kind (x : Int) l).length)) = true) from ⟨fun q => by rw [decide_eq_false (fun h => q (.inl h)), decide_eq_false (fun h => q (.inr h))]; rfl, fun q => by rcases q with h | h <;> simp [h]⟩)
      obtain ⟨V, hVe⟩ : ∃ V, setN v = V := ⟨_, rfl⟩
      obtain ⟨L, hLe⟩ : ∃ L, setN l = L := ⟨_, rfl⟩
      obtain ⟨V1, hV1⟩ : ∃ V1, setN (cutZ (x : Int) v) = V1 := ⟨_, rfl⟩
      obtain ⟨L1, hL1⟩ : ∃ L1, setN (cutZ (x : Int) l) = L1 := ⟨_, rfl⟩
      obtain ⟨P, hP⟩ : ∃ P, 2 ^ x = P := ⟨_, rfl⟩
      rw [hVe] at HM HW0 HFI m0 a1
      rw [hLe] at HM HW0 HFI m1 a2
      rw [hV1] at a1 HP1
      rw [hL1] at a2 HP2
      rw [hP] at HON a1 a2 HP1 HP2
      have HVe := hide hVe
      have HLe := hide hLe
      have HV1 := hide hV1
      have HL1 := hide hL1
      have hkk : kind = 1 ∨ kind = 2 ∨ kind = 3 := by omega
      have HKK := hide hkk
      clear hform hf hvk hlk hlt1 hlt2 hlt3 hlt4 hlt5 hlt6 hpl hVe hLe hV1 hL1 hP hkk
      obtain ⟨RV, hRV⟩ : ∃ RV, setN (chgS kind (x : Int) v l).1 = RV := ⟨_, rfl⟩
      obtain ⟨RL, hRL⟩ : ∃ RL, setN (chgS kind (x : Int) v l).2.1 = RL := ⟨_, rfl⟩
      obtain ⟨RC, hRC⟩ : ∃ RC, (chgS kind (x : Int) v l).2.2 = RC := ⟨_, rfl⟩
      have HOLD := hide (show ∀ c, chgS kind (x : Int) v l = (v, l, c) → RV = V ∧ RL = L ∧ RC = c from fun c hc => by rw [hc] at hRV hRL hRC; exact ⟨hRV.symm.trans (unhide HVe), hRL.symm.trans (unhide HLe), hRC.symm⟩)
      have HNEW := hide (show ∀ nv nl, chgS kind (x : Int) v l = (nv, nl, 0) → RV = setN nv ∧ RL = setN nl ∧ RC = 0 from fun nv nl hc => by rw [hc] at hRV hRL hRC; exact ⟨hRV.symm, hRL.symm, hRC.symm⟩)
      rw [unhide HVe, unhide HLe, hRV, hRL, hRC]
      clear hRV hRL hRC
      go_enter Tryz.func26, Tryz.ntmps26
      go_wp2_with fail
      rw [unhide HW0]
      refine (unhide HID _).mono ?_
      rintro e w1 ⟨rfl, rfl⟩
      go_wp2_with fail
      refine (unhide HFI).mono ?_
      rintro e w1 ⟨rfl, hb1⟩
      have hs0 := unhide HS0
      have HM1 := hide ((unhide HM).below hb1 (by omega))
      have HZ1 := hide ((unhide HZ).below hb1 (by omega))
      have HB1 := hide (belOn (unhide HB0) hb1)
      have hz1 := hb1.size
      have hz2 : w.heap.size + 2 ≤ w1.heap.size := by omega
      clear hb1 hs0 m0 m1 hz1 HM HZ HFI HID HB0 HS0 HW0
      go_wp2_with fail
      go_cut [8] (fun s8 wx => ∃ M, s8 = .pointer (some ⟨M, 0, none⟩) ∧ w.heap.size + 2 ≤ M ∧ Hid (UB M (.int .u64 V1) (.int .u64 L1) wx) ∧ Hid (UB w.heap.size (.int .u64 (V : Nat)) (.int .u64 (L : Nat)) wx) ∧ Hid (UB (w.heap.size + 1) (.int .u64 0) (.int .u64 0) wx) ∧ Hid (Below w.heap.size w wx))
      case first =>
        have n0 := (unhide HM1).c0
        have n1 := (unhide HM1).c1
        have nlt := (unhide HM1).lt
        have X0 := fun (W : World) (hW : Below w1.heap.size w1 W) => bcl hW nlt n0
        have X1 := fun (W : World) (hW : Below w1.heap.size w1 W) => bcl hW nlt n1
        have HBR := hide (Below.refl w1.heap.size w1)
        have HZ2 := hide hz2
        clear n0 n1 hz2 k1 k3 i1 i50 hx1 hx50 hnk1 hnk3 HX HV0 HT HL7 HP1 HP2 HV1 HL1 HKK HOLD HNEW
        go_region_held3 (fun w' => Below w1.heap.size w1 w') (first | exact belDrew (bel1 _ _) | exact belDrew (unhide HBR) | exact (by assumption)) (first | (go_at_call 48; refine (unhide HON _).mono ?_; rintro e w2 ⟨rfl, rfl⟩))
        all_goals (try go_wp2_with fail)
        all_goals go_meet
        all_goals exact ⟨w1.heap.size, rfl, unhide HZ2, hide (show UB _ _ _ (w1.alloc _).drew from UB.new w1 _ _), hide ((unhide HM1).below (belDrew (bel1 _ _)) (unhide HM1).lt), hide ((unhide HZ1).below (belDrew (bel1 _ _)) (unhide HZ1).lt), hide (belOn (unhide HB1) (belDrew (bel1 _ _)))⟩
      case rest =>
      obtain ⟨w2, rfl⟩ : ∃ w2, w2 = wc := ⟨_, rfl⟩
      obtain ⟨M, rfl, hM, HU2, HM2, HZ2, HB2⟩ := hcut
      clear HM1 HZ1 HB1 a1 a2
      rcases unhide HKK with rfl | rfl | rfl
      · clear HKK k1 k3 hnk1 hnk3
        obtain ⟨LP, hLP⟩ : ∃ LP, setN (putZ (x : Int) (cutZ (x : Int) l)) = LP := ⟨_, rfl⟩
        have HL2 := hide (show setN (nxtL 1 (x : Int) l) = LP from hLP)
        have HV2 := hide (show setN (nxtV 1 (x : Int) v) = V1 from unhide HV1)
        have hpp := unhide HP2
        rw [hLP] at hpp
        clear hLP
        rw [unhide HV2] at HV0 HT
        rw [unhide HL2] at HT
        clear HP1 HP2
        go_wp2_with fail
        have u0 := (unhide HU2).c0
        have u1 := (unhide HU2).c1
        have g0 := (unhide HU2).f0
        have g1 := (unhide HU2).f1
        have ult := (unhide HU2).lt
        have HMM := hide hM
        clear hM i1 i50 hx1 hx50
        go_region_with (first | (go_at_call 48; refine (unhide HON _).mono ?_; rintro e w3 ⟨rfl, rfl⟩))
        all_goals
          have hM := unhide HMM
          obtain ⟨w3, hw3⟩ : ∃ w3, w3 = (w2.setCell ⟨M, 1, none⟩ (.int .u64 (LP : Nat))).drew := ⟨_, rfl⟩
          have HU3 := hide (show UB M (.int .u64 V1) (.int .u64 LP) w3 from by rw [hw3]; exact (unhide HU2).set1 _)
          have HM3 := hide (show UB w.heap.size (.int .u64 (V : Nat)) (.int .u64 (L : Nat)) w3 from by rw [hw3]; exact (unhide HM2).far (by omega) _)
          have HZ3 := hide (show UB (w.heap.size + 1) (.int .u64 0) (.int .u64 0) w3 from by rw [hw3]; exact (unhide HZ2).far (by omega) _)
          have HB3 := hide (show Below w.heap.size w w3 from by rw [hw3]; exact belDrew ((unhide HB2).setCell (show w.heap.size ≤ M by omega) _))
          rw [← hw3]
          clear HU2 HM2 HZ2 HB2 hpp hw3 u0 u1 g0 g1 ult hM
          have n0 := (unhide HM3).c0
          have n1 := (unhide HM3).c1
          have z0 := (unhide HZ3).c0
          have z1 := (unhide HZ3).c1
          have f0 := (unhide HZ3).f0
          have f1 := (unhide HZ3).f1
          have u0 := (unhide HU3).c0
          have u1 := (unhide HU3).c1
          have zlt := (unhide HZ3).lt
          by_cases he : (nxtV 1 (x : Int) v).length = 0
          · have hx := unhide HX
            rw [if_pos he] at hx
            have HE := hide (unhide HOLD _ hx)
            clear hx
            have hz0 : ((V1 : Int) == 0) = true := by rw [(unhide HV0).2 he]; rfl
            clear he HX HT HL7 HOLD HNEW
            go_wp2_with fail
            exact bodyPost_ret (v := .tuple #[.agg #[.int .u64 (V : Nat), .int .u64 (L : Nat)], .int .i64 13]) (by simp [results, Tryz.results26, go_sem, z0, z1]) rfl ⟨by obtain ⟨e1, e2, e3⟩ := unhide HE; rw [e1, e2, e3], ((unhide HB3).setCell (show w.heap.size ≤ w.heap.size + 1 by omega) _).setCell (show w.heap.size ≤ w.heap.size + 1 by omega) _⟩
          · have hz0 : ((V1 : Int) == 0) = false := by rw [beq_eq_false_iff_ne]; intro q; exact he ((unhide HV0).1 (by omega))
            have hx := unhide HX
            rw [if_neg he] at hx
            by_cases h7 : 7 < (nxtV 1 (x : Int) v).length ∨ 7 < (nxtL 1 (x : Int) l).length
            · rw [if_pos h7] at hx
              have HE := hide (unhide HOLD _ hx)
              clear hx
              have HTT := hide (unhide HT w3)
              rw [(unhide HL7).2 h7] at HTT
              clear he HX HL7 h7 HT HOLD HNEW
              go_wp2_with fail
              refine (unhide HTT).mono ?_
              rintro e w4 ⟨rfl, hb4⟩
              have HM5 := hide ((unhide HM3).below hb4 (unhide HM3).lt)
              have HZ5 := hide ((unhide HZ3).below hb4 (unhide HZ3).lt)
              clear n0 n1 z0 z1 f0 f1
              have n0 := (unhide HM5).c0
              have n1 := (unhide HM5).c1
              have z0 := (unhide HZ5).c0
              have z1 := (unhide HZ5).c1
              have f0 := (unhide HZ5).f0
              have f1 := (unhide HZ5).f1
              have HB4 := hide (belOn (unhide HB3) hb4)
              clear hb4
              go_wp2_with fail
              exact bodyPost_ret (v := .tuple #[.agg #[.int .u64 (V : Nat), .int .u64 (L : Nat)], .int .i64 14]) (by simp [results, Tryz.results26, go_sem, z0, z1]) rfl ⟨by obtain ⟨e1, e2, e3⟩ := unhide HE; rw [e1, e2, e3], ((unhide HB4).setCell (show w.heap.size ≤ w.heap.size + 1 by omega) _).setCell (show w.heap.size ≤ w.heap.size + 1 by omega) _⟩
            · rw [if_neg h7] at hx
              have HE := hide (unhide HNEW _ _ hx)
              rw [unhide HV2, unhide HL2] at HE
              clear hx
              have HTT := hide (unhide HT w3)
              rw [(unhide HL7).1 h7] at HTT
              clear he HX HL7 h7 HT HOLD HNEW
              go_wp2_with fail
              refine (unhide HTT).mono ?_
              rintro e w4 ⟨rfl, hb4⟩
              have HU5 := hide ((unhide HU3).below hb4 (unhide HU3).lt)
              have HZ5 := hide ((unhide HZ3).below hb4 (unhide HZ3).lt)
              clear n0 n1 z0 z1 f0 f1 u0 u1
              have u0 := (unhide HU5).c0
              have u1 := (unhide HU5).c1
              have z0 := (unhide HZ5).c0
              have z1 := (unhide HZ5).c1
              have f0 := (unhide HZ5).f0
              have f1 := (unhide HZ5).f1
              have HB4 := hide (belOn (unhide HB3) hb4)
              clear hb4
              go_wp2_with fail
              exact bodyPost_ret (v := .tuple #[.agg #[.int .u64 V1, .int .u64 LP], .int .i64 0]) (by simp [results, Tryz.results26, go_sem, z0, z1]) rfl ⟨by obtain ⟨e1, e2, e3⟩ := unhide HE; rw [e1, e2, e3], ((unhide HB4).setCell (show w.heap.size ≤ w.heap.size + 1 by omega) _).setCell (show w.heap.size ≤ w.heap.size + 1 by omega) _⟩
      · clear HKK k1 k3 hnk1 hnk3
        obtain ⟨VP, hVP⟩ : ∃ VP, setN (putZ (x : Int) (cutZ (x : Int) v)) = VP := ⟨_, rfl⟩
        have HV2 := hide (show setN (nxtV 2 (x : Int) v) = VP from hVP)
        have HL2 := hide (show setN (nxtL 2 (x : Int) l) = L1 from unhide HL1)
        have hpp := unhide HP1
        rw [hVP] at hpp
        clear hVP
        rw [unhide HV2] at HV0 HT
        rw [unhide HL2] at HT
        clear HP1 HP2
        go_wp2_with fail
        have u0 := (unhide HU2).c0
        have u1 := (unhide HU2).c1
        have g0 := (unhide HU2).f0
        have g1 := (unhide HU2).f1
        have ult := (unhide HU2).lt
        have HMM := hide hM
        clear hM i1 i50 hx1 hx50
        go_region_with (first | (go_at_call 48; refine (unhide HON _).mono ?_; rintro e w3 ⟨rfl, rfl⟩))
        all_goals
          have hM := unhide HMM
          obtain ⟨w3, hw3⟩ : ∃ w3, w3 = (w2.setCell ⟨M, 0, none⟩ (.int .u64 (VP : Nat))).drew := ⟨_, rfl⟩
          have HU3 := hide (show UB M (.int .u64 VP) (.int .u64 L1) w3 from by rw [hw3]; exact (unhide HU2).set0 _)
          have HM3 := hide (show UB w.heap.size (.int .u64 (V : Nat)) (.int .u64 (L : Nat)) w3 from by rw [hw3]; exact (unhide HM2).far (by omega) _)
          have HZ3 := hide (show UB (w.heap.size + 1) (.int .u64 0) (.int .u64 0) w3 from by rw [hw3]; exact (unhide HZ2).far (by omega) _)
          have HB3 := hide (show Below w.heap.size w w3 from by rw [hw3]; exact belDrew ((unhide HB2).setCell (show w.heap.size ≤ M by omega) _))
          rw [← hw3]
          clear HU2 HM2 HZ2 HB2 hpp hw3 u0 u1 g0 g1 ult hM
          have n0 := (unhide HM3).c0
          have n1 := (unhide HM3).c1
          have z0 := (unhide HZ3).c0
          have z1 := (unhide HZ3).c1
          have f0 := (unhide HZ3).f0
          have f1 := (unhide HZ3).f1
          have u0 := (unhide HU3).c0
          have u1 := (unhide HU3).c1
          have zlt := (unhide HZ3).lt
          by_cases he : (nxtV 2 (x : Int) v).length = 0
          · have hx := unhide HX
            rw [if_pos he] at hx
            have HE := hide (unhide HOLD _ hx)
            clear hx
            have hz0 : ((VP : Int) == 0) = true := by rw [(unhide HV0).2 he]; rfl
            clear he HX HT HL7 HOLD HNEW
            go_wp2_with fail
            exact bodyPost_ret (v := .tuple #[.agg #[.int .u64 (V : Nat), .int .u64 (L : Nat)], .int .i64 13]) (by simp [results, Tryz.results26, go_sem, z0, z1]) rfl ⟨by obtain ⟨e1, e2, e3⟩ := unhide HE; rw [e1, e2, e3], ((unhide HB3).setCell (show w.heap.size ≤ w.heap.size + 1 by omega) _).setCell (show w.heap.size ≤ w.heap.size + 1 by omega) _⟩
          · have hz0 : ((VP : Int) == 0) = false := by rw [beq_eq_false_iff_ne]; intro q; exact he ((unhide HV0).1 (by omega))
            have hx := unhide HX
            rw [if_neg he] at hx
            by_cases h7 : 7 < (nxtV 2 (x : Int) v).length ∨ 7 < (nxtL 2 (x : Int) l).length
            · rw [if_pos h7] at hx
              have HE := hide (unhide HOLD _ hx)
              clear hx
              have HTT := hide (unhide HT w3)
              rw [(unhide HL7).2 h7] at HTT
              clear he HX HL7 h7 HT HOLD HNEW
              go_wp2_with fail
              refine (unhide HTT).mono ?_
              rintro e w4 ⟨rfl, hb4⟩
              have HM5 := hide ((unhide HM3).below hb4 (unhide HM3).lt)
              have HZ5 := hide ((unhide HZ3).below hb4 (unhide HZ3).lt)
              clear n0 n1 z0 z1 f0 f1
              have n0 := (unhide HM5).c0
              have n1 := (unhide HM5).c1
              have z0 := (unhide HZ5).c0
              have z1 := (unhide HZ5).c1
              have f0 := (unhide HZ5).f0
              have f1 := (unhide HZ5).f1
              have HB4 := hide (belOn (unhide HB3) hb4)
              clear hb4
              go_wp2_with fail
              exact bodyPost_ret (v := .tuple #[.agg #[.int .u64 (V : Nat), .int .u64 (L : Nat)], .int .i64 14]) (by simp [results, Tryz.results26, go_sem, z0, z1]) rfl ⟨by obtain ⟨e1, e2, e3⟩ := unhide HE; rw [e1, e2, e3], ((unhide HB4).setCell (show w.heap.size ≤ w.heap.size + 1 by omega) _).setCell (show w.heap.size ≤ w.heap.size + 1 by omega) _⟩
            · rw [if_neg h7] at hx
              have HE := hide (unhide HNEW _ _ hx)
              rw [unhide HV2, unhide HL2] at HE
              clear hx
              have HTT := hide (unhide HT w3)
              rw [(unhide HL7).1 h7] at HTT
              clear he HX HL7 h7 HT HOLD HNEW
              go_wp2_with fail
              refine (unhide HTT).mono ?_
              rintro e w4 ⟨rfl, hb4⟩
              have HU5 := hide ((unhide HU3).below hb4 (unhide HU3).lt)
              have HZ5 := hide ((unhide HZ3).below hb4 (unhide HZ3).lt)
              clear n0 n1 z0 z1 f0 f1 u0 u1
              have u0 := (unhide HU5).c0
              have u1 := (unhide HU5).c1
              have z0 := (unhide HZ5).c0
              have z1 := (unhide HZ5).c1
              have f0 := (unhide HZ5).f0
              have f1 := (unhide HZ5).f1
              have HB4 := hide (belOn (unhide HB3) hb4)
              clear hb4
              go_wp2_with fail
              exact bodyPost_ret (v := .tuple #[.agg #[.int .u64 VP, .int .u64 L1], .int .i64 0]) (by simp [results, Tryz.results26, go_sem, z0, z1]) rfl ⟨by obtain ⟨e1, e2, e3⟩ := unhide HE; rw [e1, e2, e3], ((unhide HB4).setCell (show w.heap.size ≤ w.heap.size + 1 by omega) _).setCell (show w.heap.size ≤ w.heap.size + 1 by omega) _⟩
      · clear HKK k1 k3 hnk1 hnk3
        have HV2 := hide (show setN (nxtV 3 (x : Int) v) = V1 from unhide HV1)
        have HL2 := hide (show setN (nxtL 3 (x : Int) l) = L1 from unhide HL1)
        rw [unhide HV2] at HV0 HT
        rw [unhide HL2] at HT
        clear HP1 HP2
        obtain ⟨w3, rfl⟩ : ∃ w3, w3 = w2 := ⟨_, rfl⟩
        have HU3 := HU2
        have HM3 := HM2
        have HZ3 := HZ2
        have HB3 := HB2
        clear HU2 HM2 HZ2 HB2
        have n0 := (unhide HM3).c0
        have n1 := (unhide HM3).c1
        have z0 := (unhide HZ3).c0
        have z1 := (unhide HZ3).c1
        have f0 := (unhide HZ3).f0
        have f1 := (unhide HZ3).f1
        have u0 := (unhide HU3).c0
        have u1 := (unhide HU3).c1
        have zlt := (unhide HZ3).lt
        by_cases he : (nxtV 3 (x : Int) v).length = 0
        · have hx := unhide HX
          rw [if_pos he] at hx
          have HE := hide (unhide HOLD _ hx)
          clear hx
          have hz0 : ((V1 : Int) == 0) = true := by rw [(unhide HV0).2 he]; rfl
          clear he HX HT HL7 HOLD HNEW
          go_wp2_with fail
          exact bodyPost_ret (v := .tuple #[.agg #[.int .u64 (V : Nat), .int .u64 (L : Nat)], .int .i64 13]) (by simp [results, Tryz.results26, go_sem, z0, z1]) rfl ⟨by obtain ⟨e1, e2, e3⟩ := unhide HE; rw [e1, e2, e3], ((unhide HB3).setCell (show w.heap.size ≤ w.heap.size + 1 by omega) _).setCell (show w.heap.size ≤ w.heap.size + 1 by omega) _⟩
        · have hz0 : ((V1 : Int) == 0) = false := by rw [beq_eq_false_iff_ne]; intro q; exact he ((unhide HV0).1 (by omega))
          have hx := unhide HX
          rw [if_neg he] at hx
          by_cases h7 : 7 < (nxtV 3 (x : Int) v).length ∨ 7 < (nxtL 3 (x : Int) l).length
          · rw [if_pos h7] at hx
            have HE := hide (unhide HOLD _ hx)
            clear hx
            have HTT := hide (unhide HT w3)
            rw [(unhide HL7).2 h7] at HTT
            clear he HX HL7 h7 HT HOLD HNEW
            go_wp2_with fail
            refine (unhide HTT).mono ?_
            rintro e w4 ⟨rfl, hb4⟩
            have HM5 := hide ((unhide HM3).below hb4 (unhide HM3).lt)
            have HZ5 := hide ((unhide HZ3).below hb4 (unhide HZ3).lt)
            clear n0 n1 z0 z1 f0 f1
            have n0 := (unhide HM5).c0
            have n1 := (unhide HM5).c1
            have z0 := (unhide HZ5).c0
            have z1 := (unhide HZ5).c1
            have f0 := (unhide HZ5).f0
            have f1 := (unhide HZ5).f1
            have HB4 := hide (belOn (unhide HB3) hb4)
            clear hb4
            go_wp2_with fail
            exact bodyPost_ret (v := .tuple #[.agg #[.int .u64 (V : Nat), .int .u64 (L : Nat)], .int .i64 14]) (by simp [results, Tryz.results26, go_sem, z0, z1]) rfl ⟨by obtain ⟨e1, e2, e3⟩ := unhide HE; rw [e1, e2, e3], ((unhide HB4).setCell (show w.heap.size ≤ w.heap.size + 1 by omega) _).setCell (show w.heap.size ≤ w.heap.size + 1 by omega) _⟩
          · rw [if_neg h7] at hx
            have HE := hide (unhide HNEW _ _ hx)
            rw [unhide HV2, unhide HL2] at HE
            clear hx
            have HTT := hide (unhide HT w3)
            rw [(unhide HL7).1 h7] at HTT
            clear he HX HL7 h7 HT HOLD HNEW
            go_wp2_with fail
            refine (unhide HTT).mono ?_
            rintro e w4 ⟨rfl, hb4⟩
            have HU5 := hide ((unhide HU3).below hb4 (unhide HU3).lt)
            have HZ5 := hide ((unhide HZ3).below hb4 (unhide HZ3).lt)
            clear n0 n1 z0 z1 f0 f1 u0 u1
            have u0 := (unhide HU5).c0
            have u1 := (unhide HU5).c1
            have z0 := (unhide HZ5).c0
            have z1 := (unhide HZ5).c1
            have f0 := (unhide HZ5).f0
            have f1 := (unhide HZ5).f1
            have HB4 := hide (belOn (unhide HB3) hb4)
            clear hb4
            go_wp2_with fail
            exact bodyPost_ret (v := .tuple #[.agg #[.int .u64 V1, .int .u64 L1], .int .i64 0]) (by simp [results, Tryz.results26, go_sem, z0, z1]) rfl ⟨by obtain ⟨e1, e2, e3⟩ := unhide HE; rw [e1, e2, e3], ((unhide HB4).setCell (show w.heap.size ≤ w.heap.size + 1 by omega) _).setCell (show w.heap.size ≤ w.heap.size + 1 by omega) _⟩
  · have hform2 : ((decide (1 ≤ kind) && decide (kind ≤ 3)) && (decide (1 ≤ id) && decide (id ≤ 50))) = false := by simpa using hform
    have HX := hide (show chgS kind id v l = (v, l, 11) from by unfold chgS; rw [if_neg hform])
    rw [unhide HX]
    simp only
    have n0 := (unhide HM).c0
    have n1 := (unhide HM).c1
    have z0 := (unhide HZ).c0
    have z1 := (unhide HZ).c1
    have f0 := (unhide HZ).f0
    have f1 := (unhide HZ).f1
    have HID := hide (fun W => nodeId_calls id W)
    generalize setN v = V at HM HW0 n0
    generalize setN l = L at HM HW0 n1
    clear hform HX
    by_cases hk1 : kind < 1
    · clear hform2
      go_enter Tryz.func26, Tryz.ntmps26
      go_wp2_with fail
      exact bodyPost_ret (v := .tuple #[.agg #[.int .u64 (V : Nat), .int .u64 (L : Nat)], .int .i64 11]) (by simp [results, Tryz.results26, go_sem]) rfl ⟨rfl, belOn (bel1 _ _) (bel1 _ _)⟩
    by_cases hk3 : 3 < kind
    · clear hform2
      go_enter Tryz.func26, Tryz.ntmps26
      go_wp2_with fail
      exact bodyPost_ret (v := .tuple #[.agg #[.int .u64 (V : Nat), .int .u64 (L : Nat)], .int .i64 11]) (by simp [results, Tryz.results26, go_sem]) rfl ⟨rfl, belOn (bel1 _ _) (bel1 _ _)⟩
    have hi : (decide (1 ≤ id) && decide (id ≤ 50)) = false := by
      rw [decide_eq_true (show 1 ≤ kind by omega), decide_eq_true (show kind ≤ 3 by omega)] at hform2
      simpa using hform2
    rw [hi] at HID
    clear hi hform2
    go_enter Tryz.func26, Tryz.ntmps26
    go_wp2_with fail
    rw [unhide HW0]
    refine (unhide HID _).mono ?_
    rintro e w1 ⟨rfl, rfl⟩
    go_wp2_with fail
    exact bodyPost_ret (v := .tuple #[.agg #[.int .u64 (V : Nat), .int .u64 (L : Nat)], .int .i64 11]) (by simp [results, Tryz.results26, go_sem, z0, z1]) rfl ⟨rfl, ((unhide HB0).setCell (show w.heap.size ≤ w.heap.size + 1 by omega) _).setCell (show w.heap.size ≤ w.heap.size + 1 by omega) _⟩
end Go.Proofs.YtmokpgmehaakgaaGreatDoor
