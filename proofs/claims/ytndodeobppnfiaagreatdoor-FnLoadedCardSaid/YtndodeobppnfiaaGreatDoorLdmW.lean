/- The walk of the law FnLoaded. -/
import Derived.Test.YtndodeobppnfiaaGreatDoorDzB
import Derived.Test.YtndodeobppnfiaaGreatDoorRzS
import Derived.Test.YtndodeobppnfiaaGreatDoorSamI
import Derived.Test.YtndodeobppnfiaaGreatDoorBig
import Derived.WalkKit
import Derived.ProofKit
import Derived.Below
set_option linter.unusedVariables false
namespace Go.Proofs.YtndodeobppnfiaaGreatDoor.fnLoaded
open Go.RowKit
open Plain

theorem mul_small (a b : Nat) (ha : a ≤ 24) (hb : b ≤ 7) : wrap64 ((a : Int) * (b : Int)) = (a : Int) * (b : Int) := by
  have h1 : a * b ≤ 24 * 7 := Nat.mul_le_mul ha hb
  have h2 : ((a * b : Nat) : Int) = (a : Int) * (b : Int) := Int.natCast_mul _ _
  unfold wrap64
  omega

set_option maxRecDepth 10000 in
set_option maxHeartbeats 8000000 in
theorem walk0 (a0 : Option Addr) (len0 cap0 : Nat) (z0 : List Int) (w : World) (w0 : IsRow .u8 w a0 len0 cap0 z0) (hK : KAt w) :
    Calls Tryz.prog 3 #[.slice a0 len0 cap0] w fun e w' => e = .returned (.bool true) ∧ Below w.heap.size w w' := by
  have h0 : 0 < w.heap.size := lt_of_cell (hK 0 (by omega))
  have hlen := w0.len
  have H := hide w0
  clear w0
  by_cases hbig : len0 ≤ 1048576
  · have hd : decide (1048576 < (len0 : Int)) = false := by simp; omega
    have HKT := hide (fun (W : World) (hW : Below w.heap.size w W) => hK.below hW h0)
    clear hK
    go_enter Tryz.func3, Tryz.ntmps3
    go_wp2_with fail
    refine (big_calls a0 len0 cap0 _ hlen).mono ?_
    rintro e w1 ⟨rfl, rfl⟩
    rw [hd]
    go_wp2_with fail
    refine (DrawLoads_calls a0 len0 cap0 z0 _ (unhide H) hbig).mono ?_
    rintro e w1 ⟨vs, ss, v, ls, k, rfl, HS1, HF, hsl, HO1, hls, hb1⟩
    obtain ⟨a, c, hv⟩ := (unhide HO1).form
    obtain ⟨n, hn⟩ : ∃ n, ls.length = n := ⟨_, rfl⟩
    rw [hn] at hv hls
    subst hv
    obtain ⟨asx, cs, hvs⟩ := (unhide HS1).form
    obtain ⟨nd, hnd⟩ : ∃ nd, ss.length = nd := ⟨_, rfl⟩
    rw [hnd] at hvs hsl
    subst hvs
    have HIA := hide (fun (W : World) (hW : Below w1.heap.size w1 W) => (show IntsAt W a n ls from ⟨(unhide HO1).at.below hW, hn, by omega⟩))
    have HTA := hide (fun (W : World) (hW : Below w1.heap.size w1 W) => (show TxtsAt W asx nd ss from ⟨(unhide HS1).at.below hW, hnd, by omega, fun s hs => by have := unhide HF s hs; omega⟩))
    have HB1 := hide hb1
    have HRb := hide (show (ldL ss ls k).length ≤ 7 from by have := ldL_len ss ls k; omega)
    have HSM := hide (show ldB ss ls k = true → ∃ K : Nat, k = (K : Int) ∧ K ≤ 7 ∧ (ldL ss ls k).sum = ((nd * min K n : Nat) : Int) from by
      intro hB
      rw [ldL_yes hB]
      unfold ldB rosB at hB
      rw [Bool.and_eq_true, Bool.and_eq_true] at hB
      have hk := (kB_iff k).1 hB.2.2
      obtain ⟨K, rfl⟩ := Int.eq_ofNat_of_zero_le (show 0 ≤ k by omega)
      refine ⟨K, rfl, by omega, ?_⟩
      rw [Int.toNat_natCast, sum_lds ls K hB.2.1 ss, hnd, hn])
    have HXB := hide (show ∀ x ∈ ldL ss ls k, 0 ≤ x ∧ x ≤ ((24 : Nat) : Int) from by
      intro x hx
      unfold ldL at hx
      split at hx
      · have := lds_bnd _ _ _ x hx
        omega
      · cases hx)
    clear hb1 HO1 HS1 HF hn hnd hd H hbig hlen
    have HSP := hide (spec_Loads asx nd cs ss a n c ls k w1 (unhide HTA _ (Below.refl _ _)) (unhide HIA _ (Below.refl _ _)))
    have HIM0 := hide (fun (W : World) (hW : Below w1.heap.size w1 W) => impl_Loads asx nd cs ss a n c ls k W (unhide HTA _ hW) (unhide HIA _ hW) (unhide HKT _ (belOnD (unhide HB1) hW)))
    generalize ldL ss ls k = Rl at HSP HIM0 HRb HSM HXB
    generalize ldB ss ls k = b at HSP HIM0 HSM
    obtain ⟨m, hm⟩ : ∃ m, Rl.length = m := ⟨_, rfl⟩
    have hm7 : m ≤ 7 := by have := unhide HRb; omega
    have HMM := hide hm
    clear HTA HIA HKT hm HRb
    go_wp2_with fail
    refine (unhide HSP).mono ?_
    rintro e w2 ⟨vS, rfl, oS, hb2⟩
    obtain ⟨aS, cS, hvS⟩ := oS.form
    rw [unhide HMM] at hvS
    subst hvS
    have HB2 := hide hb2
    have HOS := hide oS.at
    clear hb2 oS HSP
    have HIM := hide (unhide HIM0 w2 (unhide HB2))
    clear HIM0
    go_wp2_with fail
    refine (unhide HIM).mono ?_
    rintro e w3 ⟨vI, rfl, oI, hb3⟩
    obtain ⟨aI, cI, hvI⟩ := oI.form
    rw [unhide HMM] at hvI
    subst hvI
    have HB3 := hide (belOnD (belOnD (unhide HB1) (unhide HB2)) hb3)
    have HOS3 := hide ((unhide HOS).below hb3)
    have HOI := hide oI.at
    have HSI := hide (sameInts_calls aI aS cI cS m Rl w3 (unhide HMM) (by omega) (unhide HOI) (unhide HOS3))
    clear hb3 oI HIM HOS HB1 HB2
    go_wp2_with fail
    refine (unhide HSI).mono ?_
    rintro e w4 ⟨rfl, hb4⟩
    have HB4 := hide (belOnD (unhide HB3) hb4)
    have HO4 := hide ((unhide HOI).below hb4)
    clear hb4 HSI HOS3 HOI HB3
    go_wp2_with fail
    go_loopw [10, 11] (fun s10 s11 wr => ∃ (j : Nat), s11 = .int .i64 j ∧ s10 = .int .i64 ((Rl.take j).sum) ∧ j ≤ m ∧ Hid (Below w4.heap.size w4 wr)) (fun _ s11 _ => m - (intOf s11).toNat)
    case atStart => exact ⟨0, rfl, by simp, by omega, hide (Below.refl _ _)⟩
    case round =>
      obtain ⟨j, rfl, rfl, hj, HBj⟩ := hrel
      by_cases hjm : j < m
      · have hjl : j < Rl.length := by rw [unhide HMM]; exact hjm
        obtain ⟨g, e1, l1, p0, -⟩ := ((unhide HO4).below (unhide HBj)).ix j hjl
        have HST := hide (sum_take Rl j hjl)
        have hbd := sum_bnd 24 (Rl.take (j + 1)) fun x hx => unhide HXB x (List.mem_of_mem_take hx)
        rw [List.length_take, unhide HST] at hbd
        have hb24 : 24 * min (j + 1) Rl.length ≤ 1000 := by have := unhide HMM; omega
        generalize (Rl.take j).sum = s at HST hbd
        generalize Rl[j] = x at p0 HST hbd
        have hwx : IntKind.i64.wrap (s + x) = s + x := by rw [IntKind.wrap_i64]; omega
        subst e1
        have i0 : (0 : Int) ≤ (j : Int) := by omega
        have i1 : (j : Int) < (m : Int) := by omega
        clear hbd hb24
        go_wp2_with fail
        go_roundw
        case rel => exact ⟨j + 1, by go_num, by rw [unhide HST], by omega, HBj⟩
        case measure => simp [intOf]; omega
      · obtain rfl : j = m := by omega
        have HTK := hide (show (Rl.take j).sum = Rl.sum from by rw [List.take_of_length_le (by rw [unhide HMM]; exact Nat.le_refl _)])
        rw [unhide HTK]
        cases b with
        | false =>
          go_wp2_with fail
          go_ret
          exact ⟨rfl, belOnD (unhide HB4) (unhide HBj)⟩
        | true =>
          obtain ⟨K, rfl, hK7, hsum⟩ := unhide HSM rfl
          rw [hsum]
          clear HSM hsum
          by_cases hmin : K < n
          · have e1 : min K n = K := by omega
            rw [e1]
            have hmul := mul_small nd K hsl hK7
            have hlt : (K : Int) < (n : Int) := by omega
            go_wp2_with fail
            go_ret
            exact ⟨by simp; rw [show min (K : Int) (n : Int) = (K : Int) from by omega]; exact hmul.symm, belOnD (unhide HB4) (unhide HBj)⟩
          · have e1 : min K n = n := by omega
            rw [e1]
            have hmul := mul_small nd n hsl hls
            have hlt : ¬ (K : Int) < (n : Int) := by omega
            go_wp2_with fail
            go_ret
            exact ⟨by simp; rw [show min (K : Int) (n : Int) = (n : Int) from by omega]; exact hmul.symm, belOnD (unhide HB4) (unhide HBj)⟩
  · have hd : decide (1048576 < (len0 : Int)) = true := by simp; omega
    clear hK H
    go_enter Tryz.func3, Tryz.ntmps3
    go_wp2_with fail
    refine (big_calls a0 len0 cap0 _ hlen).mono ?_
    rintro e w1 ⟨rfl, rfl⟩
    rw [hd]
    go_wp2_with fail
    go_ret
    exact ⟨rfl, Below.refl _ _⟩
end Go.Proofs.YtndodeobppnfiaaGreatDoor.fnLoaded
