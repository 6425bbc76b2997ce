/- Texts in pieces, by the specification. -/
import Derived.Test.YtnkjdojpegmlcaaPcM
import Derived.Test.YtnkjdojpegmlcaaStrR
import Derived.Test.YtnkjdojpegmlcaaWfS
import Derived.Test.YtnkjdojpegmlcaaMan
namespace Go.Proofs.Ytnkjdojpegmlcaa
open Go.RowKit Plain
set_option linter.unusedVariables false

/-- What Pieces leaves. -/
def Plain.PcPost (R : List ByteArray × Bool) (w : World) (e : Ending) (w' : World) : Prop := ∃ v, e = .returned (.tuple #[v, .bool R.2]) ∧ OwnR strE w' w.heap.size v R.1 ∧ Below w.heap.size w w'

set_option maxRecDepth 10000 in
set_option maxHeartbeats 4000000 in
theorem spec_Pieces (t : ByteArray) (n : Int) (w : World) (ht : t.size ≤ 1000000000) : Calls Try.prog 8 #[.string t, .int .i64 n] w (PcPost (pcR t n) w) := by
  obtain ⟨D, hD⟩ : ∃ D, (decide (1 ≤ n) && decide (n ≤ 4000)) = D := ⟨_, rfl⟩
  have HD := hide (fun W => l1In_calls n 1 4000 W)
  rw [hD] at HD
  have HO1 := hide (ownR_empty strE w w.heap.size (Nat.le_refl _))
  have HB1 := hide (bel1 w (.cells #[] 9))
  by_cases hok : 1 ≤ n ∧ n ≤ 4000 ∧ t.size ≤ 20000
  · have hr : pcR t n = (pcL t n.toNat (pcN t n.toNat), true) := by unfold pcR; rw [if_pos hok]
    rw [hr]
    obtain ⟨h1, h2, h3⟩ := hok
    obtain ⟨m, rfl⟩ := Int.eq_ofNat_of_zero_le (show 0 ≤ n by omega)
    rw [Int.toNat_natCast]
    obtain rfl : D = true := by rw [← hD]; simp; omega
    have hm1 : 1 ≤ m := by omega
    have hm2 : m ≤ 4000 := by omega
    obtain ⟨c, hc⟩ : ∃ c, pcN t m = c := ⟨_, rfl⟩
    have hc0 : Int.tdiv ((t.size : Int) + (m : Int) - 1) (m : Int) = (c : Int) := by
      rw [← hc]
      unfold pcN
      rw [Int.tdiv_eq_ediv_of_nonneg (by omega), show (t.size : Int) + (m : Int) - 1 = ((t.size + m - 1 : Nat) : Int) from by omega, ← Int.natCast_ediv]
    have hcl : c ≤ 20000 := by rw [← hc]; exact pcN_le t m hm1 h3
    have hlt := fun i => pcN_lt t m i hm1
    rw [hc] at hlt
    have HLT := hide hlt
    have HCC := hide hc
    have hm0 : ¬ (m : Int) = 0 := by omega
    rw [hc]
    clear hD hr hc h1 h2 hlt
    go_enter Try.func8, Try.ntmps8
    go_wp2_with (go_at_call 24; refine (unhide HD _).mono ?_; rintro e w' ⟨rfl, rfl⟩)
    have HB0 := hide (unhide HB1)
    have HO0 := hide (unhide HO1)
    go_loopw [6, 8] (fun o i wr => ∃ k : Nat, i = .int .i64 k ∧ k ≤ c ∧ Hid (OwnR strE wr w.heap.size o (pcL t m k)) ∧ Hid (Below w.heap.size w wr)) (fun _ i _ => c - (intOf i).toNat)
    case atStart => exact ⟨0, rfl, by omega, HO0, HB0⟩
    case round =>
      obtain ⟨k, rfl, hk, HO, HB⟩ := hrel
      by_cases hkc : k < c
      · have hlt := (unhide HLT k).1 hkc
        obtain ⟨q, hq⟩ : ∃ q, k * m = q := ⟨_, rfl⟩
        have i1 : (k : Int) * (m : Int) = (q : Int) := by rw [← hq]; simp
        have i2 : ((k : Int) + 1) * (m : Int) = ((q + m : Nat) : Int) := by rw [Int.add_mul, i1]; simp
        obtain ⟨E, hE⟩ : ∃ E, min (q + m) t.size = E := ⟨_, rfl⟩
        have e1 : min (t.size : Int) ((q + m : Nat) : Int) = (E : Int) := by omega
        have hE1 : q ≤ E := by omega
        have hE2 : E ≤ t.size := by omega
        have hT : pcT t m k = frameB 3 (putS (k : Int) ++ putS (c : Int) ++ putT (t.extract q E)) := by unfold pcT pcP; rw [unhide HCC, hq, hE]
        have hX : (t.extract q E).size ≤ 1000000 := by rw [ByteArray.size_extract]; omega
        rw [hq] at hlt
        have hq2 : q ≤ 20000 := by omega
        clear hq hE
        obtain ⟨X, hXX⟩ : ∃ X, t.extract q E = X := ⟨_, rfl⟩
        have HXX := hide hXX
        rw [hXX] at hT hX
        have s1 := putS_size (k : Int)
        have s2 := putS_size (c : Int)
        have s3 := putT_lp X
        have HN1 := hide (fun W => spec_PutNumber (k : Int) W)
        have HN2 := hide (fun W => spec_PutNumber (c : Int) W)
        have HN3 := hide (fun W => spec_PutText X W (by omega))
        generalize putS (k : Int) = A1 at hT s1 HN1
        generalize putS (c : Int) = A2 at hT s2 HN2
        generalize putT X = A3 at hT s3 HN3
        have hz : (A1 ++ A2).size ≤ 12 := by rw [ByteArray.size_append]; omega
        have HN4 := hide (fun W => spec_WriteFrame 3 (A1 ++ A2 ++ A3) W (by rw [ByteArray.size_append]; omega))
        generalize frameB 3 (A1 ++ A2 ++ A3) = F at hT HN4
        have HT := hide hT
        obtain ⟨a, cp, hf⟩ := (unhide HO).form
        subst hf
        rw [pcL_len] at HO
        have hlk : (pcL t m k).length < 100000000 := by rw [pcL_len]; omega
        have HLK := hide hlk
        clear hXX hT hlk hX
        go_wp2_with fail
        all_goals first
          | rw [show t.extract q ((q : Int) + (m : Int)).toNat = X from by rw [← unhide HXX, show ((q : Int) + (m : Int)).toNat = E from by omega]]
          | rw [show t.extract q t.size = X from by rw [← unhide HXX, show t.size = E from by omega]]
        all_goals
          clear e1 i1 i2 hE1 hE2 hq2
          refine (unhide HN1 _).mono ?_
          rintro e w2 ⟨rfl, hb2⟩
          have HO2 := hide ((unhide HO).keep hb2)
          have HB2 := hide (belOn (unhide HB) hb2)
          clear hb2
          go_wp2_with fail
          refine (unhide HN2 _).mono ?_
          rintro e w3 ⟨rfl, hb3⟩
          have HO3 := hide ((unhide HO2).keep hb3)
          have HB3 := hide (belOn (unhide HB2) hb3)
          clear hb3
          go_wp2_with fail
          refine (unhide HN3 _).mono ?_
          rintro e w4 ⟨rfl, hb4⟩
          have HO4 := hide ((unhide HO3).keep hb4)
          have HB4 := hide (belOn (unhide HB3) hb4)
          clear hb4
          go_wp2_with fail
          refine (unhide HN4 _).mono ?_
          rintro e w5 ⟨rfl, hb5⟩
          have HO5 := hide ((unhide HO4).keep hb5)
          have HB5 := hide (belOn (unhide HB4) hb5)
          clear hb5
          have hBs : w.heap.size ≤ w5.heap.size := (unhide HB5).size
          rw [pcL_len]
          go_wp2_with (at_builtin; go_must (refine appR (e := strE) rfl _ _ rfl (unhide HO5) rfl F rfl _ rfl rfl (unhide HLK) hBs ?_); intro v' w6 hown6 hb6 hg6)
          go_roundw
          case rel => exact ⟨k + 1, by go_num, by omega, hide (by rw [pcL_next, unhide HT]; exact hown6), hide ((unhide HB5).trans hb6)⟩
          case measure => simp [intOf]; omega
      · obtain rfl : k = c := by omega
        go_wp2_with fail
        go_ret2
        exact ⟨_, rfl, unhide HO, unhide HB⟩
  · have hr : pcR t n = ([], false) := by unfold pcR; rw [if_neg hok]
    rw [hr]
    by_cases hd : D = true
    · subst hd
      have h3 : 20000 < t.size := by
        simp only [Bool.and_eq_true, decide_eq_true_iff] at hD
        omega
      clear hok hr hD
      go_enter Try.func8, Try.ntmps8
      go_wp2_with (go_at_call 24; refine (unhide HD _).mono ?_; rintro e w' ⟨rfl, rfl⟩)
      go_ret2
      exact ⟨_, rfl, unhide HO1, unhide HB1⟩
    · obtain rfl : D = false := by simpa using hd
      clear hok hr hD hd
      go_enter Try.func8, Try.ntmps8
      go_wp2_with (go_at_call 24; refine (unhide HD _).mono ?_; rintro e w' ⟨rfl, rfl⟩)
      go_ret2
      exact ⟨_, rfl, unhide HO1, unhide HB1⟩
end Go.Proofs.Ytnkjdojpegmlcaa
