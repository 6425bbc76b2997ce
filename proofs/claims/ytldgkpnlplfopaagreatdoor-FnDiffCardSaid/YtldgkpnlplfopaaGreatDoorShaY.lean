/- The specification's sum. -/
import Derived.Test.YtldgkpnlplfopaaGreatDoorShaK
namespace Go.Proofs.YtldgkpnlplfopaaGreatDoor
open Go.RowKit Plain
set_option linter.unusedVariables false

set_option maxRecDepth 10000 in
set_option maxHeartbeats 2000000 in
theorem specSum_calls (s : ByteArray) (w : World) (hs : s.size ≤ 4194304) :
    Calls Tryz.prog 56 #[.string s] w fun r w' => ∃ g c, r = .returned (.slice (some ⟨g, 0, none⟩) 8 c) ∧ w.heap.size ≤ g ∧ g < w'.heap.size ∧ Words w' g (sumL s) ∧ Below w.heap.size w w' := by
  obtain ⟨cap0, w0, hcv, hown0, hb0⟩ := bytes_own s w
  have HO0 := hide hown0
  have HB0 := hide hb0
  have hz0 := hb0.size
  have HCV := hide hcv
  clear hown0 hb0
  go_enter Tryz.func56, Tryz.ntmps56
  go_upto_region 2 with (at_builtin; go_must (refine appP rfl _ _ rfl (unhide HO0) (bL_length s) rfl rfl (by omega) hz0 ?_); intro g1 cap1 w1 hown1 hb1)
  rw [padL_zero] at hown1
  have HO1 := hide hown1
  have HB1 := hide ((unhide HB0).trans hb1)
  clear hown1 hb1 HO0 HB0 hz0 hcv HCV
  go_loopw [3] (fun v wr => ∃ (k n g cap : Nat), v = .slice (some ⟨g, 0, none⟩) n cap ∧ k ≤ padN s.size ∧ Hid (n = s.size + 1 + k) ∧ Hid (OwnP wr w.heap.size g cap (padL s k)) ∧ Hid (Below w.heap.size w wr)) (fun v _ => s.size + 1 + padN s.size - lenV v)
  case atStart => exact ⟨0, _, g1, cap1, rfl, by omega, hide rfl, HO1, HB1⟩
  case round =>
    clear HO1 HB1
    obtain ⟨k, n, g, cap, rfl, hk, HN, HO, HB⟩ := hrel
    have hpl := padN_le s.size
    by_cases hlt : k < padN s.size
    · have hne : ¬ n % 64 = 56 := by rw [unhide HN, padN_stop _ _ hk]; omega
      have ht : Int.tmod (n : Int) 64 = ((n % 64 : Nat) : Int) := rfl
      have hne2 : ¬ ((n % 64 : Nat) : Int) = 56 := by omega
      have hln : (padL s k).length = n := by rw [padL_length]; exact (unhide HN).symm
      have hn9 : n < 1000000000000 := by rw [unhide HN]; omega
      have hzz := (unhide HB).size
      clear hne
      go_wp2_with (at_builtin; go_must (refine appP rfl _ _ rfl (unhide HO) hln rfl rfl hn9 hzz ?_); intro g1 cap1 w1 hown1 hb1)
      go_roundw
      case rel => exact ⟨k + 1, n + 1, g1, cap1, rfl, by omega, hide (by rw [unhide HN]; omega), hide (by rw [← padL_next]; exact hown1), hide ((unhide HB).trans hb1)⟩
      case measure => have := unhide HN; simp [lenV]; omega
    · obtain rfl : k = padN s.size := by omega
      have ht : Int.tmod (n : Int) 64 = 56 := by
        have : n % 64 = 56 := by rw [unhide HN]; exact (padN_stop _ _ hk).2 rfl
        exact congrArg Nat.cast this
      have hw1 : IntKind.u64.wrap (s.size : Int) = (s.size : Int) := by rw [IntKind.wrap_u64]; omega
      have hw2 : IntKind.u64.wrap ((s.size : Int) * 8) = (s.size : Int) * 8 := by rw [IntKind.wrap_u64]; omega
      have HS := hide hs
      clear hs hlt hk
      rename World => wp
      go_wp2_with fail
      have HP := hide (padL_length s (padN s.size))
      go_loopw [3, 5] (fun v i wr => ∃ (j n g cap : Nat), v = .slice (some ⟨g, 0, none⟩) n cap ∧ i = .int .i64 (7 - (j : Int)) ∧ j ≤ 8 ∧ Hid (n = s.size + 1 + padN s.size + j) ∧ Hid (OwnP wr w.heap.size g cap (padL s (padN s.size) ++ (be8 (s.size * 8)).take j)) ∧ Hid (Below w.heap.size w wr)) (fun _ i _ => (intOf i + 1).toNat)
      case atStart => exact ⟨0, n, g, cap, rfl, rfl, by omega, HN, hide (by rw [List.take_zero, List.append_nil]; exact unhide HO), HB⟩
      case round =>
        clear HN HO HB ht
        obtain ⟨j, n, g, cap, rfl, rfl, hj, HN, HO, HB⟩ := hrel
        by_cases hlt : j < 8
        · obtain ⟨q, hq⟩ : ∃ q, 8 * (7 - j) = q := ⟨_, rfl⟩
          have hqi : 8 * (7 - (j : Int)) = (q : Int) := by omega
          have hq56 : q ≤ 56 := by omega
          have hnx := hide (be8_next (s.size * 8) j hlt)
          rw [hq] at hnx
          have hzz := (unhide HB).size
          have hln : (padL s (padN s.size) ++ (be8 (s.size * 8)).take j).length = n := by rw [List.length_append, unhide HP, be8_len _ _ hj]; exact (unhide HN).symm
          have hn9 : n < 1000000000000 := by have := unhide HS; rw [unhide HN]; omega
          have j0 : (0 : Int) ≤ (j : Int) := by omega
          have j1 : (j : Int) < 8 := by omega
          clear hq
          go_wp2_with (at_builtin; go_must (refine appP rfl _ _ rfl (unhide HO) hln rfl rfl hn9 hzz ?_); intro g1 cap1 w1 hown1 hb1)
          go_roundw
          case rel => exact ⟨j + 1, n + 1, g1, cap1, rfl, by go_num, by omega, hide (by rw [unhide HN]; omega), hide (by rw [← unhide hnx, ← List.append_assoc]; exact hown1), hide ((unhide HB).trans hb1)⟩
          case measure => simp [intOf]; omega
        · obtain rfl : j = 8 := by omega
          have hall := all_eq s
          have hO := unhide HO
          rw [List.take_of_length_le (by simp [be8]), hall] at hO
          have HO2 := hide hO
          have hln : (allL s).length = n := by rw [← hall, List.length_append, padL_length]; exact (unhide HN).symm
          clear hO hall HO
          rename World => wq
          go_wp2_with fail
          refine (l1K_calls wq).mono ?_
          rintro e w2 ⟨rfl, hK2, hb2, hz2⟩
          have hgl := (unhide HO2).2.1
          have hgb := (unhide HO2).1
          have HO3 := hide ((unhide HO2).keep (hb2.block _ hgl) hb2.size)
          have HK2 := hide hK2
          have hzq := (unhide HB).size
          have HB2 := hide ((unhide HB).trans (hb2.mono hzq))
          obtain ⟨m, hm⟩ : ∃ m, (allL s).length / 64 = m := ⟨_, rfl⟩
          have hnm : n = 64 * m := by
            have h1 := (padN_stop s.size (padN s.size) (Nat.le_refl _)).2 rfl
            have h2 := unhide HN
            omega
          have hs := unhide HS
          have hm6 : m ≤ 65540 := by have h2 := unhide HN; omega
          subst hnm
          have hgl2 : g < w2.heap.size := by omega
          have hcap : 64 * m ≤ cap := by have := (unhide HO2).2.2.1; omega
          have HCH := hide (chunk_ok s)
          have HM := hide hm
          have HLN := hide hln
          clear hb2 hK2 HB HO2 hlt hj HN HP hpl hw1 hw2 hs HS hm hln
          go_wp2_with fail
          have hst : Words (w2.alloc (.cells #[.int .u32 1779033703, .int .u32 3144134277, .int .u32 1013904242, .int .u32 2773480762, .int .u32 1359893119, .int .u32 2600822924, .int .u32 528734635, .int .u32 1541459225] 93)) w2.heap.size (hN (allL s) 0) := words_of_block (t := 93) (h_new _ _ rfl)
          have HST := hide hst
          clear hst
          go_loopw [7, 8] (fun v i wr => ∃ (j gh ch : Nat), v = .slice (some ⟨gh, 0, none⟩) 8 ch ∧ i = .int .i64 (64 * (j : Int)) ∧ j ≤ m ∧ w2.heap.size ≤ gh ∧ gh < wr.heap.size ∧ Hid (Words wr gh (hN (allL s) j)) ∧ Hid (Below w2.heap.size w2 wr)) (fun _ i _ => 64 * m - (intOf i).toNat)
          case atStart => exact ⟨0, w2.heap.size, 8, rfl, rfl, by omega, Nat.le_refl _, by simp, HST, (Below.refl _ _).alloc (Nat.le_refl _) _⟩
          case round =>
            clear HST
            obtain ⟨j, gh, ch, rfl, rfl, hj, hgh, hgh2, HW, HBw⟩ := hrel
            by_cases hlt : j < m
            · have hch := hide (unhide HCH j (by rw [unhide HM]; exact hlt))
              have hrg := range_chunk (range_of_block ((unhide HBw).block _ hgl2) (unhide HO3).range) j (by rw [unhide HLN]; omega)
              have hkw := (unhide HK2).below (unhide HBw) hz2
              have hszw := (unhide HBw).size
              have hv8 := hN_length (allL s) j
              have hvw := hN_word (allL s) j
              have hstep : hN (allL s) (j + 1) = blockL (hN (allL s) j) (chunk (allL s) j) := rfl
              generalize hN (allL s) j = v at HW hv8 hvw hstep
              generalize chunk (allL s) j = b at hch hrg hstep
              obtain ⟨v0, v1, v2, v3, v4, v5, v6, v7, rfl⟩ := list8 hv8
              have HBI : Hid (BlkIn wr gh wq.heap.size g (j * 64) [v0, v1, v2, v3, v4, v5, v6, v7] b) := hide ⟨hgh2, by omega, by omega, unhide HW, hkw, hrg⟩
              have HST := hide hstep
              have HVW := hide hvw
              obtain ⟨p, hp⟩ : ∃ p, j * 64 = p := ⟨_, rfl⟩
              rw [hp] at HBI
              have hpi : 64 * (j : Int) = (p : Int) := by omega
              have hpm : p + 64 ≤ 64 * m := by omega
              obtain ⟨L, hL⟩ : ∃ L, 64 * m = L := ⟨_, rfl⟩
              rw [hL] at hpm hcap
              have i0 : (0 : Int) ≤ (p : Int) := by omega
              have i1 : (p : Int) + 64 ≤ (L : Int) := by omega
              have i2 : (p : Int) < (L : Int) := by omega
              have i3 : (L : Int) ≤ (cap : Int) := by omega
              have i4 : (p : Int) + 64 ≤ (cap : Int) := by omega
              have i5 : (L : Int) < 10000000 := by omega
              have n1 : ((p : Int) + 64).toNat = p + 64 := by omega
              have j1 : IntKind.i64.wrap ((p : Int) + 64) = (p : Int) + 64 := by rw [IntKind.wrap_i64]; omega
              simp only [hL, hpi]
              clear hv8 hstep hvw hrg hkw
              have n2 : p + 64 - p = 64 := by omega
              go_wp2_with (go_at_call 69; refine (l1Block_calls gh wq.heap.size g p ch 64 _ v0 v1 v2 v3 v4 v5 v6 v7 b wr (unhide HBI) (unhide hch) (unhide HVW)).mono ?_; rintro e w3 ⟨g3, c3, rfl, hg3, hl3, hW3, hb3⟩)
              go_roundw
              case rel => exact ⟨j + 1, g3, c3, rfl, by rw [← hpi]; go_num, by omega, by omega, hl3, hide (by rw [unhide HST]; exact hW3), hide ((unhide HBw).trans (hb3.mono hszw))⟩
              case measure => simp [intOf]; omega
            · obtain rfl : j = m := by omega
              have hW := unhide HW
              rw [← unhide HM] at hW
              have HW2 := hide hW
              obtain ⟨L, hL⟩ : ∃ L, 64 * j = L := ⟨_, rfl⟩
              have hLi : 64 * (j : Int) = (L : Int) := by omega
              simp only [hL, hLi]
              have i5 : (L : Int) < 10000000 := by omega
              clear HW hW
              go_wp2_with fail
              go_ret
              exact ⟨gh, ch, rfl, by omega, hgh2, unhide HW2, (unhide HB2).trans ((unhide HBw).mono (by omega))⟩
end Go.Proofs.YtldgkpnlplfopaaGreatDoor
