/- What DrawTakeNumber draws is short. -/
import Derived.Test.YtlkkhhelonbcbaaDrawN
import Derived.Test.YtlkkhhelonbcbaaByt
namespace Go.Proofs.Ytlkkhhelonbcbaa
open Go.RowKit Plain
set_option linter.unusedVariables false

theorem putS_pos (n : Int) (h0 : 0 ≤ n) (h1 : n ≤ 1000000000000) : 1 ≤ (putS n).size := by
  unfold putS
  rw [if_pos ⟨h0, h1⟩, strOfNums_size]
  unfold putL
  split <;> simp

set_option maxRecDepth 10000 in
set_option maxHeartbeats 1000000 in
theorem DrawTakeNumber_calls (a : Option Addr) (len cap : Nat) (zs : List Int) (w : World) (h : IsRow .u8 w a len cap zs) (hl : len ≤ 1048576) :
    Calls Try.prog 36 #[.slice a len cap] w fun e w' => ∃ s : ByteArray, e = .returned (.string s) ∧ s.size ≤ 30000 ∧ Below w.heap.size w w' := by
  have H := hide h
  clear h
  go_enter Try.func36, Try.ntmps36
  go_wp2_with fail
  refine (open_calls a len cap zs _ (unhide H) hl).mono ?_
  rintro e w1 ⟨rfl, hR1, hb1⟩
  have hb2 : Below w1.heap.size w1 (w1.alloc (.cells hiV 2)) := (Below.refl _ _).alloc (Nat.le_refl _) _
  have H1 := hide (hR1.below hb2)
  have hlt := hR1.lt
  have HB1 := hide hb1
  clear hR1 hb1
  go_wp2_with fail
  refine (below_calls w.heap.size a len cap zs 3 _ (unhide H1) (by omega) (by omega)).mono ?_
  rintro e w2 ⟨v, rfl, hv0, hv1, hR2, ho2⟩
  obtain ⟨K, rfl⟩ := Int.eq_ofNat_of_zero_le hv0
  obtain ⟨x, hx, hx0, hx1⟩ := hiV_get K (by omega)
  have hc : w2.cell? ⟨w1.heap.size, K, none⟩ = some (.int .i64 x) := by
    rw [ho2.cell ⟨w1.heap.size, K, none⟩ (by simp) (by simp)]
    exact (cell_of_row _ _ K hiV _ _ (h_new w1 _ rfl)).trans hx
  have HR2 := hide hR2
  have hoo := hide ((OnlyAt.of_below (a := ⟨w.heap.size, 1, none⟩) hb2).trans ho2)
  clear hR2 ho2 hb2 hx
  go_wp2_with fail
  refine (near_calls w.heap.size a len cap zs 0 x _ (unhide HR2) hx0 (by omega) (by omega)).mono ?_
  rintro e w3 ⟨n, rfl, hn0, hn1, hR3, ho3⟩
  have HB3 := hide ((unhide HB1).trans (((unhide hoo).trans ho3).below (Nat.le_refl _) (unhide HB1).size))
  have HR3 := hide hR3
  clear hR3 ho3 hoo HR2 H1 HB1 hc
  go_wp2_with fail
  refine (spec_PutNumber n _).mono ?_
  rintro e w4 ⟨rfl, hb4⟩
  have HR4 := hide ((unhide HR3).below hb4)
  have HB4 := hide ((unhide HB3).trans (hb4.mono (unhide HB3).size))
  have hp1 := putS_pos n hn0 (by omega)
  have hp6 := putS_size n
  clear hb4 HR3 HB3
  generalize putS n = s1 at hp1 hp6
  go_wp2_with fail
  refine (data_calls w.heap.size a len cap zs _ (unhide HR4)).mono ?_
  rintro e w5 ⟨s2, rfl, hs2, hR5, ho5⟩
  have HR5 := hide hR5
  have HB5 := hide ((unhide HB4).trans (ho5.below (Nat.le_refl _) (unhide HB4).size))
  clear hR5 ho5 HR4 HB4
  obtain ⟨cp, w6, hcv, hO6, hb6⟩ := bytes_own (s1 ++ s2) w5
  have hlen6 : (bL (s1 ++ s2)).length = (s1 ++ s2).size := bL_length _
  have hsz6 : (s1 ++ s2).size = s1.size + s2.size := ByteArray.size_append
  obtain ⟨L, hL⟩ : ∃ L, (s1 ++ s2).size = L := ⟨_, rfl⟩
  rw [hL] at hcv hlen6 hsz6
  have hL1 : 1 ≤ L := by omega
  have hL2 : L ≤ 12 := by omega
  have HO6 := hide hO6
  have HLN := hide hlen6
  have HR6 := hide ((unhide HR5).below hb6)
  have HB6 := hide ((unhide HB5).trans (hb6.mono (unhide HB5).size))
  have hz6 := hb6.size
  have hzw : w.heap.size < w5.heap.size := (unhide HR5).lt
  clear hO6 hlen6 hb6 HR5 HB5 hL hsz6
  go_wp2_with fail
  refine (below_calls w.heap.size a len cap zs L _ (unhide HR6) (by omega) (by omega)).mono ?_
  rintro e w7 ⟨v, rfl, hv0, hv1, hR7, ho7⟩
  obtain ⟨I, rfl⟩ := Int.eq_ofNat_of_zero_le hv0
  have hg6 := (unhide HO6).2.1
  have HO7 := hide ((unhide HO6).keep (ho7.block _ hg6 (by simp; omega)) ho7.size)
  have HR7 := hide hR7
  have HB7 := hide ((unhide HB6).trans (ho7.below (Nat.le_refl _) (unhide HB6).size))
  have hz7 := ho7.size
  clear hR7 ho7 HR6 HB6 HO6 hcv
  go_wp2_with fail
  refine (below_calls w.heap.size a len cap zs 8 _ (unhide HR7) (by omega) (by omega)).mono ?_
  rintro e w8 ⟨u, rfl, hu0, hu1, hR8, ho8⟩
  have hg7 := (unhide HO7).2.1
  have HO8 := hide ((unhide HO7).keep (ho8.block _ hg7 (by simp; omega)) ho8.size)
  have HB8 := hide ((unhide HB7).trans (ho8.below (Nat.le_refl _) (unhide HB7).size))
  have hz8 := ho8.size
  clear hR8 ho8 HR7 HB7 HO7
  have hI : I < L := by omega
  by_cases u0 : u = 0
  · subst u0
    obtain ⟨hc, hf⟩ : (∃ y : Int, w8.cell? ⟨w5.heap.size, I, none⟩ = some (.int .u8 y)) ∧ w8.frozen? ⟨w5.heap.size, I, none⟩ = false :=
      ⟨⟨_, (unhide HO8).2.2.2.1 I (by rw [unhide HLN]; exact hI)⟩, ((unhide HO8).2.2.2.2 I (by have := (unhide HO8).2.2.1; have := unhide HLN; omega)).2⟩
    obtain ⟨y, hc⟩ := hc
    have hcv2 := conv_pre _ _ _ _ L cp _ ((unhide HO8).set I (by rw [unhide HLN]; exact hI) (bits .or .u8 y 128)) (by rw [List.length_set, unhide HLN]; omega)
    have i0 : (0 : Int) ≤ (I : Int) := by omega
    have i1 : (I : Int) < (L : Int) := by omega
    go_wp2_with fail
    go_ret
    refine ⟨_, rfl, ?_, (unhide HB8).setCell (by simp; omega) _⟩
    rw [strOfNums_size, List.length_take]
    omega
  · by_cases u1 : u = 1
    · subst u1
      have hcv2 := conv_pre _ _ _ _ I cp _ (unhide HO8) (by rw [unhide HLN]; omega)
      have i0 : (0 : Int) ≤ (I : Int) := by omega
      have i1 : (I : Int) < (L : Int) := by omega
      have i2 : (I : Int) ≤ (cp : Int) := by have := (unhide HO8).2.2.1; have := unhide HLN; omega
      go_wp2_with fail
      go_ret
      refine ⟨_, rfl, ?_, unhide HB8⟩
      rw [strOfNums_size, List.length_take]
      omega
    · by_cases u2 : u = 2
      · subst u2
        have hcc : (convert 22 22 (.slice (some ⟨w8.heap.size, 0, none⟩) 2 2)).run Try.prog (w8.alloc (.cells #[.int .u8 128, .int .u8 0] 5)) = .ok (.slice (some ⟨w8.heap.size, 0, none⟩) 2 2) (w8.alloc (.cells #[.int .u8 128, .int .u8 0] 5 (2, 3))) := conv_const w8 [128, 0] 2 rfl
        have hcv2 : (convert 22 9 (.slice (some ⟨w8.heap.size, 0, none⟩) 2 2)).run Try.prog (w8.alloc (.cells #[.int .u8 128, .int .u8 0] 5 (2, 3))) = .ok (.string (strOfNums [128, 0])) (w8.alloc (.cells #[.int .u8 128, .int .u8 0] 5 (2, 3))) := conv_pre _ _ _ _ 2 2 _ (const_own w8 [128, 0] 2 rfl) (by decide)
        go_wp2_with fail
        go_ret
        exact ⟨_, rfl, by rw [strOfNums_size]; simp, (unhide HB8).alloc (unhide HB8).size _⟩
      · by_cases u3 : u = 3
        · subst u3
          have hcc : (convert 22 22 (.slice (some ⟨w8.heap.size, 0, none⟩) 6 6)).run Try.prog (w8.alloc (.cells #[.int .u8 255, .int .u8 255, .int .u8 255, .int .u8 255, .int .u8 255, .int .u8 127] 5)) = .ok (.slice (some ⟨w8.heap.size, 0, none⟩) 6 6) (w8.alloc (.cells #[.int .u8 255, .int .u8 255, .int .u8 255, .int .u8 255, .int .u8 255, .int .u8 127] 5 (6, 7))) := conv_const w8 [255, 255, 255, 255, 255, 127] 6 rfl
          have hcv2 : (convert 22 9 (.slice (some ⟨w8.heap.size, 0, none⟩) 6 6)).run Try.prog (w8.alloc (.cells #[.int .u8 255, .int .u8 255, .int .u8 255, .int .u8 255, .int .u8 255, .int .u8 127] 5 (6, 7))) = .ok (.string (strOfNums [255, 255, 255, 255, 255, 127])) (w8.alloc (.cells #[.int .u8 255, .int .u8 255, .int .u8 255, .int .u8 255, .int .u8 255, .int .u8 127] 5 (6, 7))) := conv_pre _ _ _ _ 6 6 _ (const_own w8 [255, 255, 255, 255, 255, 127] 6 rfl) (by decide)
          go_wp2_with fail
          go_ret
          exact ⟨_, rfl, by rw [strOfNums_size]; simp, (unhide HB8).alloc (unhide HB8).size _⟩
        · have hcv2 := conv_pre _ _ _ _ L cp _ (unhide HO8) (by rw [unhide HLN]; omega)
          go_wp2_with fail
          go_ret
          refine ⟨_, rfl, ?_, unhide HB8⟩
          rw [strOfNums_size, List.length_take]
          omega
end Go.Proofs.Ytlkkhhelonbcbaa
