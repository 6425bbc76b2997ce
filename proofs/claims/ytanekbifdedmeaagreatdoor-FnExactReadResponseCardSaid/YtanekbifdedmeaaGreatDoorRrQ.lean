/- ReadResponse, by the program. -/
import Derived.Test.YtanekbifdedmeaaGreatDoorRrO
namespace Go.Proofs.YtanekbifdedmeaaGreatDoor
open Go.RowKit Plain
set_option linter.unusedVariables false

theorem first_calls (b : Nat) (s : ByteArray) (w : World) (h : RdA b s 0 w) (hs : s.size ≤ 2000000) (hv : RrV w) :
    Calls Tryz.prog 75 #[.pointer (some ⟨b, 0, none⟩)] w fun e w' => (∃ tt, e = .returned (.tuple #[.string (bU (firL s.data.toList)), .bool tt])) ∧ OnlyAt ⟨b, 1, none⟩ w w' ∧ RdA b s (startP s.data.toList) w' ∧ startP s.data.toList ≤ s.size := by
  refine (line_calls b s 0 w h hs (Nat.zero_le _) hv).mono ?_
  have h0 : restL s 0 = s.data.toList := by unfold restL; rw [List.drop_zero]
  rintro e w' ⟨ho, ⟨hi, rfl, hA⟩ | ⟨t, hi, ht, rfl, hle, hA⟩⟩
  · rw [h0] at hi
    have e1 : firL s.data.toList = s.data.toList := by unfold firL; rw [hi, if_pos (by decide)]
    have e2 : startP s.data.toList = 0 := by unfold startP; rw [hi, if_pos (by decide)]
    rw [e1, e2, bU_self]
    refine ⟨⟨false, ?_⟩, ho, hA, Nat.zero_le _⟩
    rw [show s.extract 0 s.size = s from by simp]
  · rw [h0] at hi ht
    have e1 : firL s.data.toList = t.data.toList := by unfold firL; rw [hi, if_neg (by omega), Int.toNat_natCast, ht]
    have e2 : startP s.data.toList = t.size + 2 := by unfold startP; rw [hi, if_neg (by omega), Int.toNat_natCast]
    rw [e1, e2, bU_self]
    refine ⟨⟨true, rfl⟩, ho, ?_, by omega⟩
    rwa [Nat.zero_add] at hA
theorem cutBl_calls (l : List UInt8) (w : World) (hs : l.length ≤ 2000000) (hv : RrV w) :
    Calls Tryz.prog 94 #[.string (bU l), .string ⟨#[32]⟩] w fun e w' => (∃ tt, e = .returned (.tuple #[.string (bU (cutZ l)), .string (bU (cutA l)), .bool tt])) ∧ ∃ k, w' = w.drewN k := by
  have hz : (bU l).size ≤ 2000000 := by rw [bU_size]; exact hs
  rcases ix_room [32] l with q | ⟨K, q, hK⟩
  · refine (cutS_none (bU l) ⟨#[32]⟩ w hz hv (by rw [bU_data]; exact q)).mono ?_
    rintro e w' ⟨rfl, hw⟩
    refine ⟨⟨false, ?_⟩, hw⟩
    unfold cutZ cutA
    rw [q, if_pos (by decide), if_pos (by decide)]
    rfl
  · refine (cutS_yes (bU l) ⟨#[32]⟩ K w hz hv (by rw [bU_data]; exact q)).mono ?_
    rintro e w' ⟨rfl, hw⟩
    refine ⟨⟨true, ?_⟩, hw⟩
    have e1 : (bU l).extract 0 K = bU (cutZ l) := by
      apply bU_of
      rw [extR_take, bU_data]
      unfold cutZ
      rw [q, if_neg (by omega), Int.toNat_natCast]
    have e2 : (bU l).extract (K + 1) (bU l).size = bU (cutA l) := by
      apply bU_of
      rw [ext_drop, bU_data]
      unfold cutA
      rw [q, if_neg (by omega), Int.toNat_natCast]
    rw [show (⟨#[32]⟩ : ByteArray).size = 1 from rfl, e1, e2]

namespace Plain
/-- What reading a response leaves, ahead of the test. -/
def RspQ (B b : Nat) (N : Int) (t : Int × List Hd × List UInt8) (w : World) (e : Ending) (w' : World) : Prop := OnlyAt ⟨b, 1, none⟩ w w' ∧
  ((0 ≤ N ∧ t.1 = 0 ∧ ∃ a c, e = .returned (.tuple #[.agg #[.int .i64 N, .slice a t.2.1.length c, .string (bU t.2.2)], .nilIface]) ∧ OwnR hdrE w' B (.slice a t.2.1.length c) t.2.1) ∨
   ((N < 0 ∨ t.1 ≠ 0) ∧ ∃ (x : Int) (te : TypeId) (pe : Value), e = .returned (.tuple #[.agg #[.int .i64 x, .slice none 0 0, .string ⟨#[]⟩], .iface te pe])))
theorem firL_len (s : List UInt8) : (firL s).length ≤ s.length := by
  unfold firL
  split
  · exact Nat.le_refl _
  · rw [List.length_take]; omega
theorem cutA_len (s : List UInt8) : (cutA s).length ≤ s.length := by
  unfold cutA
  split
  · simp
  · rw [List.length_drop]; omega
theorem cutZ_len (s : List UInt8) : (cutZ s).length ≤ s.length := by
  unfold cutZ
  split
  · exact Nat.le_refl _
  · rw [List.length_take]; omega
end Plain

set_option maxRecDepth 10000 in
set_option maxHeartbeats 8000000 in
theorem response_calls (b : Nat) (s : ByteArray) (w w0 : World) (h : RdA b s 0 w) (hs : s.size ≤ 2000000) (hb0 : Below w0.heap.size w0 w) (hbl : w0.heap.size ≤ b) (hv : RrV w0) (hP : P10 w0) :
    Calls Tryz.prog 54 #[.pointer (some ⟨b, 0, none⟩)] w (RspQ w.heap.size b (stsP s.data.toList) (talF (numG 20000) (restL s (startP s.data.toList))) w) := by
  have hbw : b < w.heap.size := lt_of_cell h.c0
  have hsl := len_dataR s
  obtain ⟨W2, hW2⟩ : ∃ W2, W2 = w.alloc (.cells #[.int .i64 0, .slice none 0 0, .string ⟨#[]⟩] 36) := ⟨_, rfl⟩
  have hb2 : Below w.heap.size w W2 := by rw [hW2]; exact bel1 _ _
  have hB2 : Blk W2 w.heap.size [.int .i64 0, .slice none 0 0, .string ⟨#[]⟩] := by rw [hW2]; exact Blk.new w _ _
  have hbw2 := hb0.trans (hb2.mono hb0.size)
  have HF := hide (first_calls b s W2 (h.call hb2) hs (hv.below hbw2))
  obtain ⟨N, hN⟩ : ∃ N, stsP s.data.toList = N := ⟨_, rfl⟩
  rw [hN]
  unfold stsP at hN
  have hf1 := firL_len s.data.toList
  have hf2 := cutA_len (firL s.data.toList)
  have hf3 := cutZ_len (cutA (firL s.data.toList))
  have HC1 := hide (fun W (hW : Below w0.heap.size w0 W) => cutBl_calls (firL s.data.toList) W (by omega) (hv.below hW))
  have HC2 := hide (fun W (hW : Below w0.heap.size w0 W) => cutBl_calls (cutA (firL s.data.toList)) W (by omega) (hv.below hW))
  have HRD := hide (fun W (hW : Below w0.heap.size w0 W) => readDec_calls (bU (cutZ (cutA (firL s.data.toList)))) 1000000000000 W (by decide) (by rw [bU_size]; omega) (hv.below hW) (hP.below hW))
  rw [bU_data, hN] at HRD
  have HTL := hide (fun W (hW : Below w0.heap.size w0 W) (hA : RdA b s (startP s.data.toList) W) (hp : startP s.data.toList ≤ s.size) => tail_calls b s (startP s.data.toList) W w0 hA hs hp hW hbl hv hP)
  generalize talF (numG 20000) (restL s (startP s.data.toList)) = T at HTL
  generalize bU (cutZ (cutA (firL s.data.toList))) = x3 at HRD HC2
  generalize bU (cutZ (firL s.data.toList)) = y2 at HC1
  generalize bU (cutA (cutA (firL s.data.toList))) = y3 at HC2
  generalize bU (cutA (firL s.data.toList)) = x2 at HC2 HC1
  generalize bU (firL s.data.toList) = x1 at HF HC1
  generalize startP s.data.toList = p at HF HTL
  have HO2 := hide (OnlyAt.of_below (a := ⟨b, 1, none⟩) hb2)
  have HB2 := hide hB2
  have HW2 := hide hW2.symm
  have HB0 := hide hb0
  clear hN hf1 hf2 hf3 hsl h hb2 hB2 hW2 hb0 hbw2 hv hP
  go_enter Tryz.func54, Tryz.ntmps54
  go_wp2_with fail
  rw [unhide HW2]
  refine (unhide HF).mono ?_
  rintro e w1 ⟨⟨tt, rfl⟩, ho1, hA1, hp⟩
  have HO1 := hide ((unhide HO2).trans ho1)
  have HB1 := hide ((unhide HB2).onlyR ho1 (by omega))
  have HA1 := hide hA1
  have HWB := hide ((unhide HB0).trans ((unhide HO1).below hbl (unhide HB0).size))
  clear ho1 hA1 HW2 HF HO2 HB2
  go_wp2_with fail
  refine (unhide HC1 w1 (unhide HWB)).mono ?_
  rintro e w2 ⟨⟨t2, rfl⟩, k, rfl⟩
  go_wp2_with fail
  refine (unhide HC2 (w1.drewN k) (belDrewK (unhide HWB) k)).mono ?_
  rintro e w2 ⟨⟨t3, rfl⟩, k2, rfl⟩
  go_wp2_with fail
  refine (unhide HRD (w1.drewN (k + k2)) (belDrewK (unhide HWB) (k + k2))).mono ?_
  rintro e w3 ⟨rfl, hb3⟩
  have hb3' : Below w1.heap.size w1 w3 := (belDrewK (Below.refl w1.heap.size w1) (k + k2)).trans hb3
  have HO3 := hide ((unhide HO1).next hb3' (unhide HO1).size)
  have HB3 := hide ((unhide HB1).call hb3')
  have HA3 := hide ((unhide HA1).call hb3')
  have HW3 := hide ((unhide HB0).trans ((unhide HO3).below hbl (unhide HB0).size))
  clear hb3 hb3' HO1 HB1 HA1 HWB HC1 HC2 HRD
  unfold numAns
  by_cases hN : N < 0
  · rw [if_pos hN]
    obtain ⟨b0, b1, b2, z0, z1, z2⟩ := (unhide HB3).three
    obtain ⟨r0, r1, r2, HZ⟩ := out3_facts (unhide HB3) (unhide HO3) (.int .i64 0) (.slice none 0 0) (.string ⟨#[]⟩)
    go_wp2_with fail
    exact bodyPost_ret (v := .tuple #[.agg #[.int .i64 0, .slice none 0 0, .string ⟨#[]⟩], .iface 66 (.agg #[.int .i64 2, .int .i64 0])]) (by simp [results, Tryz.results54, go_sem, r0, r1, r2]) rfl ⟨unhide HZ, .inr ⟨.inl hN, _, _, _, rfl⟩⟩
  · rw [if_neg hN]
    have HT3 := hide (unhide HTL w3 (unhide HW3) (unhide HA3) hp)
    clear HTL
    go_wp2_with fail
    refine (unhide HT3).mono ?_
    rintro e w4 ⟨ho4, ⟨h1, a, c, rfl, hown⟩ | ⟨h1, at', rfl⟩⟩
    · have HO4 := hide ((unhide HO3).trans ho4)
      have HB4 := hide ((unhide HB3).onlyR ho4 (by omega))
      obtain ⟨b0, b1, b2, z0, z1, z2⟩ := (unhide HB4).three
      obtain ⟨r0, r1, r2, HZ⟩ := out3_facts (unhide HB4) (unhide HO4) (.int .i64 N) (.slice a T.2.1.length c) (.string (bU T.2.2))
      have hz3 : w.heap.size + 1 ≤ w3.heap.size := (unhide HB3).lt
      have HOWN := hide hown
      clear ho4 hown
      go_wp2_with fail
      exact bodyPost_ret (v := .tuple #[.agg #[.int .i64 N, .slice a T.2.1.length c, .string (bU T.2.2)], .nilIface]) (by simp [results, Tryz.results54, go_sem, r0, r1, r2]) rfl ⟨unhide HZ, .inl ⟨by omega, h1, a, c, rfl, own_lowR (out3_own (B := 0) (own_lowR (unhide HOWN) hz3)) (by omega)⟩⟩
    · have HO4 := hide ((unhide HO3).trans ho4)
      have HB4 := hide ((unhide HB3).onlyR ho4 (by omega))
      obtain ⟨b0, b1, b2, z0, z1, z2⟩ := (unhide HB4).three
      obtain ⟨r0, r1, r2, HZ⟩ := out3_facts (unhide HB4) (unhide HO4) (.int .i64 N) (.slice none 0 0) (.string ⟨#[]⟩)
      clear ho4
      go_wp2_with fail
      exact bodyPost_ret (v := .tuple #[.agg #[.int .i64 N, .slice none 0 0, .string ⟨#[]⟩], .iface 66 (.agg #[.int .i64 T.1, .int .i64 at'])]) (by simp [results, Tryz.results54, go_sem, r0, r1, r2]) rfl ⟨unhide HZ, .inr ⟨.inr h1, _, _, _, rfl⟩⟩
end Go.Proofs.YtanekbifdedmeaaGreatDoor
