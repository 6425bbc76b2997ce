/- Small letters for capital ones, by the specification. -/
import Derived.Test.YtanekbifdedmeaaGreatDoorGAH
import Derived.Test.YtanekbifdedmeaaGreatDoorRrN
namespace Go.Proofs.YtanekbifdedmeaaGreatDoor
open Go.RowKit Plain
set_option linter.unusedVariables false

def Plain.lowrI (x : Int) : Int := if 65 ≤ x ∧ x ≤ 90 then x + 32 else x
def Plain.lowA (xs : List Int) (i : Nat) : List Int := (xs.take i).map lowrI ++ xs.drop i
def Plain.lowS (s : ByteArray) : ByteArray := bU (lowL s.data.toList)
theorem lowA_len (xs : List Int) (i : Nat) : (lowA xs i).length = xs.length := by
  unfold lowA
  rw [List.length_append, List.length_map, List.length_take, List.length_drop]
  omega
theorem lowA_at (xs : List Int) (i : Nat) (h : i < xs.length) : (lowA xs i).getD i 0 = xs[i] := by
  unfold lowA
  rw [List.getD_eq_getElem?_getD, List.getElem?_append_right (by rw [List.length_map, List.length_take]; omega), List.length_map, List.length_take, List.getElem?_drop, show i + (i - min i xs.length) = i from by omega, List.getElem?_eq_getElem h]
  rfl
theorem lowA_set (xs : List Int) (i : Nat) (h : i < xs.length) : (lowA xs i).set i (lowrI xs[i]) = lowA xs (i + 1) := by
  unfold lowA
  rw [List.set_append_right _ _ (by rw [List.length_map, List.length_take]; omega), List.length_map, List.length_take, show i - min i xs.length = 0 from by omega, List.drop_eq_getElem_cons h, List.set_cons_zero, List.take_succ_eq_append_getElem h, List.map_append, List.append_assoc]
  rfl
theorem lowA_no (xs : List Int) (i : Nat) (h : i < xs.length) (hx : lowrI xs[i] = xs[i]) : lowA xs i = lowA xs (i + 1) := by
  rw [← lowA_set xs i h, hx]
  refine List.ext_getElem (by simp) fun j h1 h2 => ?_
  rw [List.getElem_set]
  split
  · rename_i q
    subst q
    have := lowA_at xs i h
    rw [List.getD_eq_getElem?_getD, List.getElem?_eq_getElem h1] at this
    exact this
  · rfl

theorem lowI_is (x : UInt8) : UInt8.ofNat (lowrI ((x.toNat : Nat) : Int)).toNat = smlB x := by
  unfold lowrI smlB
  have hx := x.toNat_lt
  by_cases h : 65 ≤ x.toNat ∧ x.toNat ≤ 90
  · rw [if_pos (by omega), if_pos ⟨UInt8.le_iff_toNat_le.2 (by simpa using h.1), UInt8.le_iff_toNat_le.2 (by simpa using h.2)⟩]
    apply UInt8.toNat_inj.1
    rw [UInt8.toNat_add, show ((x.toNat : Nat) : Int) + 32 = ((x.toNat + 32 : Nat) : Int) from by omega, Int.toNat_natCast]
    simp
  · rw [if_neg (by omega), if_neg (fun q => h ⟨by simpa using UInt8.le_iff_toNat_le.1 q.1, by simpa using UInt8.le_iff_toNat_le.1 q.2⟩), Int.toNat_natCast]
    simp
theorem lowS_is (s : ByteArray) : strOfNums ((lowA (bL s) s.size).take s.size) = lowS s := by
  have hl := bL_length s
  unfold lowA
  rw [List.drop_of_length_le (by omega), List.append_nil, List.take_of_length_le (show (bL s).length ≤ s.size from by omega), List.take_of_length_le (by rw [List.length_map]; omega)]
  unfold lowS lowL bL strOfNums bU
  rw [List.map_map, List.map_map]
  congr 1
  congr 1
  exact List.map_congr_left fun x _ => lowI_is x

set_option maxHeartbeats 2000000 in
theorem l16Lower_calls (s : ByteArray) (w : World) (hs : s.size ≤ 1000000) :
    Calls Tryz.prog 122 #[.string s] w fun e w' => e = .returned (.string (lowS s)) ∧ Below w.heap.size w w' := by
  obtain ⟨cap, w1, hconv, ho, hb⟩ := bytes_own s w
  have hbl := bL_length s
  have HO := hide ho
  have HB := hide hb
  clear ho hb
  go_enter Tryz.func122, Tryz.ntmps122
  go_wp2_with fail
  go_loopw [4] (fun s4 wr => ∃ i : Nat, s4 = .int .i64 i ∧ i ≤ s.size ∧ Hid (OwnP wr w.heap.size w.heap.size cap (lowA (bL s) i)) ∧ Hid (Below w.heap.size w wr)) (fun s4 _ => s.size - (intOf s4).toNat)
  case atStart => exact ⟨0, rfl, by omega, hide (by unfold lowA; simpa using unhide HO), HB⟩
  case round =>
    clear HO HB
    obtain ⟨i, rfl, hi, HO, HB⟩ := hrel
    by_cases hin : i < s.size
    · have hil : i < (bL s).length := by rw [hbl]; exact hin
      have i0 : (0 : Int) ≤ (i : Int) := by omega
      have i1 : (i : Int) < (s.size : Int) := by omega
      have hc := (unhide HO).2.2.2.1 i (by rw [lowA_len]; exact hil)
      have hz := ((unhide HO).2.2.2.2 i (by have := (unhide HO).2.2.1; rw [lowA_len] at this; omega)).2
      rw [lowA_at _ _ hil] at hc
      have hx0 : 0 ≤ (bL s)[i] ∧ (bL s)[i] < 256 := by
        have := bL_byte s i
        rwa [List.getD_eq_getElem?_getD, List.getElem?_eq_getElem hil, Option.getD_some] at this
      have hst := lowA_set (bL s) i hil
      have hno := lowA_no (bL s) i hil
      generalize (bL s)[i] = x at hc hx0 hst hno
      have HST := hide hst
      have HNO := hide hno
      clear hst hno
      by_cases h1 : 65 ≤ x
      · by_cases h2 : x ≤ 90
        · have hw : IntKind.u8.wrap (x + 32) = x + 32 := by rw [IntKind.wrap_u8]; omega
          have HO2 := hide (show OwnP (wr.setCell ⟨w.heap.size, i, none⟩ (.int .u8 (x + 32))) w.heap.size w.heap.size cap (lowA (bL s) (i + 1)) from by
            have := (unhide HO).set i (by rw [lowA_len]; exact hil) (lowrI x)
            rw [unhide HST] at this
            rwa [show lowrI x = x + 32 from by unfold lowrI; rw [if_pos ⟨h1, h2⟩]] at this)
          have HB2 := hide ((unhide HB).setCell (p := ⟨w.heap.size, i, none⟩) (Nat.le_refl _) (.int .u8 (x + 32)))
          go_wp2_with fail
          go_roundw
          case rel => exact ⟨i + 1, by go_num, by omega, HO2, HB2⟩
          case measure => simp [intOf]; omega
        · have hl : lowrI x = x := by unfold lowrI; rw [if_neg (by omega)]
          have HO2 := hide (show OwnP wr w.heap.size w.heap.size cap (lowA (bL s) (i + 1)) from by rw [← unhide HNO hl]; exact unhide HO)
          go_wp2_with fail
          go_roundw
          case rel => exact ⟨i + 1, by go_num, by omega, HO2, HB⟩
          case measure => simp [intOf]; omega
      · have hl : lowrI x = x := by unfold lowrI; rw [if_neg (by omega)]
        have HO2 := hide (show OwnP wr w.heap.size w.heap.size cap (lowA (bL s) (i + 1)) from by rw [← unhide HNO hl]; exact unhide HO)
        go_wp2_with fail
        go_roundw
        case rel => exact ⟨i + 1, by go_num, by omega, HO2, HB⟩
        case measure => simp [intOf]; omega
    · obtain rfl : s.size = i := by omega
      have hcv := conv_pre wr w.heap.size w.heap.size cap s.size cap _ (unhide HO) (by rw [lowA_len, hbl]; exact Nat.le_refl _)
      rw [lowS_is] at hcv
      go_wp2_with fail
      go_ret
      exact ⟨rfl, unhide HB⟩

theorem capB_calls (n : Int) (w : World) :
    Calls Tryz.prog 69 #[.int .u8 n] w fun e w' => e = .returned (.bool (decide (65 ≤ n) && decide (n ≤ 90))) ∧ w = w' := by
  obtain ⟨w0, rfl⟩ : ∃ w0, w0 = w := ⟨_, rfl⟩
  by_cases h1 : 65 ≤ n
  · by_cases h2 : n ≤ 90
    · rw [decide_eq_true h1, decide_eq_true h2]
      go_enter Tryz.func69, Tryz.ntmps69
      go_wp2_with fail
      go_ret
      exact ⟨retBR (by simp <;> omega), rfl⟩
    · rw [decide_eq_true h1, decide_eq_false h2]
      go_enter Tryz.func69, Tryz.ntmps69
      go_wp2_with fail
      go_ret
      exact ⟨retBR (by simp <;> omega), rfl⟩
  · rw [decide_eq_false h1, Bool.false_and]
    go_enter Tryz.func69, Tryz.ntmps69
    go_wp2_with fail
    go_ret
    exact ⟨rfl, rfl⟩

set_option maxHeartbeats 2000000 in
theorem lowered_calls (s : ByteArray) (w : World) (hs : s.size ≤ 2000000) :
    Calls Tryz.prog 158 #[.string s] w fun e w' => e = .returned (.string (lowS s)) ∧ Below w.heap.size w w' := by
  obtain ⟨cap, w1, hconv, ho, hb⟩ := bytes_own s w
  have hbl := bL_length s
  have HO := hide ho
  have HB := hide hb
  clear ho hb
  go_enter Tryz.func158, Tryz.ntmps158
  go_wp2_with fail
  go_loopw [10] (fun s4 wr => ∃ i : Nat, s4 = .int .i64 i ∧ i ≤ s.size ∧ Hid (OwnP wr w.heap.size w.heap.size cap (lowA (bL s) i)) ∧ Hid (Below w.heap.size w wr)) (fun s4 _ => s.size - (intOf s4).toNat)
  case atStart => exact ⟨0, rfl, by omega, hide (by unfold lowA; simpa using unhide HO), HB⟩
  case round =>
    clear HO HB
    obtain ⟨i, rfl, hi, HO, HB⟩ := hrel
    by_cases hin : i < s.size
    · have hil : i < (bL s).length := by rw [hbl]; exact hin
      have i0 : (0 : Int) ≤ (i : Int) := by omega
      have i1 : (i : Int) < (s.size : Int) := by omega
      have hc := (unhide HO).2.2.2.1 i (by rw [lowA_len]; exact hil)
      have hz := ((unhide HO).2.2.2.2 i (by have := (unhide HO).2.2.1; rw [lowA_len] at this; omega)).2
      rw [lowA_at _ _ hil] at hc
      have hx0 : 0 ≤ (bL s)[i] ∧ (bL s)[i] < 256 := by
        have := bL_byte s i
        rwa [List.getD_eq_getElem?_getD, List.getElem?_eq_getElem hil, Option.getD_some] at this
      have hst := lowA_set (bL s) i hil
      have hno := lowA_no (bL s) i hil
      generalize (bL s)[i] = x at hc hx0 hst hno
      have HST := hide hst
      have HNO := hide hno
      clear hst hno
      have HK := hide (fun W => capB_calls x W)
      by_cases h1 : 65 ≤ x ∧ x ≤ 90
      · obtain ⟨h1, h2⟩ := h1
        rw [decide_eq_true h1, decide_eq_true h2] at HK
        have hw1 : IntKind.u8.wrap (x - 65) = x - 65 := by rw [IntKind.wrap_u8]; omega
        have hw : IntKind.u8.wrap (x - 65 + 97) = x + 32 := by rw [IntKind.wrap_u8]; omega
        have HO2 := hide (show OwnP (wr.setCell ⟨w.heap.size, i, none⟩ (.int .u8 (x + 32))) w.heap.size w.heap.size cap (lowA (bL s) (i + 1)) from by
          have := (unhide HO).set i (by rw [lowA_len]; exact hil) (lowrI x)
          rw [unhide HST] at this
          rwa [show lowrI x = x + 32 from by unfold lowrI; rw [if_pos ⟨h1, h2⟩]] at this)
        have HB2 := hide ((unhide HB).setCell (p := ⟨w.heap.size, i, none⟩) (Nat.le_refl _) (.int .u8 (x + 32)))
        go_wp2_with (go_at_call 69; refine (unhide HK _).mono ?_; rintro e w1 ⟨rfl, rfl⟩)
        go_roundw
        case rel => exact ⟨i + 1, by go_num, by omega, HO2, HB2⟩
        case measure => simp [intOf]; omega
      · rw [show (decide (65 ≤ x) && decide (x ≤ 90)) = false from by rw [← Bool.decide_and]; exact decide_eq_false h1] at HK
        have hl : lowrI x = x := by unfold lowrI; rw [if_neg h1]
        have HO2 := hide (show OwnP wr w.heap.size w.heap.size cap (lowA (bL s) (i + 1)) from by rw [← unhide HNO hl]; exact unhide HO)
        go_wp2_with (go_at_call 69; refine (unhide HK _).mono ?_; rintro e w1 ⟨rfl, rfl⟩)
        go_roundw
        case rel => exact ⟨i + 1, by go_num, by omega, HO2, HB⟩
        case measure => simp [intOf]; omega
    · obtain rfl : s.size = i := by omega
      have hcv := conv_pre wr w.heap.size w.heap.size cap s.size cap _ (unhide HO) (by rw [lowA_len, hbl]; exact Nat.le_refl _)
      rw [lowS_is] at hcv
      go_wp2_with fail
      go_ret
      exact ⟨rfl, unhide HB⟩
end Go.Proofs.YtanekbifdedmeaaGreatDoor
