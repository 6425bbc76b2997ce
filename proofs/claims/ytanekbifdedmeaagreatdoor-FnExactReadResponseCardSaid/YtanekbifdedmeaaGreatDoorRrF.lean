/- Where a piece first stands in a text, by the specification. -/
import Derived.Test.YtanekbifdedmeaaGreatDoorGAA
import Derived.Lib.IndexLaws
import Derived.Deep.DeepCutAuto
namespace Go.Proofs.YtanekbifdedmeaaGreatDoor
open Go.RowKit Plain
set_option linter.unusedVariables false

theorem extR_list (s : ByteArray) (i j : Nat) : (s.extract i j).toList = (s.toList.drop i).take (j - i) := by
  rw [ByteArray.toList_eq, ByteArray.toList_eq, ByteArray.data_extract, Array.toList_extract]
theorem occ_ext (s p : ByteArray) (i : Nat) (h : i + p.size ≤ s.size) : Lib.occAt s.toList p.toList i = ((s.extract i (i + p.size)).toList == p.toList) := by
  rw [Lib.occAt_iff_take _ _ _ (by rw [show p.toList.length = p.size from by rw [ByteArray.toList_eq]; rfl, show s.toList.length = s.size from by rw [ByteArray.toList_eq]; rfl]; exact h), extR_list, Nat.add_sub_cancel_left]
  rw [show p.toList.length = p.size from by rw [ByteArray.toList_eq]; rfl]

set_option maxHeartbeats 2000000 in
theorem l16Find_calls (s p : ByteArray) (w : World) (hs : s.size ≤ 1000000) (h1 : 1 ≤ p.size) (h2 : p.size ≤ 1000) :
    Calls Tryz.prog 44 #[.string s, .string p] w fun e w' => e = .returned (.int .i64 (Lib.index s.toList p.toList)) ∧ w = w' := by
  have hls : s.toList.length = s.size := by rw [ByteArray.toList_eq]; rfl
  have hlp : p.toList.length = p.size := by rw [ByteArray.toList_eq]; rfl
  go_enter Tryz.func44, Tryz.ntmps44
  go_wp2_with fail
  go_loopw [5] (fun s5 wr => ∃ i : Nat, s5 = .int .i64 i ∧ i ≤ s.size + 1 ∧ Hid (Lib.NoOcc s.toList p.toList i) ∧ w = wr) (fun s5 _ => s.size + 2 - (intOf s5).toNat)
  case atStart => exact ⟨0, rfl, by omega, hide (Lib.NoOcc.zero _ _), rfl⟩
  case round =>
    obtain ⟨i, rfl, hi, HN, rfl⟩ := hrel
    by_cases hin : i + p.size ≤ s.size
    · have i0 : (i : Int) + (p.size : Int) ≤ (s.size : Int) := by omega
      have i1 : (0 : Int) ≤ (i : Int) := by omega
      have ho := occ_ext s p i hin
      cases hb : ((s.extract i (i + p.size)).toList == p.toList) with
      | true =>
        rw [hb] at ho
        have hx := Lib.index_hit (unhide HN) (by rw [hls]; omega) ho
        have HX := hide hx
        clear hx ho
        go_wp2_with fail
        go_ret
        exact ⟨by rw [unhide HX]; rfl, rfl⟩
      | false =>
        rw [hb] at ho
        have HN2 := hide ((unhide HN).succ ho)
        clear ho
        go_wp2_with fail
        go_roundw
        case rel => exact ⟨i + 1, by go_num, by omega, HN2, trivial⟩
        case measure => simp [intOf]; omega
    · have hx := Lib.index_past (s := s.toList) (sub := p.toList) (i := i) (fun q => by rw [q] at hlp; simp at hlp; omega) (unhide HN) (by rw [hls, hlp]; omega)
      have HX := hide hx
      have i0 : ¬ ((i : Int) + (p.size : Int) ≤ (s.size : Int)) := by omega
      clear hx
      go_wp2_with fail
      go_ret
      exact ⟨by rw [unhide HX]; rfl, rfl⟩
end Go.Proofs.YtanekbifdedmeaaGreatDoor
