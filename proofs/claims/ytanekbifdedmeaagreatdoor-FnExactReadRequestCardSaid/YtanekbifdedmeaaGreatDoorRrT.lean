/- Without the blanks at the ends, by the specification. -/
import Derived.Test.YtanekbifdedmeaaGreatDoorTrmI
import Derived.Test.YtanekbifdedmeaaGreatDoorRrL
namespace Go.Proofs.YtanekbifdedmeaaGreatDoor
open Go.RowKit Plain
set_option linter.unusedVariables false

namespace Plain
def trmR (l : List UInt8) : List UInt8 := (l.reverse.dropWhile fun c => c == 32).reverse
theorem trmR_cons (x : UInt8) (l : List UInt8) : trmR (x :: l) = if trmR l = [] then (if (x == 32) = true then [] else [x]) else x :: trmR l := by
  unfold trmR
  rw [List.reverse_cons, List.dropWhile_append]
  cases h : (l.reverse.dropWhile fun c => c == 32) with
  | nil =>
    simp only [List.isEmpty_nil, if_true, List.reverse_nil, List.dropWhile_cons, List.dropWhile_nil]
    split <;> rfl
  | cons y t => simp
/-- The ends in either order. -/
theorem trm_comm : ∀ l : List UInt8, trmR (l.dropWhile fun c => c == 32) = trmL l
  | [] => rfl
  | x :: l => by
    have ih := trm_comm l
    change trmR (l.dropWhile _) = (trmR l).dropWhile _ at ih
    change trmR ((x :: l).dropWhile _) = (trmR (x :: l)).dropWhile _
    rw [List.dropWhile_cons, trmR_cons]
    by_cases hx : (x == 32) = true
    · rw [if_pos hx, ih]
      by_cases hl : trmR l = []
      · rw [if_pos hl, if_pos hx, hl]
      · rw [if_neg hl, List.dropWhile_cons, if_pos hx]
    · rw [if_neg hx, trmR_cons]
      by_cases hl : trmR l = []
      · rw [if_pos hl, if_neg hx, List.dropWhile_cons, if_neg hx]
      · rw [if_neg hl, List.dropWhile_cons, if_neg hx]
end Plain

set_option maxRecDepth 10000 in
set_option maxHeartbeats 1000000 in
theorem l16Trim_calls (s : ByteArray) (w : World) (hs : s.size ≤ 1000000) :
    Calls Tryz.prog 123 #[.string s] w fun e w' => e = .returned (.string (bU (trmL s.data.toList))) ∧ w = w' := by
  go_enter Tryz.func123, Tryz.ntmps123
  go_wp2_with fail
  go_loopw [0] (fun v wr => ∃ t : ByteArray, v = .string t ∧ t.size ≤ s.size ∧ Hid (t.data.toList.dropWhile (fun c => c == 32) = s.data.toList.dropWhile (fun c => c == 32)) ∧ w = wr) (fun v _ => strSz v)
  case atStart => exact ⟨s, rfl, Nat.le_refl _, hide rfl, rfl⟩
  case round =>
    obtain ⟨t, rfl, hts, HR, rfl⟩ := hrel
    by_cases h0 : 0 < t.size
    · obtain ⟨c, hc⟩ : ∃ c, t[0].toNat = c := ⟨_, rfl⟩
      by_cases h32 : c = 32
      · have HR2 := hide ((dwL t h0 (hc.trans h32)).trans (unhide HR))
        subst h32
        clear HR
        go_wp2_with fail
        go_roundw
        case rel => exact ⟨t.extract 1 t.size, rfl, by simp <;> omega, HR2, trivial⟩
        case measure => simp [strSz]; omega
      · have HR2 := hide ((dwN t h0 (fun h => h32 (hc.symm.trans h))).symm.trans (unhide HR))
        have h32i : ((c : Int) == 32) = false := by simp <;> omega
        clear HR
        go_wp2_with fail
        go_loopw [0] (fun v wr => ∃ u : ByteArray, v = .string u ∧ u.size ≤ s.size ∧ Hid (u.data.toList.reverse.dropWhile (fun c => c == 32) = t.data.toList.reverse.dropWhile (fun c => c == 32)) ∧ w = wr) (fun v _ => strSz v)
        case atStart => exact ⟨t, rfl, hts, hide rfl, rfl⟩
        case round =>
          obtain ⟨u, rfl, hus, HU, rfl⟩ := hrel
          by_cases g0 : 0 < u.size
          · obtain ⟨m, hm⟩ : ∃ m : Nat, (u.size : Int) - 1 = (m : Int) := ⟨u.size - 1, by omega⟩
            have hmt : m < u.size := by omega
            have hmt2 : u.size ≤ m + 1 := by omega
            have i0 : (0 : Int) ≤ (m : Int) := by omega
            have i1 : (m : Int) < (u.size : Int) := by omega
            obtain ⟨d, hd⟩ : ∃ d, u[m].toNat = d := ⟨_, rfl⟩
            by_cases g32 : d = 32
            · have HU2 := hide ((dwR u m hmt hmt2 (hd.trans g32)).trans (unhide HU))
              subst g32
              clear HU
              go_wp2_with fail
              go_roundw
              case rel => exact ⟨u.extract 0 m, rfl, by simp <;> omega, HU2, trivial⟩
              case measure => simp [strSz]; omega
            · have HU2 := hide ((dwM u m hmt hmt2 (fun h => g32 (hd.symm.trans h))).symm.trans (unhide HU))
              have g32i : ((d : Int) == 32) = false := by simp <;> omega
              have HF := hide (show u = bU (trmL s.data.toList) from bU_of (by rw [← trm_comm, ← unhide HR2]; unfold trmR; rw [← unhide HU2, List.reverse_reverse]))
              clear HU HR2 HU2
              go_wp2_with fail
              go_ret
              exact ⟨congrArg (fun x => Ending.returned (Value.string x)) (unhide HF), rfl⟩
          · have HU2 := hide (show t.data.toList.reverse.dropWhile (fun c => c == 32) = [] from (unhide HU).symm.trans (by rw [nilL g0]; rfl))
            have HF := hide (show u = bU (trmL s.data.toList) from bU_of (by rw [← trm_comm, ← unhide HR2]; unfold trmR; rw [unhide HU2, nilL g0]; rfl))
            clear HU HR2 HU2
            go_wp2_with fail
            go_ret
            exact ⟨congrArg (fun x => Ending.returned (Value.string x)) (unhide HF), rfl⟩
    · have HR2 := hide (show t.data.toList = s.data.toList.dropWhile (fun c => c == 32) from by rw [← unhide HR, nilL h0]; rfl)
      clear HR
      go_wp2_with fail
      go_loopw [0] (fun v wr => ∃ u : ByteArray, v = .string u ∧ u.size ≤ s.size ∧ Hid (u.data.toList.reverse.dropWhile (fun c => c == 32) = t.data.toList.reverse.dropWhile (fun c => c == 32)) ∧ w = wr) (fun v _ => strSz v)
      case atStart => exact ⟨t, rfl, hts, hide rfl, rfl⟩
      case round =>
        obtain ⟨u, rfl, hus, HU, rfl⟩ := hrel
        by_cases g0 : 0 < u.size
        · obtain ⟨m, hm⟩ : ∃ m : Nat, (u.size : Int) - 1 = (m : Int) := ⟨u.size - 1, by omega⟩
          have hmt : m < u.size := by omega
          have hmt2 : u.size ≤ m + 1 := by omega
          have i0 : (0 : Int) ≤ (m : Int) := by omega
          have i1 : (m : Int) < (u.size : Int) := by omega
          obtain ⟨d, hd⟩ : ∃ d, u[m].toNat = d := ⟨_, rfl⟩
          by_cases g32 : d = 32
          · have HU2 := hide ((dwR u m hmt hmt2 (hd.trans g32)).trans (unhide HU))
            subst g32
            clear HU
            go_wp2_with fail
            go_roundw
            case rel => exact ⟨u.extract 0 m, rfl, by simp <;> omega, HU2, trivial⟩
            case measure => simp [strSz]; omega
          · have HU2 := hide ((dwM u m hmt hmt2 (fun h => g32 (hd.symm.trans h))).symm.trans (unhide HU))
            have g32i : ((d : Int) == 32) = false := by simp <;> omega
            have HF := hide (show u = bU (trmL s.data.toList) from bU_of (by rw [← trm_comm, ← unhide HR2]; unfold trmR; rw [← unhide HU2, List.reverse_reverse]))
            clear HU HR2 HU2
            go_wp2_with fail
            go_ret
            exact ⟨congrArg (fun x => Ending.returned (Value.string x)) (unhide HF), rfl⟩
        · have HU2 := hide (show t.data.toList.reverse.dropWhile (fun c => c == 32) = [] from (unhide HU).symm.trans (by rw [nilL g0]; rfl))
          have HF := hide (show u = bU (trmL s.data.toList) from bU_of (by rw [← trm_comm, ← unhide HR2]; unfold trmR; rw [unhide HU2, nilL g0]; rfl))
          clear HU HR2 HU2
          go_wp2_with fail
          go_ret
          exact ⟨congrArg (fun x => Ending.returned (Value.string x)) (unhide HF), rfl⟩
end Go.Proofs.YtanekbifdedmeaaGreatDoor
