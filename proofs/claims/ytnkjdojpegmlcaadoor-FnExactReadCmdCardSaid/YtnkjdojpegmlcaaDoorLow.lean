/- Single bytes of names: what both programs answer of one. -/
import Derived.Test.YtnkjdojpegmlcaaDoorRefM
import Derived.Test.YtnkjdojpegmlcaaDoorMem
namespace Go.Proofs.YtnkjdojpegmlcaaDoor
open Go.RowKit Plain
set_option linter.unusedVariables false

namespace Plain
def lowI (n : Int) : Bool := (decide (97 ≤ n) && decide (n ≤ 122)) || (decide (48 ≤ n) && decide (n ≤ 57))
theorem dle (a b : Nat) : decide ((a : Int) ≤ (b : Int)) = decide (a ≤ b) := by simp
theorem deq (a b : Nat) : decide ((a : Int) = (b : Int)) = decide (a = b) := by simp; omega
theorem lowI_nat (c : Nat) : lowI (c : Int) = lowB c := by
  unfold lowI lowB
  rw [show decide ((97 : Int) ≤ (c : Int)) = decide (97 ≤ c) from dle 97 c, show decide ((c : Int) ≤ 122) = decide (c ≤ 122) from dle c 122, show decide ((48 : Int) ≤ (c : Int)) = decide (48 ≤ c) from dle 48 c, show decide ((c : Int) ≤ 57) = decide (c ≤ 57) from dle c 57]
def tagI (n : Int) : Bool := lowI n || (decide (65 ≤ n) && decide (n ≤ 90)) || decide (n = 95) || decide (n = 46) || decide (n = 45)
theorem tagI_nat (c : Nat) : tagI (c : Int) = tagC c := by
  unfold tagI tagC
  rw [lowI_nat, show decide ((65 : Int) ≤ (c : Int)) = decide (65 ≤ c) from dle 65 c, show decide ((c : Int) ≤ 90) = decide (c ≤ 90) from dle c 90, show decide ((c : Int) = 95) = decide (c = 95) from deq c 95, show decide ((c : Int) = 46) = decide (c = 46) from deq c 46, show decide ((c : Int) = 45) = decide (c = 45) from deq c 45]
theorem ret_bool {a b : Bool} (h : a = b) : Ending.returned (.bool a) = .returned (.bool b) := by rw [h]
theorem lowI_yes {n : Int} (h : 97 ≤ n ∧ n ≤ 122 ∨ 48 ≤ n ∧ n ≤ 57) : lowI n = true := by unfold lowI; rcases h with h | h <;> simp [h]
theorem lowI_no {n : Int} (h : ¬ (97 ≤ n ∧ n ≤ 122 ∨ 48 ≤ n ∧ n ≤ 57)) : lowI n = false := by unfold lowI; simp; omega
end Plain

theorem impl_low (n : Int) (w : World) (h0 : 0 ≤ n) (h1 : n ≤ 255) :
    Calls Tryd.prog 58 #[.int .u8 n] w fun e w' => e = .returned (.bool (lowI n)) ∧ w = w' := by
  by_cases a : 97 ≤ n
  · by_cases b : n ≤ 122
    · rw [lowI_yes (by omega)]
      go_enter Tryd.func58, Tryd.ntmps58
      go_wp2
      go_ret
      first | exact ⟨rfl, rfl⟩ | exact ⟨ret_bool (by simp; omega), rfl⟩
    · rw [lowI_no (by omega)]
      have c : ¬ n ≤ 57 := by omega
      by_cases d : 48 ≤ n
      all_goals
        go_enter Tryd.func58, Tryd.ntmps58
        go_wp2
        go_ret
        first | exact ⟨rfl, rfl⟩ | exact ⟨ret_bool (by simp; omega), rfl⟩
  · by_cases d : 48 ≤ n
    · by_cases c : n ≤ 57
      · rw [lowI_yes (by omega)]
        go_enter Tryd.func58, Tryd.ntmps58
        go_wp2
        go_ret
        first | exact ⟨rfl, rfl⟩ | exact ⟨ret_bool (by simp; omega), rfl⟩
      · rw [lowI_no (by omega)]
        go_enter Tryd.func58, Tryd.ntmps58
        go_wp2
        go_ret
        first | exact ⟨rfl, rfl⟩ | exact ⟨ret_bool (by simp; omega), rfl⟩
    · rw [lowI_no (by omega)]
      go_enter Tryd.func58, Tryd.ntmps58
      go_wp2
      go_ret
      first | exact ⟨rfl, rfl⟩ | exact ⟨ret_bool (by simp; omega), rfl⟩

theorem spec_digit (n : Int) (w : World) (h0 : 0 ≤ n) (h1 : n ≤ 255) :
    Calls Tryd.prog 52 #[.int .u8 n] w fun e w' => e = .returned (.bool (decide (48 ≤ n) && decide (n ≤ 57))) ∧ w = w' := by
  by_cases d : 48 ≤ n
  · by_cases c : n ≤ 57
    · rw [show (decide (48 ≤ n) && decide (n ≤ 57)) = true from by simp [d, c]]
      go_enter Tryd.func52, Tryd.ntmps52
      go_wp2
      go_ret
      first | exact ⟨rfl, rfl⟩ | exact ⟨ret_bool (by simp; omega), rfl⟩
    · rw [show (decide (48 ≤ n) && decide (n ≤ 57)) = false from by simp [c]]
      go_enter Tryd.func52, Tryd.ntmps52
      go_wp2
      go_ret
      first | exact ⟨rfl, rfl⟩ | exact ⟨ret_bool (by simp; omega), rfl⟩
  · rw [show (decide (48 ≤ n) && decide (n ≤ 57)) = false from by simp [d]]
    go_enter Tryd.func52, Tryd.ntmps52
    go_wp2
    go_ret
    first | exact ⟨rfl, rfl⟩ | exact ⟨ret_bool (by simp; omega), rfl⟩

theorem spec_low (n : Int) (w : World) (h0 : 0 ≤ n) (h1 : n ≤ 255) :
    Calls Tryd.prog 43 #[.int .u8 n] w fun e w' => e = .returned (.bool (lowI n)) ∧ w = w' := by
  by_cases hd : 48 ≤ n ∧ n ≤ 57
  · rw [lowI_yes (by omega)]
    have hb : (decide (48 ≤ n) && decide (n ≤ 57)) = true := by simp [hd]
    have HB := hide hb
    clear hb
    go_enter Tryd.func43, Tryd.ntmps43
    go_wp2_with (go_at_call 52; refine (spec_digit _ _ (by omega) (by omega)).mono ?_; rintro e w' ⟨rfl, rfl⟩; rw [unhide HB])
    go_ret
    first | exact ⟨rfl, rfl⟩ | exact ⟨ret_bool (by simp; omega), rfl⟩
  · have hb : (decide (48 ≤ n) && decide (n ≤ 57)) = false := by simp; omega
    have HB := hide hb
    clear hb
    by_cases a : 97 ≤ n
    · by_cases b : n ≤ 122
      · rw [lowI_yes (by omega)]
        go_enter Tryd.func43, Tryd.ntmps43
        go_wp2_with (go_at_call 52; refine (spec_digit _ _ (by omega) (by omega)).mono ?_; rintro e w' ⟨rfl, rfl⟩; rw [unhide HB])
        go_ret
        first | exact ⟨rfl, rfl⟩ | exact ⟨ret_bool (by simp; omega), rfl⟩
      · rw [lowI_no (by omega)]
        go_enter Tryd.func43, Tryd.ntmps43
        go_wp2_with (go_at_call 52; refine (spec_digit _ _ (by omega) (by omega)).mono ?_; rintro e w' ⟨rfl, rfl⟩; rw [unhide HB])
        go_ret
        first | exact ⟨rfl, rfl⟩ | exact ⟨ret_bool (by simp; omega), rfl⟩
    · rw [lowI_no (by omega)]
      go_enter Tryd.func43, Tryd.ntmps43
      go_wp2_with (go_at_call 52; refine (spec_digit _ _ (by omega) (by omega)).mono ?_; rintro e w' ⟨rfl, rfl⟩; rw [unhide HB])
      go_ret
      first | exact ⟨rfl, rfl⟩ | exact ⟨ret_bool (by simp; omega), rfl⟩
end Go.Proofs.YtnkjdojpegmlcaaDoor
