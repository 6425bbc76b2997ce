/- Eight words compared, marked and looked at again, as the exact laws do it. -/
import Derived.Test.YtlkkhhelonbcbaaDoorShaT
namespace Go.Proofs.YtlkkhhelonbcbaaDoor
open Go.RowKit Plain
set_option linter.unusedVariables false

theorem eq8_calls (g1 g2 c1 c2 : Nat) (v : List Int) (w : World) (hv : v.length = 8) (h1 : Words w g1 v) (h2 : Words w g2 v) :
    Calls Tryd.prog 15 #[.slice (some ⟨g1, 0, none⟩) 8 c1, .slice (some ⟨g2, 0, none⟩) 8 c2] w fun r w' => r = .returned (.bool true) ∧ Below w.heap.size w w' := by
  have H1 := hide h1
  have H2 := hide h2
  have HV := hide hv
  clear h1 h2 hv
  go_enter Tryd.func15, Tryd.ntmps15
  go_wp2_with fail
  go_loopw [5] (fun i wr => ∃ (k : Nat), i = .int .i64 k ∧ k ≤ 8 ∧ Hid (Below w.heap.size w wr ∧ Words wr g1 v ∧ Words wr g2 v)) (fun i _ => 8 - (intOf i).toNat)
  case atStart => exact ⟨0, rfl, by omega, hide ⟨Below.refl _ _, unhide H1, unhide H2⟩⟩
  case round =>
    obtain ⟨k, rfl, hk, HP⟩ := hrel
    by_cases hlt : k < 8
    · have q1 := ((unhide HP).2.1 k (by rw [unhide HV]; exact hlt)).1
      have q2 := ((unhide HP).2.2 k (by rw [unhide HV]; exact hlt)).1
      generalize v.getD k 0 = x at q1 q2
      have i0 : (0 : Int) ≤ (k : Int) := by omega
      have i1 : (k : Int) < 8 := by omega
      go_wp2_with fail
      go_region
      all_goals (try go_wp2)
      all_goals go_roundw
      case rel => exact ⟨k + 1, by go_num, by omega, hide ⟨(unhide HP).1.drew, (unhide HP).2.1, (unhide HP).2.2⟩⟩
      case measure => simp [intOf]; omega
    · obtain rfl : k = 8 := by omega
      go_wp2_with fail
      go_ret
      exact ⟨rfl, (unhide HP).1⟩

/-- The words 1, 2, .. 8. -/
def markL : List Int := [1, 2, 3, 4, 5, 6, 7, 8]
theorem markL_get (k : Nat) (h : k < 8) : markL.getD k 0 = (k : Int) + 1 := by
  match k, h with
  | 0, _ => rfl
  | 1, _ => rfl
  | 2, _ => rfl
  | 3, _ => rfl
  | 4, _ => rfl
  | 5, _ => rfl
  | 6, _ => rfl
  | 7, _ => rfl
/-- The words v, of which the first k have been overwritten. -/
def mixL (v : List Int) (k : Nat) : List Int := markL.take k ++ v.drop k
theorem mixL_zero (v : List Int) : mixL v 0 = v := by simp [mixL]
theorem mixL_end (v : List Int) (h : v.length = 8) : mixL v 8 = markL := by
  simp [mixL, markL, h]
theorem mixL_length (v : List Int) (h : v.length = 8) (k : Nat) (hk : k ≤ 8) : (mixL v k).length = 8 := by
  simp [mixL, markL, h]; omega
theorem mixL_next (v : List Int) (h : v.length = 8) (k : Nat) (hk : k < 8) : (mixL v k).set k ((k : Int) + 1) = mixL v (k + 1) := by
  obtain ⟨a, b, c, d, e, f, g, i, rfl⟩ := list8 h
  match k, hk with
  | 0, _ => rfl
  | 1, _ => rfl
  | 2, _ => rfl
  | 3, _ => rfl
  | 4, _ => rfl
  | 5, _ => rfl
  | 6, _ => rfl
  | 7, _ => rfl

theorem mark8_calls (g c : Nat) (v : List Int) (w : World) (B : Nat) (hv : v.length = 8) (h1 : Words w g v) (hB : B ≤ g) :
    Calls Tryd.prog 16 #[.slice (some ⟨g, 0, none⟩) 8 c, .int .i64 1] w fun r w' => r = .returned (.int .i64 9) ∧ Words w' g markL ∧ Below B w w' ∧ (∀ b, b ≠ g → w'.heap[b]? = w.heap[b]?) ∧ w'.heap.size = w.heap.size := by
  have H1 := hide h1
  have HV := hide hv
  clear h1 hv
  go_enter Tryd.func16, Tryd.ntmps16
  go_wp2_with fail
  go_loopw [1, 5] (fun n i wr => ∃ (k : Nat), i = .int .i64 k ∧ n = .int .i64 ((k : Int) + 1) ∧ k ≤ 8 ∧ Hid (Below B w wr ∧ Words wr g (mixL v k) ∧ (∀ b, b ≠ g → wr.heap[b]? = w.heap[b]?) ∧ wr.heap.size = w.heap.size)) (fun _ i _ => 8 - (intOf i).toNat)
  case atStart => exact ⟨0, rfl, rfl, by omega, hide ⟨Below.refl _ _, by rw [mixL_zero]; exact unhide H1, fun _ _ => rfl, rfl⟩⟩
  case round =>
    obtain ⟨k, rfl, rfl, hk, HP⟩ := hrel
    by_cases hlt : k < 8
    · have hl := mixL_length v (unhide HV) k hk
      obtain ⟨hc, hf⟩ := (unhide HP).2.1 k (by omega)
      generalize (mixL v k).getD k 0 = x at hc
      have hnx := hide (mixL_next v (unhide HV) k hlt)
      have i0 : (0 : Int) ≤ (k : Int) := by omega
      have i1 : (k : Int) < 8 := by omega
      have w1 : IntKind.u32.wrap ((k : Int) + 1) = (k : Int) + 1 := by rw [IntKind.wrap_u32']; omega
      go_wp2_with fail
      go_roundw
      case rel => exact ⟨k + 1, by go_num, by go_num, by omega, hide ⟨(unhide HP).1.setCell hB _, by rw [← unhide hnx]; exact (unhide HP).2.1.set k (by omega) _, fun b hb => (Below.heap_setCell _ _ _ _ hb).trans ((unhide HP).2.2.1 b hb), by simpa using (unhide HP).2.2.2⟩⟩
      case measure => simp [intOf]; omega
    · obtain rfl : k = 8 := by omega
      have hP := unhide HP
      rw [mixL_end v (unhide HV)] at hP
      have HP2 := hide hP
      clear hP HP
      go_wp2_with fail
      go_ret
      exact ⟨rfl, (unhide HP2).2.1, (unhide HP2).1, (unhide HP2).2.2.1, (unhide HP2).2.2.2⟩

theorem held8_calls (g c : Nat) (w : World) (h1 : Words w g markL) :
    Calls Tryd.prog 17 #[.slice (some ⟨g, 0, none⟩) 8 c, .int .i64 1] w fun r w' => r = .returned (.int .i64 9) ∧ w = w' := by
  have H1 := hide h1
  clear h1
  go_enter Tryd.func17, Tryd.ntmps17
  go_wp2_with fail
  go_loopw [1, 5] (fun n i wr => ∃ (k : Nat), i = .int .i64 k ∧ n = .int .i64 ((k : Int) + 1) ∧ k ≤ 8 ∧ w = wr) (fun _ i _ => 8 - (intOf i).toNat)
  case atStart => exact ⟨0, rfl, rfl, by omega, rfl⟩
  case round =>
    obtain ⟨k, rfl, rfl, hk, rfl⟩ := hrel
    by_cases hlt : k < 8
    · have hc := ((unhide H1) k hlt).1
      rw [markL_get k hlt] at hc
      have i0 : (0 : Int) ≤ (k : Int) := by omega
      have i1 : (k : Int) < 8 := by omega
      have w1 : IntKind.u32.wrap ((k : Int) + 1) = (k : Int) + 1 := by rw [IntKind.wrap_u32']; omega
      go_wp2_with fail
      go_roundw
      case rel => exact ⟨k + 1, by go_num, by go_num, by omega, trivial⟩
      case measure => simp [intOf]; omega
    · obtain rfl : k = 8 := by omega
      go_wp2_with fail
      go_ret
      exact ⟨rfl, rfl⟩
end Go.Proofs.YtlkkhhelonbcbaaDoor
