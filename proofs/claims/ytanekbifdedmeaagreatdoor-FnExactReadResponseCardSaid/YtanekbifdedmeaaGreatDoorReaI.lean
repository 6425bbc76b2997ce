/- The reasons of a response, by both programs. -/
import Derived.Test.YtanekbifdedmeaaGreatDoorMsgJ
import Derived.Test.YtanekbifdedmeaaGreatDoorGAH
namespace Go.Proofs.YtanekbifdedmeaaGreatDoor
open Go.RowKit Plain
set_option linter.unusedVariables false

namespace Plain
def reaF : List (Int × ByteArray) → Int → ByteArray
  | [], _ => ⟨#[]⟩
  | (c, t) :: r, s => if c = s then t else reaF r s
def reaL : List (Int × ByteArray) := [(200, ⟨#[79, 75]⟩), (201, ⟨#[67, 114, 101, 97, 116, 101, 100]⟩), (202, ⟨#[65, 99, 99, 101, 112, 116, 101, 100]⟩), (204, ⟨#[78, 111, 32, 67, 111, 110, 116, 101, 110, 116]⟩), (307, ⟨#[84, 101, 109, 112, 111, 114, 97, 114, 121, 32, 82, 101, 100, 105, 114, 101, 99, 116]⟩), (400, ⟨#[66, 97, 100, 32, 82, 101, 113, 117, 101, 115, 116]⟩), (404, ⟨#[78, 111, 116, 32, 70, 111, 117, 110, 100]⟩), (405, ⟨#[77, 101, 116, 104, 111, 100, 32, 78, 111, 116, 32, 65, 108, 108, 111, 119, 101, 100]⟩), (413, ⟨#[67, 111, 110, 116, 101, 110, 116, 32, 84, 111, 111, 32, 76, 97, 114, 103, 101]⟩), (507, ⟨#[73, 110, 115, 117, 102, 102, 105, 99, 105, 101, 110, 116, 32, 83, 116, 111, 114, 97, 103, 101]⟩)]
/-- The reason of a Status; nothing of one that is none. -/
def reaT (s : Int) : ByteArray := reaF reaL s
theorem reaF_hit {c s : Int} {t : ByteArray} {r : List (Int × ByteArray)} (h : s = c) : reaF ((c, t) :: r) s = t := if_pos h.symm
theorem reaF_miss {c s : Int} {t : ByteArray} {r : List (Int × ByteArray)} (h : ¬ s = c) : reaF ((c, t) :: r) s = reaF r s := if_neg fun e => h e.symm
theorem reaF_drop (l : List (Int × ByteArray)) (s : Int) (k : Nat) (h : k < l.length) : reaF (l.drop k) s = if l[k].1 = s then l[k].2 else reaF (l.drop (k + 1)) s := by
  rw [List.drop_eq_getElem_cons h]
  rfl
theorem reaF_end (l : List (Int × ByteArray)) (s : Int) (k : Nat) (h : l.length ≤ k) : reaF (l.drop k) s = ⟨#[]⟩ := by
  rw [List.drop_of_length_le h]
  rfl
theorem reaF_or (s : Int) : ∀ l : List (Int × ByteArray), (∀ x ∈ l, 1 ≤ x.2.size ∧ x.2.size ≤ 20 ∧ 200 ≤ x.1 ∧ x.1 ≤ 507) → reaF l s = ⟨#[]⟩ ∨ (1 ≤ (reaF l s).size ∧ (reaF l s).size ≤ 20 ∧ 200 ≤ s ∧ s ≤ 507) := by
  intro l
  induction l with
  | nil => intro _; exact .inl rfl
  | cons x r ih =>
    intro h
    obtain ⟨c, t⟩ := x
    by_cases hc : s = c
    · rw [reaF_hit hc]
      have := h (c, t) (List.mem_cons_self ..)
      simp only at this
      exact .inr ⟨this.1, this.2.1, by omega, by omega⟩
    · rw [reaF_miss hc]
      exact ih fun y hy => h y (List.mem_cons_of_mem _ hy)
theorem reaT_or (s : Int) : reaT s = ⟨#[]⟩ ∨ (1 ≤ (reaT s).size ∧ (reaT s).size ≤ 20 ∧ 200 ≤ s ∧ s ≤ 507) := reaF_or s reaL (by
  intro x hx
  simp only [reaL, List.mem_cons, List.not_mem_nil, or_false] at hx
  rcases hx with rfl | rfl | rfl | rfl | rfl | rfl | rfl | rfl | rfl | rfl <;> decide)
end Plain

set_option maxRecDepth 10000 in
set_option maxHeartbeats 2000000 in
theorem reasonOf_calls (s : Int) (w : World) :
    Calls Tryz.prog 49 #[.int .i64 s] w fun e w' => e = .returned (.string (reaT s)) ∧ w = w' := by
  unfold reaT reaL
  by_cases h0 : s = 200
  · rw [reaF_hit h0]
    subst h0
    go_enter Tryz.func49, Tryz.ntmps49
    go_wp2_with fail
    go_ret
    exact ⟨rfl, rfl⟩
  rw [reaF_miss h0]
  have e0 : (s == 200) = false := by rw [beq_eq_false_iff_ne]; exact h0
  by_cases h1 : s = 201
  · rw [reaF_hit h1]
    subst h1
    go_enter Tryz.func49, Tryz.ntmps49
    go_wp2_with fail
    go_ret
    exact ⟨rfl, rfl⟩
  rw [reaF_miss h1]
  have e1 : (s == 201) = false := by rw [beq_eq_false_iff_ne]; exact h1
  by_cases h2 : s = 202
  · rw [reaF_hit h2]
    subst h2
    go_enter Tryz.func49, Tryz.ntmps49
    go_wp2_with fail
    go_ret
    exact ⟨rfl, rfl⟩
  rw [reaF_miss h2]
  have e2 : (s == 202) = false := by rw [beq_eq_false_iff_ne]; exact h2
  by_cases h3 : s = 204
  · rw [reaF_hit h3]
    subst h3
    go_enter Tryz.func49, Tryz.ntmps49
    go_wp2_with fail
    go_ret
    exact ⟨rfl, rfl⟩
  rw [reaF_miss h3]
  have e3 : (s == 204) = false := by rw [beq_eq_false_iff_ne]; exact h3
  by_cases h4 : s = 307
  · rw [reaF_hit h4]
    subst h4
    go_enter Tryz.func49, Tryz.ntmps49
    go_wp2_with fail
    go_ret
    exact ⟨rfl, rfl⟩
  rw [reaF_miss h4]
  have e4 : (s == 307) = false := by rw [beq_eq_false_iff_ne]; exact h4
  by_cases h5 : s = 400
  · rw [reaF_hit h5]
    subst h5
    go_enter Tryz.func49, Tryz.ntmps49
    go_wp2_with fail
    go_ret
    exact ⟨rfl, rfl⟩
  rw [reaF_miss h5]
  have e5 : (s == 400) = false := by rw [beq_eq_false_iff_ne]; exact h5
  by_cases h6 : s = 404
  · rw [reaF_hit h6]
    subst h6
    go_enter Tryz.func49, Tryz.ntmps49
    go_wp2_with fail
    go_ret
    exact ⟨rfl, rfl⟩
  rw [reaF_miss h6]
  have e6 : (s == 404) = false := by rw [beq_eq_false_iff_ne]; exact h6
  by_cases h7 : s = 405
  · rw [reaF_hit h7]
    subst h7
    go_enter Tryz.func49, Tryz.ntmps49
    go_wp2_with fail
    go_ret
    exact ⟨rfl, rfl⟩
  rw [reaF_miss h7]
  have e7 : (s == 405) = false := by rw [beq_eq_false_iff_ne]; exact h7
  by_cases h8 : s = 413
  · rw [reaF_hit h8]
    subst h8
    go_enter Tryz.func49, Tryz.ntmps49
    go_wp2_with fail
    go_ret
    exact ⟨rfl, rfl⟩
  rw [reaF_miss h8]
  have e8 : (s == 413) = false := by rw [beq_eq_false_iff_ne]; exact h8
  by_cases h9 : s = 507
  · rw [reaF_hit h9]
    subst h9
    go_enter Tryz.func49, Tryz.ntmps49
    go_wp2_with fail
    go_ret
    exact ⟨rfl, rfl⟩
  rw [reaF_miss h9]
  have e9 : (s == 507) = false := by rw [beq_eq_false_iff_ne]; exact h9
  clear h0 h1 h2 h3 h4 h5 h6 h7 h8 h9
  go_enter Tryz.func49, Tryz.ntmps49
  go_wp2_with fail
  go_ret
  exact ⟨rfl, rfl⟩

set_option maxRecDepth 10000 in
set_option maxHeartbeats 4000000 in
theorem l16Reason_calls (s : Int) (w : World) :
    Calls Tryz.prog 51 #[.int .i64 s] w fun e w' => e = .returned (.string (reaT s)) ∧ Below w.heap.size w w' := by
  obtain ⟨W0, hW0⟩ : ∃ W0, W0 = (w.alloc (.cells #[.int .i64 200, .int .i64 201, .int .i64 202, .int .i64 204, .int .i64 307, .int .i64 400, .int .i64 404, .int .i64 405, .int .i64 413, .int .i64 507] 2)).alloc (.cells #[.string ⟨#[79, 75]⟩, .string ⟨#[67, 114, 101, 97, 116, 101, 100]⟩, .string ⟨#[65, 99, 99, 101, 112, 116, 101, 100]⟩, .string ⟨#[78, 111, 32, 67, 111, 110, 116, 101, 110, 116]⟩, .string ⟨#[84, 101, 109, 112, 111, 114, 97, 114, 121, 32, 82, 101, 100, 105, 114, 101, 99, 116]⟩, .string ⟨#[66, 97, 100, 32, 82, 101, 113, 117, 101, 115, 116]⟩, .string ⟨#[78, 111, 116, 32, 70, 111, 117, 110, 100]⟩, .string ⟨#[77, 101, 116, 104, 111, 100, 32, 78, 111, 116, 32, 65, 108, 108, 111, 119, 101, 100]⟩, .string ⟨#[67, 111, 110, 116, 101, 110, 116, 32, 84, 111, 111, 32, 76, 97, 114, 103, 101]⟩, .string ⟨#[73, 110, 115, 117, 102, 102, 105, 99, 105, 101, 110, 116, 32, 83, 116, 111, 114, 97, 103, 101]⟩] 9) := ⟨_, rfl⟩
  have hb0 : Below w.heap.size w W0 := by rw [hW0]; exact belOn (bel1 _ _) (bel1 _ _)
  have hC : Blk W0 w.heap.size [.int .i64 200, .int .i64 201, .int .i64 202, .int .i64 204, .int .i64 307, .int .i64 400, .int .i64 404, .int .i64 405, .int .i64 413, .int .i64 507] := by rw [hW0]; exact (Blk.new w _ _).alloc _
  have hT : Blk W0 (w.heap.size + 1) [.string ⟨#[79, 75]⟩, .string ⟨#[67, 114, 101, 97, 116, 101, 100]⟩, .string ⟨#[65, 99, 99, 101, 112, 116, 101, 100]⟩, .string ⟨#[78, 111, 32, 67, 111, 110, 116, 101, 110, 116]⟩, .string ⟨#[84, 101, 109, 112, 111, 114, 97, 114, 121, 32, 82, 101, 100, 105, 114, 101, 99, 116]⟩, .string ⟨#[66, 97, 100, 32, 82, 101, 113, 117, 101, 115, 116]⟩, .string ⟨#[78, 111, 116, 32, 70, 111, 117, 110, 100]⟩, .string ⟨#[77, 101, 116, 104, 111, 100, 32, 78, 111, 116, 32, 65, 108, 108, 111, 119, 101, 100]⟩, .string ⟨#[67, 111, 110, 116, 101, 110, 116, 32, 84, 111, 111, 32, 76, 97, 114, 103, 101]⟩, .string ⟨#[73, 110, 115, 117, 102, 102, 105, 99, 105, 101, 110, 116, 32, 83, 116, 111, 114, 97, 103, 101]⟩] := by
    rw [hW0]
    have := Blk.new (w.alloc (.cells #[.int .i64 200, .int .i64 201, .int .i64 202, .int .i64 204, .int .i64 307, .int .i64 400, .int .i64 404, .int .i64 405, .int .i64 413, .int .i64 507] 2)) [.string ⟨#[79, 75]⟩, .string ⟨#[67, 114, 101, 97, 116, 101, 100]⟩, .string ⟨#[65, 99, 99, 101, 112, 116, 101, 100]⟩, .string ⟨#[78, 111, 32, 67, 111, 110, 116, 101, 110, 116]⟩, .string ⟨#[84, 101, 109, 112, 111, 114, 97, 114, 121, 32, 82, 101, 100, 105, 114, 101, 99, 116]⟩, .string ⟨#[66, 97, 100, 32, 82, 101, 113, 117, 101, 115, 116]⟩, .string ⟨#[78, 111, 116, 32, 70, 111, 117, 110, 100]⟩, .string ⟨#[77, 101, 116, 104, 111, 100, 32, 78, 111, 116, 32, 65, 108, 108, 111, 119, 101, 100]⟩, .string ⟨#[67, 111, 110, 116, 101, 110, 116, 32, 84, 111, 111, 32, 76, 97, 114, 103, 101]⟩, .string ⟨#[73, 110, 115, 117, 102, 102, 105, 99, 105, 101, 110, 116, 32, 83, 116, 111, 114, 97, 103, 101]⟩] 9
    rwa [show (w.alloc (.cells #[.int .i64 200, .int .i64 201, .int .i64 202, .int .i64 204, .int .i64 307, .int .i64 400, .int .i64 404, .int .i64 405, .int .i64 413, .int .i64 507] 2)).heap.size = w.heap.size + 1 from by simp] at this
  have HC := hide (show ∀ k (h : k < reaL.length), W0.cell? ⟨w.heap.size, k, none⟩ = some (.int .i64 reaL[k].1) ∧ W0.cell? ⟨w.heap.size + 1, k, none⟩ = some (.string reaL[k].2) from by
    intro k h
    have h10 : reaL.length = 10 := rfl
    rcases k with _ | _ | _ | _ | _ | _ | _ | _ | _ | _ | k
    all_goals first | exact ⟨hC.c _ (by simp), hT.c _ (by simp)⟩ | (exfalso; omega))
  have HW0 := hide hW0.symm
  have HB := hide hb0
  have hL : reaL.length = 10 := rfl
  have HL := hide hL
  obtain ⟨R, hR⟩ : ∃ R, reaT s = R := ⟨_, rfl⟩
  have HR := hide (show reaF reaL s = R from hR)
  rw [hR]
  clear hC hT hb0 hW0 hL hR
  go_enter Tryz.func51, Tryz.ntmps51
  go_wp2_with fail
  rw [unhide HW0]
  go_loopw [5] (fun i wr => ∃ k : Nat, i = .int .i64 k ∧ k ≤ 10 ∧ Hid (R = reaF (reaL.drop k) s) ∧ wr = W0) (fun i _ => 10 - (intOf i).toNat)
  case atStart => exact ⟨0, rfl, by omega, hide (by rw [List.drop_zero]; exact (unhide HR).symm), rfl⟩
  case round =>
    obtain ⟨k, rfl, hk, HV, rfl⟩ := hrel
    by_cases hk10 : k < 10
    · have hkl : k < reaL.length := by rw [unhide HL]; exact hk10
      obtain ⟨p0, p1⟩ := unhide HC k hkl
      have hst := (unhide HV).trans (reaF_drop reaL s k hkl)
      generalize reaL[k] = x at p0 p1 hst
      obtain ⟨c, t⟩ := x
      simp only at p0 p1 hst
      have i0 : (0 : Int) ≤ (k : Int) := by omega
      have i1 : (k : Int) < 10 := by omega
      by_cases hc : c = s
      · rw [if_pos hc] at hst
        have HST := hide hst
        subst hc
        clear hst HV hkl
        go_wp2_with fail
        go_ret
        exact ⟨by rw [unhide HST]; rfl, unhide HB⟩
      · rw [if_neg hc] at hst
        have HST := hide hst
        have ec : (c == s) = false := by rw [beq_eq_false_iff_ne]; exact hc
        clear hst HV hkl hc
        go_wp2_with fail
        go_roundw
        case rel => exact ⟨k + 1, by go_num, by omega, HST, by first | rfl | trivial⟩
        case measure => simp [intOf]; omega
    · have HX := hide ((unhide HV).trans (reaF_end reaL s k (by rw [unhide HL]; omega)))
      have i1 : ¬ (k : Int) < 10 := by omega
      clear HV
      go_wp2_with fail
      go_ret
      exact ⟨by rw [unhide HX]; rfl, unhide HB⟩
end Go.Proofs.YtanekbifdedmeaaGreatDoor
