/- A text cut at its first sign, as the library's Cut does it. -/
import Derived.Test.YtnkjdojpegmlcaaDoorHex
import Derived.Test.YtnkjdojpegmlcaaDoorRefM
namespace Go.Proofs.YtnkjdojpegmlcaaDoor
open Go.RowKit Plain
set_option linter.unusedVariables false

namespace Plain
theorem idx_fd (c : Nat) (hc : c < 256) (l : List UInt8) : Lib.indexByte l c.toUInt8 = if fd c c l < l.length then (fd c c l : Int) else -1 := by
  induction l with
  | nil => rfl
  | cons x l ih =>
    have hb : (x == c.toUInt8) = decide (x.toNat = c) := by
      rw [Bool.eq_iff_iff]
      simp
      constructor
      · intro e; rw [e]; simp; omega
      · intro e; apply UInt8.toNat_inj.1; rw [e]; simp; omega
    rw [Lib.indexByte, hb, ih]
    by_cases h : x.toNat = c
    · have hfd : fd c c (x :: l) = 0 := by rw [fd, if_pos (.inl h)]
      rw [hfd]; simp [h]
    · have hfd : fd c c (x :: l) = fd c c l + 1 := by rw [fd, if_neg (by omega)]
      rw [hfd, List.length_cons]
      by_cases h2 : fd c c l < l.length
      · have e1 : (if fd c c l < l.length then (fd c c l : Int) else -1) = fd c c l := if_pos h2
        have e2 : ((fd c c l : Int) == -1) = false := by simp
        rw [e1, e2]; simp [h, h2]
      · have e1 : (if fd c c l < l.length then (fd c c l : Int) else -1) = -1 := if_neg h2
        rw [e1]; simp [h, h2]
end Plain

set_option maxRecDepth 100000 in
set_option maxHeartbeats 1000000 in
theorem index64_calls (s : ByteArray) (w : World) (hs : s.size ≤ 1000000000000) :
    Calls Tryd.prog 73 #[.string s, .string { data := #[64] }] w fun e w' => e = .returned (.int .i64 (if fd 64 64 s.data.toList < s.size then (fd 64 64 s.data.toList : Int) else -1)) ∧ w = w' := by
  have HB : ∀ w, Calls Tryd.prog 62 #[.string s, .int .u8 64] w fun e w' => e = .returned (.int .i64 (if fd 64 64 s.data.toList < s.size then (fd 64 64 s.data.toList : Int) else -1)) ∧ w = w' := by
    intro w
    have hcall : ∀ w, (callFunc 68 #[.string s, .int .u8 64]).run Tryd.prog w = .ok (.value (.int .i64 (if fd 64 64 s.data.toList < s.size then (fd 64 64 s.data.toList : Int) else -1))) w := by
      intro w
      rw [call_index, show ((64 : Int).toNat).toUInt8 = (64 : Nat).toUInt8 from rfl, idx_fd 64 (by decide), Array.length_toList]; rfl
    generalize (if fd 64 64 s.data.toList < s.size then (fd 64 64 s.data.toList : Int) else -1) = r at hcall ⊢
    go_enter Tryd.func62, Tryd.ntmps62
    go_wp2
    go_ret
    exact ⟨rfl, rfl⟩
  cases h : (([64] : List UInt8) == s.toList) with
  | true =>
    have hl : s.data.toList = [64] := by rw [← ByteArray.toList_eq]; exact (eq_of_beq h).symm
    have hz : s.size = 1 := by have := congrArg List.length hl; rw [Array.length_toList] at this; exact this
    have e : (if fd 64 64 s.data.toList < s.size then (fd 64 64 s.data.toList : Int) else -1) = 0 := by rw [hl, hz]; rfl
    rw [e]
    clear hl e HB
    go_enter Tryd.func73, Tryd.ntmps73
    go_wp2_with fail
    go_ret
    exact ⟨rfl, rfl⟩
  | false =>
    generalize (if fd 64 64 s.data.toList < s.size then (fd 64 64 s.data.toList : Int) else -1) = r at HB ⊢
    go_enter Tryd.func73, Tryd.ntmps73
    go_wp2_with fail
    refine (HB _).mono ?_
    rintro e w' ⟨rfl, rfl⟩
    go_wp2_with fail
    go_ret
    exact ⟨rfl, rfl⟩

set_option maxHeartbeats 1000000 in
theorem lcut64_yes (s : ByteArray) (w : World) (hs : s.size ≤ 1000000000000) (j : Nat) (hj : fd 64 64 s.data.toList = j) (hlt : j < s.size) :
    Calls Tryd.prog 69 #[.string s, .string { data := #[64] }] w fun e w' => e = .returned (.tuple #[.string (s.extract 0 j), .string (s.extract (j + 1) s.size), .bool true]) ∧ ∃ k, w' = w.drewN k := by
  have HI := fun w => index64_calls s w hs
  rw [hj, if_pos hlt] at HI
  have i0 : (0 : Int) ≤ (j : Int) := by omega
  have i1 : (j : Int) ≤ (s.size : Int) := by omega
  have i2 : (j : Int) + 1 ≤ (s.size : Int) := by omega
  clear hj
  go_enter Tryd.func69, Tryd.ntmps69
  go_wp2_with fail
  refine (HI _).mono ?_
  rintro e w' ⟨rfl, rfl⟩
  clear HI
  go_wp2_with fail
  go_region
  all_goals (try go_wp2_with fail)
  all_goals go_ret3
  all_goals exact ⟨rfl, 1, rfl⟩

theorem cut64_yes (s : ByteArray) (w : World) (hs : s.size ≤ 1000000000000) (j : Nat) (hj : fd 64 64 s.data.toList = j) (hlt : j < s.size) :
    Calls Tryd.prog 63 #[.string s, .string { data := #[64] }] w fun e w' => e = .returned (.tuple #[.string (s.extract 0 j), .string (s.extract (j + 1) s.size), .bool true]) ∧ ∃ k, w' = w.drewN k := by
  have HI := fun w => lcut64_yes s w hs j hj hlt
  clear hj
  go_enter Tryd.func63, Tryd.ntmps63
  go_wp2_with fail
  refine (HI _).mono ?_
  rintro e w' ⟨rfl, k, rfl⟩
  clear HI
  go_wp2_with fail
  go_ret3
  exact ⟨rfl, k, rfl⟩

theorem lcut64_no (s : ByteArray) (w : World) (hs : s.size ≤ 1000000000000) (hlt : s.size ≤ fd 64 64 s.data.toList) :
    Calls Tryd.prog 69 #[.string s, .string { data := #[64] }] w fun e w' => e = .returned (.tuple #[.string s, .string ⟨#[]⟩, .bool false]) ∧ ∃ k, w' = w.drewN k := by
  have HI := fun w => index64_calls s w hs
  rw [if_neg (by omega)] at HI
  clear hlt
  go_enter Tryd.func69, Tryd.ntmps69
  go_wp2_with fail
  refine (HI _).mono ?_
  rintro e w' ⟨rfl, rfl⟩
  go_wp2_with fail
  go_ret3
  exact ⟨rfl, 0, rfl⟩

theorem cut64_no (s : ByteArray) (w : World) (hs : s.size ≤ 1000000000000) (hlt : s.size ≤ fd 64 64 s.data.toList) :
    Calls Tryd.prog 63 #[.string s, .string { data := #[64] }] w fun e w' => e = .returned (.tuple #[.string s, .string ⟨#[]⟩, .bool false]) ∧ ∃ k, w' = w.drewN k := by
  have HI := fun w => lcut64_no s w hs hlt
  clear hlt
  go_enter Tryd.func63, Tryd.ntmps63
  go_wp2_with fail
  refine (HI _).mono ?_
  rintro e w' ⟨rfl, k, rfl⟩
  go_wp2_with fail
  go_ret3
  exact ⟨rfl, k, rfl⟩

set_option maxRecDepth 100000 in
set_option maxHeartbeats 1000000 in
theorem index58_calls (s : ByteArray) (w : World) (hs : s.size ≤ 1000000000000) :
    Calls Tryd.prog 73 #[.string s, .string { data := #[58] }] w fun e w' => e = .returned (.int .i64 (if fd 58 58 s.data.toList < s.size then (fd 58 58 s.data.toList : Int) else -1)) ∧ w = w' := by
  have HB : ∀ w, Calls Tryd.prog 62 #[.string s, .int .u8 58] w fun e w' => e = .returned (.int .i64 (if fd 58 58 s.data.toList < s.size then (fd 58 58 s.data.toList : Int) else -1)) ∧ w = w' := by
    intro w
    have hcall : ∀ w, (callFunc 68 #[.string s, .int .u8 58]).run Tryd.prog w = .ok (.value (.int .i64 (if fd 58 58 s.data.toList < s.size then (fd 58 58 s.data.toList : Int) else -1))) w := by
      intro w
      rw [call_index, show ((58 : Int).toNat).toUInt8 = (58 : Nat).toUInt8 from rfl, idx_fd 58 (by decide), Array.length_toList]; rfl
    generalize (if fd 58 58 s.data.toList < s.size then (fd 58 58 s.data.toList : Int) else -1) = r at hcall ⊢
    go_enter Tryd.func62, Tryd.ntmps62
    go_wp2
    go_ret
    exact ⟨rfl, rfl⟩
  cases h : (([58] : List UInt8) == s.toList) with
  | true =>
    have hl : s.data.toList = [58] := by rw [← ByteArray.toList_eq]; exact (eq_of_beq h).symm
    have hz : s.size = 1 := by have := congrArg List.length hl; rw [Array.length_toList] at this; exact this
    have e : (if fd 58 58 s.data.toList < s.size then (fd 58 58 s.data.toList : Int) else -1) = 0 := by rw [hl, hz]; rfl
    rw [e]
    clear hl e HB
    go_enter Tryd.func73, Tryd.ntmps73
    go_wp2_with fail
    go_ret
    exact ⟨rfl, rfl⟩
  | false =>
    generalize (if fd 58 58 s.data.toList < s.size then (fd 58 58 s.data.toList : Int) else -1) = r at HB ⊢
    go_enter Tryd.func73, Tryd.ntmps73
    go_wp2_with fail
    refine (HB _).mono ?_
    rintro e w' ⟨rfl, rfl⟩
    go_wp2_with fail
    go_ret
    exact ⟨rfl, rfl⟩

set_option maxHeartbeats 1000000 in
theorem lcut58_yes (s : ByteArray) (w : World) (hs : s.size ≤ 1000000000000) (j : Nat) (hj : fd 58 58 s.data.toList = j) (hlt : j < s.size) :
    Calls Tryd.prog 69 #[.string s, .string { data := #[58] }] w fun e w' => e = .returned (.tuple #[.string (s.extract 0 j), .string (s.extract (j + 1) s.size), .bool true]) ∧ ∃ k, w' = w.drewN k := by
  have HI := fun w => index58_calls s w hs
  rw [hj, if_pos hlt] at HI
  have i0 : (0 : Int) ≤ (j : Int) := by omega
  have i1 : (j : Int) ≤ (s.size : Int) := by omega
  have i2 : (j : Int) + 1 ≤ (s.size : Int) := by omega
  clear hj
  go_enter Tryd.func69, Tryd.ntmps69
  go_wp2_with fail
  refine (HI _).mono ?_
  rintro e w' ⟨rfl, rfl⟩
  clear HI
  go_wp2_with fail
  go_region
  all_goals (try go_wp2_with fail)
  all_goals go_ret3
  all_goals exact ⟨rfl, 1, rfl⟩

theorem cut58_yes (s : ByteArray) (w : World) (hs : s.size ≤ 1000000000000) (j : Nat) (hj : fd 58 58 s.data.toList = j) (hlt : j < s.size) :
    Calls Tryd.prog 63 #[.string s, .string { data := #[58] }] w fun e w' => e = .returned (.tuple #[.string (s.extract 0 j), .string (s.extract (j + 1) s.size), .bool true]) ∧ ∃ k, w' = w.drewN k := by
  have HI := fun w => lcut58_yes s w hs j hj hlt
  clear hj
  go_enter Tryd.func63, Tryd.ntmps63
  go_wp2_with fail
  refine (HI _).mono ?_
  rintro e w' ⟨rfl, k, rfl⟩
  clear HI
  go_wp2_with fail
  go_ret3
  exact ⟨rfl, k, rfl⟩

theorem lcut58_no (s : ByteArray) (w : World) (hs : s.size ≤ 1000000000000) (hlt : s.size ≤ fd 58 58 s.data.toList) :
    Calls Tryd.prog 69 #[.string s, .string { data := #[58] }] w fun e w' => e = .returned (.tuple #[.string s, .string ⟨#[]⟩, .bool false]) ∧ ∃ k, w' = w.drewN k := by
  have HI := fun w => index58_calls s w hs
  rw [if_neg (by omega)] at HI
  clear hlt
  go_enter Tryd.func69, Tryd.ntmps69
  go_wp2_with fail
  refine (HI _).mono ?_
  rintro e w' ⟨rfl, rfl⟩
  go_wp2_with fail
  go_ret3
  exact ⟨rfl, 0, rfl⟩

theorem cut58_no (s : ByteArray) (w : World) (hs : s.size ≤ 1000000000000) (hlt : s.size ≤ fd 58 58 s.data.toList) :
    Calls Tryd.prog 63 #[.string s, .string { data := #[58] }] w fun e w' => e = .returned (.tuple #[.string s, .string ⟨#[]⟩, .bool false]) ∧ ∃ k, w' = w.drewN k := by
  have HI := fun w => lcut58_no s w hs hlt
  clear hlt
  go_enter Tryd.func63, Tryd.ntmps63
  go_wp2_with fail
  refine (HI _).mono ?_
  rintro e w' ⟨rfl, k, rfl⟩
  go_wp2_with fail
  go_ret3
  exact ⟨rfl, k, rfl⟩

set_option maxRecDepth 100000 in
set_option maxHeartbeats 1000000 in
theorem index10_calls (s : ByteArray) (w : World) (hs : s.size ≤ 1000000000000) :
    Calls Tryd.prog 73 #[.string s, .string { data := #[10] }] w fun e w' => e = .returned (.int .i64 (if fd 10 10 s.data.toList < s.size then (fd 10 10 s.data.toList : Int) else -1)) ∧ w = w' := by
  have HB : ∀ w, Calls Tryd.prog 62 #[.string s, .int .u8 10] w fun e w' => e = .returned (.int .i64 (if fd 10 10 s.data.toList < s.size then (fd 10 10 s.data.toList : Int) else -1)) ∧ w = w' := by
    intro w
    have hcall : ∀ w, (callFunc 68 #[.string s, .int .u8 10]).run Tryd.prog w = .ok (.value (.int .i64 (if fd 10 10 s.data.toList < s.size then (fd 10 10 s.data.toList : Int) else -1))) w := by
      intro w
      rw [call_index, show ((10 : Int).toNat).toUInt8 = (10 : Nat).toUInt8 from rfl, idx_fd 10 (by decide), Array.length_toList]; rfl
    generalize (if fd 10 10 s.data.toList < s.size then (fd 10 10 s.data.toList : Int) else -1) = r at hcall ⊢
    go_enter Tryd.func62, Tryd.ntmps62
    go_wp2
    go_ret
    exact ⟨rfl, rfl⟩
  cases h : (([10] : List UInt8) == s.toList) with
  | true =>
    have hl : s.data.toList = [10] := by rw [← ByteArray.toList_eq]; exact (eq_of_beq h).symm
    have hz : s.size = 1 := by have := congrArg List.length hl; rw [Array.length_toList] at this; exact this
    have e : (if fd 10 10 s.data.toList < s.size then (fd 10 10 s.data.toList : Int) else -1) = 0 := by rw [hl, hz]; rfl
    rw [e]
    clear hl e HB
    go_enter Tryd.func73, Tryd.ntmps73
    go_wp2_with fail
    go_ret
    exact ⟨rfl, rfl⟩
  | false =>
    generalize (if fd 10 10 s.data.toList < s.size then (fd 10 10 s.data.toList : Int) else -1) = r at HB ⊢
    go_enter Tryd.func73, Tryd.ntmps73
    go_wp2_with fail
    refine (HB _).mono ?_
    rintro e w' ⟨rfl, rfl⟩
    go_wp2_with fail
    go_ret
    exact ⟨rfl, rfl⟩

set_option maxHeartbeats 1000000 in
theorem lcut10_yes (s : ByteArray) (w : World) (hs : s.size ≤ 1000000000000) (j : Nat) (hj : fd 10 10 s.data.toList = j) (hlt : j < s.size) :
    Calls Tryd.prog 69 #[.string s, .string { data := #[10] }] w fun e w' => e = .returned (.tuple #[.string (s.extract 0 j), .string (s.extract (j + 1) s.size), .bool true]) ∧ ∃ k, w' = w.drewN k := by
  have HI := fun w => index10_calls s w hs
  rw [hj, if_pos hlt] at HI
  have i0 : (0 : Int) ≤ (j : Int) := by omega
  have i1 : (j : Int) ≤ (s.size : Int) := by omega
  have i2 : (j : Int) + 1 ≤ (s.size : Int) := by omega
  clear hj
  go_enter Tryd.func69, Tryd.ntmps69
  go_wp2_with fail
  refine (HI _).mono ?_
  rintro e w' ⟨rfl, rfl⟩
  clear HI
  go_wp2_with fail
  go_region
  all_goals (try go_wp2_with fail)
  all_goals go_ret3
  all_goals exact ⟨rfl, 1, rfl⟩

theorem cut10_yes (s : ByteArray) (w : World) (hs : s.size ≤ 1000000000000) (j : Nat) (hj : fd 10 10 s.data.toList = j) (hlt : j < s.size) :
    Calls Tryd.prog 63 #[.string s, .string { data := #[10] }] w fun e w' => e = .returned (.tuple #[.string (s.extract 0 j), .string (s.extract (j + 1) s.size), .bool true]) ∧ ∃ k, w' = w.drewN k := by
  have HI := fun w => lcut10_yes s w hs j hj hlt
  clear hj
  go_enter Tryd.func63, Tryd.ntmps63
  go_wp2_with fail
  refine (HI _).mono ?_
  rintro e w' ⟨rfl, k, rfl⟩
  clear HI
  go_wp2_with fail
  go_ret3
  exact ⟨rfl, k, rfl⟩

theorem lcut10_no (s : ByteArray) (w : World) (hs : s.size ≤ 1000000000000) (hlt : s.size ≤ fd 10 10 s.data.toList) :
    Calls Tryd.prog 69 #[.string s, .string { data := #[10] }] w fun e w' => e = .returned (.tuple #[.string s, .string ⟨#[]⟩, .bool false]) ∧ ∃ k, w' = w.drewN k := by
  have HI := fun w => index10_calls s w hs
  rw [if_neg (by omega)] at HI
  clear hlt
  go_enter Tryd.func69, Tryd.ntmps69
  go_wp2_with fail
  refine (HI _).mono ?_
  rintro e w' ⟨rfl, rfl⟩
  go_wp2_with fail
  go_ret3
  exact ⟨rfl, 0, rfl⟩

theorem cut10_no (s : ByteArray) (w : World) (hs : s.size ≤ 1000000000000) (hlt : s.size ≤ fd 10 10 s.data.toList) :
    Calls Tryd.prog 63 #[.string s, .string { data := #[10] }] w fun e w' => e = .returned (.tuple #[.string s, .string ⟨#[]⟩, .bool false]) ∧ ∃ k, w' = w.drewN k := by
  have HI := fun w => lcut10_no s w hs hlt
  clear hlt
  go_enter Tryd.func63, Tryd.ntmps63
  go_wp2_with fail
  refine (HI _).mono ?_
  rintro e w' ⟨rfl, k, rfl⟩
  go_wp2_with fail
  go_ret3
  exact ⟨rfl, k, rfl⟩
end Go.Proofs.YtnkjdojpegmlcaaDoor
