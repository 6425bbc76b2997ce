/- Rows of numbers, marked. -/
import Derived.Test.YtkpnnchgngcppaaIntR
import Derived.Test.YtkpnnchgngcppaaOnlP
namespace Go.Proofs.Ytkpnnchgngcppaa
open Go.RowKit Plain
set_option linter.unusedVariables false

namespace Plain
/-- What the marking leaves. -/
def mkI (b n : Nat) : List Int := (List.range n).map fun i : Nat => ((b + i : Nat) : Int)
theorem mkI_length (b n : Nat) : (mkI b n).length = n := by simp [mkI]
theorem mkI_get (b n k : Nat) (h : k < (mkI b n).length) : (mkI b n)[k] = ((b + k : Nat) : Int) := by simp [mkI]
def mixI (b : Nat) (fs : List Int) (k : Nat) : List Int := mkI b k ++ fs.drop k
theorem mixI_length (b : Nat) (fs : List Int) (k : Nat) (h : k ≤ fs.length) : (mixI b fs k).length = fs.length := by simp [mixI, mkI_length]; omega
theorem mixI_zero (b : Nat) (fs : List Int) : mixI b fs 0 = fs := by simp [mixI, mkI]
theorem mixI_end (b : Nat) (fs : List Int) : mixI b fs fs.length = mkI b fs.length := by simp [mixI]
theorem mixI_next (b : Nat) (fs : List Int) (k : Nat) (h : k < fs.length) : (mixI b fs k).set k ((b + k : Nat) : Int) = mixI b fs (k + 1) := by
  have hl := mkI_length b k
  unfold mixI
  rw [List.set_append_right _ _ (by omega), hl, Nat.sub_self, List.drop_eq_getElem_cons h, List.set_cons_zero]
  simp [mkI, List.range_succ]
end Plain

set_option maxHeartbeats 1000000 in
theorem markInt64S_calls (b : Nat) (a : Option Addr) (c n : Nat) (fs : List Int) (w : World) (hb2 : b ≤ 100000000) (hn : fs.length = n) (hn2 : n ≤ 100000000) (h1 : RowAt i64E w a fs) :
    Calls Try.prog 20 #[.slice a n c, .int .i64 b] w fun e w' => e = .returned (.int .i64 ((b + n : Nat) : Int)) ∧ RowAt i64E w' a (mkI b n) ∧ OnlyRow a w w' := by
  have H1 := hide h1
  have HN := hide hn
  clear h1 hn
  go_enter Try.func20, Try.ntmps20
  go_wp2_with fail
  go_loopw [1, 5] (fun m i wr => ∃ (k : Nat), i = .int .i64 k ∧ m = .int .i64 ((b + k : Nat) : Int) ∧ k ≤ n ∧ Hid (RowAt i64E wr a (mixI b fs k)) ∧ Hid (OnlyRow a w wr)) (fun _ i _ => n - (intOf i).toNat)
  case atStart => exact ⟨0, rfl, rfl, by omega, hide (by rw [mixI_zero]; exact unhide H1), OnlyRow.refl _ _⟩
  case round =>
    clear H1
    obtain ⟨k, rfl, rfl, hk, HF, HB⟩ := hrel
    by_cases hlt : k < n
    · have hfl : k < fs.length := by rw [unhide HN]; exact hlt
      have hml := mixI_length b fs k (by omega)
      have hkl : k < (mixI b fs k).length := by omega
      obtain ⟨g, e1, l1, p1, z1⟩ := (unhide HF).ix k hkl
      subst e1
      have hnx := mixI_next b fs k hfl
      have i0 : (0 : Int) ≤ (k : Int) := by omega
      have i1 : (k : Int) < (n : Int) := by omega
      obtain ⟨M, hM⟩ : ∃ M, b + k = M := ⟨_, rfl⟩
      rw [hM] at hnx ⊢
      have hS := (unhide HF).setJ k hkl 0 (by decide) (.int .i64 M) (M : Int) rfl
      rw [hnx, show k * i64E.n + 0 = k from Nat.mul_one k] at hS
      have HF2 := hide hS
      generalize (mixI b fs k)[k] = x at p1
      clear hS hnx HF
      go_wp2_with fail
      go_roundw
      case rel => exact ⟨k + 1, by go_num, by rw [show b + (k + 1) = M + 1 from by omega]; go_num, by omega, HF2, hide ((unhide HB).trans (OnlyRow.set _ _))⟩
      case measure => simp [intOf]; omega
    · obtain rfl : k = n := by omega
      have hF := unhide HF
      rw [← unhide HN, mixI_end, unhide HN] at hF
      have HF2 := hide hF
      clear hF HF
      go_wp2_with fail
      go_ret
      exact ⟨rfl, unhide HF2, unhide HB⟩

set_option maxHeartbeats 1000000 in
theorem heldInt64S_calls (b : Nat) (a : Option Addr) (c n : Nat) (w : World) (hb2 : b ≤ 100000000) (hn2 : n ≤ 100000000) (h1 : RowAt i64E w a (mkI b n)) :
    Calls Try.prog 21 #[.slice a n c, .int .i64 b] w fun e w' => e = .returned (.int .i64 ((b + n : Nat) : Int)) ∧ Below w.heap.size w w' := by
  have H1 := hide h1
  clear h1
  go_enter Try.func21, Try.ntmps21
  go_wp2_with fail
  go_loopw [1, 5] (fun m i wr => ∃ (k : Nat), i = .int .i64 k ∧ m = .int .i64 ((b + k : Nat) : Int) ∧ k ≤ n ∧ Hid (Below w.heap.size w wr)) (fun _ i _ => n - (intOf i).toNat)
  case atStart => exact ⟨0, rfl, rfl, by omega, Below.refl _ _⟩
  case round =>
    obtain ⟨k, rfl, rfl, hk, HB⟩ := hrel
    by_cases hlt : k < n
    · have hkl : k < (mkI b n).length := by rw [mkI_length]; exact hlt
      obtain ⟨g, e1, l1, p1, -⟩ := ((unhide H1).below (unhide HB)).ix k hkl
      rw [mkI_get] at p1
      subst e1
      have i0 : (0 : Int) ≤ (k : Int) := by omega
      have i1 : (k : Int) < (n : Int) := by omega
      obtain ⟨M, hM⟩ : ∃ M, b + k = M := ⟨_, rfl⟩
      rw [hM] at p1 ⊢
      go_wp2_with fail
      go_roundw
      case rel => exact ⟨k + 1, by go_num, by rw [show b + (k + 1) = M + 1 from by omega]; go_num, by omega, HB⟩
      case measure => simp [intOf]; omega
    · obtain rfl : k = n := by omega
      go_wp2_with fail
      go_ret
      exact ⟨rfl, unhide HB⟩

namespace Plain
/-- The blocks of members' two lists. -/
def inC (a b : Option Addr) (g : Nat) : Prop := inB a g ∨ inB b g
/-- Two lists, marked one behind the other. -/
structure CMark (W : World) (a b : Option Addr) (n m : Nat) : Prop where
  v : RowAt i64E W a (mkI 1 n)
  l : RowAt i64E W b (mkI (1 + n) m)
theorem CMark.below {W W' : World} {a b : Option Addr} {n m : Nat} (h : CMark W a b n m) (hb : Below W.heap.size W W') : CMark W' a b n m := ⟨h.v.below hb, h.l.below hb⟩
end Plain
end Go.Proofs.Ytkpnnchgngcppaa
