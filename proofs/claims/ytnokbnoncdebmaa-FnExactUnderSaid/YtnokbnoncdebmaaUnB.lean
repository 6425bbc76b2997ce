/- Branches, by the program. -/
import Derived.Test.YtnokbnoncdebmaaUnT
import Derived.Deep.QuietTactic
import Derived.BigQuiet
namespace Go.Proofs.Ytnokbnoncdebmaa
open Go.RowKit Go.Maps Plain
set_option linter.unusedVariables false

namespace Plain
def brV (n v : Nat) : Value := .agg #[.int .i64 (n : Int), .int .u8 (v : Int)]
theorem or8 : ∀ a b : Fin 16, bits BinOp.or IntKind.u8 (IntKind.u8.wrap ((a.val : Int) * 16)) (b.val : Int) = ((a.val * 16 + b.val : Nat) : Int) := by decide +kernel
/-- A branch holds a key. -/
def hoB (n v : Nat) (x : List UInt8) : Bool := decide ((x.getD 0 0).toNat / 2 ^ (4 * (2 - n)) = v)
end Plain

set_option maxRecDepth 10000 in
set_option maxHeartbeats 1000000 in
theorem behind_calls (n v x : Nat) (w : World) (hn : n ≤ 2) (hv : v < 16) (hx : x < 16) :
    Calls Try.prog 34 #[brV n v, .int .u8 (x : Int)] w fun e w' => e = .returned (brV (n + 1) (v * 16 + x)) ∧ Below w.heap.size w w' := by
  have ho := or8 ⟨v, hv⟩ ⟨x, hx⟩
  obtain ⟨z, hz⟩ : ∃ z : Nat, v * 16 + x = z := ⟨_, rfl⟩
  simp only [hz] at ho
  obtain ⟨y, hy⟩ : ∃ y, IntKind.u8.wrap ((v : Int) * 16) = y := ⟨_, rfl⟩
  rw [hy] at ho
  rw [hz]
  have hn1 : IntKind.i64.wrap ((n : Int) + 1) = (n : Int) + 1 := by rw [IntKind.wrap_i64]; omega
  unfold brV
  go_enter Try.func34, Try.ntmps34
  go_wp2_with fail
  exact bodyPost_ret (v := .agg #[.int .i64 ((n : Int) + 1), .int .u8 (z : Int)]) (by simp [results, Try.results34, go_sem]) rfl ⟨by rw [show ((n + 1 : Nat) : Int) = (n : Int) + 1 from by omega], ((Below.refl _ _).alloc (Nat.le_refl _) _).alloc (by simp) _⟩

set_option maxRecDepth 10000 in
set_option maxHeartbeats 1000000 in
theorem holds_calls (n v : Nat) (x : List UInt8) (w : World) (hn : n ≤ 2) (hv : v < 256) (hx : x.length = 32) :
    Calls Try.prog 36 #[brV n v, .agg (encK x).toArray] w fun e w' => e = .returned (.bool (hoB n v x)) ∧ Below w.heap.size w w' := by
  obtain ⟨b, hb⟩ : ∃ b : Nat, (x.getD 0 0).toNat = b := ⟨_, rfl⟩
  have hbl : b < 256 := by rw [← hb]; exact (x.getD 0 0).toNat_lt
  have he : ((encK x).toArray)[0]? = some (.int .u8 (b : Int)) := by
    unfold encK
    rw [padK_id hx, ← hb]
    simp [hx, List.getD]
  obtain ⟨W0, hW0⟩ : ∃ W0, (w.alloc (.cells #[.int .i64 (n : Int), .int .u8 (v : Int)] 37)).alloc (.cells (encK x).toArray 46) = W0 := ⟨_, rfl⟩
  have hb0 : W0.heap[w.heap.size]? = some (.cells #[.int .i64 (n : Int), .int .u8 (v : Int)] 37 (0, 0)) := by
    rw [← hW0, heap_alloc_old _ _ (by simp)]
    exact heap_alloc_new _ _
  have hb1 : W0.heap[w.heap.size + 1]? = some (.cells (encK x).toArray 46 (0, 0)) := by
    have h0 : (w.alloc (.cells #[.int .i64 (n : Int), .int .u8 (v : Int)] 37)).heap.size = w.heap.size + 1 := by simp
    rw [← hW0, ← h0]
    exact heap_alloc_new _ _
  have c0 : W0.cell? ⟨w.heap.size, 0, none⟩ = some (.int .i64 (n : Int)) := by rw [cell_of_row _ _ 0 _ _ _ hb0]; rfl
  have c1 : W0.cell? ⟨w.heap.size, 1, none⟩ = some (.int .u8 (v : Int)) := by rw [cell_of_row _ _ 1 _ _ _ hb0]; rfl
  have c2 : W0.cell? ⟨w.heap.size + 1, 0, none⟩ = some (.int .u8 (b : Int)) := by rw [cell_of_row _ _ 0 _ _ _ hb1]; exact he
  have HB := hide (show Below w.heap.size w W0 from by rw [← hW0]; exact ((Below.refl _ _).alloc (Nat.le_refl _) _).alloc (by simp) _)
  have HW := hide hW0
  unfold hoB
  rw [hb]
  clear hW0 hb0 hb1 he hb hx
  obtain ⟨m, hm⟩ : ∃ m : Nat, 2 - n = m := ⟨_, rfl⟩
  obtain ⟨k, hk⟩ : ∃ k : Nat, 4 * m = k := ⟨_, rfl⟩
  rw [hm, hk]
  have e1 : (2 : Int) - (n : Int) = (m : Int) := by omega
  have e2 : (4 : Int) * (m : Int) = (k : Int) := by omega
  have w1 : IntKind.i64.wrap (m : Int) = (m : Int) := by rw [IntKind.wrap_i64]; omega
  have w2 : IntKind.i64.wrap (k : Int) = (k : Int) := by rw [IntKind.wrap_i64]; omega
  have k0 : (0 : Int) ≤ (k : Int) := by omega
  have k8 : (k : Int) ≤ 8 := by omega
  obtain ⟨q, hq, hq2⟩ : ∃ q : Nat, b / 2 ^ k = q ∧ (b : Int) / 2 ^ k = (q : Int) := ⟨_, rfl, by simp⟩
  rw [hq]
  have hdq : decide ((q : Int) = (v : Int)) = decide (q = v) := by rw [decide_eq_decide]; omega
  clear hq hm hk
  unfold brV
  go_enter Try.func36, Try.ntmps36
  go_wp2_with fail
  rw [unhide HW]
  go_quiet (fail)
  go_wp2_with fail
  go_ret
  exact ⟨by rw [← hdq]; rfl, belQS (unhide HB) _⟩
end Go.Proofs.Ytnokbnoncdebmaa
