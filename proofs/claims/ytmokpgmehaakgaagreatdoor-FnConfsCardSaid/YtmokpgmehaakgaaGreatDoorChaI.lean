/- Changes of members, by the program. -/
import Derived.Test.YtmokpgmehaakgaaGreatDoorIdsI
import Derived.Test.YtmokpgmehaakgaaGreatDoorCuts
import Derived.Laws.Rows
namespace Go.Proofs.YtmokpgmehaakgaaGreatDoor
open Go.RowKit Plain
set_option linter.unusedVariables false

namespace Plain
/-- Block M is a council's. -/
def UB (M : Nat) (v l : Value) (w : World) : Prop := w.heap[M]? = some (.cells #[v, l] 50 (0, 0))
theorem UB.lt {M : Nat} {v l : Value} {w : World} (h : UB M v l w) : M < w.heap.size := (Array.getElem?_eq_some_iff.1 h).1
theorem UB.c0 {M : Nat} {v l : Value} {w : World} (h : UB M v l w) : w.cell? ⟨M, 0, none⟩ = some v := cell_of_row w M 0 _ _ _ h
theorem UB.c1 {M : Nat} {v l : Value} {w : World} (h : UB M v l w) : w.cell? ⟨M, 1, none⟩ = some l := cell_of_row w M 1 _ _ _ h
theorem UB.f0 {M : Nat} {v l : Value} {w : World} (h : UB M v l w) : w.frozen? ⟨M, 0, none⟩ = false := frozen_of_row w M 0 _ _ h
theorem UB.f1 {M : Nat} {v l : Value} {w : World} (h : UB M v l w) : w.frozen? ⟨M, 1, none⟩ = false := frozen_of_row w M 1 _ _ h
theorem UB.new (w : World) (v l : Value) : UB w.heap.size v l (w.alloc (.cells #[v, l] 50)) := (MapKept.heap_alloc w _).1
theorem UB.below {M B : Nat} {v l : Value} {w w' : World} (h : UB M v l w) (hb : Below B w w') (hB : M < B) : UB M v l w' := (hb.block M hB).trans h
theorem UB.set0 {M : Nat} {v l : Value} {w : World} (h : UB M v l w) (x : Value) : UB M x l (w.setCell ⟨M, 0, none⟩ x) := Go.heap_setCell_same w M 0 _ _ _ h
theorem UB.set1 {M : Nat} {v l : Value} {w : World} (h : UB M v l w) (x : Value) : UB M v x (w.setCell ⟨M, 1, none⟩ x) := Go.heap_setCell_same w M 1 _ _ _ h
theorem UB.far {M b i : Nat} {v l : Value} {w : World} (h : UB M v l w) (hne : b ≠ M) (x : Value) : UB M v l (w.setCell ⟨b, i, none⟩ x) := (Go.heap_setCell_other w ⟨b, i, none⟩ M x (fun e => hne e.symm)).trans h
/-- Whether a node is where a change takes it from. -/
def findB (kind id : Int) (v l : List Int) : Bool := if kind = 1 then !decide (id ∈ v ++ l) else if kind = 2 then decide (id ∈ l) else decide (id ∈ v ++ l)
def nxtV (kind id : Int) (v : List Int) : List Int := if kind = 2 then putZ id (cutZ id v) else cutZ id v
def nxtL (kind id : Int) (l : List Int) : List Int := if kind = 1 then putZ id (cutZ id l) else cutZ id l
theorem nxtV_ok (kind id : Int) (v : List Int) (h1 : 1 ≤ id) (h50 : id ≤ 50) (h : okIds 0 v = true) : okIds 0 (nxtV kind id v) = true := by
  unfold nxtV
  split
  · exact okIds_put id h50 _ 0 (by omega) (fun q => ((mem_cutZ id id v).1 q).2 rfl) (okIds_cut id v 0 h)
  · exact okIds_cut id v 0 h
theorem nxtL_ok (kind id : Int) (l : List Int) (h1 : 1 ≤ id) (h50 : id ≤ 50) (h : okIds 0 l = true) : okIds 0 (nxtL kind id l) = true := by
  unfold nxtL
  split
  · exact okIds_put id h50 _ 0 (by omega) (fun q => ((mem_cutZ id id l).1 q).2 rfl) (okIds_cut id l 0 h)
  · exact okIds_cut id l 0 h
end Plain

set_option maxRecDepth 10000 in
set_option maxHeartbeats 1000000 in
theorem has_calls (l : List Int) (x : Nat) (w : World) (h1 : 1 ≤ x) (h50 : x ≤ 50) :
    Calls Tryz.prog 62 #[.int .u64 (setN l : Nat), .int .i64 x] w fun e w' => e = .returned (.bool (decide ((x : Int) ∈ l))) ∧ w = w' := by
  have hlt := setN_lt l
  have hp : 2 ^ x ≤ 1125899906842624 := Nat.pow_le_pow_right (show 0 < 2 by decide) h50
  have HON := hide (only_calls x w (by omega))
  have hand : bits .and .u64 ((setN l : Nat) : Int) ((2 ^ x : Nat) : Int) = ((setN l &&& 2 ^ x : Nat) : Int) := u64_and_nat _ _ (by omega) (by omega)
  have hh := set_has x h1 h50 l
  obtain ⟨R, hR⟩ : ∃ R, decide ((x : Int) ∈ l) = R := ⟨_, rfl⟩
  rw [hR]
  have hne : (((setN l &&& 2 ^ x : Nat) : Int) != 0) = R := by
    rw [← hR]
    by_cases hm : (x : Int) ∈ l
    · rw [decide_eq_true hm, bne_iff_ne]
      have : ¬ (setN l &&& 2 ^ x = 0) := fun q => hh.1 q hm
      omega
    · rw [decide_eq_false hm, hh.2 hm]
      rfl
  generalize setN l &&& 2 ^ x = D at hand hne
  generalize setN l = S at hlt hand
  generalize 2 ^ x = P at HON hp hand
  clear hh hR
  go_enter Tryz.func62, Tryz.ntmps62
  go_wp2_with fail
  refine (unhide HON).mono ?_
  rintro e w1 ⟨rfl, rfl⟩
  go_wp2_with fail
  go_ret
  exact ⟨rfl, rfl⟩

set_option maxRecDepth 10000 in
set_option maxHeartbeats 1000000 in
theorem all_calls (v l : List Int) (w : World) :
    Calls Tryz.prog 61 #[.agg #[.int .u64 (setN v : Nat), .int .u64 (setN l : Nat)]] w fun e w' => e = .returned (.int .u64 (setN (v ++ l) : Nat)) ∧ Below w.heap.size w w' := by
  have h1 := setN_lt v
  have h2 := setN_lt l
  have hor : bits .or .u64 ((setN v : Nat) : Int) ((setN l : Nat) : Int) = ((setN (v ++ l) : Nat) : Int) := by rw [u64_or_nat _ _ (by omega) (by omega), set_all]
  have HB := hide (bel1 w (.cells #[.int .u64 (setN v : Nat), .int .u64 (setN l : Nat)] 50))
  generalize setN (v ++ l) = D at hor
  generalize setN v = V at HB hor
  generalize setN l = L at HB hor
  clear h1 h2
  go_enter Tryz.func61, Tryz.ntmps61
  go_wp2_with fail
  go_ret
  exact ⟨rfl, unhide HB⟩

set_option maxRecDepth 10000 in
set_option maxHeartbeats 1000000 in
theorem finds_calls (v l : List Int) (kind : Int) (x : Nat) (w : World) (k1 : 1 ≤ kind) (k3 : kind ≤ 3) (h1 : 1 ≤ x) (h50 : x ≤ 50) :
    Calls Tryz.prog 47 #[.agg #[.int .u64 (setN v : Nat), .int .u64 (setN l : Nat)], .int .i64 kind, .int .i64 x] w fun e w' => e = .returned (.bool (findB kind x v l)) ∧ Below w.heap.size w w' := by
  obtain ⟨W0, hW0⟩ : ∃ W0, W0 = w.alloc (.cells #[.int .u64 (setN v : Nat), .int .u64 (setN l : Nat)] 50) := ⟨_, rfl⟩
  have hb0 : Below w.heap.size w W0 := by rw [hW0]; exact bel1 _ _
  have c0 : W0.cell? ⟨w.heap.size, 0, none⟩ = some (.int .u64 (setN v : Nat)) := by rw [hW0]; simp [go_sem]
  have c1 : W0.cell? ⟨w.heap.size, 1, none⟩ = some (.int .u64 (setN l : Nat)) := by rw [hW0]; simp [go_sem]
  have HAL := hide (all_calls v l W0)
  have HHA := hide (fun W => has_calls (v ++ l) x W h1 h50)
  have HHL := hide (fun W => has_calls l x W h1 h50)
  have HB0 := hide hb0
  have HW0 := hide hW0.symm
  clear hb0 hW0
  rcases (show kind = 1 ∨ kind = 2 ∨ kind = 3 from by omega) with rfl | rfl | rfl
  · have HX := hide (show findB 1 (x : Int) v l = !decide ((x : Int) ∈ v ++ l) from rfl)
    generalize decide ((x : Int) ∈ v ++ l) = R at HHA HX
    generalize setN (v ++ l) = D at HAL HHA
    generalize setN v = V at c0 HAL HW0
    generalize setN l = L at c1 HAL HW0 HHL
    go_enter Tryz.func47, Tryz.ntmps47
    go_wp2_with fail
    rw [unhide HW0]
    refine (unhide HAL).mono ?_
    rintro e w1 ⟨rfl, hb1⟩
    have HB1 := hide (belOn (unhide HB0) hb1)
    clear hb1
    go_wp2_with fail
    refine (unhide HHA _).mono ?_
    rintro e w2 ⟨rfl, rfl⟩
    go_wp2_with fail
    go_ret
    exact ⟨by rw [unhide HX]; rfl, unhide HB1⟩
  · have HX := hide (show findB 2 (x : Int) v l = decide ((x : Int) ∈ l) from rfl)
    generalize decide ((x : Int) ∈ l) = R at HHL HX
    generalize setN (v ++ l) = D at HAL HHA
    generalize setN v = V at c0 HAL HW0
    generalize setN l = L at c1 HAL HW0 HHL
    go_enter Tryz.func47, Tryz.ntmps47
    go_wp2_with fail
    rw [unhide HW0]
    refine (unhide HHL _).mono ?_
    rintro e w2 ⟨rfl, rfl⟩
    go_wp2_with fail
    go_ret
    exact ⟨by rw [unhide HX]; rfl, unhide HB0⟩
  · have HX := hide (show findB 3 (x : Int) v l = decide ((x : Int) ∈ v ++ l) from rfl)
    generalize decide ((x : Int) ∈ v ++ l) = R at HHA HX
    generalize setN (v ++ l) = D at HAL HHA
    generalize setN v = V at c0 HAL HW0
    generalize setN l = L at c1 HAL HW0 HHL
    go_enter Tryz.func47, Tryz.ntmps47
    go_wp2_with fail
    rw [unhide HW0]
    refine (unhide HAL).mono ?_
    rintro e w1 ⟨rfl, hb1⟩
    have HB1 := hide (belOn (unhide HB0) hb1)
    clear hb1
    go_wp2_with fail
    refine (unhide HHA _).mono ?_
    rintro e w2 ⟨rfl, rfl⟩
    go_wp2_with fail
    go_ret
    exact ⟨by rw [unhide HX]; rfl, unhide HB1⟩
end Go.Proofs.YtmokpgmehaakgaaGreatDoor
