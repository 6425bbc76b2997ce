/- Digest of the program and of the specification. -/
import Derived.Test.YtldgkpnlplfopaaShaH
import Derived.Test.YtldgkpnlplfopaaShaY
import Derived.Test.YtldgkpnlplfopaaShaT
import Derived.Lib.SlBytesConst
namespace Go.Proofs.Ytldgkpnlplfopaa
open Go.RowKit Plain
set_option linter.unusedVariables false

namespace Plain
def headL : List Int := [115, 104, 97, 50, 53, 54, 58]
/-- The text of a digest, of its first k words. -/
def digTo (v : List Int) (k : Nat) : List Int := headL ++ (v.take k).flatMap fun n => hexTo n 8
theorem digTo_next (v : List Int) (k : Nat) (hk : k < v.length) : digTo v k ++ hexTo (v.getD k 0) 8 = digTo v (k + 1) := by
  have e : v.take (k + 1) = v.take k ++ [v.getD k 0] := by
    rw [List.take_add_one, List.getElem?_eq_getElem hk]
    simp [List.getD, List.getElem?_eq_getElem hk]
  unfold digTo
  rw [e, List.flatMap_append, List.append_assoc]
  simp
theorem digTo_zero (v : List Int) : digTo v 0 = headL := by simp [digTo]
theorem digTo_length (v : List Int) (k : Nat) (hk : k ≤ v.length) : (digTo v k).length = 7 + 8 * k := by
  induction k with
  | zero => rfl
  | succ k ih => rw [← digTo_next v k (by omega), List.length_append, ih (by omega), hexTo_length]; omega
def digestB (s : ByteArray) : ByteArray := strOfNums (digTo (sumL s) 8)
theorem digestB_size (s : ByteArray) : (digestB s).size = 71 := by
  unfold digestB
  rw [strOfNums_size, digTo_length _ _ (by rw [show (sumL s).length = 8 from hN_length _ _]; omega)]
end Plain

set_option maxHeartbeats 1000000 in
theorem specDigest_calls (s : ByteArray) (w : World) (hs : s.size ≤ 4194304) :
    Calls Try.prog 15 #[.string s] w fun r w' => r = .returned (.string (digestB s)) ∧ Below w.heap.size w w' := by
  go_enter Try.func15, Try.ntmps15
  go_wp2_with fail
  refine (specSum_calls s _ hs).mono ?_
  rintro e w1 ⟨g, c, rfl, hg, hz, hW, hb⟩
  have hdg : digestB s = strOfNums (digTo (sumL s) 8) := rfl
  have hv8 : (sumL s).length = 8 := hN_length _ _
  have hvw : ∀ x ∈ sumL s, Word x := hN_word _ _
  generalize sumL s = v at hW hv8 hvw hdg
  have HDG := hide hdg
  have HW := hide hW
  have HB := hide hb
  have HVW := hide hvw
  clear hdg hW hb hvw
  go_wp2_with fail
  go_loopw [4, 5] (fun t i wr => ∃ (k : Nat), i = .int .i64 k ∧ t = .string (strOfNums (digTo v k)) ∧ k ≤ 8 ∧ Hid (Below w1.heap.size w1 wr)) (fun _ i _ => 8 - (intOf i).toNat)
  case atStart => exact ⟨0, rfl, rfl, by omega, Below.refl _ _⟩
  case round =>
    obtain ⟨k, rfl, rfl, hk, HB2⟩ := hrel
    by_cases hlt : k < 8
    · have hc := ((unhide HW).below (unhide HB2) hz k (by omega)).1
      obtain ⟨x0, x1⟩ := getD_word (unhide HVW) k
      have hnx := hide (digTo_next v k (by omega))
      generalize v.getD k 0 = x at hc x0 x1 hnx
      have i0 : (0 : Int) ≤ (k : Int) := by omega
      have i1 : (k : Int) < 8 := by omega
      have s1 : (strOfNums (digTo v k)).size = 7 + 8 * k := by rw [strOfNums_size]; exact digTo_length v k (by omega)
      have s2 : (strOfNums (hexTo x 8)).size = 8 := by rw [strOfNums_size]; exact hexTo_length x 8
      go_wp2_with (go_at_call 30; refine (l1Hex_calls _ _ x0 x1).mono ?_; rintro e w2 ⟨rfl, hb2⟩)
      go_roundw
      case rel => exact ⟨k + 1, by go_num, by rw [strOf_app, unhide hnx], by omega, hide ((unhide HB2).trans (hb2.mono (unhide HB2).size))⟩
      case measure => simp [intOf]; omega
    · obtain rfl : k = 8 := by omega
      go_wp2_with fail
      go_ret
      exact ⟨by rw [unhide HDG]; rfl, (unhide HB).trans ((unhide HB2).mono (unhide HB).size)⟩

theorem Words.keep {w w' : World} {g : Nat} {v : List Int} (h : Words w g v) (hb : w'.heap[g]? = w.heap[g]?) : Words w' g v := fun j hj =>
  ⟨(World.cell?_of_block (w := w) (a := ⟨g, j, none⟩) hb).trans (h j hj).1, (World.frozen?_of_block (w := w) (a := ⟨g, j, none⟩) hb).trans (h j hj).2⟩

def head7 : Array Value := #[.int .u8 115, .int .u8 104, .int .u8 97, .int .u8 50, .int .u8 53, .int .u8 54, .int .u8 58]
theorem head_own (w : World) : OwnP (w.alloc (.cells head7 5 (7, 8))) w.heap.size w.heap.size 7 headL := by
  have hnew := h_new w (.cells head7 5 (7, 8)) (n := w.heap.size) rfl
  refine ⟨Nat.le_refl _, by simp, by decide, fun j hj => ?_, fun j hj => ?_⟩
  · rw [cell_of_row _ _ j _ _ _ hnew]
    have hj7 : j < 7 := hj
    match j, hj7 with
    | 0, _ => rfl
    | 1, _ => rfl
    | 2, _ => rfl
    | 3, _ => rfl
    | 4, _ => rfl
    | 5, _ => rfl
    | 6, _ => rfl
  · constructor
    · rw [cell_of_row _ _ j _ _ _ hnew, Array.getElem?_eq_getElem (show j < head7.size from hj)]; rfl
    · unfold World.frozen?
      rw [hnew]
      simp
      omega
theorem conv_head (w : World) : (convert 22 22 (.slice (some ⟨w.heap.size, 0, none⟩) 7 7)).run Try.prog (w.alloc (.cells #[.int .u8 115, .int .u8 104, .int .u8 97, .int .u8 50, .int .u8 53, .int .u8 54, .int .u8 58] 5)) =
    .ok (.slice (some ⟨w.heap.size, 0, none⟩) 7 7) (w.alloc (.cells head7 5 (7, 8))) := Lib.run_convert_bytes_const w _ _ head7 7 7 Try.underlying22 Try.underlying5
theorem conv_ownP (W : World) (B g cap n : Nat) (xs : List Int) (h : OwnP W B g cap xs) (hn : xs.length = n) : (convert 22 9 (.slice (some ⟨g, 0, none⟩) n cap)).run Try.prog W = .ok (.string (strOfNums xs)) W :=
  run_convert_bytes_arg W _ _ Try.underlying22 Try.underlying5 g 0 n cap xs hn (fun i hi => by rw [Nat.zero_add]; exact h.2.2.2.1 i (by omega)) _ Try.underlying9

end Go.Proofs.Ytldgkpnlplfopaa