/- Digest of the program and of the specification. -/
import Derived.Test.YtldgkpnlplfopaaGreatDoorShaH
import Derived.Test.YtldgkpnlplfopaaGreatDoorShaY
import Derived.Test.YtldgkpnlplfopaaGreatDoorShaT
import Derived.Lib.SlBytesConst
namespace Go.Proofs.YtldgkpnlplfopaaGreatDoor
open Go.RowKit Plain
set_option linter.unusedVariables false

namespace Plain
def headL : List Int := [115, 104, 97, 50, 53, 54, 58]
/-- The text of a digest, of its first k words. -/
def digTo (v : List Int) (k : Nat) : List Int := headL ++ (v.take k).flatMap fun n => hexTo n 8
theorem digTo_next (v : List Int) (k : Nat) (hk : k < v.length) : digTo v k ++ hexTo (v.getD k 0) 8 = digTo v (k + 1) := by
  have e : v.take (k + 1) = v.take k ++ [v.getD k 0] := by
    rw [List.take_add_one, List.getElem?_eq_getElem hk]
    simp [List.getD, List.getElem?_eq_getElem hk]
  unfold digTo
  rw [e, List.flatMap_append, List.append_assoc]
  simp
theorem digTo_zero (v : List Int) : digTo v 0 = headL := by simp [digTo]
theorem digTo_length (v : List Int) (k : Nat) (hk : k ≤ v.length) : (digTo v k).length = 7 + 8 * k := by
  induction k with
  | zero => rfl
  | succ k ih => rw [← digTo_next v k (by omega), List.length_append, ih (by omega), hexTo_length]; omega
def digestB (s : ByteArray) : ByteArray := strOfNums (digTo (sumL s) 8)
theorem digestB_size (s : ByteArray) : (digestB s).size = 71 := by
  unfold digestB
  rw [strOfNums_size, digTo_length _ _ (by rw [show (sumL s).length = 8 from hN_length _ _]; omega)]
end Plain

set_option maxHeartbeats 1000000 in
theorem specDigest_calls (s : ByteArray) (w : World) (hs : s.size ≤ 4194304) :
    Calls Tryz.prog 36 #[.string s] w fun r w' => r = .returned (.string (digestB s)) ∧ Below w.heap.size w w' := by
  go_enter Tryz.func36, Tryz.ntmps36
  go_wp2_with fail
  refine (specSum_calls s _ hs).mono ?_
  rintro e w1 ⟨g, c, rfl, hg, hz, hW, hb⟩
  have hdg : digestB s = strOfNums (digTo (sumL s) 8) := rfl
  have hv8 : (sumL s).length = 8 := hN_length _ _
  have hvw : ∀ x ∈ sumL s, Word x := hN_word _ _
  generalize sumL s = v at hW hv8 hvw hdg
  have HDG := hide hdg
  have HW := hide hW
  have HB := hide hb
  have HVW := hide hvw
  clear hdg hW hb hvw
  go_wp2_with fail
  go_loopw [4, 5] (fun t i wr => ∃ (k : Nat), i = .int .i64 k ∧ t = .string (strOfNums (digTo v k)) ∧ k ≤ 8 ∧ Hid (Below w1.heap.size w1 wr)) (fun _ i _ => 8 - (intOf i).toNat)
  case atStart => exact ⟨0, rfl, rfl, by omega, Below.refl _ _⟩
  case round =>
    obtain ⟨k, rfl, rfl, hk, HB2⟩ := hrel
    by_cases hlt : k < 8
    · have hc := ((unhide HW).below (unhide HB2) hz k (by omega)).1
      obtain ⟨x0, x1⟩ := getD_word (unhide HVW) k
      have hnx := hide (digTo_next v k (by omega))
      generalize v.getD k 0 = x at hc x0 x1 hnx
      have i0 : (0 : Int) ≤ (k : Int) := by omega
      have i1 : (k : Int) < 8 := by omega
      have s1 : (strOfNums (digTo v k)).size = 7 + 8 * k := by rw [strOfNums_size]; exact digTo_length v k (by omega)
      have s2 : (strOfNums (hexTo x 8)).size = 8 := by rw [strOfNums_size]; exact hexTo_length x 8
      go_wp2_with (go_at_call 57; refine (l1Hex_calls _ _ x0 x1).mono ?_; rintro e w2 ⟨rfl, hb2⟩)
      go_roundw
      case rel => exact ⟨k + 1, by go_num, by rw [strOf_app, unhide hnx], by omega, hide ((unhide HB2).trans (hb2.mono (unhide HB2).size))⟩
      case measure => simp [intOf]; omega
    · obtain rfl : k = 8 := by omega
      go_wp2_with fail
      go_ret
      exact ⟨by rw [unhide HDG]; rfl, (unhide HB).trans ((unhide HB2).mono (unhide HB).size)⟩

theorem Words.keep {w w' : World} {g : Nat} {v : List Int} (h : Words w g v) (hb : w'.heap[g]? = w.heap[g]?) : Words w' g v := fun j hj =>
  ⟨(World.cell?_of_block (w := w) (a := ⟨g, j, none⟩) hb).trans (h j hj).1, (World.frozen?_of_block (w := w) (a := ⟨g, j, none⟩) hb).trans (h j hj).2⟩

def head7 : Array Value := #[.int .u8 115, .int .u8 104, .int .u8 97, .int .u8 50, .int .u8 53, .int .u8 54, .int .u8 58]
theorem head_own (w : World) : OwnP (w.alloc (.cells head7 5 (7, 8))) w.heap.size w.heap.size 7 headL := by
  have hnew := h_new w (.cells head7 5 (7, 8)) (n := w.heap.size) rfl
  refine ⟨Nat.le_refl _, by simp, by decide, fun j hj => ?_, fun j hj => ?_⟩
  · rw [cell_of_row _ _ j _ _ _ hnew]
    have hj7 : j < 7 := hj
    match j, hj7 with
    | 0, _ => rfl
    | 1, _ => rfl
    | 2, _ => rfl
    | 3, _ => rfl
    | 4, _ => rfl
    | 5, _ => rfl
    | 6, _ => rfl
  · constructor
    · rw [cell_of_row _ _ j _ _ _ hnew, Array.getElem?_eq_getElem (show j < head7.size from hj)]; rfl
    · unfold World.frozen?
      rw [hnew]
      simp
      omega
theorem conv_head (w : World) : (convert 22 22 (.slice (some ⟨w.heap.size, 0, none⟩) 7 7)).run Tryz.prog (w.alloc (.cells #[.int .u8 115, .int .u8 104, .int .u8 97, .int .u8 50, .int .u8 53, .int .u8 54, .int .u8 58] 5)) =
    .ok (.slice (some ⟨w.heap.size, 0, none⟩) 7 7) (w.alloc (.cells head7 5 (7, 8))) := Lib.run_convert_bytes_const w _ _ head7 7 7 Tryz.underlying22 Tryz.underlying5
theorem conv_ownP (W : World) (B g cap n : Nat) (xs : List Int) (h : OwnP W B g cap xs) (hn : xs.length = n) : (convert 22 9 (.slice (some ⟨g, 0, none⟩) n cap)).run Tryz.prog W = .ok (.string (strOfNums xs)) W :=
  run_convert_bytes_arg W _ _ Tryz.underlying22 Tryz.underlying5 g 0 n cap xs hn (fun i hi => by rw [Nat.zero_add]; exact h.2.2.2.1 i (by omega)) _ Tryz.underlying9

set_option maxHeartbeats 1000000 in
theorem implDigest_calls (s : ByteArray) (w : World) (hK : KAt w) (hs : s.size ≤ 4194304) :
    Calls Tryz.prog 71 #[.string s] w fun r w' => r = .returned (.string (digestB s)) ∧ Below w.heap.size w w' := by
  have HK := hide hK
  have h0 : 1 < w.heap.size := lt_of_cell (hK 0 (by omega))
  clear hK
  have hcs := conv_head w
  obtain ⟨wa, hwa⟩ : ∃ wa, w.alloc (.cells head7 5 (7, 8)) = wa := ⟨_, rfl⟩
  have hO := head_own w
  have hba : Below w.heap.size w (w.alloc (.cells head7 5 (7, 8))) := (Below.refl _ _).alloc (Nat.le_refl _) _
  have hza : w.heap.size < (w.alloc (.cells head7 5 (7, 8))).heap.size := by simp
  rw [hwa] at hO hba hza hcs
  have HO0 := hide hO
  have HBA := hide hba
  have HKA := hide ((unhide HK).below hba h0)
  clear hO hba hwa HK
  go_enter Tryz.func71, Tryz.ntmps71
  go_upto_region 2 with fail
  clear hcs
  go_wp2_with fail
  refine (Sum_calls s _ (unhide HKA) hs).mono ?_
  rintro e w1 ⟨rfl, hW, hb, hz⟩
  have hdg : digestB s = strOfNums (digTo (sumL s) 8) := rfl
  have hv8 : (sumL s).length = 8 := hN_length _ _
  have hvw : ∀ x ∈ sumL s, Word x := hN_word _ _
  generalize sumL s = v at hW hv8 hvw hdg
  have HDG := hide hdg
  have HW := hide hW
  have HO1 := hide ((unhide HO0).keep (hb.block _ hza) hb.size)
  have HB := hide ((unhide HBA).trans (hb.mono (Nat.le_of_lt hza)))
  have HVW := hide hvw
  have hne0 : w.heap.size ≠ wa.heap.size := by omega
  clear hdg hW hb hvw HO0 HBA HKA
  go_wp2_with fail
  go_loopw [3, 5, 6, 12] (fun t _ _ i wr => ∃ (k g c : Nat), i = .int .i64 k ∧ t = .slice (some ⟨g, 0, none⟩) (7 + 8 * k) c ∧ k ≤ 8 ∧ g ≠ wa.heap.size ∧ wa.heap.size < wr.heap.size ∧ Hid (OwnP wr w.heap.size g c (digTo v k)) ∧ Hid (Words wr wa.heap.size v) ∧ Hid (Below w.heap.size w wr)) (fun _ _ _ i _ => 8 - (intOf i).toNat)
  case atStart => exact ⟨0, _, _, rfl, rfl, by omega, hne0, hz, by rw [digTo_zero]; exact HO1, HW, HB⟩
  case round =>
    clear HO1 HW HB
    obtain ⟨k, g, c, rfl, rfl, hk, hne, hzr, HO, HW, HB⟩ := hrel
    by_cases hlt : k < 8
    · have hc := (unhide HW k (by omega)).1
      obtain ⟨x0, x1⟩ := getD_word (unhide HVW) k
      have hnx := hide (digTo_next v k (by omega))
      have hlk := hide (digTo_length v k (by omega))
      generalize v.getD k 0 = x at hc x0 x1 hnx
      have i0 : (0 : Int) ≤ (k : Int) := by omega
      have i1 : (k : Int) < 8 := by omega
      rename World => wq
      go_wp2_with fail
      go_loopw [3, 6] (fun t i wr => ∃ (j g c n : Nat), i = .int .i64 (28 - 4 * (j : Int)) ∧ t = .slice (some ⟨g, 0, none⟩) n c ∧ j ≤ 8 ∧ g ≠ wa.heap.size ∧ wa.heap.size < wr.heap.size ∧ Hid (n = 7 + 8 * k + j) ∧ Hid (OwnP wr w.heap.size g c (digTo v k ++ hexTo x j)) ∧ Hid (Words wr wa.heap.size v) ∧ Hid (Below w.heap.size w wr)) (fun _ i _ => (intOf i + 4).toNat)
      case atStart => exact ⟨0, g, c, _, rfl, rfl, by omega, hne, hzr, hide rfl, hide (by simpa [hexTo] using unhide HO), HW, HB⟩
      case round =>
        clear HO HW HB hne hzr hc
        obtain ⟨j, g, c, n, rfl, rfl, hj, hne, hzr, HN, HO, HW, HB⟩ := hrel
        by_cases hlt2 : j < 8
        · obtain ⟨q, hq⟩ : ∃ q, 4 * (7 - j) = q := ⟨_, rfl⟩
          have hqi : 28 - 4 * (j : Int) = (q : Int) := by omega
          have hq28 : q ≤ 28 := by omega
          have hnx2 := hide (hexTo_next x j)
          rw [hq] at hnx2
          have hsz := (unhide HB).size
          have hln : (digTo v k ++ hexTo x j).length = n := by rw [List.length_append, unhide hlk, hexTo_length]; exact (unhide HN).symm
          have hn9 : n < 1000000000000 := by rw [unhide HN]; omega
          obtain ⟨p0, p1⟩ := pow_bounds x q x0 x1
          have d0 : 0 ≤ bits .and .u32 (x / 2 ^ q) 15 := by rw [and15 _ p0 p1]; omega
          have d1 : bits .and .u32 (x / 2 ^ q) 15 < 16 := by rw [and15 _ p0 p1]; omega
          have hd := hide (dig_at (x / 2 ^ q) p0 p1 _ rfl)
          have j0 : (0 : Int) ≤ (j : Int) := by omega
          have j1 : (j : Int) < 8 := by omega
          clear hq
          go_wp2_with (at_builtin; go_must (refine appQ rfl _ _ rfl (unhide HO) hln rfl rfl hn9 hsz ?_); intro g' c' w1 hown1 hb1 hoth hor)
          go_roundw
          case rel =>
            have hzr1 := hb1.size
            exact ⟨j + 1, g', c', n + 1, by rw [← hqi]; go_num, rfl, by omega, by omega, by omega, hide (by rw [unhide HN]; omega), hide (by rw [unhide hnx2, ← unhide hd, ← List.append_assoc]; exact hown1), hide (Words.keep (unhide HW) (hoth _ hzr (fun e => hne e.symm))), hide ((unhide HB).trans hb1)⟩
          case measure => simp [intOf]; omega
        · obtain rfl : j = 8 := by omega
          have hO := unhide HO
          rw [unhide hnx] at hO
          have HO2 := hide hO
          clear hO HO
          go_wp2_with fail
          go_roundw
          case rel => exact ⟨k + 1, g, c, by go_num, by rw [unhide HN, Nat.mul_succ, ← Nat.add_assoc], by omega, hne, hzr, HO2, HW, HB⟩
          case measure => simp [intOf]; omega
    · obtain rfl : k = 8 := by omega
      have hcv := conv_ownP wr _ _ _ _ _ (unhide HO) (digTo_length v 8 (by omega))
      go_wp2_with fail
      go_ret
      exact ⟨by rw [unhide HDG]; rfl, unhide HB⟩
end Go.Proofs.YtldgkpnlplfopaaGreatDoor
