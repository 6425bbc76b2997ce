/- The texts by which the exact laws mark memory. -/
import Derived.Test.YtanekbifdedmeaaGreatDoorGAB
import Derived.Deep.RegionWith
namespace Go.Proofs.YtanekbifdedmeaaGreatDoor
open Go.RowKit Plain
set_option linter.unusedVariables false

namespace Plain
/-- A number's decimal digits ahead of out. -/
def decB : Nat → Nat → ByteArray → ByteArray
  | 0, _, out => out
  | f + 1, k, out => if k = 0 then out else decB f (k / 10) (strOfNums [((48 + k % 10 : Nat) : Int)] ++ out)
def mtx (k : Nat) : ByteArray := ⟨#[109]⟩ ++ decB k k ⟨#[]⟩
theorem decB_zero (f : Nat) (out : ByteArray) : decB f 0 out = out := by cases f <;> simp [decB]
theorem decB_step (f k : Nat) (out : ByteArray) (h : 0 < k) (hf : k ≤ f) : ∃ f', f = f' + 1 ∧ k / 10 ≤ f' ∧ decB f k out = decB f' (k / 10) (strOfNums [((48 + k % 10 : Nat) : Int)] ++ out) := by
  obtain ⟨f', rfl⟩ : ∃ f', f = f' + 1 := ⟨f - 1, by omega⟩
  exact ⟨f', rfl, by omega, by rw [decB, if_neg (by omega)]⟩
end Plain

set_option maxHeartbeats 1000000 in
theorem markText_calls (k : Nat) (w : World) (h1 : 1 ≤ k) (h2 : k ≤ 1000000000) :
    Calls Tryz.prog 100 #[.int .i64 k] w fun e w' => e = .returned (.string (mtx k)) ∧ Below w.heap.size w w' := by
  have hm : mtx k = ⟨#[109]⟩ ++ decB k k ⟨#[]⟩ := rfl
  have HM := hide hm
  clear hm
  have i1 : (1 : Int) ≤ (k : Int) := by omega
  go_enter Tryz.func100, Tryz.ntmps100
  go_wp2_with fail
  go_loopw [0, 3] (fun n t wr => ∃ (j f : Nat) (out : ByteArray), n = .int .i64 j ∧ t = .string out ∧ j + out.size ≤ k ∧ j ≤ f ∧ Hid (decB f j out = decB k k ⟨#[]⟩) ∧ Hid (Below w.heap.size w wr)) (fun n _ _ => (intOf n).toNat)
  case atStart => exact ⟨k, k, ⟨#[]⟩, rfl, rfl, Nat.le_refl _, Nat.le_refl _, rfl, Below.refl _ _⟩
  case round =>
    obtain ⟨j, f, out, rfl, rfl, hj, hf, HD, HB⟩ := hrel
    by_cases hj0 : 0 < j
    · obtain ⟨f', rfl, hf', hst⟩ := decB_step f j out hj0 hf
      have hnx := hide (hst.symm.trans (unhide HD))
      clear hst HD
      obtain ⟨d, hd⟩ : ∃ d, j % 10 = d := ⟨_, rfl⟩
      obtain ⟨q, hq⟩ : ∃ q, j / 10 = q := ⟨_, rfl⟩
      rw [hd, hq] at hnx
      rw [hq] at hf'
      have t1 : Int.tmod (j : Int) 10 = (d : Int) := by rw [← hd]; rfl
      have t2 : Int.tdiv (j : Int) 10 = (q : Int) := by rw [← hq]; rfl
      have hd10 : d < 10 := by omega
      have hqj : q < j := by omega
      have j0 : (0 : Int) < (j : Int) := by omega
      have hcv : ∀ W : World, (convert 22 9 (.slice (some ⟨W.heap.size, 0, none⟩) 1 1)).run Tryz.prog (W.alloc (.cells #[.int .u8 (48 + (d : Int))] 5)) = .ok (.string (strOfNums [48 + (d : Int)])) (W.alloc (.cells #[.int .u8 (48 + (d : Int))] 5)) := fun W => conv1 W _
      have hs1 : (strOfNums [48 + (d : Int)]).size = 1 := strOfNums_size _
      clear hd hq
      go_wp2_with fail
      go_roundw
      case rel => exact ⟨q, f', _, rfl, rfl, by rw [ByteArray.size_append, hs1]; omega, hf', hnx, hide ((unhide HB).alloc (unhide HB).size _)⟩
      case measure => simp [intOf]; omega
    · obtain rfl : j = 0 := by omega
      have hfin := unhide HD
      rw [decB_zero] at hfin
      have HF := hide hfin
      clear HD hfin
      go_wp2_with fail
      go_ret
      exact ⟨by rw [unhide HM, ← unhide HF]; rfl, unhide HB⟩

end Go.Proofs.YtanekbifdedmeaaGreatDoor
