/- The program's table of CRCs, and its Crc by the table. -/
import Derived.Test.YtmgjkomgpkoenaaGreatMem
import Derived.Test.YtmgjkomgpkoenaaGreatCrcW
import Derived.Laws.Rows
import Derived.Laws.Tables
namespace Go.Proofs.YtmgjkomgpkoenaaGreat
open Go.RowKit Plain
set_option linter.unusedVariables false

namespace Plain
/-- The row arr holds the table's first k words. -/
def TabTo (arr : Array Value) (k : Nat) : Prop := arr.size = 256 ∧ arr.all (·.oneCell') = true ∧ ∀ j, j < k → arr[j]? = some (.int .u32 (stepsI 8 (j : Int)))

theorem TabTo.next {arr : Array Value} {k : Nat} (h : TabTo arr k) (hk : k < 256) : TabTo (arr.setIfInBounds k (.int .u32 (stepsI 8 (k : Int)))) (k + 1) := by
  obtain ⟨h1, h2, h3⟩ := h
  refine ⟨by simpa using h1, ?_, ?_⟩
  · rw [Array.all_eq_true] at h2 ⊢
    intro i hi
    rw [Array.getElem_setIfInBounds]
    split
    · rfl
    · exact h2 i (by simpa using hi)
  · intro j hj
    rw [Array.getElem?_setIfInBounds]
    by_cases e : k = j
    · subst e; simp [h1, hk]
    · rw [if_neg e]; exact h3 j (by omega)
end Plain

theorem info72 : (Tryz.prog.info? 178).map (·.size) = some 256 := by kernel_rfl
theorem zero72 : TabTo Tryz.zeroCells178 0 := ⟨by decide +kernel, by decide +kernel, fun j h => absurd h (Nat.not_lt_zero j)⟩

set_option maxRecDepth 10000 in
set_option maxHeartbeats 1000000 in
theorem newCrcTable_calls (w : World) :
    Calls Tryz.prog 113 #[] w fun e w' => ∃ arr, TabTo arr 256 ∧ e = .returned (.agg arr) ∧ Below w.heap.size w w' := by
  have z72 := zero72
  have HZ := hide z72
  clear z72
  go_enter Tryz.func113, Tryz.ntmps113
  go_wp2_with fail
  go_loopw [2, 3, 4, 5, 10] (fun _ _ _ i _ wr => ∃ (k : Nat) (arr : Array Value), i = .int .i64 k ∧ k ≤ 256 ∧ TabTo arr k ∧ wr.heap[w.heap.size + 1]? = some (.cells arr 178 (0, 0)) ∧
      wr.heap[w.heap.size]? = some (.cells Tryz.zeroCells178 178 (0, 0)) ∧ Below w.heap.size w wr) (fun _ _ _ i _ _ => 256 - (intOf i).toNat)
  case atStart => exact ⟨0, _, rfl, by omega, unhide HZ, heap_alloc2_new _ _ _, heap_alloc2_old _ _ _, ((Below.refl _ _).alloc (Nat.le_refl _) _).alloc (by simp) _⟩
  case round =>
    obtain ⟨k, arr, rfl, hk, htab, hrow, hres, hbel⟩ := hrel
    have HT := hide htab
    clear htab
    by_cases hlt : k < 256
    · go_wp2_with fail
      go_loop [3, 4, 10] (fun x v i => ∃ (j : Nat) (Z : Int), i = .int .i64 j ∧ j ≤ 8 ∧ x = .int .u32 Z ∧ 0 ≤ Z ∧ Z < 4294967296 ∧ Hid (stepsI (8 - j) Z = stepsI 8 (k : Int))) (fun _ _ i => 8 - (intOf i).toNat)
      case atStart => exact ⟨0, k, rfl, by omega, rfl, by omega, by omega, rfl⟩
      case round =>
        obtain ⟨j, Z, rfl, hj8, rfl, hz0, hz1, hrel2⟩ := hrel
        by_cases hj : j < 8
        · cases hb : (bits .and .u32 Z 1 == 1) with
          | true =>
            have hn := hide (steps_next hj (unhide hrel2))
            have he := hide (stepI_yes hb)
            have hrg := bits_u32_range .xor (Z / 2) 3988292384
            clear hrel2
            go_wp2
            go_round
            case rel => exact ⟨j + 1, _, by go_num, by omega, rfl, hrg.1, hrg.2, by rw [← unhide he]; exact hn⟩
            case measure => simp [intOf]; omega
          | false =>
            have hn := hide (steps_next hj (unhide hrel2))
            have he := hide (stepI_no hb)
            clear hrel2
            go_wp2
            go_round
            case rel => exact ⟨j + 1, _, by go_num, by omega, rfl, by omega, by omega, by rw [← unhide he]; exact hn⟩
            case measure => simp [intOf]; omega
        · obtain rfl : j = 8 := by omega
          have hfin : Z = stepsI 8 (k : Int) := unhide hrel2
          have hF := hide hfin
          clear hrel2 hfin
          have hsz : arr.size = 256 := (unhide HT).1
          obtain ⟨old, hcell⟩ : ∃ old, wr.cell? ⟨w.heap.size + 1, k, none⟩ = some old := ⟨arr[k], by rw [cell_of_row wr _ k arr _ _ hrow]; simp⟩
          have hfz : wr.frozen? ⟨w.heap.size + 1, k, none⟩ = false := frozen_of_row wr _ k arr _ hrow
          clear hsz
          go_wp2
          go_roundw
          case rel =>
            refine ⟨k + 1, _, by go_num, by omega, (unhide HT).next hlt, ?_, ?_, hbel.setCell (by simp) _⟩
            · rw [← unhide hF]; exact heap_setCell_same wr _ k arr _ _ hrow
            · rw [heap_setCell_other _ _ _ _ (by simp)]; exact hres
          case measure => simp [intOf]; omega
    · obtain rfl : k = 256 := by omega
      have hsz := (unhide HT).1
      have hi72 : (Tryz.prog.info? 178).map (·.size) = some arr.size := by rw [hsz]; exact info72
      have hzs : Tryz.zeroCells178.size = arr.size := by rw [hsz]; exact (unhide HZ).1
      have h1 := (unhide HT).2.1
      clear hsz
      go_wp2_with (first | (refine wpList_load_row rfl 178 (.tmp 1) rfl (w.heap.size + 1) rfl 178 arr (0, 0) _ hrow Tryz.underlying178 rfl hi72 ?_) | (refine wpList_store_row rfl 178 (.tmp 0) (.tmp 25) rfl w.heap.size arr rfl rfl 178 _ hres hi72 hzs h1 ?_))
      refine bodyPost_ret (v := .agg arr) ?_ rfl ⟨arr, unhide HT, rfl, ?_⟩
      · exact results_cell_row (p := 0) (ty := 178) (by kernel_rfl) _ _ w.heap.size 178 arr (0, 0) _ rfl (setRow_heap _ _ _ _ _ _ hres) Tryz.underlying178 rfl hi72
      · exact hbel.trans ⟨rfl, rfl, rfl, by simp, fun k hk => setRow_other _ _ _ _ (by omega)⟩

namespace Plain
def TabAt (w : World) (b off : Nat) : Prop := ∀ j, j < 256 → w.cell? ⟨b, off + j, none⟩ = some (.int .u32 (stepsI 8 (j : Int)))
end Plain

set_option maxHeartbeats 1000000 in
theorem crc_calls (b off : Nat) (s : ByteArray) (w : World) (hs : s.size ≤ 1000000000000) (htab : TabAt w b off) :
    Calls Tryz.prog 133 #[.pointer (some ⟨b, off, none⟩), .string s] w fun e w' => e = .returned (.int .u32 (crcI s)) ∧ ∃ k, w' = w.drewN k := by
  have HT := hide htab
  clear htab
  go_enter Tryz.func133, Tryz.ntmps133
  go_wp2_with fail
  go_loopw [5, 6, 9] (fun x _ i wr => ∃ (k n : Nat), i = .int .i64 k ∧ k ≤ s.size ∧ x = .int .u32 (crcAt s k) ∧ wr = w.drewN n) (fun _ _ i _ => s.size - (intOf i).toNat)
  case atStart => exact ⟨0, 0, rfl, by omega, rfl, rfl⟩
  case round =>
    obtain ⟨k, n, rfl, hks, rfl, rfl⟩ := hrel
    have hr := crcAt_range s k
    by_cases hlt : k < s.size
    · obtain ⟨c, hc⟩ : ∃ c, s[k].toNat = c := ⟨_, rfl⟩
      have hc256 : c < 256 := by rw [← hc]; exact s[k].toNat_lt
      have hst := hide (crcAt_succ s k c hlt hc)
      obtain ⟨X, hX⟩ : ∃ X, crcAt s k = X := ⟨_, rfl⟩
      rw [hX] at hr hst ⊢
      clear hX
      obtain ⟨E, D, hE1, hE2, hE3, hD, hD2, hm⟩ := idx_rules hr.1 hr.2 hc256
      have hst2 := hide ((unhide hst).trans hm.symm)
      clear hst hm
      have hcell : w.cell? ⟨b, off + D, none⟩ = some (.int .u32 (stepsI 8 (D : Int))) := unhide HT D hD2
      obtain ⟨Y, hY⟩ : ∃ Y, stepsI 8 (D : Int) = Y := ⟨_, rfl⟩
      rw [hY] at hcell
      have hst3 := hide ((unhide hst2).trans (by rw [hY]))
      clear hst2 hY
      go_wp2
      go_region
      all_goals (try go_wp2)
      go_roundw
      case rel => exact ⟨k + 1, n + 1, by go_num, by omega, by rw [unhide hst3], rfl⟩
      case measure => simp [intOf]; omega
    · obtain rfl : k = s.size := by omega
      have hsg : IntKind.u32.signed = false := rfl
      go_wp2
      go_ret
      exact ⟨rfl, n, rfl⟩

set_option maxHeartbeats 1000000 in
theorem impl_Crc (s : ByteArray) (w : World) (hs : s.size ≤ 1000000000000) :
    Calls Tryz.prog 124 #[.string s] w fun e w' => e = .returned (.int .u32 (crcI s)) ∧ Below w.heap.size w w' := by
  go_enter Tryz.func124, Tryz.ntmps124
  go_wp2_with fail
  refine (newCrcTable_calls _).mono ?_
  rintro e w1 ⟨arr, htab, rfl, hb1⟩
  have HT := hide htab
  have hsz := htab.1
  have hi72 : (Tryz.prog.info? 178).map (·.size) = some arr.size := by rw [hsz]; exact info72
  have hzs : Tryz.zeroCells178.size = arr.size := by rw [hsz]; exact zero72.1
  have h1 := htab.2.1
  have hg := heap_alloc_new w1 (.cells Tryz.zeroCells178 178)
  clear hsz htab
  go_wp2_with (refine wpList_store_row rfl 178 (.tmp 3) (.tmp 4) rfl w1.heap.size arr rfl rfl 178 _ hg hi72 hzs h1 ?_)
  refine (crc_calls w1.heap.size 0 s _ hs ?_).mono ?_
  · intro j hj
    rw [Nat.zero_add, cell_setRow_same _ _ j _ _ _ _ hg]
    exact (unhide HT).2.2 j hj
  rintro e w2 ⟨rfl, k, rfl⟩
  go_wp2
  go_ret
  refine ⟨rfl, below_drewN ?_ k⟩
  have hb2 : Below w.heap.size w (w1.alloc (.cells Tryz.zeroCells178 178)) := hb1.alloc hb1.size _
  exact hb2.trans ⟨rfl, rfl, rfl, by simp, fun i hi => setRow_other _ _ _ _ (by have := hb1.size; omega)⟩

end Go.Proofs.YtmgjkomgpkoenaaGreat
