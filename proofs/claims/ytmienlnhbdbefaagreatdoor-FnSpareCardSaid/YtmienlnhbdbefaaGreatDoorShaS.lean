/- The program's schedule of a block. -/
import Derived.Test.YtmienlnhbdbefaaGreatDoorShaR
import Derived.Test.YtmienlnhbdbefaaGreatDoorShaB
namespace Go.Proofs.YtmienlnhbdbefaaGreatDoor
open Go.RowKit Plain
set_option linter.unusedVariables false

theorem info57 : (Tryz.prog.info? 150).map (·.size) = some 64 := by kernel_rfl

theorem rowTo_start {arr : Array Value} {n : Nat} (f : Nat → Int) (h1 : arr.size = n) (h2 : arr.all (·.oneCell') = true) : RowTo arr n f 0 := ⟨h1, h2, fun j h => absurd h (Nat.not_lt_zero j)⟩

theorem other_cell {W : World} {a b i j : Nat} {v : Value} (h : a ≠ b) : (W.setCell ⟨a, i, none⟩ v).cell? ⟨b, j, none⟩ = W.cell? ⟨b, j, none⟩ :=
  World.cell?_setCell_other W ⟨a, i, none⟩ ⟨b, j, none⟩ v (fun e => h (congrArg Addr.block e))

set_option maxRecDepth 10000 in
set_option maxHeartbeats 2000000 in
theorem schedule_calls (b : List Int) (w : World) (hb : ByteL b) :
    Calls Tryz.prog 103 #[.agg (bytesV b)] w fun r w' => ∃ arr, RowTo arr 64 (wAt b) 64 ∧ r = .returned (.agg arr) ∧ Below w.heap.size w w' := by
  have HB := hide hb
  clear hb
  go_enter Tryz.func103, Tryz.ntmps103
  go_wp2_with fail
  go_loopw [4, 10] (fun _ i wr => ∃ (k : Nat) (arr old : Array Value), i = .int .i64 k ∧ k ≤ 16 ∧ Hid (RowTo arr 64 (wAt b) k) ∧ wr.heap[w.heap.size + 2]? = some (.cells arr 150 (0, 0)) ∧
      wr.heap[w.heap.size + 1]? = some (.cells old 150 (0, 0)) ∧ Hid (old.size = 64) ∧ wr.heap[w.heap.size]? = some (.cells (bytesV b) 135 (0, 0)) ∧ Below w.heap.size w wr) (fun _ i _ => 16 - (intOf i).toNat)
  case atStart =>
    refine ⟨0, _, _, rfl, by omega, ?hA, h_new _ _ (by simp), (h_old _ _ (by simp)).trans (h_new _ _ (by simp)), ?hB, (h_old _ _ (by simp; omega)).trans ((h_old _ _ (by simp)).trans (h_new _ _ rfl)), ?hC⟩
    case hA => exact rowTo_start _ rfl (by decide +kernel)
    case hB => exact hide rfl
    case hC => exact (((Below.refl _ _).alloc (Nat.le_refl _) _).alloc (by simp) _).alloc (by simp; omega) _
  case round =>
    obtain ⟨k, arr, old, rfl, hk, HT, hrow, hres, HO, hbox, hbel⟩ := hrel
    by_cases hlt : k < 16
    · have hl := (unhide HB).1
      have hc : ∀ j, j < 64 → wr.cell? ⟨w.heap.size, j, none⟩ = some (.int .u8 (b.getD j 0)) := fun j hj => (cell_of_row wr _ j _ _ _ hbox).trans (bytesV_get b j (by omega))
      have hw := hide (wAt_low b k hlt)
      obtain ⟨p, hp⟩ : ∃ p, 4 * k = p := ⟨_, rfl⟩
      rw [hp] at hw
      have q0 := hc p (by omega)
      have q1 := hc (p + 1) (by omega)
      have q2 := hc (p + 2) (by omega)
      have q3 := hc (p + 3) (by omega)
      have b0 := (unhide HB).2 p
      have b1 := (unhide HB).2 (p + 1)
      have b2 := (unhide HB).2 (p + 2)
      have b3 := (unhide HB).2 (p + 3)
      generalize b.getD p 0 = x0 at q0 b0 hw
      generalize b.getD (p + 1) 0 = x1 at q1 b1 hw
      generalize b.getD (p + 2) 0 = x2 at q2 b2 hw
      generalize b.getD (p + 3) 0 = x3 at q3 b3 hw
      have hpi : 4 * (k : Int) = (p : Int) := by omega
      have hp60 : p ≤ 60 := by omega
      clear hp
      have hsz := (unhide HT).1
      obtain ⟨ov, hcell⟩ : ∃ ov, wr.cell? ⟨w.heap.size + 2, k, none⟩ = some ov := ⟨arr[k], by rw [cell_of_row wr _ k arr _ _ hrow]; simp⟩
      have hfz : wr.frozen? ⟨w.heap.size + 2, k, none⟩ = false := frozen_of_row wr _ k arr _ hrow
      have i0 : (0 : Int) ≤ (k : Int) := by omega
      have i1 : (k : Int) < 16 := by omega
      have j0 : IntKind.i64.wrap (p : Int) = (p : Int) := by rw [IntKind.wrap_i64]; omega
      have j1 : IntKind.i64.wrap ((p : Int) + 1) = (p : Int) + 1 := by rw [IntKind.wrap_i64]; omega
      have j2 : IntKind.i64.wrap ((p : Int) + 2) = (p : Int) + 2 := by rw [IntKind.wrap_i64]; omega
      have j3 : IntKind.i64.wrap ((p : Int) + 3) = (p : Int) + 3 := by rw [IntKind.wrap_i64]; omega
      have l0 : (0 : Int) ≤ (p : Int) := by omega
      have m0 : (p : Int) < 64 := by omega
      have m1 : (p : Int) + 1 < 64 := by omega
      have m2 : (p : Int) + 2 < 64 := by omega
      have m3 : (p : Int) + 3 < 64 := by omega
      have l1 : (0 : Int) ≤ (p : Int) + 1 := by omega
      have l2 : (0 : Int) ≤ (p : Int) + 2 := by omega
      have l3 : (0 : Int) ≤ (p : Int) + 3 := by omega
      have n1 : ((p : Int) + 1).toNat = p + 1 := by omega
      have n2 : ((p : Int) + 2).toNat = p + 2 := by omega
      have n3 : ((p : Int) + 3).toNat = p + 3 := by omega
      have i2 : (k : Int) < 64 := by omega
      have r0 : (wr.setCell ⟨w.heap.size + 1 + 1, k, none⟩ (.int .u32 (hiI x0 x1 x2 x3))).cell? ⟨w.heap.size, p, none⟩ = some (.int .u8 x0) := (other_cell (by omega)).trans q0
      have r1 : (wr.setCell ⟨w.heap.size + 1 + 1, k, none⟩ (.int .u32 (hiI x0 x1 x2 x3))).cell? ⟨w.heap.size, p + 1, none⟩ = some (.int .u8 x1) := (other_cell (by omega)).trans q1
      have r2 : (wr.setCell ⟨w.heap.size + 1 + 1, k, none⟩ (.int .u32 (hiI x0 x1 x2 x3))).cell? ⟨w.heap.size, p + 2, none⟩ = some (.int .u8 x2) := (other_cell (by omega)).trans q2
      have r3 : (wr.setCell ⟨w.heap.size + 1 + 1, k, none⟩ (.int .u32 (hiI x0 x1 x2 x3))).cell? ⟨w.heap.size, p + 3, none⟩ = some (.int .u8 x3) := (other_cell (by omega)).trans q3
      clear hc hl
      go_wp2
      go_region_held3 (fun w' => w'.cell? ⟨w.heap.size, p, none⟩ = some (.int .u8 x0) ∧ w'.cell? ⟨w.heap.size, p + 1, none⟩ = some (.int .u8 x1) ∧ w'.cell? ⟨w.heap.size, p + 2, none⟩ = some (.int .u8 x2) ∧ w'.cell? ⟨w.heap.size, p + 3, none⟩ = some (.int .u8 x3)) (go_keep)
        (first | (go_at_call 110; refine (highFirst_calls _ _ _ _ _ b0 b1 b2 b3).mono ?_; rintro e w' ⟨rfl, rfl⟩))
      go_wp2
      go_roundw
      case rel =>
        refine ⟨k + 1, _, old, by go_num, by omega, (unhide HT).next (by omega) _ (unhide hw).symm, heap_setCell_same wr _ k arr _ _ hrow, ?_, HO, ?_, (hbel.setCell (by simp; omega) _).drew⟩
        · exact (heap_setCell_other wr _ _ _ (by simp)).trans hres
        · exact (heap_setCell_other wr _ _ _ (by simp; omega)).trans hbox
      case measure => simp [intOf]; omega
    · obtain rfl : k = 16 := by omega
      go_wp2_with fail
      go_loopw [5, 6, 7, 8, 9] (fun i _ _ _ _ wr => ∃ (k : Nat) (arr old : Array Value), i = .int .i64 k ∧ 16 ≤ k ∧ k ≤ 64 ∧ Hid (RowTo arr 64 (wAt b) k) ∧ wr.heap[w.heap.size + 2]? = some (.cells arr 150 (0, 0)) ∧
        wr.heap[w.heap.size + 1]? = some (.cells old 150 (0, 0)) ∧ Hid (old.size = 64) ∧ Below w.heap.size w wr) (fun i _ _ _ _ _ => 64 - (intOf i).toNat)
      case atStart => exact ⟨16, arr, old, rfl, by omega, by omega, HT, hrow, hres, HO, hbel⟩
      case round =>
        obtain ⟨wo, hwo⟩ : ∃ wo : World, wo = wr := ⟨_, rfl⟩
        clear hrow hres HO HT hbel hbox
        obtain ⟨k, arr, old, rfl, hk16, hk, HT, hrow, hres, HO, hbel⟩ := hrel
        by_cases hlt2 : k < 64
        · have hg : ∀ j, j < k → wr.cell? ⟨w.heap.size + 1 + 1, j, none⟩ = some (.int .u32 (wAt b j)) := fun j hj => (cell_of_row wr _ j arr _ _ hrow).trans ((unhide HT).2.2 j hj)
          have q15 := hg (k - 15) (by omega)
          have q2 := hg (k - 2) (by omega)
          have q7 := hg (k - 7) (by omega)
          have q16 := hg (k - 16) (by omega)
          have g15 := wAt_word b (k - 15)
          have g2 := wAt_word b (k - 2)
          have hw := hide (wAt_high b k (by omega))
          generalize wAt b (k - 15) = x at q15 g15 hw
          generalize wAt b (k - 2) = y at q2 g2 hw
          generalize wAt b (k - 7) = u at q7 hw
          generalize wAt b (k - 16) = v at q16 hw
          obtain ⟨x0, x1⟩ := g15
          obtain ⟨y0, y1⟩ := g2
          have hsz := (unhide HT).1
          obtain ⟨ov, hcell⟩ : ∃ ov, wr.cell? ⟨w.heap.size + 1 + 1, k, none⟩ = some ov := ⟨arr[k], by rw [cell_of_row wr _ k arr _ _ hrow]; simp⟩
          have hfz : wr.frozen? ⟨w.heap.size + 1 + 1, k, none⟩ = false := frozen_of_row wr _ k arr _ hrow
          have i0 : (16 : Int) ≤ (k : Int) := by omega
          have i1 : (k : Int) < 64 := by omega
          have n15 : ((k : Int) - 15).toNat = k - 15 := by omega
          have n2 : ((k : Int) - 2).toNat = k - 2 := by omega
          have n7 : ((k : Int) - 7).toNat = k - 7 := by omega
          have n16 : ((k : Int) - 16).toNat = k - 16 := by omega
          clear hg
          go_wp2
          go_region
          go_wp2_with (go_at_call 111; refine (impl_Rotate _ _ (by omega) (by omega) _).mono ?_; rintro e w' ⟨rfl, rfl⟩)
          go_region
          all_goals (try go_wp2)
          go_roundw
          case rel =>
            (repeat apply Exists.intro)
            refine ⟨⟨k + 1, _, old, by go_num, by omega, by omega, (unhide HT).next (by omega) _ ?hx, heap_setCell_same wr _ k arr _ _ hrow, ?_, HO, ((hbel.setCell (show w.heap.size ≤ w.heap.size + 1 + 1 by omega) _).drew).drew⟩, rfl⟩
            case hx => rw [unhide hw]; rfl
            · exact (heap_setCell_other wr _ _ _ (by simp)).trans hres
          case measure => simp [intOf]; omega
        · obtain rfl : k = 64 := by omega
          have hsz := (unhide HT).1
          have hi57 : (Tryz.prog.info? 150).map (·.size) = some arr.size := by rw [hsz]; exact info57
          have hzs : old.size = arr.size := by rw [hsz]; exact unhide HO
          have h1 := (unhide HT).2.1
          clear hsz
          go_wp2_with (first | (refine wpList_load_row rfl 150 (.tmp 3) rfl (w.heap.size + 2) rfl 150 arr (0, 0) _ hrow Tryz.underlying150 rfl hi57 ?_) | (refine wpList_store_row rfl 150 (.tmp 2) (.tmp 79) rfl (w.heap.size + 1) arr rfl rfl 150 _ hres hi57 hzs h1 ?_))
          refine bodyPost_ret (v := .agg arr) ?_ rfl ⟨arr, unhide HT, rfl, ?_⟩
          · exact results_cell_row (p := 2) (ty := 150) (by kernel_rfl) _ _ (w.heap.size + 1) 150 arr (0, 0) _ rfl (setRow_heap _ _ _ _ _ _ hres) Tryz.underlying150 rfl hi57
          · exact hbel.trans ⟨rfl, rfl, rfl, by simp, fun k hk => setRow_other _ _ _ _ (by omega)⟩
end Go.Proofs.YtmienlnhbdbefaaGreatDoor
