/- The program's last blocks. -/
import Derived.Test.YtmienlnhbdbefaaGreatDoorShaR
import Derived.Test.YtmienlnhbdbefaaGreatDoorShaE
import Derived.Deep.DeepCutAuto
namespace Go.Proofs.YtmienlnhbdbefaaGreatDoor
open Go.RowKit Plain
set_option linter.unusedVariables false

theorem info8 : (Tryz.prog.info? 5).map (·.size) = some 1 := by kernel_rfl

theorem info44s : (Tryz.prog.info? 135).map (fun i => (i.zero, i.size, i.bytes)) = some (some (.agg (List.replicate 64 (Value.int .u8 0)).toArray), 64, 64) := by kernel_rfl
theorem make46 (w : World) : (Instr.makeSlice 137 (.int .i64 1) (.int .i64 2)).run Tryz.prog w = .ok (.slice (some ⟨w.heap.size, 0, none⟩) 1 2) (w.alloc (.cells zeros128 135)) := by kernel_rfl

/-- The slice of m blocks that the call has made in block B holds the bytes L. -/
def BlkAt (W : World) (B m : Nat) (L : List Int) : Prop := L.length = 64 * m ∧ W.ownsRow B 135 64 (.slice (some ⟨B, 0, none⟩) m 2) m (L.map (Value.int .u8))

theorem BlkAt.cell {W : World} {B m : Nat} {L : List Int} (h : BlkAt W B m L) (j : Nat) (hj : j < 64 * m) : W.cell? ⟨B, j, none⟩ = some (.int .u8 (L.getD j 0)) ∧ W.frozen? ⟨B, j, none⟩ = false := by
  refine ⟨?_, h.2.frozenAt j⟩
  rw [h.2.cellAt j (by omega)]
  have hl := h.1
  simp [List.getElem?_eq_getElem (show j < L.length by omega), List.getD]

theorem blk_one {w1 : World} {B : Nat} (s : ByteArray) (hs : s.size < 64) (hr : w1.heap[B]? = some (.cells (splice zeros128.toList 0 ((bL s).map (Value.int .u8))).toArray 135 (0, 0))) :
    BlkAt (w1.setCell ⟨B, s.size, none⟩ (.int .u8 128)) B 1 (oneL (bL s)) := by
  have hl := oneL_length (bL s) (by rw [bL_length]; exact hs)
  refine ⟨by omega, by simp [hl], .inr ⟨B, 2, _, rfl, Nat.le_refl _, heap_setCell_same w1 B s.size _ _ _ hr, by omega, by unfold maxLen; omega, ?_, ?_⟩⟩
  · have := spl_length s hs
    simp at this ⊢
    omega
  · exact row_one s hs

theorem BlkAt.set {W : World} {B m : Nat} {L : List Int} (h : BlkAt W B m L) (j : Nat) (hj : j < 64 * m) (x : Int) : BlkAt (W.setCell ⟨B, j, none⟩ (.int .u8 x)) B m (L.set j x) := by
  refine ⟨by simpa using h.1, ?_⟩
  rw [List.map_set]
  exact (h.2.stored j (.int .u8 x)).1

theorem fin_small {W : World} {B : Nat} (s : ByteArray) (n : Int) (h : s.size < 56) (hb : BlkAt W B 1 (updTo (oneL (bL s)) 56 n (64 - 56))) : BlkAt W B 1 (lastL (bL s) n) := by
  have hl : (bL s).length < 56 := by rw [bL_length]; exact h
  have hp : (preL (bL s)).length = 56 := by rw [preL_length _ (by omega), if_pos hl]
  have := updTo_end (preL (bL s)) n
  rw [hp, ← oneL_small _ hl] at this
  rw [show 64 - 56 = 8 from rfl, this] at hb
  exact hb

theorem fin_big {W : World} {B : Nat} (s : ByteArray) (n : Int) (h : ¬ s.size < 56) (h2 : s.size < 64) (hb : BlkAt W B 2 (updTo (oneL (bL s) ++ List.replicate 64 0) 120 n (64 - 56))) : BlkAt W B 2 (lastL (bL s) n) := by
  have hl : ¬ (bL s).length < 56 := by rw [bL_length]; exact h
  have hl2 : (bL s).length < 64 := by rw [bL_length]; exact h2
  have hp : (preL (bL s)).length = 120 := by rw [preL_length _ hl2, if_neg hl]
  have := updTo_end (preL (bL s)) n
  rw [hp, ← oneL_big _ hl hl2] at this
  rw [show 64 - 56 = 8 from rfl, this] at hb
  exact hb

set_option maxRecDepth 10000 in
set_option maxHeartbeats 2000000 in
theorem lastBlocks_calls (s : ByteArray) (n : Int) (w : World) (hs : s.size < 64) (hn : 0 ≤ n ∧ n < 18446744073709551616) :
    Calls Tryz.prog 92 #[.string s, .int .u64 n] w fun r w' => ∃ m, r = .returned (.slice (some ⟨w.heap.size, 0, none⟩) m 2) ∧ BlkAt w' w.heap.size m (lastL (bL s) n) ∧ Below w.heap.size w w' := by
  have hmk := make46
  obtain ⟨hn0, hn1⟩ := hn
  have i0 : (0 : Int) ≤ (s.size : Int) := by omega
  have i1 : (s.size : Int) < 64 := by omega
  by_cases h56 : s.size < 56
  · have i2 : (s.size : Int) < 56 := by omega
    go_enter Tryz.func92, Tryz.ntmps92
    go_upto_region 3 with (refine wpList_copy_string rfl (.tmp 11) (.tmp 12) 22 9 rfl 5 Tryz.underlying22 info8 w.heap.size 0 64 64 s rfl rfl zeros128 135 (h_new _ _ rfl) s.size (Nat.min_eq_left (by omega)) (by simp [zeros128]; omega) ?_; intro w1 hrow hgr hsz1)
    rw [List.take_of_length_le (by rw [bL_length]; omega)] at hrow
    obtain ⟨⟨ov, hov⟩, hfz⟩ := spl_cell s hs hrow
    have HR := hide hrow
    have hB1 : Below w.heap.size w w1 := ((Below.refl _ _).alloc (Nat.le_refl _) _).trans ((Below.refl _ _).grown hgr (by simp) (fun k hk => by simp at hk; omega))
    have HB1 := hide hB1
    clear hrow hgr hB1 hmk
    go_wp2_with fail
    go_loopw [7] (fun i wr => ∃ k : Nat, i = .int .i64 k ∧ 56 ≤ k ∧ k ≤ 64 ∧ Hid (BlkAt wr w.heap.size 1 (updTo (oneL (bL s)) 56 n (k - 56))) ∧ Below w.heap.size w wr) (fun i _ => 64 - (intOf i).toNat)
    case atStart => exact ⟨56, rfl, by omega, by omega, blk_one s hs (unhide HR), (unhide HB1).setCell (Nat.le_refl _) _⟩
    case round =>
      obtain ⟨k, rfl, hk56, hk64, hblk, hbel⟩ := hrel
      by_cases hlt : k < 64
      · have hlen := (unhide hblk).1
        have hc := (unhide hblk).cell (k) (by omega)
        obtain ⟨hc, hf⟩ := hc
        generalize (updTo (oneL (bL s)) 56 n (k - 56)).getD (k) 0 = ov2 at hc
        obtain ⟨q, hq⟩ : ∃ q, 8 * (63 - k) = q := ⟨_, rfl⟩
        have hqi : 8 * (63 - (k : Int)) = (q : Int) := by omega
        have hq60 : q ≤ 56 := by omega
        have hnx := hide ((unhide hblk).set (k) (by omega) (byteAt n (k - 56)))
        have hby : byteAt n (k - 56) = n / 2 ^ q % 256 := by unfold byteAt; rw [show 8 * (7 - (k - 56)) = q from by omega]
        have hup : (updTo (oneL (bL s)) 56 n (k - 56)).set (k) (byteAt n (k - 56)) = updTo (oneL (bL s)) 56 n (k + 1 - 56) := by
          rw [show k + 1 - 56 = (k - 56) + 1 from by omega, updTo, show 56 + (k - 56) = k from by omega]
        rw [hup, hby] at hnx
        have j0 : (0 : Int) ≤ (k : Int) := by omega
        have j1 : (k : Int) < 64 := by omega
        clear hq hlen hup hby
        go_wp2
        go_region
        all_goals (try go_wp2)
        all_goals go_roundw
        all_goals first
          | (case rel => exact ⟨k + 1, by go_num, by omega, by omega, hnx, (hbel.setCell (Nat.le_refl _) _).drew⟩)
          | (case measure => simp [intOf]; omega)
      · obtain rfl : k = 64 := by omega
        have hfin := fin_small s n h56 (unhide hblk)
        go_wp2
        go_ret
        exact ⟨1, rfl, hfin, hbel⟩
  · have i2 : (56 : Int) ≤ (s.size : Int) := by omega
    obtain ⟨t0, hi, hz0, hz1, hz2⟩ := info_parts info44s
    go_enter Tryz.func92, Tryz.ntmps92
    go_upto_region 3 with (refine wpList_copy_string rfl (.tmp 11) (.tmp 12) 22 9 rfl 5 Tryz.underlying22 info8 w.heap.size 0 64 64 s rfl rfl zeros128 135 (h_new _ _ rfl) s.size (Nat.min_eq_left (by omega)) (by simp [zeros128]; omega) ?_; intro w1 hrow hgr hsz1)
    rw [List.take_of_length_le (by rw [bL_length]; omega)] at hrow
    obtain ⟨⟨ov, hov⟩, hfz⟩ := spl_cell s hs hrow
    have HO := hide (blk_one s hs hrow)
    have hB1 : Below w.heap.size w w1 := ((Below.refl _ _).alloc (Nat.le_refl _) _).trans ((Below.refl _ _).grown hgr (by simp) (fun k hk => by simp at hk; omega))
    have HB1 := hide hB1
    clear hrow hgr hB1 hmk hsz1
    go_upto_region 6 with (at_builtin; refine wpList_append_fits _ rfl (.tmp 22) (.tmp 24) 137 rfl w.heap.size 135 t0 64 Tryz.underlying137 hi hz1 w.heap.size 1 2 _ rfl ((unhide HO).2.alloc _) ⟨w1.heap.size, 0, none⟩ 1 1 (List.replicate 64 (Value.int .u8 0)) rfl rfl ?hnew ?hone (by omega) ?_)
    case hnew =>
      intro j u hj
      have hadd : (⟨w1.heap.size, 0, none⟩ : Addr).add j = ⟨w1.heap.size, j, none⟩ := by unfold Addr.add; split <;> simp_all
      rw [hadd]
      refine (cell_of_row _ w1.heap.size j (List.replicate 64 (Value.int .u8 0)).toArray 135 (0, 0) (h_new _ _ (by simp))).trans ?_
      simpa using hj
    case hone => intro u hu; rw [List.eq_of_mem_replicate hu]; rfl
    intro w2 hown2 hg2
    have hlen := oneL_length (bL s) (by rw [bL_length]; exact hs)
    have HBK : Hid (BlkAt w2 w.heap.size 2 (oneL (bL s) ++ List.replicate 64 0)) := hide ⟨by simp [hlen], by rw [List.map_append]; exact hown2⟩
    have hB2 : Below w.heap.size w w2 := ((((unhide HB1).setCell (Nat.le_refl _) _).alloc (by have := (unhide HB1).size; simp; omega) _)).grown hg2 (by have := (unhide HB1).size; simp; omega) (fun k hk => by simp at hk; omega)
    clear hown2 hg2 hlen
    go_wp2_with fail
    go_loopw [7] (fun i wr => ∃ k : Nat, i = .int .i64 k ∧ 56 ≤ k ∧ k ≤ 64 ∧ Hid (BlkAt wr w.heap.size 2 (updTo (oneL (bL s) ++ List.replicate 64 0) 120 n (k - 56))) ∧ Below w.heap.size w wr) (fun i _ => 64 - (intOf i).toNat)
    case atStart => exact ⟨56, rfl, by omega, by omega, HBK, hB2⟩
    case round =>
      obtain ⟨k, rfl, hk56, hk64, hblk, hbel⟩ := hrel
      by_cases hlt : k < 64
      · have hlen := (unhide hblk).1
        have hc := (unhide hblk).cell (64 + k) (by omega)
        obtain ⟨hc, hf⟩ := hc
        generalize (updTo (oneL (bL s) ++ List.replicate 64 0) 120 n (k - 56)).getD (64 + k) 0 = ov2 at hc
        obtain ⟨q, hq⟩ : ∃ q, 8 * (63 - k) = q := ⟨_, rfl⟩
        have hqi : 8 * (63 - (k : Int)) = (q : Int) := by omega
        have hq60 : q ≤ 56 := by omega
        have hnx := hide ((unhide hblk).set (64 + k) (by omega) (byteAt n (k - 56)))
        have hby : byteAt n (k - 56) = n / 2 ^ q % 256 := by unfold byteAt; rw [show 8 * (7 - (k - 56)) = q from by omega]
        have hup : (updTo (oneL (bL s) ++ List.replicate 64 0) 120 n (k - 56)).set (64 + k) (byteAt n (k - 56)) = updTo (oneL (bL s) ++ List.replicate 64 0) 120 n (k + 1 - 56) := by
          rw [show k + 1 - 56 = (k - 56) + 1 from by omega, updTo, show 120 + (k - 56) = 64 + k from by omega]
        rw [hup, hby] at hnx
        have j0 : (0 : Int) ≤ (k : Int) := by omega
        have j1 : (k : Int) < 64 := by omega
        clear hq hlen hup hby
        go_wp2
        go_region
        all_goals (try go_wp2)
        all_goals go_roundw
        all_goals first
          | (case rel => exact ⟨k + 1, by go_num, by omega, by omega, hnx, (hbel.setCell (Nat.le_refl _) _).drew⟩)
          | (case measure => simp [intOf]; omega)
      · obtain rfl : k = 64 := by omega
        have hfin := fin_big s n h56 hs (unhide hblk)
        go_wp2
        go_ret
        exact ⟨2, rfl, hfin, hbel⟩

end Go.Proofs.YtmienlnhbdbefaaGreatDoor
