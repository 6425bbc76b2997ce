/- The program's sum. -/
import Derived.Test.YtldgkpnlplfopaaGreatDoorSzB
import Derived.Deep.MidRow
namespace Go.Proofs.YtldgkpnlplfopaaGreatDoor
open Go.RowKit Plain
set_option linter.unusedVariables false

theorem wpList_store_any {P : Program} {ops : Array Oper} {rest : List Oper} {o : Oper} {a : Act} {w : World} {Q : Exit → Act → World → Prop} (hgd : o.guard = none) (ty : TypeId) (x y : Operand) (ho : o.op = .store ty x y)
    (g : Nat) (cells : Array Value) (hx : a.eval x = .pointer (some ⟨g, 0, none⟩)) (hy : a.eval y = .agg cells)
    (t : TypeId) (old : Array Value) (hg : w.heap[g]? = some (.cells old t (0, 0))) (hi : (P.info? ty).map (·.size) = some cells.size)
    (hold : old.size = cells.size) (h1 : cells.all (·.oneCell') = true)
    (h : ∀ w', w'.heap[g]? = some (.cells cells t (0, 0)) → w.grownBy w' (some g) → w'.heap.size = w.heap.size → wpList P ops Q rest (a.put o.dst undef) w') : wpList P ops Q (o :: rest) a w :=
  wpList_store_row hgd ty x y ho g cells hx hy t old hg hi hold h1 (h _ (setRow_heap w g _ _ t _ hg) (splice_grown _) (by simp))

theorem info44 : (Tryz.prog.info? 131).map (·.size) = some 64 := by kernel_rfl

def strSize : Value → Nat
  | .string s => s.size
  | _ => 0

theorem BlkAt.range {W : World} {B m : Nat} {L : List Int} (h : BlkAt W B m L) : W.rangeAt B 0 (L.map (Value.int .u8)) := by
  intro j v hv
  have hl : j < L.length := by have := (List.getElem?_eq_some_iff.1 hv).1; simpa using this
  rw [Nat.zero_add, (h.cell j (by rw [← h.1]; exact hl)).1, ← hv]
  simp [List.getD, List.getElem?_eq_getElem hl]

namespace Plain
theorem words8 {w : World} {g : Nat} {v0 v1 v2 v3 v4 v5 v6 v7 : Int} (h : Words w g [v0, v1, v2, v3, v4, v5, v6, v7]) :
    (w.cell? ⟨g, 0, none⟩ = some (.int .u32 v0) ∧ w.cell? ⟨g, 1, none⟩ = some (.int .u32 v1) ∧ w.cell? ⟨g, 2, none⟩ = some (.int .u32 v2) ∧ w.cell? ⟨g, 3, none⟩ = some (.int .u32 v3) ∧
    w.cell? ⟨g, 4, none⟩ = some (.int .u32 v4) ∧ w.cell? ⟨g, 5, none⟩ = some (.int .u32 v5) ∧ w.cell? ⟨g, 6, none⟩ = some (.int .u32 v6) ∧ w.cell? ⟨g, 7, none⟩ = some (.int .u32 v7)) ∧
    (w.frozen? ⟨g, 0, none⟩ = false ∧ w.frozen? ⟨g, 1, none⟩ = false ∧ w.frozen? ⟨g, 2, none⟩ = false ∧ w.frozen? ⟨g, 3, none⟩ = false ∧
    w.frozen? ⟨g, 4, none⟩ = false ∧ w.frozen? ⟨g, 5, none⟩ = false ∧ w.frozen? ⟨g, 6, none⟩ = false ∧ w.frozen? ⟨g, 7, none⟩ = false) :=
  ⟨⟨(h 0 (by simp)).1, (h 1 (by simp)).1, (h 2 (by simp)).1, (h 3 (by simp)).1, (h 4 (by simp)).1, (h 5 (by simp)).1, (h 6 (by simp)).1, (h 7 (by simp)).1⟩,
   ⟨(h 0 (by simp)).2, (h 1 (by simp)).2, (h 2 (by simp)).2, (h 3 (by simp)).2, (h 4 (by simp)).2, (h 5 (by simp)).2, (h 6 (by simp)).2, (h 7 (by simp)).2⟩⟩

def zeros64 : Array Value := (List.replicate 64 (Value.int .u8 0)).toArray
theorem splice_full (s : ByteArray) (h : 64 ≤ s.size) : (splice zeros64.toList 0 (((bL s).take 64).map (Value.int .u8))).toArray = bytesV ((bL s).take 64) := by
  have hl : ((bL s).take 64).length = 64 := by rw [List.length_take, bL_length]; omega
  simp only [splice, zeros64, bytesV]
  simp only [List.take_zero, List.nil_append, Nat.zero_add, List.length_map, hl, List.drop_replicate, Nat.sub_self]
  simp
theorem range_of_block {w w' : World} {b : Nat} (h : w'.heap[b]? = w.heap[b]?) {o : Nat} {cs : List Value} (hr : w.rangeAt b o cs) : w'.rangeAt b o cs := by
  intro j v hv
  rw [← hr j v hv]
  simp [World.cell?, h]
theorem range_chunk {w : World} {b : Nat} {L : List Int} (hr : w.rangeAt b 0 (L.map (Value.int .u8))) (j : Nat) (hj : 64 * j + 64 ≤ L.length) : w.rangeAt b (j * 64) ((chunk L j).map (Value.int .u8)) := by
  intro i v hv
  have hi : i < 64 := by
    have := (List.getElem?_eq_some_iff.1 hv).1
    simp [chunk] at this
    omega
  have := hr (j * 64 + i) v (by
    rw [List.getElem?_map] at hv ⊢
    rw [← hv, chunk, List.getElem?_take_of_lt hi, List.getElem?_drop, Nat.mul_comm])
  rwa [Nat.zero_add] at this
theorem extract_size (s : ByteArray) (a : Nat) : (s.extract a s.size).size = s.size - a := by simp
theorem extract_next (s : ByteArray) (k : Nat) : (s.extract (64 * k) s.size).extract 64 (s.extract (64 * k) s.size).size = s.extract (64 * (k + 1)) s.size := by
  apply ByteArray.ext
  simp [ByteArray.data_extract]
  congr 1 <;> omega
theorem allL_byte (s : ByteArray) : ∀ j, 0 ≤ (allL s).getD j 0 ∧ (allL s).getD j 0 < 256 := by
  unfold allL
  refine getD_append_byte ?_ (lastL_byte _ _ ?_)
  · have := getD_sub (bL_byte s) 0 (64 * (s.size / 64))
    rwa [List.drop_zero] at this
  · have := getD_sub (bL_byte s) (64 * (s.size / 64)) (s.size)
    rwa [List.take_of_length_le (by rw [List.length_drop, bL_length]; omega)] at this
theorem chunk_ok (s : ByteArray) (k : Nat) (h : k < (allL s).length / 64) : ByteL (chunk (allL s) k) := by
  unfold chunk
  refine ⟨?_, getD_sub (allL_byte s) _ _⟩
  rw [List.length_take, List.length_drop]; omega
end Plain

set_option maxRecDepth 10000 in
set_option maxHeartbeats 2000000 in
theorem Sum_calls (s : ByteArray) (w : World) (hK : KAt w) (hs : s.size ≤ 4194304) :
    Calls Tryz.prog 79 #[.string s] w fun r w' => r = .returned (.slice (some ⟨w.heap.size, 0, none⟩) 8 8) ∧ Words w' w.heap.size (sumL s) ∧ Below w.heap.size w w' ∧ w.heap.size < w'.heap.size := by
  have HK := hide hK
  have h0 : 1 < w.heap.size := lt_of_cell (hK 0 (by omega))
  clear hK
  go_enter Tryz.func79, Tryz.ntmps79
  go_wp2_with fail
  go_loopw [4] (fun i wr => ∃ k : Nat, i = .string (s.extract (64 * k) s.size) ∧ k ≤ s.size / 64 ∧ Hid (Words wr w.heap.size (hN (allL s) k)) ∧ Hid (Below w.heap.size w wr) ∧ w.heap.size < wr.heap.size) (fun i _ => strSize i)
  case atStart => 
    refine ⟨0, ?_, by omega, words_of_block (t := 129) (h_new _ _ rfl), (Below.refl _ _).alloc (Nat.le_refl _) _, by simp⟩
    simp
  case round =>
    obtain ⟨k, rfl, hk, HW, HBl, hsz⟩ := hrel
    have hal := all_len s
    by_cases hlt : k < s.size / 64
    · have hch := hide (chunk_ok s k (by rw [hal]; split <;> omega))
      have hcl := chunk_low s k hlt
      rw [← bL_extract s _ (by omega)] at hcl
      have hnx := extract_next s k
      have hrs := extract_size s (64 * k)
      obtain ⟨r, hr⟩ : ∃ r, s.extract (64 * k) s.size = r := ⟨_, rfl⟩
      rw [hr] at hnx hrs hcl
      simp only [hr]
      have hrow := splice_full r (by omega)
      rw [← hcl] at hrow
      have hv8 := hN_length (allL s) k
      have hvw := hN_word (allL s) k
      have hstep : hN (allL s) (k + 1) = blockL (hN (allL s) k) (chunk (allL s) k) := rfl
      generalize hN (allL s) k = v at HW hv8 hvw hstep
      generalize chunk (allL s) k = b at hch hrow hstep hcl
      obtain ⟨v0, v1, v2, v3, v4, v5, v6, v7, rfl⟩ := list8 hv8
      have HST := hide hstep
      have i1 : (64 : Int) ≤ (r.size : Int) := by omega
      have i2 : (r.size : Int) ≤ 4194304 := by omega
      clear hv8 hal hstep
      go_upto_region 5 with fail
      go_upto_region 6 with (refine wpList_copy_string rfl (.tmp 13) (.tmp 14) 22 9 rfl 5 Tryz.underlying22 info8 wr.heap.size 0 64 64 r rfl rfl zeros64 131 (h_new _ _ rfl) 64 (Nat.min_eq_right (by omega)) (by simp [zeros64]) ?_; intro w1 hrow1 hgr hsz1)
      rw [← hcl, hrow] at hrow1
      have hb0 : Below wr.heap.size wr w1 := ((Below.refl _ _).alloc (Nat.le_refl _) _).trans ((Below.refl _ _).grown hgr (by simp) (fun j hj => by simp at hj; omega))
      have hz1 : wr.heap.size < w1.heap.size := by rw [hsz1]; simp
      have hW1 := (unhide HW).below hb0 hsz
      have HB1 := hide ((unhide HBl).trans (hb0.mono (Nat.le_of_lt hsz)))
      obtain ⟨⟨q0, q1, q2, q3, q4, q5, q6, q7⟩, -⟩ := words8 hW1
      have HW1 := hide hW1
      have hi44 : (Tryz.prog.info? 131).map (·.size) = some (bytesV b).size := by rw [show (bytesV b).size = 64 from by simp [bytesV, (unhide hch).1]]; exact info44
      have HVW := hide hvw
      have hszw : w.heap.size < w1.heap.size := by omega
      clear hgr hsz1 hb0 hW1 HW HBl hrow hcl hvw hz1
      go_upto_region 7 with (refine wpList_load_row rfl 131 (.tmp 5) rfl wr.heap.size rfl 131 (bytesV b) (0, 0) _ hrow1 Tryz.underlying131 rfl hi44 ?_)
      refine (with_calls v0 v1 v2 v3 v4 v5 v6 v7 b _ ((unhide HK).below (unhide HB1) h0) (unhide hch) (unhide HVW)).mono ?_
      rintro e w2 ⟨c0, c1, c2, c3, c4, c5, c6, c7, hC, rfl, hb2⟩
      obtain ⟨⟨p0, p1, p2, p3, p4, p5, p6, p7⟩, ⟨f0, f1, f2, f3, f4, f5, f6, f7⟩⟩ := words8 ((unhide HW1).below hb2 hszw)
      have HW2 := hide ((unhide HW1).below hb2 hszw)
      have HB2 := hide ((unhide HB1).trans (hb2.mono (Nat.le_of_lt hszw)))
      have hz2 := Nat.lt_of_lt_of_le hszw hb2.size
      clear hb2 q0 q1 q2 q3 q4 q5 q6 q7
      have i3 : (64 : Int) ≤ ((s.size - 64 * k : Nat) : Int) := by omega
      go_wp2
      go_roundw
      case rel => exact ⟨k + 1, by rw [← hrs, hnx], by omega, by rw [unhide HST, hC]; exact put8_words _ _ _ rfl (unhide HW2) _ _ _ _ _ _ _ _, (unhide HB2).trans (put8_below _ _ _ _ _ _ _ _ _ _ _ (Nat.le_refl _) (Nat.le_of_lt hz2)), by simpa using hz2⟩
      case measure => simp [strSize]; omega
    · rename World => wq
      obtain rfl : k = s.size / 64 := by omega
      have hcl := chunk_high s
      have hsl := bL_extract s (64 * (s.size / 64)) (by omega)
      have hrs := extract_size s (64 * (s.size / 64))
      obtain ⟨r, hr⟩ : ∃ r, s.extract (64 * (s.size / 64)) s.size = r := ⟨_, rfl⟩
      rw [hr] at hrs hsl
      rw [← hsl] at hcl
      simp only [hr]
      have hll := lastL_length (bL r) (s.size * 8) (by rw [bL_length]; omega)
      rw [bL_length] at hll
      have hrs2 : r.size = s.size % 64 := by omega
      have HCK := hide (chunk_ok s)
      have i1 : (r.size : Int) < 64 := by omega
      have i2 : (s.size : Int) * 8 < 18446744073709551616 := by omega
      have i3 : (0 : Int) ≤ (s.size : Int) * 8 := by omega
      have i4 : (s.size : Int) ≤ 4194304 := by omega
      have i5 : (0 : Int) ≤ (s.size : Int) := by omega
      have HLL := hide hll
      have HAL := hide hal
      have HCL := hide hcl
      have HRS := hide hrs2
      have hw1 : IntKind.u64.wrap (s.size : Int) = (s.size : Int) := by rw [IntKind.wrap_u64]; omega
      have hw2 : IntKind.u64.wrap ((s.size : Int) * 8) = (s.size : Int) * 8 := by rw [IntKind.wrap_u64]; omega
      have i9 : ¬ (64 : Int) ≤ (r.size : Int) := by omega
      have i8 : ¬ 64 ≤ r.size := by omega
      have I2 := hide i2
      have I3 := hide i3
      clear hll hal hcl hrs hrs2 hr hsl hk hlt hs i2 i3 i4 i5
      go_upto_region 4 with fail
      have i2 := unhide I2
      have i3 := unhide I3
      refine (lastBlocks_calls r (s.size * 8) _ (by omega) ⟨i3, i2⟩).mono ?_
      have hll := unhide HLL
      have hal := unhide HAL
      have hcl := unhide HCL
      have hrs2 := unhide HRS
      rintro e w1 ⟨m, rfl, hblk, hb1⟩
      have hm : (lastL (bL r) (s.size * 8)).length = 64 * m := hblk.1
      have hm2 : m ≤ 2 := by rw [hll] at hm; split at hm <;> omega
      have hcnt : (allL s).length / 64 = s.size / 64 + m := by rw [hal]; rw [hll, hrs2] at hm; split at hm <;> split <;> omega
      have HRG := hide (hblk.range)
      have hz1 : wq.heap.size < w1.heap.size := lt_of_cell (hblk.cell 0 (by rw [hll] at hm; split at hm <;> omega)).1
      have HW1 := hide ((unhide HW).below hb1 hsz)
      have HB1 := hide ((unhide HBl).trans (hb1.mono (Nat.le_of_lt hsz)))
      have j1 : (m : Int) ≤ 2 := by omega
      have HM := hide hm
      have HC := hide hcnt
      clear hblk hb1 hll hal HW HBl HLL HAL hcl hrs2 HRS i2 i3 hm hcnt I2 I3 hw1 hw2
      go_wp2_with fail
      go_loopw [28] (fun i wx => ∃ j : Nat, i = .int .i64 j ∧ j ≤ m ∧ Hid (Words wx w.heap.size (hN (allL s) (s.size / 64 + j))) ∧ Hid (wx.rangeAt wq.heap.size 0 ((lastL (bL r) (s.size * 8)).map (Value.int .u8))) ∧ Hid (Below w.heap.size w wx) ∧ wq.heap.size < wx.heap.size) (fun i _ => m - (intOf i).toNat)
      case atStart => exact ⟨0, rfl, by omega, HW1, HRG, HB1, hz1⟩
      case round =>
        clear HW1 HRG HB1
        obtain ⟨j, rfl, hj, HW, HRG, HBl, hsz2⟩ := hrel
        by_cases hlt2 : j < m
        · have hch := hide (unhide HCK (s.size / 64 + j) (by rw [unhide HC]; omega))
          have hrg := range_chunk (unhide HRG) j (by rw [unhide HM]; omega)
          rw [← unhide HCL j] at hrg
          have hv8 := hN_length (allL s) (s.size / 64 + j)
          have hvw := hN_word (allL s) (s.size / 64 + j)
          have hstep : hN (allL s) (s.size / 64 + (j + 1)) = blockL (hN (allL s) (s.size / 64 + j)) (chunk (allL s) (s.size / 64 + j)) := rfl
          generalize hN (allL s) (s.size / 64 + j) = v at HW hv8 hvw hstep
          generalize chunk (allL s) (s.size / 64 + j) = b at hch hrg hstep
          obtain ⟨v0, v1, v2, v3, v4, v5, v6, v7, rfl⟩ := list8 hv8
          have HST := hide hstep
          have HRC := hide hrg
          have HVW := hide hvw
          have k0 : (0 : Int) ≤ (j : Int) := by omega
          have k1 : (j : Int) < (m : Int) := by omega
          have k2 : (j : Int) < 2 := by omega
          clear hv8 hstep hrg hvw
          have hi44 : (Tryz.prog.info? 131).map (·.size) = some (bytesV b).size := by rw [show (bytesV b).size = 64 from by simp [bytesV, (unhide hch).1]]; exact info44
          have hi44l : (Tryz.prog.info? 131).map (·.size) = some (b.map (Value.int .u8)).length := by rw [List.length_map, (unhide hch).1]; exact info44
          have HS64 : Hid ((64 : Nat) = (bytesV b).size) := hide (by simp [bytesV, (unhide hch).1])
          have HO64 : Hid ((bytesV b).all (·.oneCell') = true) := hide (by simp [bytesV]; intro i hi; rfl)
          have HI := hide hi44
          have HIL := hide hi44l
          clear hi44 hi44l
          go_upto_region 10 with fail
          go_upto_region 11 with (first | (refine wpList_load_mid rfl 131 (.tmp 30) rfl wq.heap.size (j * 64) rfl (b.map (Value.int .u8)) _ (unhide HRC) Tryz.underlying131 rfl (unhide HIL) ?_) | (refine wpList_store_any rfl 131 (.tmp 7) (.tmp 31) rfl wr.heap.size (bytesV b) rfl rfl 131 _ (h_new wr _ rfl) (unhide HI) (unhide HS64) (unhide HO64) ?_; intro w3 hrow3 hgr3 hsz3))
          have hb3 : Below wr.heap.size wr w3 := ((Below.refl _ _).alloc (Nat.le_refl _) _).trans ((Below.refl _ _).grown hgr3 (by simp) (fun i hi => by simp at hi; omega))
          have hz3 : wr.heap.size < w3.heap.size := by rw [hsz3]; simp
          have hszw : w.heap.size < w3.heap.size := by omega
          have HW3 := hide ((unhide HW).below hb3 (by omega))
          have HRG3 := hide (range_of_block (hb3.block _ hsz2) (unhide HRG))
          have HB3 := hide ((unhide HBl).trans (hb3.mono (by omega)))
          obtain ⟨⟨q0, q1, q2, q3, q4, q5, q6, q7⟩, -⟩ := words8 (unhide HW3)
          have hzq : wq.heap.size < w3.heap.size := by omega
          clear hgr3 hsz3 hb3 HW HRG HBl HRC hz3
          go_upto_region 12 with (refine wpList_load_row rfl 131 (.tmp 7) rfl wr.heap.size rfl 131 (bytesV b) (0, 0) _ hrow3 Tryz.underlying131 rfl (unhide HI) ?_)
          refine (with_calls v0 v1 v2 v3 v4 v5 v6 v7 b _ ((unhide HK).below (unhide HB3) h0) (unhide hch) (unhide HVW)).mono ?_
          rintro e w4 ⟨c0, c1, c2, c3, c4, c5, c6, c7, hC, rfl, hb4⟩
          obtain ⟨⟨p0, p1, p2, p3, p4, p5, p6, p7⟩, ⟨f0, f1, f2, f3, f4, f5, f6, f7⟩⟩ := words8 ((unhide HW3).below hb4 hszw)
          have HW4 := hide ((unhide HW3).below hb4 hszw)
          have HB4 := hide ((unhide HB3).trans (hb4.mono (Nat.le_of_lt hszw)))
          have HRG4 := hide (range_of_block (hb4.block _ hzq) (unhide HRG3))
          have hz4 := Nat.lt_of_lt_of_le hzq hb4.size
          clear hb4 q0 q1 q2 q3 q4 q5 q6 q7 hrow3
          go_wp2
          go_roundw
          case rel => exact ⟨j + 1, by go_num, by omega, by rw [unhide HST, hC]; exact put8_words _ _ _ rfl (unhide HW4) _ _ _ _ _ _ _ _, range_of_block ((put8_grown w4 w.heap.size _ _ _ _ _ _ _ _).block _ hz4 (by simp; omega)) (unhide HRG4), (unhide HB4).trans (put8_below _ _ _ _ _ _ _ _ _ _ _ (Nat.le_refl _) (by omega)), by simpa using hz4⟩
          case measure => simp [intOf]; omega
        · obtain rfl : j = m := by omega
          rw [← unhide HC] at HW
          have hzz : w.heap.size < wr.heap.size := by omega
          go_wp2
          go_ret
          exact ⟨rfl, unhide HW, unhide HBl, hzz⟩
end Go.Proofs.YtldgkpnlplfopaaGreatDoor
