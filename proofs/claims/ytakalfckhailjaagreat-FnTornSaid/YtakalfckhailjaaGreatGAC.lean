/- Texts of one kind, put together. -/
import Derived.Test.YtakalfckhailjaaGreatGAA
import Derived.Laws.Rows
import Derived.Laws.Tables

/- The CRC over words of 32 bits: a step is linear and one to one; eight steps by a table of 256 words. -/
namespace Go.Proofs.YtakalfckhailjaaGreat.Plain
open Go Go.RowKit
set_option linter.unusedVariables false

def crcC : BitVec 32 := 0xedb88320#32
def bstep (v : BitVec 32) : BitVec 32 := if v.getLsbD 0 then (v >>> 1) ^^^ crcC else v >>> 1
def bsteps : Nat → BitVec 32 → BitVec 32
  | 0, v => v
  | n + 1, v => bsteps n (bstep v)

theorem bstep_xor (a b : BitVec 32) : bstep (a ^^^ b) = bstep a ^^^ bstep b := by
  unfold bstep
  rw [BitVec.getLsbD_xor, BitVec.ushiftRight_xor_distrib]
  cases a.getLsbD 0 <;> cases b.getLsbD 0 <;> simp
  · rw [BitVec.xor_assoc]
  · rw [BitVec.xor_assoc, BitVec.xor_assoc, BitVec.xor_comm (b >>> 1) crcC]
  · rw [BitVec.xor_assoc, BitVec.xor_comm crcC, BitVec.xor_assoc, BitVec.xor_self, BitVec.xor_zero]

theorem bsteps_xor (n : Nat) : ∀ a b : BitVec 32, bsteps n (a ^^^ b) = bsteps n a ^^^ bsteps n b := by
  induction n with
  | zero => intro a b; rfl
  | succ n ih => intro a b; simp only [bsteps, bstep_xor, ih]

theorem bsteps_low (n : Nat) : ∀ v : BitVec 32, (∀ i, i < n → v.getLsbD i = false) → bsteps n v = v >>> n := by
  induction n with
  | zero => intro v _; simp [bsteps]
  | succ n ih =>
    intro v h
    have e : bstep v = v >>> 1 := by unfold bstep; rw [if_neg (by rw [h 0 (by omega)]; decide)]
    rw [bsteps, e, ih]
    · apply BitVec.eq_of_getLsbD_eq
      intro i hi
      simp [BitVec.getLsbD_ushiftRight]
      congr 1; omega
    · intro i hi
      rw [BitVec.getLsbD_ushiftRight, h (1 + i) (by omega)]

theorem bsplit8 (y : BitVec 32) : bsteps 8 y = (y >>> 8) ^^^ bsteps 8 (y &&& 255#32) := by
  have e : y = (y &&& 0xffffff00#32) ^^^ (y &&& 255#32) := by
    apply BitVec.eq_of_getLsbD_eq
    intro i hi
    rw [BitVec.getLsbD_xor, BitVec.getLsbD_and, BitVec.getLsbD_and]
    have : (0xffffff00#32).getLsbD i = !(255#32).getLsbD i := by
      revert i; decide
    rw [this]
    cases (255#32).getLsbD i <;> simp
  have l := bsteps_low 8 (y &&& 0xffffff00#32) (by
    intro i hi
    rw [BitVec.getLsbD_and]
    have : (0xffffff00#32).getLsbD i = false := by revert i; decide
    rw [this]; simp)
  have s : (y &&& 0xffffff00#32) >>> 8 = y >>> 8 := by
    apply BitVec.eq_of_getLsbD_eq
    intro i hi
    rw [BitVec.getLsbD_ushiftRight, BitVec.getLsbD_ushiftRight, BitVec.getLsbD_and]
    by_cases h : 8 + i < 32
    · have : ∀ i : Nat, i < 24 → (0xffffff00#32).getLsbD (8 + i) = true := by decide
      rw [this i (by omega)]; simp
    · rw [BitVec.getLsbD_of_ge _ _ (by omega)]; simp
  conv => lhs; rw [e, bsteps_xor, l, s]

theorem xor_word (a b : BitVec 32) : bits .xor .u32 (a.toNat : Int) (b.toNat : Int) = ((a ^^^ b).toNat : Int) := by
  rw [u32_xor_nat _ _ (by have := a.isLt; omega) (by have := b.isLt; omega), BitVec.toNat_xor]

theorem stepI_word (v : BitVec 32) : stepI (v.toNat : Int) = ((bstep v).toNat : Int) := by
  have hv := v.isLt
  have hh : (v.toNat : Int) / (2 : Int) = ((v >>> 1).toNat : Int) := by
    rw [BitVec.toNat_ushiftRight, Nat.shiftRight_eq_div_pow]; omega
  have hb : bits .and .u32 (v.toNat : Int) 1 = ((v.toNat % 2 : Nat) : Int) := by
    rw [show (1 : Int) = ((1 : Nat) : Int) from rfl, u32_and_nat _ _ (by omega) (by decide), nat_mask1]
  have hl : v.getLsbD 0 = decide (v.toNat % 2 = 1) := by
    rw [BitVec.getLsbD, Nat.testBit_zero]
  unfold stepI bstep
  rw [hb, hl, hh]
  by_cases h : v.toNat % 2 = 1
  · rw [if_pos (by rw [h]; rfl), if_pos (by simp [h]), show (3988292384 : Int) = ((crcC.toNat : Nat) : Int) from rfl, xor_word]
  · rw [if_neg (by simp; omega), if_neg (by simp [h])]

theorem stepsI_word (n : Nat) : ∀ v : BitVec 32, stepsI n (v.toNat : Int) = ((bsteps n v).toNat : Int) := by
  induction n with
  | zero => intro v; rfl
  | succ n ih => intro v; rw [stepsI, stepI_word, ih]; rfl

theorem word_of {x : Int} (h0 : 0 ≤ x) (h1 : x < 4294967296) : ∃ v : BitVec 32, x = (v.toNat : Int) := by
  refine ⟨BitVec.ofNat 32 x.toNat, ?_⟩
  rw [BitVec.toNat_ofNat]; omega

theorem crc_table {X : Int} {c D : Nat} (h0 : 0 ≤ X) (h1 : X < 4294967296) (hc : c < 256) (hD : ((X % 256).toNat ^^^ c) = D) :
    bits .xor .u32 (X / 256) (stepsI 8 (D : Int)) = stepsI 8 (bits .xor .u32 X (c : Int)) := by
  obtain ⟨v, rfl⟩ := word_of h0 h1
  have hv := v.isLt
  have ec : (c : Int) = ((BitVec.ofNat 32 c).toNat : Int) := by rw [BitVec.toNat_ofNat]; omega
  have hD256 : D < 256 := by rw [← hD]; exact Nat.xor_lt_two_pow (n := 8) (by omega) (by omega)
  have eD : (D : Int) = ((BitVec.ofNat 32 D).toNat : Int) := by rw [BitVec.toNat_ofNat]; omega
  have e8 : (v.toNat : Int) / (256 : Int) = ((v >>> 8).toNat : Int) := by rw [BitVec.toNat_ushiftRight, Nat.shiftRight_eq_div_pow]; omega
  rw [ec, xor_word, stepsI_word, bsplit8, eD, stepsI_word, e8, xor_word]
  have k1 : (v ^^^ BitVec.ofNat 32 c) >>> 8 = v >>> 8 := by
    rw [BitVec.ushiftRight_xor_distrib]
    have : (BitVec.ofNat 32 c) >>> 8 = 0#32 := by
      apply BitVec.eq_of_toNat_eq
      rw [BitVec.toNat_ushiftRight, BitVec.toNat_ofNat, Nat.shiftRight_eq_div_pow]
      simp
      omega
    rw [this, BitVec.xor_zero]
  have k2 : (v ^^^ BitVec.ofNat 32 c) &&& 255#32 = BitVec.ofNat 32 D := by
    apply BitVec.eq_of_toNat_eq
    rw [BitVec.toNat_and, BitVec.toNat_xor, BitVec.toNat_ofNat, BitVec.toNat_ofNat, Nat.and_xor_distrib_right, ← hD]
    rw [BitVec.toNat_ofNat, show 255 % 2 ^ 32 = 2 ^ 8 - 1 from rfl, Nat.and_two_pow_sub_one_eq_mod _ 8, Nat.and_two_pow_sub_one_eq_mod _ 8]
    have a1 : c % 2 ^ 32 % 2 ^ 8 = c := by omega
    have a2 : ((v.toNat : Int) % 256).toNat = v.toNat % 2 ^ 8 := by omega
    rw [a1, a2]
    have : v.toNat % 2 ^ 8 ^^^ c < 2 ^ 8 := Nat.xor_lt_two_pow (by omega) (by omega)
    omega
  rw [k1, k2]

theorem idx_rules {X : Int} {c : Nat} (h0 : 0 ≤ X) (h1 : X < 4294967296) (hc : c < 256) :
    ∃ E D : Nat, IntKind.u8.wrap X = (E : Int) ∧ X % 256 = (E : Int) ∧ E < 256 ∧ bits .xor .u8 (E : Int) (c : Int) = (D : Int) ∧ D < 256 ∧ bits .xor .u32 (X / 256) (stepsI 8 (D : Int)) = stepsI 8 (bits .xor .u32 X (c : Int)) := by
  refine ⟨(X % 256).toNat, (X % 256).toNat ^^^ c, ?_, by omega, by omega, ?_, ?_, crc_table h0 h1 hc rfl⟩
  · rw [IntKind.wrap_u8']; omega
  · exact u8_xor_nat _ _ (by omega) hc
  · exact Nat.xor_lt_two_pow (n := 8) (by omega) (by omega)

end Go.Proofs.YtakalfckhailjaaGreat.Plain


/- The program's table of CRCs, and its Crc by the table. -/
namespace Go.Proofs.YtakalfckhailjaaGreat
open Go.RowKit Plain
set_option linter.unusedVariables false

namespace Plain
/-- The row arr holds the table's first k words. -/
def TabTo (arr : Array Value) (k : Nat) : Prop := arr.size = 256 ∧ arr.all (·.oneCell') = true ∧ ∀ j, j < k → arr[j]? = some (.int .u32 (stepsI 8 (j : Int)))

theorem TabTo.next {arr : Array Value} {k : Nat} (h : TabTo arr k) (hk : k < 256) : TabTo (arr.setIfInBounds k (.int .u32 (stepsI 8 (k : Int)))) (k + 1) := by
  obtain ⟨h1, h2, h3⟩ := h
  refine ⟨by simpa using h1, ?_, ?_⟩
  · rw [Array.all_eq_true] at h2 ⊢
    intro i hi
    rw [Array.getElem_setIfInBounds]
    split
    · rfl
    · exact h2 i (by simpa using hi)
  · intro j hj
    rw [Array.getElem?_setIfInBounds]
    by_cases e : k = j
    · subst e; simp [h1, hk]
    · rw [if_neg e]; exact h3 j (by omega)
end Plain

theorem info72 : (Tryz.prog.info? 175).map (·.size) = some 256 := by kernel_rfl
theorem zero72 : TabTo Tryz.zeroCells175 0 := ⟨by decide +kernel, by decide +kernel, fun j h => absurd h (Nat.not_lt_zero j)⟩

set_option maxRecDepth 10000 in
set_option maxHeartbeats 1000000 in
theorem newCrcTable_calls (w : World) :
    Calls Tryz.prog 114 #[] w fun e w' => ∃ arr, TabTo arr 256 ∧ e = .returned (.agg arr) ∧ Below w.heap.size w w' := by
  have z72 := zero72
  have HZ := hide z72
  clear z72
  go_enter Tryz.func114, Tryz.ntmps114
  go_wp2_with fail
  go_loopw [2, 3, 4, 5, 10] (fun _ _ _ i _ wr => ∃ (k : Nat) (arr : Array Value), i = .int .i64 k ∧ k ≤ 256 ∧ TabTo arr k ∧ wr.heap[w.heap.size + 1]? = some (.cells arr 175 (0, 0)) ∧
      wr.heap[w.heap.size]? = some (.cells Tryz.zeroCells175 175 (0, 0)) ∧ Below w.heap.size w wr) (fun _ _ _ i _ _ => 256 - (intOf i).toNat)
  case atStart => exact ⟨0, _, rfl, by omega, unhide HZ, heap_alloc2_new _ _ _, heap_alloc2_old _ _ _, ((Below.refl _ _).alloc (Nat.le_refl _) _).alloc (by simp) _⟩
  case round =>
    obtain ⟨k, arr, rfl, hk, htab, hrow, hres, hbel⟩ := hrel
    have HT := hide htab
    clear htab
    by_cases hlt : k < 256
    · go_wp2_with fail
      go_loop [3, 4, 10] (fun x v i => ∃ (j : Nat) (Z : Int), i = .int .i64 j ∧ j ≤ 8 ∧ x = .int .u32 Z ∧ 0 ≤ Z ∧ Z < 4294967296 ∧ Hid (stepsI (8 - j) Z = stepsI 8 (k : Int))) (fun _ _ i => 8 - (intOf i).toNat)
      case atStart => exact ⟨0, k, rfl, by omega, rfl, by omega, by omega, rfl⟩
      case round =>
        obtain ⟨j, Z, rfl, hj8, rfl, hz0, hz1, hrel2⟩ := hrel
        by_cases hj : j < 8
        · cases hb : (bits .and .u32 Z 1 == 1) with
          | true =>
            have hn := hide (steps_next hj (unhide hrel2))
            have he := hide (stepI_yes hb)
            have hrg := bits_u32_range .xor (Z / 2) 3988292384
            clear hrel2
            go_wp2
            go_round
            case rel => exact ⟨j + 1, _, by go_num, by omega, rfl, hrg.1, hrg.2, by rw [← unhide he]; exact hn⟩
            case measure => simp [intOf]; omega
          | false =>
            have hn := hide (steps_next hj (unhide hrel2))
            have he := hide (stepI_no hb)
            clear hrel2
            go_wp2
            go_round
            case rel => exact ⟨j + 1, _, by go_num, by omega, rfl, by omega, by omega, by rw [← unhide he]; exact hn⟩
            case measure => simp [intOf]; omega
        · obtain rfl : j = 8 := by omega
          have hfin : Z = stepsI 8 (k : Int) := unhide hrel2
          have hF := hide hfin
          clear hrel2 hfin
          have hsz : arr.size = 256 := (unhide HT).1
          obtain ⟨old, hcell⟩ : ∃ old, wr.cell? ⟨w.heap.size + 1, k, none⟩ = some old := ⟨arr[k], by rw [cell_of_row wr _ k arr _ _ hrow]; simp⟩
          have hfz : wr.frozen? ⟨w.heap.size + 1, k, none⟩ = false := frozen_of_row wr _ k arr _ hrow
          clear hsz
          go_wp2
          go_roundw
          case rel =>
            refine ⟨k + 1, _, by go_num, by omega, (unhide HT).next hlt, ?_, ?_, hbel.setCell (by simp) _⟩
            · rw [← unhide hF]; exact heap_setCell_same wr _ k arr _ _ hrow
            · rw [heap_setCell_other _ _ _ _ (by simp)]; exact hres
          case measure => simp [intOf]; omega
    · obtain rfl : k = 256 := by omega
      have hsz := (unhide HT).1
      have hi72 : (Tryz.prog.info? 175).map (·.size) = some arr.size := by rw [hsz]; exact info72
      have hzs : Tryz.zeroCells175.size = arr.size := by rw [hsz]; exact (unhide HZ).1
      have h1 := (unhide HT).2.1
      clear hsz
      go_wp2_with (first | (refine wpList_load_row rfl 175 (.tmp 1) rfl (w.heap.size + 1) rfl 175 arr (0, 0) _ hrow Tryz.underlying175 rfl hi72 ?_) | (refine wpList_store_row rfl 175 (.tmp 0) (.tmp 25) rfl w.heap.size arr rfl rfl 175 _ hres hi72 hzs h1 ?_))
      refine bodyPost_ret (v := .agg arr) ?_ rfl ⟨arr, unhide HT, rfl, ?_⟩
      · exact results_cell_row (p := 0) (ty := 175) (by kernel_rfl) _ _ w.heap.size 175 arr (0, 0) _ rfl (setRow_heap _ _ _ _ _ _ hres) Tryz.underlying175 rfl hi72
      · exact hbel.trans ⟨rfl, rfl, rfl, by simp, fun k hk => setRow_other _ _ _ _ (by omega)⟩

namespace Plain
def TabAt (w : World) (b off : Nat) : Prop := ∀ j, j < 256 → w.cell? ⟨b, off + j, none⟩ = some (.int .u32 (stepsI 8 (j : Int)))
end Plain

set_option maxHeartbeats 1000000 in
theorem crc_calls (b off : Nat) (s : ByteArray) (w : World) (hs : s.size ≤ 1000000000000) (htab : TabAt w b off) :
    Calls Tryz.prog 119 #[.pointer (some ⟨b, off, none⟩), .string s] w fun e w' => e = .returned (.int .u32 (crcI s)) ∧ ∃ k, w' = w.drewN k := by
  have HT := hide htab
  clear htab
  go_enter Tryz.func119, Tryz.ntmps119
  go_wp2_with fail
  go_loopw [5, 6, 9] (fun x _ i wr => ∃ (k n : Nat), i = .int .i64 k ∧ k ≤ s.size ∧ x = .int .u32 (crcAt s k) ∧ wr = w.drewN n) (fun _ _ i _ => s.size - (intOf i).toNat)
  case atStart => exact ⟨0, 0, rfl, by omega, rfl, rfl⟩
  case round =>
    obtain ⟨k, n, rfl, hks, rfl, rfl⟩ := hrel
    have hr := crcAt_range s k
    by_cases hlt : k < s.size
    · obtain ⟨c, hc⟩ : ∃ c, s[k].toNat = c := ⟨_, rfl⟩
      have hc256 : c < 256 := by rw [← hc]; exact s[k].toNat_lt
      have hst := hide (crcAt_succ s k c hlt hc)
      obtain ⟨X, hX⟩ : ∃ X, crcAt s k = X := ⟨_, rfl⟩
      rw [hX] at hr hst ⊢
      clear hX
      obtain ⟨E, D, hE1, hE2, hE3, hD, hD2, hm⟩ := idx_rules hr.1 hr.2 hc256
      have hst2 := hide ((unhide hst).trans hm.symm)
      clear hst hm
      have hcell : w.cell? ⟨b, off + D, none⟩ = some (.int .u32 (stepsI 8 (D : Int))) := unhide HT D hD2
      obtain ⟨Y, hY⟩ : ∃ Y, stepsI 8 (D : Int) = Y := ⟨_, rfl⟩
      rw [hY] at hcell
      have hst3 := hide ((unhide hst2).trans (by rw [hY]))
      clear hst2 hY
      go_wp2
      go_region
      all_goals (try go_wp2)
      go_roundw
      case rel => exact ⟨k + 1, n + 1, by go_num, by omega, by rw [unhide hst3], rfl⟩
      case measure => simp [intOf]; omega
    · obtain rfl : k = s.size := by omega
      have hsg : IntKind.u32.signed = false := rfl
      go_wp2
      go_ret
      exact ⟨rfl, n, rfl⟩

set_option maxHeartbeats 1000000 in
theorem impl_Crc (s : ByteArray) (w : World) (hs : s.size ≤ 1000000000000) :
    Calls Tryz.prog 96 #[.string s] w fun e w' => e = .returned (.int .u32 (crcI s)) ∧ Below w.heap.size w w' := by
  go_enter Tryz.func96, Tryz.ntmps96
  go_wp2_with fail
  refine (newCrcTable_calls _).mono ?_
  rintro e w1 ⟨arr, htab, rfl, hb1⟩
  have HT := hide htab
  have hsz := htab.1
  have hi72 : (Tryz.prog.info? 175).map (·.size) = some arr.size := by rw [hsz]; exact info72
  have hzs : Tryz.zeroCells175.size = arr.size := by rw [hsz]; exact zero72.1
  have h1 := htab.2.1
  have hg := heap_alloc_new w1 (.cells Tryz.zeroCells175 175)
  clear hsz htab
  go_wp2_with (refine wpList_store_row rfl 175 (.tmp 3) (.tmp 4) rfl w1.heap.size arr rfl rfl 175 _ hg hi72 hzs h1 ?_)
  refine (crc_calls w1.heap.size 0 s _ hs ?_).mono ?_
  · intro j hj
    rw [Nat.zero_add, cell_setRow_same _ _ j _ _ _ _ hg]
    exact (unhide HT).2.2 j hj
  rintro e w2 ⟨rfl, k, rfl⟩
  go_wp2
  go_ret
  refine ⟨rfl, below_drewN ?_ k⟩
  have hb2 : Below w.heap.size w (w1.alloc (.cells Tryz.zeroCells175 175)) := hb1.alloc hb1.size _
  exact hb2.trans ⟨rfl, rfl, rfl, by simp, fun i hi => setRow_other _ _ _ _ (by have := hb1.size; omega)⟩

end Go.Proofs.YtakalfckhailjaaGreat

