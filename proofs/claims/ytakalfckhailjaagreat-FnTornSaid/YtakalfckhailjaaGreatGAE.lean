/- Texts of one kind, put together. -/
import Derived.Test.YtakalfckhailjaaGreatGAA
import Derived.Lib.Bytealg
import Derived.Deep.RegionWith
import Derived.Deep.QuietTactic
import Derived.BigQuiet

/- A word in four bytes, the lowest first: both programs by their contracts. -/
namespace Go.Proofs.YtakalfckhailjaaGreat
open Go.RowKit Plain
set_option linter.unusedVariables false

namespace Plain
def fourL (x : Int) : List Int := [x % 256, x / 256 % 256, x / 65536 % 256, x / 16777216]
end Plain

theorem conv_lit (W : World) (xs : List Int) (h : xs.length ≤ 1000) :
    (convert 22 9 (.slice (some ⟨W.heap.size, 0, none⟩) xs.length xs.length)).run Tryz.prog (W.alloc (.cells (xs.map (Value.int .u8)).toArray 5)) = .ok (.string (strOfNums xs)) (W.alloc (.cells (xs.map (Value.int .u8)).toArray 5)) := by
  refine conv_ownB _ W.heap.size _ xs ?_
  refine ⟨by simp, .inr ⟨W.heap.size, xs.length, (xs.map (Value.int .u8)).toArray, rfl, Nat.le_refl _, heap_alloc_new _ _, Nat.le_refl _, by unfold maxLen; omega, by simp, ?_⟩⟩
  rw [Nat.mul_one]
  exact List.take_of_length_le (by simp)

theorem conv4 (W : World) (a b c d : Int) :
    (convert 22 9 (.slice (some ⟨W.heap.size, 0, none⟩) 4 4)).run Tryz.prog (W.alloc (.cells #[.int .u8 a, .int .u8 b, .int .u8 c, .int .u8 d] 5)) = .ok (.string (strOfNums [a, b, c, d])) (W.alloc (.cells #[.int .u8 a, .int .u8 b, .int .u8 c, .int .u8 d] 5)) :=
  conv_lit W [a, b, c, d] (by simp)
theorem impl_lowFirst_at (x : Int) (w : World) (h0 : 0 ≤ x) (h1 : x < 4294967296) :
    Calls Tryz.prog 95 #[.int .u32 x] w fun e w' => e = .returned (.string (strOfNums (fourL x))) ∧ w.alloc (.cells #[.int .u8 (x % 256), .int .u8 (x / 256 % 256), .int .u8 (x / 65536 % 256), .int .u8 (x / 16777216)] 5) = w' := by
  have hcv := conv4
  go_enter Tryz.func95, Tryz.ntmps95
  go_wp2
  go_ret
  exact ⟨rfl, rfl⟩

theorem impl_lowFirst (x : Int) (w : World) (h0 : 0 ≤ x) (h1 : x < 4294967296) :
    Calls Tryz.prog 95 #[.int .u32 x] w fun e w' => e = .returned (.string (strOfNums (fourL x))) ∧ Below w.heap.size w w' := by
  have hcv := conv4
  go_enter Tryz.func95, Tryz.ntmps95
  go_wp2
  go_ret
  exact ⟨rfl, (Below.refl _ _).alloc (Nat.le_refl _) _⟩

theorem spec_l2Four_at (x : Int) (w : World) (h0 : 0 ≤ x) (h1 : x < 4294967296) :
    Calls Tryz.prog 97 #[.int .u32 x] w fun e w' => e = .returned (.string (strOfNums (fourL x))) ∧ w.alloc (.cells #[.int .u8 (x % 256), .int .u8 (x / 256 % 256), .int .u8 (x / 65536 % 256), .int .u8 (x / 16777216)] 5) = w' := by
  have hcv := conv4
  go_enter Tryz.func97, Tryz.ntmps97
  go_wp2
  go_ret
  exact ⟨rfl, rfl⟩

theorem spec_l2Four (x : Int) (w : World) (h0 : 0 ≤ x) (h1 : x < 4294967296) :
    Calls Tryz.prog 97 #[.int .u32 x] w fun e w' => e = .returned (.string (strOfNums (fourL x))) ∧ Below w.heap.size w w' := by
  have hcv := conv4
  go_enter Tryz.func97, Tryz.ntmps97
  go_wp2
  go_ret
  exact ⟨rfl, (Below.refl _ _).alloc (Nat.le_refl _) _⟩
end Go.Proofs.YtakalfckhailjaaGreat


/- Crc of the specification by its contract. -/
namespace Go.Proofs.YtakalfckhailjaaGreat
open Go.RowKit Plain
set_option linter.unusedVariables false

set_option maxHeartbeats 1000000 in
theorem spec_Crc (s : ByteArray) (w : World) (hs : s.size ≤ 1000000000000) :
    Calls Tryz.prog 98 #[.string s] w fun e w' => e = .returned (.int .u32 (crcI s)) ∧ w = w' := by
  go_enter Tryz.func98, Tryz.ntmps98
  go_wp2_with fail
  go_loop [3, 4, 5, 6] (fun x i u v => ∃ k : Nat, i = .int .i64 k ∧ k ≤ s.size ∧ x = .int .u32 (crcAt s k)) (fun _ i _ _ => s.size - (intOf i).toNat)
  case atStart => exact ⟨0, rfl, by omega, rfl⟩
  case round =>
    obtain ⟨k, rfl, hks, rfl⟩ := hrel
    have hr := crcAt_range s k
    by_cases hlt : k < s.size
    · obtain ⟨c, hc⟩ : ∃ c, s[k].toNat = c := ⟨_, rfl⟩
      have hc256 : c < 256 := by rw [← hc]; exact s[k].toNat_lt
      have hst := hide (crcAt_succ s k c hlt hc)
      obtain ⟨X, hX⟩ : ∃ X, crcAt s k = X := ⟨_, rfl⟩
      rw [hX] at hr hst ⊢
      clear hX
      go_wp2_with fail
      obtain ⟨Y, hY⟩ : ∃ Y, bits .xor .u32 X (c : Int) = Y := ⟨_, rfl⟩
      have hyr := bits_u32_range .xor X (c : Int)
      rw [hY] at hyr ⊢
      have hst2 := hide ((unhide hst).trans (by rw [hY]))
      clear hst
      have HY := hide hY
      clear hY
      go_loop [3, 5, 6] (fun x i v => ∃ (j : Nat) (Z : Int), i = .int .i64 j ∧ j ≤ 8 ∧ x = .int .u32 Z ∧ 0 ≤ Z ∧ Z < 4294967296 ∧ Hid (stepsI (8 - j) Z = stepsI 8 Y)) (fun _ i _ => 8 - (intOf i).toNat)
      case atStart => exact ⟨0, Y, rfl, by omega, rfl, hyr.1, hyr.2, rfl⟩
      case round =>
        obtain ⟨j, Z, rfl, hj8, rfl, hz0, hz1, hrel2⟩ := hrel
        by_cases hj : j < 8
        · cases hb : (bits .and .u32 Z 1 == 1) with
          | true =>
            have hn := hide (steps_next hj (unhide hrel2))
            have he := hide (stepI_yes hb)
            have hrg := bits_u32_range .xor (Z / 2) 3988292384
            clear hrel2
            go_wp2
            go_round
            case rel => exact ⟨j + 1, _, by go_num, by omega, rfl, hrg.1, hrg.2, by rw [← unhide he]; exact hn⟩
            case measure => simp [intOf]; omega
          | false =>
            have hn := hide (steps_next hj (unhide hrel2))
            have he := hide (stepI_no hb)
            clear hrel2
            go_wp2
            go_round
            case rel => exact ⟨j + 1, _, by go_num, by omega, rfl, by omega, by omega, by rw [← unhide he]; exact hn⟩
            case measure => simp [intOf]; omega
        · obtain rfl : j = 8 := by omega
          have hfin := hide ((unhide hst2).trans (unhide hrel2).symm)
          clear hrel2 hst2
          go_wp2
          go_round
          case rel => exact ⟨k + 1, by go_num, by omega, by rw [unhide hfin]; rfl⟩
          case measure => simp [intOf]; omega
    · obtain rfl : k = s.size := by omega
      have hsg : IntKind.u32.signed = false := rfl
      go_wp2
      go_ret
      exact ⟨rfl, rfl⟩
end Go.Proofs.YtakalfckhailjaaGreat


/- Numbers in bytes: PutNumber of both programs by its contract. -/
namespace Go.Proofs.YtakalfckhailjaaGreat
open Go.RowKit Plain
set_option linter.unusedVariables false

theorem l1In_calls (n lo hi : Int) (w : World) : Calls Tryz.prog 28 #[.int .i64 n, .int .i64 lo, .int .i64 hi] w fun e w' => e = .returned (.bool (decide (lo ≤ n) && decide (n ≤ hi))) ∧ w = w' := by
  by_cases h1 : lo ≤ n <;> by_cases h2 : n ≤ hi <;>
    (go_enter Tryz.func28, Tryz.ntmps28
     go_wp2
     go_ret
     exact ⟨by simp [h1, h2], rfl⟩)


set_option maxRecDepth 100000 in
set_option maxHeartbeats 800000 in
theorem impl_PutNumber_in (n : Int) (w : World) (h0 : 0 ≤ n) (h1 : n ≤ 1000000000000) :
    Calls Tryz.prog 58 #[.int .i64 n] w fun e w' => e = .returned (.string (strOfNums (putL 5 n.toNat))) ∧ Below w.heap.size w w' := by
  obtain ⟨N, rfl⟩ := Int.eq_ofNat_of_zero_le h0
  rw [Int.toNat_natCast]
  have hN : N ≤ 1000000000000 := by omega
  go_enter Tryz.func58, Tryz.ntmps58
  go_wp2
  go_loopw [0, 3] (fun i v wr => ∃ (m f : Nat) (done : List Int), i = .int .i64 m ∧ m ≤ N ∧ m < 128 ^ (f + 1) ∧ done.length + f = 5 ∧ Hid (done ++ putL f m = putL 5 N) ∧
      OwnB wr w.heap.size v done ∧ Below w.heap.size w wr)
    (fun i _ _ => (intOf i).toNat)
  case atStart => exact ⟨N, 5, [], rfl, Nat.le_refl _, by omega, rfl, rfl, ownB_nil _ _, Below.refl _ _⟩
  case round =>
    obtain ⟨m, f, done, rfl, hmN, hmf, hdf, hrel, hown, hbel⟩ := hrel
    have hsz := hbel.size
    by_cases hlt : m < 128
    · go_wp2_with (at_builtin; go_must (refine app1 rfl _ _ rfl hown rfl rfl (by omega) hsz ?_); intro v' w1 hown1 hg1 hb1; have hcv := conv_ownB w1 _ v' _ hown1)
      go_ret
      have hb := hbel.trans hb1
      have hr := unhide hrel
      rw [putL_small f m hlt] at hr
      exact ⟨by rw [← hr]; rfl, hb⟩
    · have hlt2 : 128 ≤ m := by omega
      go_wp2_with (at_builtin; go_must (refine app1 rfl _ _ rfl hown rfl rfl (by omega) hsz ?_); intro v' w1 hown1 hg1 hb1)
      obtain ⟨f', hf', hmf', hrel'⟩ := put_round f m _ done (unhide hrel) hlt hmf
      go_roundw
      case rel => exact ⟨m / 128, f', _, by go_num, by omega, hmf', by simp; omega, hrel', hown1, hbel.trans hb1⟩
      case measure => simp [intOf]; omega

set_option maxRecDepth 100000 in
set_option maxHeartbeats 800000 in
theorem spec_PutNumber_in (n : Int) (w : World) (h0 : 0 ≤ n) (h1 : n ≤ 1000000000000) :
    Calls Tryz.prog 61 #[.int .i64 n] w fun e w' => e = .returned (.string (strOfNums (putL 5 n.toNat))) ∧ Below w.heap.size w w' := by
  obtain ⟨N, rfl⟩ := Int.eq_ofNat_of_zero_le h0
  rw [Int.toNat_natCast]
  have hN : N ≤ 1000000000000 := by omega
  go_enter Tryz.func61, Tryz.ntmps61
  have hd : (decide ((0 : Int) ≤ N) && decide ((N : Int) ≤ 1000000000000)) = true := by simp; omega
  go_wp2_with (go_at_call 28; refine (l1In_calls _ _ _ _).mono ?_; rintro e w' ⟨rfl, rfl⟩)
  go_loopw [0, 3] (fun i v wr => ∃ (m f : Nat) (done : List Int), i = .int .i64 m ∧ m ≤ N ∧ m < 128 ^ (f + 1) ∧ done.length + f = 5 ∧ Hid (done ++ putL f m = putL 5 N) ∧
      OwnB wr w.heap.size v done ∧ Below w.heap.size w wr)
    (fun i _ _ => (intOf i).toNat)
  case atStart => exact ⟨N, 5, [], rfl, Nat.le_refl _, by omega, rfl, rfl, ownB_empty _ _ (Nat.le_refl _), (Below.refl _ _).alloc (Nat.le_refl _) _⟩
  case round =>
    obtain ⟨m, f, done, rfl, hmN, hmf, hdf, hrel, hown, hbel⟩ := hrel
    have hsz := hbel.size
    by_cases hlt : m < 128
    · go_wp2_with (at_builtin; go_must (refine app1 rfl _ _ rfl hown rfl rfl (by omega) hsz ?_); intro v' w1 hown1 hg1 hb1; have hcv := conv_ownB w1 _ v' _ hown1)
      go_ret
      have hb := hbel.trans hb1
      have hr := unhide hrel
      rw [putL_small f m hlt] at hr
      exact ⟨by rw [← hr]; rfl, hb⟩
    · have hlt2 : 128 ≤ m := by omega
      go_wp2_with (at_builtin; go_must (refine app1 rfl _ _ rfl hown rfl rfl (by omega) hsz ?_); intro v' w1 hown1 hg1 hb1)
      obtain ⟨f', hf', hmf', hrel'⟩ := put_round f m _ done (unhide hrel) hlt hmf
      go_roundw
      case rel => exact ⟨m / 128, f', _, by go_num, by omega, hmf', by simp; omega, hrel', hown1, hbel.trans hb1⟩
      case measure => simp [intOf]; omega

theorem impl_PutNumber (n : Int) (w : World) :
    Calls Tryz.prog 58 #[.int .i64 n] w fun e w' => e = .returned (.string (putS n)) ∧ Below w.heap.size w w' := by
  unfold putS
  by_cases h0 : 0 ≤ n
  · by_cases h1 : n ≤ 1000000000000
    · rw [if_pos ⟨h0, h1⟩]; exact impl_PutNumber_in n w h0 h1
    · rw [if_neg (by omega)]
      go_enter Tryz.func58, Tryz.ntmps58
      go_wp2
      go_ret
      exact ⟨rfl, Below.refl _ _⟩
  · rw [if_neg (by omega)]
    have hlt : n < 0 := by omega
    go_enter Tryz.func58, Tryz.ntmps58
    go_wp2
    go_ret
    exact ⟨rfl, Below.refl _ _⟩

theorem spec_PutNumber (n : Int) (w : World) :
    Calls Tryz.prog 61 #[.int .i64 n] w fun e w' => e = .returned (.string (putS n)) ∧ Below w.heap.size w w' := by
  unfold putS
  by_cases h : 0 ≤ n ∧ n ≤ 1000000000000
  · rw [if_pos h]; exact spec_PutNumber_in n w h.1 h.2
  · rw [if_neg h]
    have hd : (decide (0 ≤ n) && decide (n ≤ 1000000000000)) = false := by simp; omega
    go_enter Tryz.func61, Tryz.ntmps61
    go_wp2_with (go_at_call 28; refine (l1In_calls _ _ _ _).mono ?_; rintro e w' ⟨rfl, rfl⟩)
    go_ret
    exact ⟨rfl, Below.refl _ _⟩

end Go.Proofs.YtakalfckhailjaaGreat


/- Digits of 16: what the two programs tell of one byte; what a digest is; Nibble. -/
namespace Go.Proofs.YtakalfckhailjaaGreat
open Go.RowKit Plain
set_option linter.unusedVariables false

namespace Plain
end Plain





end Go.Proofs.YtakalfckhailjaaGreat


/- What a digest is: DigestOk and Nibble of both programs by their contracts. -/
namespace Go.Proofs.YtakalfckhailjaaGreat
open Go.RowKit Plain
set_option linter.unusedVariables false

namespace Plain
end Plain







end Go.Proofs.YtakalfckhailjaaGreat


/- The texts by which the exact laws mark memory. -/
namespace Go.Proofs.YtakalfckhailjaaGreat
open Go.RowKit Plain
set_option linter.unusedVariables false

namespace Plain
/-- A number's decimal digits ahead of out. -/
def decB : Nat → Nat → ByteArray → ByteArray
  | 0, _, out => out
  | f + 1, k, out => if k = 0 then out else decB f (k / 10) (strOfNums [((48 + k % 10 : Nat) : Int)] ++ out)
def mtx (k : Nat) : ByteArray := ⟨#[109]⟩ ++ decB k k ⟨#[]⟩
end Plain



end Go.Proofs.YtakalfckhailjaaGreat


/- Regions that draw their order and whose callees may make new blocks: one walk in the order of the text. -/
namespace Go.Proofs.YtakalfckhailjaaGreat
open Go.RowKit Plain
set_option linter.unusedVariables false

/-- A world that has grown out of W: new blocks alone. -/
structure Plain.Grown (W : World) where
  w : World
  ok : Below W.heap.size W w
theorem Plain.region_grown {id : Nat} {Q : Exit → Act → World → Prop} {a : Act} {w : World} {l : List Oper} (hm : Tryz.prog.follows .mixedOrders = true) (hB : Region.lexB .any l.toArray = true) (W : World) (hW : Below W.heap.size W w)
    (h : wpQuiet Tryz.prog l.toArray (fun w' => ∃ x : Grown W, w' = x.w) (fun a' => ∀ w', (∃ x : Grown W, w' = x.w) → Q .normal a' w') l a) : (Code.region id l.toArray true).wp Tryz.prog Q a w :=
  wp_region_quiet (C := fun w' => ∃ x : Grown W, w' = x.w) hm hB ⟨⟨{ w with drawn := w.drawn + 1 }, ⟨hW.os, hW.tape, hW.output, hW.size, hW.block⟩⟩, rfl⟩ h
theorem Plain.Grown.cell {W : World} {p : Addr} {v : Value} (h : W.cell? p = some v) (hl : p.block < W.heap.size) (x : Grown W) : x.w.cell? p = some v := (x.ok.cell (p := p) hl).trans h
/-- A call that leaves new blocks alone, as such a walk asks it. -/
theorem Plain.calls_grown {f : FuncId} {args : Array Value} {W : World} {v : Value} (x : Grown W) (h : Calls Tryz.prog f args x.w fun e w' => e = .returned v ∧ Below x.w.heap.size x.w w') :
    Calls Tryz.prog f args x.w fun e w'' => e = .returned v ∧ ∃ y : Grown W, w'' = y.w :=
  h.mono fun e w' ⟨h1, h2⟩ => ⟨h1, ⟨w', x.ok.trans (h2.mono x.ok.size)⟩, rfl⟩
end Go.Proofs.YtakalfckhailjaaGreat

