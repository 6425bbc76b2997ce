/- Texts of one kind, put together. -/
import Derived.Test.YtldgkpnlplfopaaGreatDoorMem
import Derived.Lib.Bytealg
import Derived.Test.YtldgkpnlplfopaaGreatDoorShaT
import Derived.Deep.RegionHeld3
import Derived.Laws.ResultCell

/- Numbers in bytes: PutNumber of both programs by its contract. -/
namespace Go.Proofs.YtldgkpnlplfopaaGreatDoor
open Go.RowKit Plain
set_option linter.unusedVariables false











end Go.Proofs.YtldgkpnlplfopaaGreatDoor


/- Digits of 16: what the two programs tell of one byte; what a digest is; Nibble. -/
namespace Go.Proofs.YtldgkpnlplfopaaGreatDoor
open Go.RowKit Plain
set_option linter.unusedVariables false

namespace Plain
def hexList : List UInt8 := [48, 49, 50, 51, 52, 53, 54, 55, 56, 57, 97, 98, 99, 100, 101, 102]
def hexI (c : Int) : Int := if 48 ≤ c ∧ c ≤ 57 then c - 48 else if 97 ≤ c ∧ c ≤ 102 then c - 87 else -1

theorem hex_all : ∀ n : Fin 256, Lib.indexByte hexList n.val.toUInt8 = hexI n.val := by decide +kernel

theorem hex_index (c : Int) (h0 : 0 ≤ c) (h1 : c < 256) : Lib.indexByte hexList c.toNat.toUInt8 = hexI c := by
  have h := hex_all ⟨c.toNat, by omega⟩
  simp only at h
  rw [h]
  congr 1
  omega

theorem hexI_bounds (c : Int) : -1 ≤ hexI c ∧ hexI c ≤ 15 := by unfold hexI; split <;> (try split) <;> omega
end Plain

theorem call_index (s : ByteArray) (c : Int) (w : World) : (callFunc 93 #[.string s, .int .u8 c]).run Tryz.prog w = .ok (.value (.int .i64 (Lib.indexByte s.data.toList c.toNat.toUInt8))) w := by
  rw [run_callFunc_extern Tryz.func93 (by kernel_rfl) (by kernel_rfl) (by kernel_rfl) (e := Extern.BytealgIndexByte.indexByte) (by kernel_rfl), Lib.run_indexByteString]
  rfl

theorem impl_hexValue (c : Int) (w : World) (h0 : 0 ≤ c) (h1 : c < 256) :
    Calls Tryz.prog 52 #[.int .u8 c] w fun e w' => e = .returned (.int .i64 (hexI c)) ∧ w = w' := by
  have hcall : ∀ w, (callFunc 93 #[.string { data := #[48, 49, 50, 51, 52, 53, 54, 55, 56, 57, 97, 98, 99, 100, 101, 102] }, .int .u8 c]).run Tryz.prog w = .ok (.value (.int .i64 (hexI c))) w := by
    intro w
    rw [call_index, ← hex_index c h0 h1]
    rfl
  have hb := hexI_bounds c
  go_enter Tryz.func52, Tryz.ntmps52
  go_wp2
  go_ret
  exact ⟨rfl, rfl⟩

theorem spec_l1Hexit (c : Int) (w : World) (h0 : 0 ≤ c) (h1 : c < 256) :
    Calls Tryz.prog 55 #[.int .u8 c] w fun e w' => e = .returned (.int .i64 (hexI c)) ∧ w = w' := by
  unfold hexI
  by_cases h2 : 48 ≤ c ∧ c ≤ 57
  · rw [if_pos h2]
    obtain ⟨h3, h4⟩ := h2
    go_enter Tryz.func55, Tryz.ntmps55
    go_wp2
    go_ret
    exact ⟨rfl, rfl⟩
  · rw [if_neg h2]
    by_cases h5 : 97 ≤ c ∧ c ≤ 102
    · rw [if_pos h5]
      obtain ⟨h3, h4⟩ := h5
      go_enter Tryz.func55, Tryz.ntmps55
      go_wp2
      go_ret
      exact ⟨by go_num, rfl⟩
    · rw [if_neg h5]
      by_cases h6 : c < 48
      · go_enter Tryz.func55, Tryz.ntmps55
        go_wp2
        go_ret
        exact ⟨rfl, rfl⟩
      · have h7 : 57 < c := by omega
        by_cases h8 : c < 97
        · go_enter Tryz.func55, Tryz.ntmps55
          go_wp2
          go_ret
          exact ⟨rfl, rfl⟩
        · have h9 : 102 < c := by omega
          go_enter Tryz.func55, Tryz.ntmps55
          go_wp2
          go_ret
          exact ⟨rfl, rfl⟩
end Go.Proofs.YtldgkpnlplfopaaGreatDoor


/- What a digest is: DigestOk and Nibble of both programs by their contracts. -/
namespace Go.Proofs.YtldgkpnlplfopaaGreatDoor
open Go.RowKit Plain
set_option linter.unusedVariables false

namespace Plain
def hexFrom (t : ByteArray) (k : Nat) : Bool := (t.data.toList.drop k).all fun c => decide (0 ≤ hexI c.toNat)

theorem hexFrom_step (t : ByteArray) (k : Nat) (h : k < t.size) : hexFrom t k = (decide (0 ≤ hexI t[k].toNat) && hexFrom t (k + 1)) := by
  unfold hexFrom
  rw [List.drop_eq_getElem_cons (by simpa using h)]
  rfl

theorem hexFrom_end (t : ByteArray) (k : Nat) (h : t.size ≤ k) : hexFrom t k = true := by
  unfold hexFrom
  rw [List.drop_of_length_le (by simpa using h)]
  rfl

theorem hexFrom_extract (s : ByteArray) (h : 7 ≤ s.size) : hexFrom (s.extract 7 s.size) 0 = hexFrom s 7 := by
  unfold hexFrom
  congr 1
  rw [ByteArray.data_extract, Array.toList_extract]
  simp [List.extract_eq_take_drop]
  exact List.take_of_length_le (by simp)

def shaL : List UInt8 := [115, 104, 97, 50, 53, 54, 58]
def digB (s : ByteArray) : Bool := decide (s.size = 71) && ((s.extract 0 7).toList == shaL) && hexFrom s 7

theorem digB_size {s : ByteArray} (h : ¬ s.size = 71) : digB s = false := by unfold digB; simp [h]
theorem digB_head {s : ByteArray} (h : ((s.extract 0 7).toList == shaL) = false) : digB s = false := by unfold digB; rw [h]; simp
theorem digB_rest {s : ByteArray} (h1 : s.size = 71) (h : ((s.extract 0 7).toList == shaL) = true) : digB s = hexFrom s 7 := by unfold digB; rw [h]; simp [h1]
end Plain

set_option maxHeartbeats 1000000 in
theorem spec_DigestOk (s : ByteArray) (w : World) (hs : s.size ≤ 1000000000000) :
    Calls Tryz.prog 35 #[.string s] w fun e w' => e = .returned (.bool (digB s)) ∧ w = w' := by
  by_cases h1 : s.size = 71
  · cases h2 : ((s.extract 0 7).toList == shaL) with
    | false =>
      rw [digB_head h2]
      unfold shaL at h2
      go_enter Tryz.func35, Tryz.ntmps35
      go_wp2
      go_ret
      exact ⟨rfl, rfl⟩
    | true =>
      rw [digB_rest h1 h2]
      unfold shaL at h2
      have hs1 : s.size ≤ 71 := by omega
      have hs2 : 71 ≤ s.size := by omega
      go_enter Tryz.func35, Tryz.ntmps35
      go_wp2_with fail
      go_loop [3] (fun i => ∃ k : Nat, i = .int .i64 k ∧ 7 ≤ k ∧ k ≤ 71 ∧ Hid (hexFrom s k = hexFrom s 7)) (fun i => 71 - (intOf i).toNat)
      case atStart => exact ⟨7, rfl, by omega, by omega, rfl⟩
      case round =>
        obtain ⟨k, rfl, hk7, hk71, hrel⟩ := hrel
        by_cases hlt : k < 71
        · have hlt2 : k < s.size := by omega
          obtain ⟨c, hc⟩ : ∃ c, s[k].toNat = c := ⟨_, rfl⟩
          have hc256 : c < 256 := by rw [← hc]; exact s[k].toNat_lt
          have hst := hexFrom_step s k hlt2
          rw [hc] at hst
          by_cases hneg : hexI c < 0
          · have hres := hide ((unhide hrel).symm.trans (by rw [hst]; simp; intro; omega) : hexFrom s 7 = false)
            clear hst hrel
            go_wp2_with (go_at_call 55; refine (spec_l1Hexit _ _ (by omega) (by omega)).mono ?_; rintro e w' ⟨rfl, rfl⟩)
            go_ret
            exact ⟨by rw [unhide hres]; rfl, rfl⟩
          · have hres := hide ((by rw [hst]; simp; intro; omega : hexFrom s (k + 1) = hexFrom s k).trans (unhide hrel))
            clear hst hrel
            go_wp2_with (go_at_call 55; refine (spec_l1Hexit _ _ (by omega) (by omega)).mono ?_; rintro e w' ⟨rfl, rfl⟩)
            go_round
            case rel => exact ⟨k + 1, by go_num, by omega, by omega, hres⟩
            case measure => simp [intOf]; omega
        · have hres := hide ((unhide hrel).symm.trans (hexFrom_end s k (by omega)))
          clear hrel
          go_wp2
          go_ret
          exact ⟨by rw [unhide hres]; rfl, rfl⟩
  · rw [digB_size h1]
    go_enter Tryz.func35, Tryz.ntmps35
    go_wp2
    go_ret
    exact ⟨rfl, rfl⟩

theorem cut_yes (s : ByteArray) (w : World) (hs : s.size ≤ 1000000000000) (h : 7 ≤ s.size) (h2 : ((s.extract 0 7).toList == [115, 104, 97, 50, 53, 54, 58]) = true) :
    Calls Tryz.prog 70 #[.string s, .string { data := #[115, 104, 97, 50, 53, 54, 58] }] w fun e w' => e = .returned (.tuple #[.string (s.extract 7 s.size), .bool true]) ∧ w = w' := by
  go_enter Tryz.func70, Tryz.ntmps70
  go_wp2
  go_ret2
  exact ⟨rfl, rfl⟩

theorem cut_no (s : ByteArray) (w : World) (hs : s.size ≤ 1000000000000) (h : s.size < 7 ∨ 7 ≤ s.size ∧ ((s.extract 0 7).toList == [115, 104, 97, 50, 53, 54, 58]) = false) :
    Calls Tryz.prog 70 #[.string s, .string { data := #[115, 104, 97, 50, 53, 54, 58] }] w fun e w' => e = .returned (.tuple #[.string s, .bool false]) ∧ w = w' := by
  rcases h with h | ⟨h, h2⟩
  · go_enter Tryz.func70, Tryz.ntmps70
    go_wp2
    go_ret2
    exact ⟨rfl, rfl⟩
  · go_enter Tryz.func70, Tryz.ntmps70
    go_wp2
    go_ret2
    exact ⟨rfl, rfl⟩

set_option maxHeartbeats 1000000 in
theorem impl_DigestOk (s : ByteArray) (w : World) (hs : s.size ≤ 1000000000000) :
    Calls Tryz.prog 58 #[.string s] w fun e w' => e = .returned (.bool (digB s)) ∧ w = w' := by
  by_cases h0 : s.size < 7 ∨ 7 ≤ s.size ∧ ((s.extract 0 7).toList == [115, 104, 97, 50, 53, 54, 58]) = false
  · have hd : digB s = false := by
      rcases h0 with h | h
      · exact digB_size (by omega)
      · exact digB_head h.2
    rw [hd]
    clear hd
    have H0 := hide h0
    clear h0
    go_enter Tryz.func58, Tryz.ntmps58
    go_wp2_with fail
    refine (cut_no s _ hs (unhide H0)).mono ?_
    rintro e w' ⟨rfl, rfl⟩
    go_wp2
    go_ret
    exact ⟨rfl, rfl⟩
  · have h7 : 7 ≤ s.size := by omega
    have h2 : ((s.extract 0 7).toList == [115, 104, 97, 50, 53, 54, 58]) = true := by
      cases h : ((s.extract 0 7).toList == [115, 104, 97, 50, 53, 54, 58]) with
      | true => rfl
      | false => exact absurd (.inr ⟨h7, h⟩) h0
    have H2 := hide h2
    have hsz : (s.extract 7 s.size).size = s.size - 7 := by rw [ByteArray.size_extract]; omega
    clear h0
    by_cases h1 : s.size = 71
    · have hd : digB s = hexFrom (s.extract 7 s.size) 0 := (digB_rest h1 h2).trans (hexFrom_extract s h7).symm
      rw [hd]
      clear hd h2
      have ht64 : (s.extract 7 s.size).size = 64 := by omega
      obtain ⟨t, ht⟩ : ∃ t, s.extract 7 s.size = t := ⟨_, rfl⟩
      have H3 := hide h1
      rw [ht] at ht64 ⊢
      have HT := hide ht
      clear ht hsz h1
      have ht1 : t.size ≤ 64 := by omega
      have ht2 : 64 ≤ t.size := by omega
      go_enter Tryz.func58, Tryz.ntmps58
      go_wp2_with fail
      refine (cut_yes s _ hs h7 (unhide H2)).mono ?_
      rintro e w' ⟨rfl, rfl⟩
      rw [unhide HT]
      go_wp2_with fail
      go_loop [20] (fun i => ∃ k : Nat, i = .int .i64 k ∧ k ≤ 64 ∧ Hid (hexFrom t k = hexFrom t 0)) (fun i => 64 - (intOf i).toNat)
      case atStart => exact ⟨0, rfl, by omega, rfl⟩
      case round =>
        obtain ⟨k, rfl, hk71, hrel⟩ := hrel
        by_cases hlt : k < 64
        · have hlt2 : k < t.size := by omega
          obtain ⟨c, hc⟩ : ∃ c, t[k].toNat = c := ⟨_, rfl⟩
          have hc256 : c < 256 := by rw [← hc]; exact t[k].toNat_lt
          have hst := hexFrom_step t k hlt2
          rw [hc] at hst
          by_cases hneg : hexI c < 0
          · have hres := hide ((unhide hrel).symm.trans (by rw [hst]; simp; intro; omega) : hexFrom t 0 = false)
            clear hst hrel
            go_wp2_with (go_at_call 52; refine (impl_hexValue _ _ (by omega) (by omega)).mono ?_; rintro e w' ⟨rfl, rfl⟩)
            go_ret
            exact ⟨by rw [unhide hres]; rfl, rfl⟩
          · have hres := hide ((by rw [hst]; simp; intro; omega : hexFrom t (k + 1) = hexFrom t k).trans (unhide hrel))
            clear hst hrel
            go_wp2_with (go_at_call 52; refine (impl_hexValue _ _ (by omega) (by omega)).mono ?_; rintro e w' ⟨rfl, rfl⟩)
            go_round
            case rel => exact ⟨k + 1, by go_num, by omega, hres⟩
            case measure => simp [intOf]; omega
        · have hres := hide ((unhide hrel).symm.trans (hexFrom_end t k (by omega)))
          clear hrel
          go_wp2
          go_ret
          exact ⟨by rw [unhide hres]; rfl, rfl⟩
    · rw [digB_size h1]
      have hne : ¬ (s.size - 7 = 64) := by omega
      go_enter Tryz.func58, Tryz.ntmps58
      go_wp2_with fail
      refine (cut_yes s _ hs h7 (unhide H2)).mono ?_
      rintro e w' ⟨rfl, rfl⟩
      go_wp2
      go_ret
      exact ⟨rfl, rfl⟩
end Go.Proofs.YtldgkpnlplfopaaGreatDoor


/- A digest as its bytes, by the program: that there are 32 of them. -/
namespace Go.Proofs.YtldgkpnlplfopaaGreatDoor
open Go.RowKit Plain
set_option linter.unusedVariables false

namespace Plain
/-- Thirty-two bytes. -/
def Key (xs : List Int) : Prop := xs.length = 32 ∧ ∀ x ∈ xs, 0 ≤ x ∧ x < 256
def keyC (xs : List Int) : Array Value := (xs.map (Value.int .u8)).toArray
/-- Block M holds them. -/
def KeyB (W : World) (M : Nat) (xs : List Int) : Prop := W.heap[M]? = some (.cells (keyC xs) 63 (0, 0))
theorem keyC_size {xs : List Int} (h : Key xs) : (keyC xs).size = 32 := by simp [keyC, h.1]
theorem keyC_one (xs : List Int) : (keyC xs).all (·.oneCell') = true := by simp [keyC]; intro i hi; rfl
def zeroK : List Int := List.replicate 32 0
theorem zeroK_key : Key zeroK := ⟨by simp [zeroK], fun x hx => by rw [List.eq_of_mem_replicate hx]; decide⟩
theorem Key.set {xs : List Int} (h : Key xs) (i : Nat) (y : Int) (h0 : 0 ≤ y) (h1 : y < 256) : Key (xs.set i y) := ⟨by rw [List.length_set]; exact h.1, fun x hx => by
  rcases List.mem_or_eq_of_mem_set hx with h2 | h2
  · exact h.2 x h2
  · rw [h2]; exact ⟨h0, h1⟩⟩
theorem KeyB.lt {W : World} {M : Nat} {xs : List Int} (h : KeyB W M xs) : M < W.heap.size := (Array.getElem?_eq_some_iff.1 h).1
theorem KeyB.below {W W' : World} {M B : Nat} {xs : List Int} (h : KeyB W M xs) (hb : Below B W W') (hB : M < B) : KeyB W' M xs := (hb.block M hB).trans h
theorem KeyB.cell {W : World} {M : Nat} {xs : List Int} (h : KeyB W M xs) (i : Nat) (hi : i < xs.length) : W.cell? ⟨M, i, none⟩ = some (.int .u8 xs[i]) := by
  rw [cell_of_row W M i _ _ _ h]
  simp [keyC, hi]
theorem KeyB.frozen {W : World} {M : Nat} {xs : List Int} (h : KeyB W M xs) (i : Nat) : W.frozen? ⟨M, i, none⟩ = false := frozen_of_row W M i _ _ h
theorem KeyB.set {W : World} {M : Nat} {xs : List Int} (h : KeyB W M xs) (i : Nat) (y : Int) : KeyB (W.setCell ⟨M, i, none⟩ (.int .u8 y)) M (xs.set i y) := by
  have := Go.heap_setCell_same W M i _ _ (.int .u8 y) h
  unfold KeyB keyC at *
  rw [this, List.map_set]
  simp
theorem KeyB.far {W : World} {M b i : Nat} {xs : List Int} (h : KeyB W M xs) (hne : b ≠ M) (u : Value) : KeyB (W.setCell ⟨b, i, none⟩ u) M xs := (Go.heap_setCell_other W ⟨b, i, none⟩ M u (fun e => hne e.symm)).trans h
theorem u8_range (x : Int) : 0 ≤ IntKind.u8.wrap x ∧ IntKind.u8.wrap x < 256 := by
  simp [IntKind.wrap, IntKind.bits, IntKind.signed]
  omega
end Plain

theorem zeroK_cells : (#[.int .u8 0, .int .u8 0, .int .u8 0, .int .u8 0, .int .u8 0, .int .u8 0, .int .u8 0, .int .u8 0, .int .u8 0, .int .u8 0, .int .u8 0, .int .u8 0, .int .u8 0, .int .u8 0, .int .u8 0, .int .u8 0, .int .u8 0, .int .u8 0, .int .u8 0, .int .u8 0, .int .u8 0, .int .u8 0, .int .u8 0, .int .u8 0, .int .u8 0, .int .u8 0, .int .u8 0, .int .u8 0, .int .u8 0, .int .u8 0, .int .u8 0, .int .u8 0] : Array Value) = keyC zeroK := by kernel_rfl
theorem infoK : (Tryz.prog.info? 63).map (·.size) = some 32 := by kernel_rfl

theorem results_cell_tmp_row {P : Program} {fn : Func} {p u : Tmp} {ty : TypeId} (h : fn.results = #[.cell p ty, .tmp u]) (tmps : Array Value) (w : World) (g : Nat) (t : TypeId) (cs : Array Value) (fr : Nat × Nat) (d : TypeDesc)
    (hp : tmps.getD p undef = .pointer (some ⟨g, 0, none⟩)) (hg : w.heap[g]? = some (.cells cs t fr))
    (hu : P.underlying ty = some d) (hd : (match d with | .struct _ | .array _ _ => true | _ => false) = true) (hi : (P.info? ty).map (·.size) = some cs.size) :
    (results fn tmps).run P w = .ok (.tuple #[.agg cs, tmps.getD u undef]) w := by
  rw [results_cell_tmp h, hp]
  simp [asAddr, run_loadVar_row w g t ty cs fr d hg hu hd hi, Result.andThen]

set_option maxRecDepth 10000 in
set_option maxHeartbeats 4000000 in
theorem keyOf_calls (d : ByteArray) (w : World) (hd : d.size ≤ 1000000000000) :
    Calls Tryz.prog 38 #[.string d] w fun e w' => ∃ xs, e = .returned (.tuple #[.agg (keyC xs), .bool (digB d)]) ∧ Key xs ∧ Below w.heap.size w w' := by
  have HD := hide (fun W => impl_DigestOk d W hd)
  obtain ⟨W0, hW0⟩ : ∃ W0, W0 = (w.alloc (.cells #[.int .u8 0, .int .u8 0, .int .u8 0, .int .u8 0, .int .u8 0, .int .u8 0, .int .u8 0, .int .u8 0, .int .u8 0, .int .u8 0, .int .u8 0, .int .u8 0, .int .u8 0, .int .u8 0, .int .u8 0, .int .u8 0, .int .u8 0, .int .u8 0, .int .u8 0, .int .u8 0, .int .u8 0, .int .u8 0, .int .u8 0, .int .u8 0, .int .u8 0, .int .u8 0, .int .u8 0, .int .u8 0, .int .u8 0, .int .u8 0, .int .u8 0, .int .u8 0] 63)).alloc (.cells #[.int .u8 0, .int .u8 0, .int .u8 0, .int .u8 0, .int .u8 0, .int .u8 0, .int .u8 0, .int .u8 0, .int .u8 0, .int .u8 0, .int .u8 0, .int .u8 0, .int .u8 0, .int .u8 0, .int .u8 0, .int .u8 0, .int .u8 0, .int .u8 0, .int .u8 0, .int .u8 0, .int .u8 0, .int .u8 0, .int .u8 0, .int .u8 0, .int .u8 0, .int .u8 0, .int .u8 0, .int .u8 0, .int .u8 0, .int .u8 0, .int .u8 0, .int .u8 0] 63) := ⟨_, rfl⟩
  have HB0 := hide (show Below w.heap.size w W0 from by rw [hW0]; exact ((Below.refl _ _).alloc (Nat.le_refl _) _).alloc (by simp) _)
  have hz0 : w.heap.size + 1 < W0.heap.size := by rw [hW0]; simp
  have HM1 := hide (show KeyB W0 (w.heap.size + 1) zeroK from by
    unfold KeyB
    rw [hW0, ← zeroK_cells]
    exact heap_alloc2_new _ _ _)
  have HM0 := hide (show KeyB W0 w.heap.size zeroK from by
    unfold KeyB
    rw [hW0, ← zeroK_cells, heap_alloc_old _ _ (by simp)]
    exact heap_alloc_new _ _)
  have HW0 := hide hW0.symm
  clear hW0
  have HIK := hide (fun (xs : List Int) (h : Key xs) => (show (Tryz.prog.info? 63).map (·.size) = some (keyC xs).size from by rw [keyC_size h]; exact infoK))
  cases hb : digB d with
  | false =>
    rw [hb] at HD
    clear hb
    have HI := hide (unhide HIK zeroK zeroK_key)
    go_enter Tryz.func38, Tryz.ntmps38
    go_wp2_with fail
    rw [unhide HW0]
    refine (unhide HD _).mono ?_
    rintro e w1 ⟨rfl, rfl⟩
    go_wp2_with (first
      | (refine wpList_load_row rfl 63 (.tmp 4) rfl (w.heap.size + 1) rfl 63 (keyC zeroK) (0, 0) _ (unhide HM1) Tryz.underlying63 rfl (unhide HI) ?_)
      | (refine wpList_store_any rfl 63 (.tmp 2) (.tmp 10) rfl w.heap.size (keyC zeroK) rfl rfl 63 _ (unhide HM0) (unhide HI) rfl (keyC_one _) ?_; intro w3 hrow3 hgr3 hsz3))
    have HB3 := hide ((unhide HB0).trans ((Below.refl _ _).grown hgr3 (by omega) (fun i hi => by simp at hi; omega)))
    have HR3 := hide hrow3
    clear hgr3 hsz3 hrow3
    go_wp2_with fail
    exact bodyPost_ret (v := .tuple #[.agg (keyC zeroK), .bool false]) (results_cell_tmp_row (fn := Tryz.f38) (p := 2) (u := 3) (ty := 63) (by kernel_rfl) _ _ w.heap.size _ _ (0, 0) _ rfl (unhide HR3) Tryz.underlying63 rfl (unhide HI)) rfl ⟨zeroK, rfl, zeroK_key, unhide HB3⟩
  | true =>
    rw [hb] at HD
    have h71 : d.size = 71 := by
      by_cases h1 : d.size = 71
      · exact h1
      · rw [digB_size h1] at hb; cases hb
    have hsl : (7 : Int) ≤ (d.size : Int) := by omega
    obtain ⟨t, ht⟩ : ∃ t, t = d.extract 7 71 := ⟨_, rfl⟩
    have htz : t.size = 64 := by rw [ht, ByteArray.size_extract]; omega
    have HT := hide ht
    clear hb ht hd
    go_enter Tryz.func38, Tryz.ntmps38
    go_wp2_with fail
    rw [unhide HW0]
    refine (unhide HD _).mono ?_
    rintro e w1 ⟨rfl, rfl⟩
    go_wp2_with fail
    rw [← unhide HT]
    go_loopw [13] (fun s13 wr => ∃ (i : Nat) (xs : List Int), s13 = .int .i64 i ∧ i ≤ 32 ∧ w.heap.size + 1 < wr.heap.size ∧ Hid (Key xs) ∧ Hid (KeyB wr (w.heap.size + 1) xs) ∧ Hid (KeyB wr w.heap.size zeroK) ∧ Hid (Below w.heap.size w wr)) (fun s13 _ => 32 - (intOf s13).toNat)
    case atStart => exact ⟨0, zeroK, rfl, by omega, hz0, hide zeroK_key, HM1, HM0, HB0⟩
    case round =>
      clear HM1 HM0 HB0 hz0 HW0
      obtain ⟨i, xs, rfl, hi, hz, HX, HM1, HM0, HB⟩ := hrel
      by_cases hi32 : i < 32
      · have hxl : i < xs.length := by rw [(unhide HX).1]; exact hi32
        have hc := (unhide HM1).cell i hxl
        have hf := (unhide HM1).frozen i
        obtain ⟨k2, hk2⟩ : ∃ k2 : Nat, 2 * i = k2 := ⟨_, rfl⟩
        have e2 : 2 * (i : Int) = (k2 : Int) := by omega
        have b2 : k2 < t.size := by omega
        obtain ⟨k3, hk3⟩ : ∃ k3 : Nat, k2 + 1 = k3 := ⟨_, rfl⟩
        have e3 : (k2 : Int) + 1 = (k3 : Int) := by omega
        have b3 : k3 < t.size := by omega
        have c2 : (k2 : Int) < (t.size : Int) := by omega
        have c3 : (k3 : Int) < (t.size : Int) := by omega
        have c4 : IntKind.i64.wrap (k2 : Int) = (k2 : Int) := by rw [IntKind.wrap_i64]; omega
        have c5 : IntKind.i64.wrap (k3 : Int) = (k3 : Int) := by rw [IntKind.wrap_i64]; omega
        obtain ⟨q2, hq2, q2b⟩ : ∃ q2 : Nat, t[k2].toNat = q2 ∧ q2 < 256 := ⟨_, rfl, t[k2].toNat_lt⟩
        obtain ⟨q3, hq3, q3b⟩ : ∃ q3 : Nat, t[k3].toNat = q3 ∧ q3 < 256 := ⟨_, rfl, t[k3].toNat_lt⟩
        have x2 := hexI_bounds (q2 : Int)
        have x3 := hexI_bounds (q3 : Int)
        have HV2 := hide (fun W => impl_hexValue (q2 : Int) W (by omega) (by omega))
        have HV3 := hide (fun W => impl_hexValue (q3 : Int) W (by omega) (by omega))
        generalize hexI (q2 : Int) = y2 at HV2 x2
        generalize hexI (q3 : Int) = y3 at HV3 x3
        clear hk2 hk3
        obtain ⟨y4, e4⟩ : ∃ y4, IntKind.i64.wrap (y2 * 16) = y4 := ⟨_, rfl⟩
        obtain ⟨y5, e5⟩ : ∃ y5, bits BinOp.or IntKind.i64 y4 y3 = y5 := ⟨_, rfl⟩
        obtain ⟨z, e6, hzb⟩ : ∃ z, IntKind.u8.wrap y5 = z ∧ 0 ≤ z ∧ z < 256 := ⟨_, rfl, u8_range _⟩
        have e7 : y5 % 256 = z := by rw [← e6]; simp [IntKind.wrap, IntKind.bits, IntKind.signed]
        have i0 : (0 : Int) ≤ (i : Int) := by omega
        have i1 : (i : Int) < 32 := by omega
        generalize xs[i] = old at hc
        go_wp2_with fail
        go_region_held3 (fun _ => True) (exact trivial) (first
          | (go_at_call_of 52 q2; refine (unhide HV2 _).mono ?_; rintro e w1 ⟨rfl, rfl⟩)
          | (go_at_call_of 52 q3; refine (unhide HV3 _).mono ?_; rintro e w1 ⟨rfl, rfl⟩))
        all_goals
          go_wp2_with fail
          go_roundw
          case rel => exact ⟨i + 1, xs.set i z, by go_num, by omega, by simpa using hz, hide ((unhide HX).set i z hzb.1 hzb.2), hide (show KeyB (wr.drew.setCell ⟨w.heap.size + 1, i, none⟩ (.int .u8 z)) (w.heap.size + 1) (xs.set i z) from KeyB.set (W := wr.drew) (unhide HM1) i z), hide (show KeyB (wr.drew.setCell ⟨w.heap.size + 1, i, none⟩ (.int .u8 z)) w.heap.size zeroK from KeyB.far (W := wr.drew) (unhide HM0) (by omega) _), hide ((unhide HB).drew.setCell (p := ⟨w.heap.size + 1, i, none⟩) (by simp) _)⟩
          case measure => simp [intOf]; omega
      · obtain rfl : i = 32 := by omega
        have HI := hide (unhide HIK xs (unhide HX))
        have HSZ := hide (show (keyC zeroK).size = (keyC xs).size from by rw [keyC_size zeroK_key, keyC_size (unhide HX)])
        go_wp2_with (first
          | (refine wpList_load_row rfl 63 (.tmp 4) rfl (w.heap.size + 1) rfl 63 (keyC xs) (0, 0) _ (unhide HM1) Tryz.underlying63 rfl (unhide HI) ?_)
          | (refine wpList_store_any rfl 63 (.tmp 2) (.tmp 33) rfl w.heap.size (keyC xs) rfl rfl 63 _ (unhide HM0) (unhide HI) (unhide HSZ) (keyC_one _) ?_; intro w3 hrow3 hgr3 hsz3))
        have HB3 := hide ((unhide HB).trans ((Below.refl _ _).grown hgr3 (by omega) (fun i hi => by simp at hi; omega)))
        have HR3 := hide hrow3
        clear hgr3 hsz3 hrow3
        go_wp2_with fail
        exact bodyPost_ret (v := .tuple #[.agg (keyC xs), .bool true]) (results_cell_tmp_row (fn := Tryz.f38) (p := 2) (u := 3) (ty := 63) (by kernel_rfl) _ _ w.heap.size _ _ (0, 0) _ rfl (unhide HR3) Tryz.underlying63 rfl (unhide HI)) rfl ⟨xs, rfl, unhide HX, unhide HB3⟩
end Go.Proofs.YtldgkpnlplfopaaGreatDoor

