/- A digest as its bytes, by the program: that there are 32 of them. -/
import Derived.Test.YtnokbnoncdebmaaShaT
import Derived.Test.YtnokbnoncdebmaaDig
import Derived.Deep.RegionHeld3
import Derived.Laws.ResultCell
namespace Go.Proofs.Ytnokbnoncdebmaa
open Go.RowKit Plain
set_option linter.unusedVariables false

namespace Plain
/-- Thirty-two bytes. -/
def Key (xs : List Int) : Prop := xs.length = 32 ∧ ∀ x ∈ xs, 0 ≤ x ∧ x < 256
def keyC (xs : List Int) : Array Value := (xs.map (Value.int .u8)).toArray
/-- Block M holds them. -/
def KeyB (W : World) (M : Nat) (xs : List Int) : Prop := W.heap[M]? = some (.cells (keyC xs) 46 (0, 0))
theorem keyC_size {xs : List Int} (h : Key xs) : (keyC xs).size = 32 := by simp [keyC, h.1]
theorem keyC_one (xs : List Int) : (keyC xs).all (·.oneCell') = true := by simp [keyC]; intro i hi; rfl
def zeroK : List Int := List.replicate 32 0
theorem zeroK_key : Key zeroK := ⟨by simp [zeroK], fun x hx => by rw [List.eq_of_mem_replicate hx]; decide⟩
theorem Key.set {xs : List Int} (h : Key xs) (i : Nat) (y : Int) (h0 : 0 ≤ y) (h1 : y < 256) : Key (xs.set i y) := ⟨by rw [List.length_set]; exact h.1, fun x hx => by
  rcases List.mem_or_eq_of_mem_set hx with h2 | h2
  · exact h.2 x h2
  · rw [h2]; exact ⟨h0, h1⟩⟩
theorem KeyB.lt {W : World} {M : Nat} {xs : List Int} (h : KeyB W M xs) : M < W.heap.size := (Array.getElem?_eq_some_iff.1 h).1
theorem KeyB.below {W W' : World} {M B : Nat} {xs : List Int} (h : KeyB W M xs) (hb : Below B W W') (hB : M < B) : KeyB W' M xs := (hb.block M hB).trans h
theorem KeyB.cell {W : World} {M : Nat} {xs : List Int} (h : KeyB W M xs) (i : Nat) (hi : i < xs.length) : W.cell? ⟨M, i, none⟩ = some (.int .u8 xs[i]) := by
  rw [cell_of_row W M i _ _ _ h]
  simp [keyC, hi]
theorem KeyB.frozen {W : World} {M : Nat} {xs : List Int} (h : KeyB W M xs) (i : Nat) : W.frozen? ⟨M, i, none⟩ = false := frozen_of_row W M i _ _ h
theorem KeyB.set {W : World} {M : Nat} {xs : List Int} (h : KeyB W M xs) (i : Nat) (y : Int) : KeyB (W.setCell ⟨M, i, none⟩ (.int .u8 y)) M (xs.set i y) := by
  have := Go.heap_setCell_same W M i _ _ (.int .u8 y) h
  unfold KeyB keyC at *
  rw [this, List.map_set]
  simp
theorem KeyB.far {W : World} {M b i : Nat} {xs : List Int} (h : KeyB W M xs) (hne : b ≠ M) (u : Value) : KeyB (W.setCell ⟨b, i, none⟩ u) M xs := (Go.heap_setCell_other W ⟨b, i, none⟩ M u (fun e => hne e.symm)).trans h
theorem u8_range (x : Int) : 0 ≤ IntKind.u8.wrap x ∧ IntKind.u8.wrap x < 256 := by
  simp [IntKind.wrap, IntKind.bits, IntKind.signed]
  omega
end Plain

theorem zeroK_cells : (#[.int .u8 0, .int .u8 0, .int .u8 0, .int .u8 0, .int .u8 0, .int .u8 0, .int .u8 0, .int .u8 0, .int .u8 0, .int .u8 0, .int .u8 0, .int .u8 0, .int .u8 0, .int .u8 0, .int .u8 0, .int .u8 0, .int .u8 0, .int .u8 0, .int .u8 0, .int .u8 0, .int .u8 0, .int .u8 0, .int .u8 0, .int .u8 0, .int .u8 0, .int .u8 0, .int .u8 0, .int .u8 0, .int .u8 0, .int .u8 0, .int .u8 0, .int .u8 0] : Array Value) = keyC zeroK := by kernel_rfl
theorem infoK : (Try.prog.info? 46).map (·.size) = some 32 := by kernel_rfl

theorem results_cell_tmp_row {P : Program} {fn : Func} {p u : Tmp} {ty : TypeId} (h : fn.results = #[.cell p ty, .tmp u]) (tmps : Array Value) (w : World) (g : Nat) (t : TypeId) (cs : Array Value) (fr : Nat × Nat) (d : TypeDesc)
    (hp : tmps.getD p undef = .pointer (some ⟨g, 0, none⟩)) (hg : w.heap[g]? = some (.cells cs t fr))
    (hu : P.underlying ty = some d) (hd : (match d with | .struct _ | .array _ _ => true | _ => false) = true) (hi : (P.info? ty).map (·.size) = some cs.size) :
    (results fn tmps).run P w = .ok (.tuple #[.agg cs, tmps.getD u undef]) w := by
  rw [results_cell_tmp h, hp]
  simp [asAddr, run_loadVar_row w g t ty cs fr d hg hu hd hi, Result.andThen]

set_option maxRecDepth 10000 in
set_option maxHeartbeats 4000000 in
theorem keyOf_calls (d : ByteArray) (w : World) (hd : d.size ≤ 1000000000000) :
    Calls Try.prog 28 #[.string d] w fun e w' => ∃ xs, e = .returned (.tuple #[.agg (keyC xs), .bool (digB d)]) ∧ Key xs ∧ Below w.heap.size w w' := by
  have HD := hide (fun W => impl_DigestOk d W hd)
  obtain ⟨W0, hW0⟩ : ∃ W0, W0 = (w.alloc (.cells #[.int .u8 0, .int .u8 0, .int .u8 0, .int .u8 0, .int .u8 0, .int .u8 0, .int .u8 0, .int .u8 0, .int .u8 0, .int .u8 0, .int .u8 0, .int .u8 0, .int .u8 0, .int .u8 0, .int .u8 0, .int .u8 0, .int .u8 0, .int .u8 0, .int .u8 0, .int .u8 0, .int .u8 0, .int .u8 0, .int .u8 0, .int .u8 0, .int .u8 0, .int .u8 0, .int .u8 0, .int .u8 0, .int .u8 0, .int .u8 0, .int .u8 0, .int .u8 0] 46)).alloc (.cells #[.int .u8 0, .int .u8 0, .int .u8 0, .int .u8 0, .int .u8 0, .int .u8 0, .int .u8 0, .int .u8 0, .int .u8 0, .int .u8 0, .int .u8 0, .int .u8 0, .int .u8 0, .int .u8 0, .int .u8 0, .int .u8 0, .int .u8 0, .int .u8 0, .int .u8 0, .int .u8 0, .int .u8 0, .int .u8 0, .int .u8 0, .int .u8 0, .int .u8 0, .int .u8 0, .int .u8 0, .int .u8 0, .int .u8 0, .int .u8 0, .int .u8 0, .int .u8 0] 46) := ⟨_, rfl⟩
  have HB0 := hide (show Below w.heap.size w W0 from by rw [hW0]; exact ((Below.refl _ _).alloc (Nat.le_refl _) _).alloc (by simp) _)
  have hz0 : w.heap.size + 1 < W0.heap.size := by rw [hW0]; simp
  have HM1 := hide (show KeyB W0 (w.heap.size + 1) zeroK from by
    unfold KeyB
    rw [hW0, ← zeroK_cells]
    exact heap_alloc2_new _ _ _)
  have HM0 := hide (show KeyB W0 w.heap.size zeroK from by
    unfold KeyB
    rw [hW0, ← zeroK_cells, heap_alloc_old _ _ (by simp)]
    exact heap_alloc_new _ _)
  have HW0 := hide hW0.symm
  clear hW0
  have HIK := hide (fun (xs : List Int) (h : Key xs) => (show (Try.prog.info? 46).map (·.size) = some (keyC xs).size from by rw [keyC_size h]; exact infoK))
  cases hb : digB d with
  | false =>
    rw [hb] at HD
    clear hb
    have HI := hide (unhide HIK zeroK zeroK_key)
    go_enter Try.func28, Try.ntmps28
    go_wp2_with fail
    rw [unhide HW0]
    refine (unhide HD _).mono ?_
    rintro e w1 ⟨rfl, rfl⟩
    go_wp2_with (first
      | (refine wpList_load_row rfl 46 (.tmp 4) rfl (w.heap.size + 1) rfl 46 (keyC zeroK) (0, 0) _ (unhide HM1) Try.underlying46 rfl (unhide HI) ?_)
      | (refine wpList_store_any rfl 46 (.tmp 2) (.tmp 10) rfl w.heap.size (keyC zeroK) rfl rfl 46 _ (unhide HM0) (unhide HI) rfl (keyC_one _) ?_; intro w3 hrow3 hgr3 hsz3))
    have HB3 := hide ((unhide HB0).trans ((Below.refl _ _).grown hgr3 (by omega) (fun i hi => by simp at hi; omega)))
    have HR3 := hide hrow3
    clear hgr3 hsz3 hrow3
    go_wp2_with fail
    exact bodyPost_ret (v := .tuple #[.agg (keyC zeroK), .bool false]) (results_cell_tmp_row (fn := Try.f28) (p := 2) (u := 3) (ty := 46) (by kernel_rfl) _ _ w.heap.size _ _ (0, 0) _ rfl (unhide HR3) Try.underlying46 rfl (unhide HI)) rfl ⟨zeroK, rfl, zeroK_key, unhide HB3⟩
  | true =>
    rw [hb] at HD
    have h71 : d.size = 71 := by
      by_cases h1 : d.size = 71
      · exact h1
      · rw [digB_size h1] at hb; cases hb
    have hsl : (7 : Int) ≤ (d.size : Int) := by omega
    obtain ⟨t, ht⟩ : ∃ t, t = d.extract 7 71 := ⟨_, rfl⟩
    have htz : t.size = 64 := by rw [ht, ByteArray.size_extract]; omega
    have HT := hide ht
    clear hb ht hd
    go_enter Try.func28, Try.ntmps28
    go_wp2_with fail
    rw [unhide HW0]
    refine (unhide HD _).mono ?_
    rintro e w1 ⟨rfl, rfl⟩
    go_wp2_with fail
    rw [← unhide HT]
    go_loopw [13] (fun s13 wr => ∃ (i : Nat) (xs : List Int), s13 = .int .i64 i ∧ i ≤ 32 ∧ w.heap.size + 1 < wr.heap.size ∧ Hid (Key xs) ∧ Hid (KeyB wr (w.heap.size + 1) xs) ∧ Hid (KeyB wr w.heap.size zeroK) ∧ Hid (Below w.heap.size w wr)) (fun s13 _ => 32 - (intOf s13).toNat)
    case atStart => exact ⟨0, zeroK, rfl, by omega, hz0, hide zeroK_key, HM1, HM0, HB0⟩
    case round =>
      clear HM1 HM0 HB0 hz0 HW0
      obtain ⟨i, xs, rfl, hi, hz, HX, HM1, HM0, HB⟩ := hrel
      by_cases hi32 : i < 32
      · have hxl : i < xs.length := by rw [(unhide HX).1]; exact hi32
        have hc := (unhide HM1).cell i hxl
        have hf := (unhide HM1).frozen i
        obtain ⟨k2, hk2⟩ : ∃ k2 : Nat, 2 * i = k2 := ⟨_, rfl⟩
        have e2 : 2 * (i : Int) = (k2 : Int) := by omega
        have b2 : k2 < t.size := by omega
        obtain ⟨k3, hk3⟩ : ∃ k3 : Nat, k2 + 1 = k3 := ⟨_, rfl⟩
        have e3 : (k2 : Int) + 1 = (k3 : Int) := by omega
        have b3 : k3 < t.size := by omega
        have c2 : (k2 : Int) < (t.size : Int) := by omega
        have c3 : (k3 : Int) < (t.size : Int) := by omega
        have c4 : IntKind.i64.wrap (k2 : Int) = (k2 : Int) := by rw [IntKind.wrap_i64]; omega
        have c5 : IntKind.i64.wrap (k3 : Int) = (k3 : Int) := by rw [IntKind.wrap_i64]; omega
        obtain ⟨q2, hq2, q2b⟩ : ∃ q2 : Nat, t[k2].toNat = q2 ∧ q2 < 256 := ⟨_, rfl, t[k2].toNat_lt⟩
        obtain ⟨q3, hq3, q3b⟩ : ∃ q3 : Nat, t[k3].toNat = q3 ∧ q3 < 256 := ⟨_, rfl, t[k3].toNat_lt⟩
        have x2 := hexI_bounds (q2 : Int)
        have x3 := hexI_bounds (q3 : Int)
        have HV2 := hide (fun W => impl_hexValue (q2 : Int) W (by omega) (by omega))
        have HV3 := hide (fun W => impl_hexValue (q3 : Int) W (by omega) (by omega))
        generalize hexI (q2 : Int) = y2 at HV2 x2
        generalize hexI (q3 : Int) = y3 at HV3 x3
        clear hk2 hk3
        obtain ⟨y4, e4⟩ : ∃ y4, IntKind.i64.wrap (y2 * 16) = y4 := ⟨_, rfl⟩
        obtain ⟨y5, e5⟩ : ∃ y5, bits BinOp.or IntKind.i64 y4 y3 = y5 := ⟨_, rfl⟩
        obtain ⟨z, e6, hzb⟩ : ∃ z, IntKind.u8.wrap y5 = z ∧ 0 ≤ z ∧ z < 256 := ⟨_, rfl, u8_range _⟩
        have e7 : y5 % 256 = z := by rw [← e6]; simp [IntKind.wrap, IntKind.bits, IntKind.signed]
        have i0 : (0 : Int) ≤ (i : Int) := by omega
        have i1 : (i : Int) < 32 := by omega
        generalize xs[i] = old at hc
        go_wp2_with fail
        go_region_held3 (fun _ => True) (exact trivial) (first
          | (go_at_call_of 33 q2; refine (unhide HV2 _).mono ?_; rintro e w1 ⟨rfl, rfl⟩)
          | (go_at_call_of 33 q3; refine (unhide HV3 _).mono ?_; rintro e w1 ⟨rfl, rfl⟩))
        all_goals
          go_wp2_with fail
          go_roundw
          case rel => exact ⟨i + 1, xs.set i z, by go_num, by omega, by simpa using hz, hide ((unhide HX).set i z hzb.1 hzb.2), hide (show KeyB (wr.drew.setCell ⟨w.heap.size + 1, i, none⟩ (.int .u8 z)) (w.heap.size + 1) (xs.set i z) from KeyB.set (W := wr.drew) (unhide HM1) i z), hide (show KeyB (wr.drew.setCell ⟨w.heap.size + 1, i, none⟩ (.int .u8 z)) w.heap.size zeroK from KeyB.far (W := wr.drew) (unhide HM0) (by omega) _), hide ((unhide HB).drew.setCell (p := ⟨w.heap.size + 1, i, none⟩) (by simp) _)⟩
          case measure => simp [intOf]; omega
      · obtain rfl : i = 32 := by omega
        have HI := hide (unhide HIK xs (unhide HX))
        have HSZ := hide (show (keyC zeroK).size = (keyC xs).size from by rw [keyC_size zeroK_key, keyC_size (unhide HX)])
        go_wp2_with (first
          | (refine wpList_load_row rfl 46 (.tmp 4) rfl (w.heap.size + 1) rfl 46 (keyC xs) (0, 0) _ (unhide HM1) Try.underlying46 rfl (unhide HI) ?_)
          | (refine wpList_store_any rfl 46 (.tmp 2) (.tmp 33) rfl w.heap.size (keyC xs) rfl rfl 46 _ (unhide HM0) (unhide HI) (unhide HSZ) (keyC_one _) ?_; intro w3 hrow3 hgr3 hsz3))
        have HB3 := hide ((unhide HB).trans ((Below.refl _ _).grown hgr3 (by omega) (fun i hi => by simp at hi; omega)))
        have HR3 := hide hrow3
        clear hgr3 hsz3 hrow3
        go_wp2_with fail
        exact bodyPost_ret (v := .tuple #[.agg (keyC xs), .bool true]) (results_cell_tmp_row (fn := Try.f28) (p := 2) (u := 3) (ty := 46) (by kernel_rfl) _ _ w.heap.size _ _ (0, 0) _ rfl (unhide HR3) Try.underlying46 rfl (unhide HI)) rfl ⟨xs, rfl, unhide HX, unhide HB3⟩
end Go.Proofs.Ytnokbnoncdebmaa
