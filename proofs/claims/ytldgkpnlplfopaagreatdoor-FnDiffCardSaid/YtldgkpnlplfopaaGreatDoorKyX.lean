/- The key of a digest, exact. Made by tools/mkkyx.py. -/
import Derived.Test.YtldgkpnlplfopaaGreatDoorKyC
namespace Go.Proofs.YtldgkpnlplfopaaGreatDoor
open Go.RowKit Plain
set_option linter.unusedVariables false

namespace Plain
/-- The bytes of a digest. -/
def kyI (d : ByteArray) : List Int := (List.range 32).map fun i => hexI ((d.data.toList.getD (7 + 2 * i) 0).toNat) * 16 + hexI ((d.data.toList.getD (8 + 2 * i) 0).toNat)
theorem kyI_len (d : ByteArray) : (kyI d).length = 32 := by simp [kyI]
theorem kyI_get (d : ByteArray) (i : Nat) (h : i < 32) : (kyI d).getD i 0 = hexI ((d.data.toList.getD (7 + 2 * i) 0).toNat) * 16 + hexI ((d.data.toList.getD (8 + 2 * i) 0).toNat) := by
  simp [kyI, List.getD, h]
theorem digB_hex {d : ByteArray} (h : digB d = true) (k : Nat) (h1 : 7 ≤ k) (h2 : k < 71) : 0 ≤ hexI ((d.data.toList.getD k 0).toNat) := by
  have hs : d.size = 71 := by
    by_cases q : d.size = 71
    · exact q
    · rw [digB_size q] at h; cases h
  unfold digB at h
  rw [Bool.and_eq_true] at h
  have h3 := h.2
  unfold hexFrom at h3
  rw [List.all_eq_true] at h3
  have hl : k < d.data.toList.length := by simpa using (show k < d.size by omega)
  have := h3 (d.data.toList[k]) (List.mem_drop_iff_getElem.2 ⟨k - 7, by simp at hl ⊢; omega, by congr 1; omega⟩)
  rw [decide_eq_true_eq] at this
  simpa [List.getD, List.getElem?_eq_getElem hl] using this
theorem key_digits (d t : ByteArray) (h : digB d = true) (ht : t = d.extract 7 71) : ∀ i, i < 32 → ∀ (h2 : 2 * i < t.size) (h3 : 2 * i + 1 < t.size), 0 ≤ hexI (t[2 * i].toNat : Int) ∧ 0 ≤ hexI (t[2 * i + 1].toNat : Int) ∧ (kyI d).getD i 0 = hexI (t[2 * i].toNat : Int) * 16 + hexI (t[2 * i + 1].toNat : Int) := by
  intro i hi h2 h3
  subst ht
  have hs : d.size = 71 := by
    by_cases q : d.size = 71
    · exact q
    · rw [digB_size q] at h; cases h
  have g : ∀ j (hj : j < (d.extract 7 71).size), (d.extract 7 71)[j] = d.data.toList.getD (7 + j) 0 := fun j hj => by
    rw [ByteArray.getElem_extract]
    have hj2 : 7 + j < d.data.toList.length := by
      rw [ByteArray.size_extract] at hj
      simpa using (show 7 + j < d.size by omega)
    simp [List.getD, List.getElem?_eq_getElem hj2, ByteArray.getElem_eq_getElem_data]
  rw [g _ h2, g _ h3, kyI_get d i hi, show 7 + (2 * i + 1) = 8 + 2 * i from by omega]
  exact ⟨digB_hex h _ (by omega) (by omega), digB_hex h _ (by omega) (by omega), rfl⟩
theorem or_all : ∀ a b : Fin 16, bits BinOp.or IntKind.i64 (IntKind.i64.wrap ((a.val : Int) * 16)) (b.val : Int) % 256 = (a.val : Int) * 16 + b.val := by decide +kernel
theorem or_digits (a b : Int) (h0 : 0 ≤ a) (h1 : a ≤ 15) (h2 : 0 ≤ b) (h3 : b ≤ 15) : bits BinOp.or IntKind.i64 (IntKind.i64.wrap (a * 16)) b % 256 = a * 16 + b := by
  obtain ⟨m, rfl⟩ := Int.eq_ofNat_of_zero_le h0
  obtain ⟨n, rfl⟩ := Int.eq_ofNat_of_zero_le h2
  exact or_all ⟨m, by omega⟩ ⟨n, by omega⟩
theorem getD_set {xs ys : List Int} {i : Nat} {z : Int} (h : ∀ j, j < i → xs.getD j 0 = ys.getD j 0) (hi : i < xs.length) (hz : z = ys.getD i 0) : ∀ j, j < i + 1 → (xs.set i z).getD j 0 = ys.getD j 0 := by
  intro j hj
  by_cases e : j = i
  · subst e
    rw [← hz]
    simp [List.getD, hi]
  · rw [← h j (by omega)]
    simp [List.getD, List.getElem?_set_ne (show i ≠ j by omega)]
theorem kyI_eq {xs : List Int} {d : ByteArray} (h : xs.length = 32) (hj : ∀ j, j < 32 → xs.getD j 0 = (kyI d).getD j 0) : xs = kyI d := by
  apply List.ext_getElem
  · rw [h, kyI_len]
  · intro i h1 h2
    have := hj i (by omega)
    simpa [List.getD, List.getElem?_eq_getElem h1, List.getElem?_eq_getElem h2] using this
/-- The key of a digest. -/
def kyL (d : ByteArray) : List UInt8 := (kyI d).map fun x => x.toNat.toUInt8
theorem kyL_len (d : ByteArray) : (kyL d).length = 32 := by simp [kyL, kyI_len]
theorem keyC_kyI {d : ByteArray} (h : Key (kyI d)) : keyC (kyI d) = (encK (kyL d)).toArray := by
  unfold keyC encK
  rw [padK_id (kyL_len d)]
  unfold kyL
  rw [List.map_map]
  congr 1
  apply List.map_congr_left
  intro x hx
  have := h.2 x hx
  simp
  omega
end Plain

set_option maxRecDepth 10000 in
set_option maxHeartbeats 4000000 in
theorem keyX_calls (d : ByteArray) (w : World) (hd : d.size ≤ 1000000000000) :
    Calls Tryz.prog 38 #[.string d] w fun e w' => ∃ xs, e = .returned (.tuple #[.agg (keyC xs), .bool (digB d)]) ∧ Key xs ∧ (digB d = true → xs = kyI d) ∧ Below w.heap.size w w' := by
  have HD := hide (fun W => impl_DigestOk d W hd)
  obtain ⟨W0, hW0⟩ : ∃ W0, W0 = (w.alloc (.cells #[.int .u8 0, .int .u8 0, .int .u8 0, .int .u8 0, .int .u8 0, .int .u8 0, .int .u8 0, .int .u8 0, .int .u8 0, .int .u8 0, .int .u8 0, .int .u8 0, .int .u8 0, .int .u8 0, .int .u8 0, .int .u8 0, .int .u8 0, .int .u8 0, .int .u8 0, .int .u8 0, .int .u8 0, .int .u8 0, .int .u8 0, .int .u8 0, .int .u8 0, .int .u8 0, .int .u8 0, .int .u8 0, .int .u8 0, .int .u8 0, .int .u8 0, .int .u8 0] 63)).alloc (.cells #[.int .u8 0, .int .u8 0, .int .u8 0, .int .u8 0, .int .u8 0, .int .u8 0, .int .u8 0, .int .u8 0, .int .u8 0, .int .u8 0, .int .u8 0, .int .u8 0, .int .u8 0, .int .u8 0, .int .u8 0, .int .u8 0, .int .u8 0, .int .u8 0, .int .u8 0, .int .u8 0, .int .u8 0, .int .u8 0, .int .u8 0, .int .u8 0, .int .u8 0, .int .u8 0, .int .u8 0, .int .u8 0, .int .u8 0, .int .u8 0, .int .u8 0, .int .u8 0] 63) := ⟨_, rfl⟩
  have HB0 := hide (show Below w.heap.size w W0 from by rw [hW0]; exact ((Below.refl _ _).alloc (Nat.le_refl _) _).alloc (by simp) _)
  have hz0 : w.heap.size + 1 < W0.heap.size := by rw [hW0]; simp
  have HM1 := hide (show KeyB W0 (w.heap.size + 1) zeroK from by
    unfold KeyB
    rw [hW0, ← zeroK_cells]
    exact heap_alloc2_new _ _ _)
  have HM0 := hide (show KeyB W0 w.heap.size zeroK from by
    unfold KeyB
    rw [hW0, ← zeroK_cells, heap_alloc_old _ _ (by simp)]
    exact heap_alloc_new _ _)
  have HW0 := hide hW0.symm
  clear hW0
  have HIK := hide (fun (xs : List Int) (h : Key xs) => (show (Tryz.prog.info? 63).map (·.size) = some (keyC xs).size from by rw [keyC_size h]; exact infoK))
  cases hb : digB d with
  | false =>
    rw [hb] at HD
    clear hb
    have HI := hide (unhide HIK zeroK zeroK_key)
    go_enter Tryz.func38, Tryz.ntmps38
    go_wp2_with fail
    rw [unhide HW0]
    refine (unhide HD _).mono ?_
    rintro e w1 ⟨rfl, rfl⟩
    go_wp2_with (first
      | (refine wpList_load_row rfl 63 (.tmp 4) rfl (w.heap.size + 1) rfl 63 (keyC zeroK) (0, 0) _ (unhide HM1) Tryz.underlying63 rfl (unhide HI) ?_)
      | (refine wpList_store_any rfl 63 (.tmp 2) (.tmp 10) rfl w.heap.size (keyC zeroK) rfl rfl 63 _ (unhide HM0) (unhide HI) rfl (keyC_one _) ?_; intro w3 hrow3 hgr3 hsz3))
    have HB3 := hide ((unhide HB0).trans ((Below.refl _ _).grown hgr3 (by omega) (fun i hi => by simp at hi; omega)))
    have HR3 := hide hrow3
    clear hgr3 hsz3 hrow3
    go_wp2_with fail
    exact bodyPost_ret (v := .tuple #[.agg (keyC zeroK), .bool false]) (results_cell_tmp_row (fn := Tryz.f38) (p := 2) (u := 3) (ty := 63) (by kernel_rfl) _ _ w.heap.size _ _ (0, 0) _ rfl (unhide HR3) Tryz.underlying63 rfl (unhide HI)) rfl ⟨zeroK, rfl, zeroK_key, fun h => (by cases h), unhide HB3⟩
  | true =>
    rw [hb] at HD
    have h71 : d.size = 71 := by
      by_cases h1 : d.size = 71
      · exact h1
      · rw [digB_size h1] at hb; cases hb
    have hsl : (7 : Int) ≤ (d.size : Int) := by omega
    obtain ⟨t, ht⟩ : ∃ t, t = d.extract 7 71 := ⟨_, rfl⟩
    have htz : t.size = 64 := by rw [ht, ByteArray.size_extract]; omega
    have HT := hide ht
    have HQ := hide (key_digits d t hb ht)
    clear hb ht hd
    go_enter Tryz.func38, Tryz.ntmps38
    go_wp2_with fail
    rw [unhide HW0]
    refine (unhide HD _).mono ?_
    rintro e w1 ⟨rfl, rfl⟩
    go_wp2_with fail
    rw [← unhide HT]
    go_loopw [13] (fun s13 wr => ∃ (i : Nat) (xs : List Int), s13 = .int .i64 i ∧ i ≤ 32 ∧ w.heap.size + 1 < wr.heap.size ∧ Hid (Key xs) ∧ Hid (∀ j, j < i → xs.getD j 0 = (kyI d).getD j 0) ∧ Hid (KeyB wr (w.heap.size + 1) xs) ∧ Hid (KeyB wr w.heap.size zeroK) ∧ Hid (Below w.heap.size w wr)) (fun s13 _ => 32 - (intOf s13).toNat)
    case atStart => exact ⟨0, zeroK, rfl, by omega, hz0, hide zeroK_key, hide (fun j hj => absurd hj (Nat.not_lt_zero j)), HM1, HM0, HB0⟩
    case round =>
      clear HM1 HM0 HB0 hz0 HW0
      obtain ⟨i, xs, rfl, hi, hz, HX, HJ, HM1, HM0, HB⟩ := hrel
      by_cases hi32 : i < 32
      · have hxl : i < xs.length := by rw [(unhide HX).1]; exact hi32
        have hc := (unhide HM1).cell i hxl
        have hf := (unhide HM1).frozen i
        obtain ⟨k2, hk2⟩ : ∃ k2 : Nat, 2 * i = k2 := ⟨_, rfl⟩
        have e2 : 2 * (i : Int) = (k2 : Int) := by omega
        have b2 : k2 < t.size := by omega
        obtain ⟨k3, hk3⟩ : ∃ k3 : Nat, k2 + 1 = k3 := ⟨_, rfl⟩
        have e3 : (k2 : Int) + 1 = (k3 : Int) := by omega
        have b3 : k3 < t.size := by omega
        have c2 : (k2 : Int) < (t.size : Int) := by omega
        have c3 : (k3 : Int) < (t.size : Int) := by omega
        have c4 : IntKind.i64.wrap (k2 : Int) = (k2 : Int) := by rw [IntKind.wrap_i64]; omega
        have c5 : IntKind.i64.wrap (k3 : Int) = (k3 : Int) := by rw [IntKind.wrap_i64]; omega
        obtain ⟨q2, hq2, q2b⟩ : ∃ q2 : Nat, t[k2].toNat = q2 ∧ q2 < 256 := ⟨_, rfl, t[k2].toNat_lt⟩
        obtain ⟨q3, hq3, q3b⟩ : ∃ q3 : Nat, t[k3].toNat = q3 ∧ q3 < 256 := ⟨_, rfl, t[k3].toNat_lt⟩
        have x2 := hexI_bounds (q2 : Int)
        have x3 := hexI_bounds (q3 : Int)
        have HV2 := hide (fun W => impl_hexValue (q2 : Int) W (by omega) (by omega))
        have HV3 := hide (fun W => impl_hexValue (q3 : Int) W (by omega) (by omega))
        have HD2 := hide (show 0 ≤ hexI (q2 : Int) ∧ 0 ≤ hexI (q3 : Int) ∧ (kyI d).getD i 0 = hexI (q2 : Int) * 16 + hexI (q3 : Int) from by
          subst hk2
          subst hk3
          rw [← hq2, ← hq3]
          exact unhide HQ i hi32 b2 b3)
        generalize hexI (q2 : Int) = y2 at HV2 x2 HD2
        generalize hexI (q3 : Int) = y3 at HV3 x3 HD2
        clear hk2 hk3
        obtain ⟨y4, e4⟩ : ∃ y4, IntKind.i64.wrap (y2 * 16) = y4 := ⟨_, rfl⟩
        obtain ⟨y5, e5⟩ : ∃ y5, bits BinOp.or IntKind.i64 y4 y3 = y5 := ⟨_, rfl⟩
        obtain ⟨z, e6, hzb⟩ : ∃ z, IntKind.u8.wrap y5 = z ∧ 0 ≤ z ∧ z < 256 := ⟨_, rfl, u8_range _⟩
        have e7 : y5 % 256 = z := by rw [← e6]; simp [IntKind.wrap, IntKind.bits, IntKind.signed]
        have HZ := hide (show z = (kyI d).getD i 0 from by
          obtain ⟨r1, r2, r3⟩ := unhide HD2
          rw [r3, ← e7, ← e5, ← e4]
          exact or_digits y2 y3 r1 (by omega) r2 (by omega))
        clear HD2
        have i0 : (0 : Int) ≤ (i : Int) := by omega
        have i1 : (i : Int) < 32 := by omega
        generalize xs[i] = old at hc
        go_wp2_with fail
        go_region_held3 (fun _ => True) (exact trivial) (first
          | (go_at_call_of 52 q2; refine (unhide HV2 _).mono ?_; rintro e w1 ⟨rfl, rfl⟩)
          | (go_at_call_of 52 q3; refine (unhide HV3 _).mono ?_; rintro e w1 ⟨rfl, rfl⟩))
        all_goals
          go_wp2_with fail
          go_roundw
          case rel => exact ⟨i + 1, xs.set i z, by go_num, by omega, by simpa using hz, hide ((unhide HX).set i z hzb.1 hzb.2), hide (getD_set (unhide HJ) hxl (unhide HZ)), hide (show KeyB (wr.drew.setCell ⟨w.heap.size + 1, i, none⟩ (.int .u8 z)) (w.heap.size + 1) (xs.set i z) from KeyB.set (W := wr.drew) (unhide HM1) i z), hide (show KeyB (wr.drew.setCell ⟨w.heap.size + 1, i, none⟩ (.int .u8 z)) w.heap.size zeroK from KeyB.far (W := wr.drew) (unhide HM0) (by omega) _), hide ((unhide HB).drew.setCell (p := ⟨w.heap.size + 1, i, none⟩) (by simp) _)⟩
          case measure => simp [intOf]; omega
      · obtain rfl : i = 32 := by omega
        have HI := hide (unhide HIK xs (unhide HX))
        have HSZ := hide (show (keyC zeroK).size = (keyC xs).size from by rw [keyC_size zeroK_key, keyC_size (unhide HX)])
        go_wp2_with (first
          | (refine wpList_load_row rfl 63 (.tmp 4) rfl (w.heap.size + 1) rfl 63 (keyC xs) (0, 0) _ (unhide HM1) Tryz.underlying63 rfl (unhide HI) ?_)
          | (refine wpList_store_any rfl 63 (.tmp 2) (.tmp 33) rfl w.heap.size (keyC xs) rfl rfl 63 _ (unhide HM0) (unhide HI) (unhide HSZ) (keyC_one _) ?_; intro w3 hrow3 hgr3 hsz3))
        have HB3 := hide ((unhide HB).trans ((Below.refl _ _).grown hgr3 (by omega) (fun i hi => by simp at hi; omega)))
        have HR3 := hide hrow3
        clear hgr3 hsz3 hrow3
        go_wp2_with fail
        exact bodyPost_ret (v := .tuple #[.agg (keyC xs), .bool true]) (results_cell_tmp_row (fn := Tryz.f38) (p := 2) (u := 3) (ty := 63) (by kernel_rfl) _ _ w.heap.size _ _ (0, 0) _ rfl (unhide HR3) Tryz.underlying63 rfl (unhide HI)) rfl ⟨xs, rfl, unhide HX, fun _ => kyI_eq (unhide HX).1 (unhide HJ), unhide HB3⟩
end Go.Proofs.YtldgkpnlplfopaaGreatDoor
