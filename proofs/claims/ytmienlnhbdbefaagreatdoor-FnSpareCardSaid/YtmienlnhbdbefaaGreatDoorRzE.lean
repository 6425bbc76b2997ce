/- Texts of one kind, put together. -/
import Derived.Test.YtmienlnhbdbefaaGreatDoorMem
import Derived.Deep.RegionWith
import Derived.Test.YtmienlnhbdbefaaGreatDoorRzA
import Derived.Lib.Bytealg
import Derived.Test.YtmienlnhbdbefaaGreatDoorNum

/- A word in four bytes, the lowest first: both programs by their contracts. -/
namespace Go.Proofs.YtmienlnhbdbefaaGreatDoor
open Go.RowKit Plain
set_option linter.unusedVariables false

namespace Plain
def fourL (x : Int) : List Int := [x % 256, x / 256 % 256, x / 65536 % 256, x / 16777216]
end Plain

theorem conv_lit (W : World) (xs : List Int) (h : xs.length ≤ 1000) :
    (convert 22 9 (.slice (some ⟨W.heap.size, 0, none⟩) xs.length xs.length)).run Tryz.prog (W.alloc (.cells (xs.map (Value.int .u8)).toArray 5)) = .ok (.string (strOfNums xs)) (W.alloc (.cells (xs.map (Value.int .u8)).toArray 5)) := by
  refine conv_ownB _ W.heap.size _ xs ?_
  refine ⟨by simp, .inr ⟨W.heap.size, xs.length, (xs.map (Value.int .u8)).toArray, rfl, Nat.le_refl _, heap_alloc_new _ _, Nat.le_refl _, by unfold maxLen; omega, by simp, ?_⟩⟩
  rw [Nat.mul_one]
  exact List.take_of_length_le (by simp)

theorem conv4 (W : World) (a b c d : Int) :
    (convert 22 9 (.slice (some ⟨W.heap.size, 0, none⟩) 4 4)).run Tryz.prog (W.alloc (.cells #[.int .u8 a, .int .u8 b, .int .u8 c, .int .u8 d] 5)) = .ok (.string (strOfNums [a, b, c, d])) (W.alloc (.cells #[.int .u8 a, .int .u8 b, .int .u8 c, .int .u8 d] 5)) :=
  conv_lit W [a, b, c, d] (by simp)
theorem conv1 (W : World) (a : Int) :
    (convert 22 9 (.slice (some ⟨W.heap.size, 0, none⟩) 1 1)).run Tryz.prog (W.alloc (.cells #[.int .u8 a] 5)) = .ok (.string (strOfNums [a])) (W.alloc (.cells #[.int .u8 a] 5)) :=
  conv_lit W [a] (by simp)







end Go.Proofs.YtmienlnhbdbefaaGreatDoor

/- The texts by which the exact laws mark memory. -/
namespace Go.Proofs.YtmienlnhbdbefaaGreatDoor
open Go.RowKit Plain
set_option linter.unusedVariables false

namespace Plain
/-- A number's decimal digits ahead of out. -/
def decB : Nat → Nat → ByteArray → ByteArray
  | 0, _, out => out
  | f + 1, k, out => if k = 0 then out else decB f (k / 10) (strOfNums [((48 + k % 10 : Nat) : Int)] ++ out)
def mtx (k : Nat) : ByteArray := ⟨#[109]⟩ ++ decB k k ⟨#[]⟩
theorem decB_zero (f : Nat) (out : ByteArray) : decB f 0 out = out := by cases f <;> simp [decB]
theorem decB_step (f k : Nat) (out : ByteArray) (h : 0 < k) (hf : k ≤ f) : ∃ f', f = f' + 1 ∧ k / 10 ≤ f' ∧ decB f k out = decB f' (k / 10) (strOfNums [((48 + k % 10 : Nat) : Int)] ++ out) := by
  obtain ⟨f', rfl⟩ : ∃ f', f = f' + 1 := ⟨f - 1, by omega⟩
  exact ⟨f', rfl, by omega, by rw [decB, if_neg (by omega)]⟩
end Plain



end Go.Proofs.YtmienlnhbdbefaaGreatDoor

/- Rows of texts marked and looked at again, as the exact laws do it. -/
namespace Go.Proofs.YtmienlnhbdbefaaGreatDoor
open Go.RowKit Plain
set_option linter.unusedVariables false

theorem RowAt.ofS {W : World} {a : Option Addr} {xs : List ByteArray} (h : ∀ i (hi : i < xs.length), ∃ g, a = some ⟨g, 0, none⟩ ∧ g < W.heap.size ∧ W.cell? ⟨g, i, none⟩ = some (.string xs[i]) ∧ W.frozen? ⟨g, i, none⟩ = false) : RowAt strE W a xs := by
  intro i hi
  obtain ⟨g, e, hl, hc, hf⟩ := h i hi
  refine ⟨g, e, hl, fun j hj => ?_⟩
  obtain rfl : j = 0 := by have : strE.n = 1 := rfl; omega
  rw [show i * strE.n + 0 = i from Nat.mul_one i]
  exact ⟨hc, hf⟩
theorem RowAt.setS {W : World} {g : Nat} {L : List ByteArray} (h : RowAt strE W (some ⟨g, 0, none⟩) L) (k : Nat) (hk : k < L.length) (y : ByteArray) : RowAt strE (W.setCell ⟨g, k, none⟩ (.string y)) (some ⟨g, 0, none⟩) (L.set k y) := by
  apply RowAt.ofS
  intro i hi
  rw [List.length_set] at hi
  obtain ⟨g', e, hl, hc, hf⟩ := h.str i hi
  cases e
  refine ⟨g, rfl, by simpa using hl, ?_, by simpa using hf⟩
  by_cases e : k = i
  · subst e
    rw [World.cell?_setCell_same' _ _ _ (by rw [hc]; rfl)]
    simp
  · rw [World.cell?_setCell_other _ ⟨g, k, none⟩ ⟨g, i, none⟩ _ (fun q => e (by have := congrArg Addr.off q; simpa using this)), hc]
    simp [e]

namespace Plain
/-- What the marking leaves. -/
def mkS (b n : Nat) : List ByteArray := (List.range n).map fun i : Nat => mtx (b + i)
theorem mkS_length (b n : Nat) : (mkS b n).length = n := by simp [mkS]
theorem mkS_get (b n k : Nat) (h : k < (mkS b n).length) : (mkS b n)[k] = mtx (b + k) := by simp [mkS]
def mixS (b : Nat) (fs : List ByteArray) (k : Nat) : List ByteArray := mkS b k ++ fs.drop k
theorem mixS_length (b : Nat) (fs : List ByteArray) (k : Nat) (h : k ≤ fs.length) : (mixS b fs k).length = fs.length := by simp [mixS, mkS_length]; omega
theorem mixS_zero (b : Nat) (fs : List ByteArray) : mixS b fs 0 = fs := by simp [mixS, mkS]
theorem mixS_end (b : Nat) (fs : List ByteArray) : mixS b fs fs.length = mkS b fs.length := by simp [mixS]
theorem mixS_next (b : Nat) (fs : List ByteArray) (k : Nat) (h : k < fs.length) : (mixS b fs k).set k (mtx (b + k)) = mixS b fs (k + 1) := by
  have hl := mkS_length b k
  unfold mixS
  rw [List.set_append_right _ _ (by omega), hl, Nat.sub_self, List.drop_eq_getElem_cons h, List.set_cons_zero]
  simp [mkS, List.range_succ]
end Plain



end Go.Proofs.YtmienlnhbdbefaaGreatDoor

/- Rows of any element: made of zero values, one cell of one element set. -/
namespace Go.Proofs.YtmienlnhbdbefaaGreatDoor
open Go.RowKit Plain
set_option linter.unusedVariables false

namespace Plain
theorem made_flat (z : Array Value) (hz : 0 < z.size) : ∀ n, (madeCells z (n * z.size)).toList = (List.replicate n ()).flatMap fun _ => z.toList
  | 0 => by simp [madeCells]
  | n + 1 => by
    have ih := made_flat z hz n
    unfold madeCells at ih ⊢
    rw [Array.toList_map, Array.toList_range] at ih ⊢
    rw [Nat.succ_mul, List.range_add, List.map_append, ih, List.replicate_succ', List.flatMap_append, List.map_map]
    congr 1
    simp only [List.flatMap_cons, List.flatMap_nil, List.append_nil]
    apply List.ext_getElem?
    intro i
    by_cases hi : i < z.size
    · have h2 : (n * z.size + i) % z.size = i := by rw [Nat.mul_add_mod_self_right, Nat.mod_eq_of_lt hi]
      simp [hi, h2]
    · simp [hi]
theorem flat_setJ {α β : Type} (f : α → List β) (n : Nat) (h : ∀ x, (f x).length = n) (u : β) (j : Nat) (hj : j < n) : ∀ (xs : List α) (k : Nat) (hk : k < xs.length) (y : α), f y = (f xs[k]).set j u → (xs.set k y).flatMap f = (xs.flatMap f).set (k * n + j) u
  | [], k, hk, y, hy => by simp at hk
  | x :: l, 0, hk, y, hy => by
    rw [List.set_cons_zero, List.flatMap_cons, List.flatMap_cons, Nat.zero_mul, Nat.zero_add, List.set_append_left _ _ (by rw [h]; exact hj), hy]
    rfl
  | x :: l, k + 1, hk, y, hy => by
    rw [List.set_cons_succ, List.flatMap_cons, List.flatMap_cons, flat_setJ f n h u j hj l k (by simpa using hk) y (by simpa using hy), List.set_append_right _ _ (by rw [h, Nat.succ_mul]; omega), h, show (k + 1) * n + j - n = k * n + j from by rw [Nat.succ_mul]; omega]
end Plain
theorem make_row {α : Type} (e : Elem α) (n : Nat) (w : World) (hn : n ≤ 10000000) : (Instr.makeSlice e.S (.int .i64 n) (.int .i64 n)).run Tryz.prog w = .ok (.slice (some ⟨w.heap.size, 0, none⟩) n n) (w.alloc (.cells (madeCells e.zero.cells (n * e.n)) e.E)) := by
  obtain ⟨i0, hi, hz0, hz1, hz2⟩ := info_parts e.hinfo
  have hb := e.hb
  have hb2 : i0.bytes * n ≤ 1000 * 10000000 := Nat.mul_le_mul (by rw [hz2]; exact hb) hn
  have := run_make w e.S e.E i0 e.zero e.hund hi hz0 .i64 .i64 n n (by omega) (by omega) (by have h3 : ((i0.bytes * n : Nat) : Int) ≤ ((1000 * 10000000 : Nat) : Int) := Int.ofNat_le.2 hb2; rw [Int.natCast_mul] at h3; exact Int.le_trans h3 (by decide)) (by omega)
  rw [hz1] at this
  exact this
theorem own_made {α : Type} (e : Elem α) (z : α) (hz : e.zero.cells.toList = e.enc z) (n : Nat) (w : World) (hn : n ≤ 10000000) : OwnR e (w.alloc (.cells (madeCells e.zero.cells (n * e.n)) e.E)) w.heap.size (.slice (some ⟨w.heap.size, 0, none⟩) n n) (List.replicate n z) := by
  unfold OwnR
  have := World.ownsRow_lit (base := w.heap.size) (e := e.E) (size := e.n) w (madeCells e.zero.cells (n * e.n)) n (Nat.le_refl _) (by unfold maxLen; omega) (by simp [size_madeCells])
  have hf := made_flat e.zero.cells (by rw [e.hz]; exact e.hn) n
  rw [e.hz] at hf
  rw [hf, hz] at this
  rw [List.length_replicate]
  have h2 : (List.replicate n z).flatMap e.enc = (List.replicate n ()).flatMap fun _ => e.enc z := by
    clear this hf
    induction n with
    | zero => rfl
    | succ n ih => rw [List.replicate_succ, List.replicate_succ, List.flatMap_cons, List.flatMap_cons, ih (by omega)]
  rw [h2]
  exact this
theorem OwnR.setJ {α : Type} {e : Elem α} {W : World} {B g n cap : Nat} {xs : List α} (h : OwnR e W B (.slice (some ⟨g, 0, none⟩) n cap) xs) (hn : xs.length = n) (k : Nat) (hk : k < xs.length) (j : Nat) (hj : j < e.n) (u : Value) (y : α) (hy : e.enc y = (e.enc xs[k]).set j u) :
    OwnR e (W.setCell ⟨g, k * e.n + j, none⟩ u) B (.slice (some ⟨g, 0, none⟩) n cap) (xs.set k y) := by
  unfold OwnR at h ⊢
  rw [List.length_set, flat_setJ e.enc e.n e.hlen u j hj xs k hk y hy]
  subst hn
  exact (World.ownsRow.stored h (k * e.n + j) u).1
theorem RowAt.setJ {α : Type} {e : Elem α} {W : World} {g : Nat} {L : List α} (h : RowAt e W (some ⟨g, 0, none⟩) L) (k : Nat) (hk : k < L.length) (j : Nat) (hj : j < e.n) (u : Value) (y : α) (hy : e.enc y = (e.enc L[k]).set j u) :
    RowAt e (W.setCell ⟨g, k * e.n + j, none⟩ u) (some ⟨g, 0, none⟩) (L.set k y) := by
  intro i hi
  rw [List.length_set] at hi
  obtain ⟨g', e1, hl, hc⟩ := h i hi
  cases e1
  refine ⟨g, rfl, by simpa using hl, fun m hm => ⟨?_, by rw [World.frozen?_setCell]; exact (hc m hm).2⟩⟩
  have hdist : i * e.n + m = k * e.n + j ↔ i = k ∧ m = j := by
    constructor
    · intro q
      have h1 : (i * e.n + m) / e.n = (k * e.n + j) / e.n := by rw [q]
      have h2 : (i * e.n + m) % e.n = (k * e.n + j) % e.n := by rw [q]
      have hp := e.hn
      rw [Nat.mul_comm i, Nat.mul_comm k, Nat.mul_add_div hp, Nat.mul_add_div hp, Nat.div_eq_of_lt hm, Nat.div_eq_of_lt hj] at h1
      rw [Nat.mul_add_mod_self_right, Nat.mul_add_mod_self_right, Nat.mod_eq_of_lt hm, Nat.mod_eq_of_lt hj] at h2
      exact ⟨by omega, h2⟩
    · rintro ⟨rfl, rfl⟩; rfl
  by_cases hik : i = k
  · subst hik
    rw [List.getElem_set_self, hy]
    by_cases hmj : m = j
    · subst hmj
      rw [World.cell?_setCell_same' _ _ _ (by rw [(hc m hm).1, List.getElem?_eq_getElem (by rw [e.hlen]; exact hm)]; rfl), List.getElem?_set_self (by rw [e.hlen]; exact hm)]
    · rw [World.cell?_setCell_other _ ⟨g, i * e.n + j, none⟩ ⟨g, i * e.n + m, none⟩ _ (fun q => hmj (hdist.1 (by have := congrArg Addr.off q; simpa using this.symm)).2), (hc m hm).1, List.getElem?_set_ne (fun q => hmj q.symm)]
  · rw [World.cell?_setCell_other _ ⟨g, k * e.n + j, none⟩ ⟨g, i * e.n + m, none⟩ _ (fun q => hik (hdist.1 (by have := congrArg Addr.off q; simpa using this.symm)).1), (hc m hm).1, List.getElem_set_ne (fun q => hik q.symm)]
end Go.Proofs.YtmienlnhbdbefaaGreatDoor


/- Digits of 16: what the two programs tell of one byte; what a digest is; Nibble. -/
namespace Go.Proofs.YtmienlnhbdbefaaGreatDoor
open Go.RowKit Plain
set_option linter.unusedVariables false

namespace Plain
def hexList : List UInt8 := [48, 49, 50, 51, 52, 53, 54, 55, 56, 57, 97, 98, 99, 100, 101, 102]
def hexI (c : Int) : Int := if 48 ≤ c ∧ c ≤ 57 then c - 48 else if 97 ≤ c ∧ c ≤ 102 then c - 87 else -1

theorem hex_all : ∀ n : Fin 256, Lib.indexByte hexList n.val.toUInt8 = hexI n.val := by decide +kernel

theorem hex_index (c : Int) (h0 : 0 ≤ c) (h1 : c < 256) : Lib.indexByte hexList c.toNat.toUInt8 = hexI c := by
  have h := hex_all ⟨c.toNat, by omega⟩
  simp only at h
  rw [h]
  congr 1
  omega

theorem hexI_bounds (c : Int) : -1 ≤ hexI c ∧ hexI c ≤ 15 := by unfold hexI; split <;> (try split) <;> omega
end Plain

theorem call_index (s : ByteArray) (c : Int) (w : World) : (callFunc 80 #[.string s, .int .u8 c]).run Tryz.prog w = .ok (.value (.int .i64 (Lib.indexByte s.data.toList c.toNat.toUInt8))) w := by
  rw [run_callFunc_extern Tryz.func80 (by kernel_rfl) (by kernel_rfl) (by kernel_rfl) (e := Extern.BytealgIndexByte.indexByte) (by kernel_rfl), Lib.run_indexByteString]
  rfl

theorem impl_hexValue (c : Int) (w : World) (h0 : 0 ≤ c) (h1 : c < 256) :
    Calls Tryz.prog 34 #[.int .u8 c] w fun e w' => e = .returned (.int .i64 (hexI c)) ∧ w = w' := by
  have hcall : ∀ w, (callFunc 80 #[.string { data := #[48, 49, 50, 51, 52, 53, 54, 55, 56, 57, 97, 98, 99, 100, 101, 102] }, .int .u8 c]).run Tryz.prog w = .ok (.value (.int .i64 (hexI c))) w := by
    intro w
    rw [call_index, ← hex_index c h0 h1]
    rfl
  have hb := hexI_bounds c
  go_enter Tryz.func34, Tryz.ntmps34
  go_wp2
  go_ret
  exact ⟨rfl, rfl⟩

theorem spec_l1Hexit (c : Int) (w : World) (h0 : 0 ≤ c) (h1 : c < 256) :
    Calls Tryz.prog 65 #[.int .u8 c] w fun e w' => e = .returned (.int .i64 (hexI c)) ∧ w = w' := by
  unfold hexI
  by_cases h2 : 48 ≤ c ∧ c ≤ 57
  · rw [if_pos h2]
    obtain ⟨h3, h4⟩ := h2
    go_enter Tryz.func65, Tryz.ntmps65
    go_wp2
    go_ret
    exact ⟨rfl, rfl⟩
  · rw [if_neg h2]
    by_cases h5 : 97 ≤ c ∧ c ≤ 102
    · rw [if_pos h5]
      obtain ⟨h3, h4⟩ := h5
      go_enter Tryz.func65, Tryz.ntmps65
      go_wp2
      go_ret
      exact ⟨by go_num, rfl⟩
    · rw [if_neg h5]
      by_cases h6 : c < 48
      · go_enter Tryz.func65, Tryz.ntmps65
        go_wp2
        go_ret
        exact ⟨rfl, rfl⟩
      · have h7 : 57 < c := by omega
        by_cases h8 : c < 97
        · go_enter Tryz.func65, Tryz.ntmps65
          go_wp2
          go_ret
          exact ⟨rfl, rfl⟩
        · have h9 : 102 < c := by omega
          go_enter Tryz.func65, Tryz.ntmps65
          go_wp2
          go_ret
          exact ⟨rfl, rfl⟩
end Go.Proofs.YtmienlnhbdbefaaGreatDoor


/- What a digest is: DigestOk and Nibble of both programs by their contracts. -/
namespace Go.Proofs.YtmienlnhbdbefaaGreatDoor
open Go.RowKit Plain
set_option linter.unusedVariables false

namespace Plain
def hexFrom (t : ByteArray) (k : Nat) : Bool := (t.data.toList.drop k).all fun c => decide (0 ≤ hexI c.toNat)

theorem hexFrom_step (t : ByteArray) (k : Nat) (h : k < t.size) : hexFrom t k = (decide (0 ≤ hexI t[k].toNat) && hexFrom t (k + 1)) := by
  unfold hexFrom
  rw [List.drop_eq_getElem_cons (by simpa using h)]
  rfl

theorem hexFrom_end (t : ByteArray) (k : Nat) (h : t.size ≤ k) : hexFrom t k = true := by
  unfold hexFrom
  rw [List.drop_of_length_le (by simpa using h)]
  rfl

theorem hexFrom_extract (s : ByteArray) (h : 7 ≤ s.size) : hexFrom (s.extract 7 s.size) 0 = hexFrom s 7 := by
  unfold hexFrom
  congr 1
  rw [ByteArray.data_extract, Array.toList_extract]
  simp [List.extract_eq_take_drop]
  exact List.take_of_length_le (by simp)

def shaL : List UInt8 := [115, 104, 97, 50, 53, 54, 58]
def digB (s : ByteArray) : Bool := decide (s.size = 71) && ((s.extract 0 7).toList == shaL) && hexFrom s 7

theorem digB_size {s : ByteArray} (h : ¬ s.size = 71) : digB s = false := by unfold digB; simp [h]
theorem digB_head {s : ByteArray} (h : ((s.extract 0 7).toList == shaL) = false) : digB s = false := by unfold digB; rw [h]; simp
theorem digB_rest {s : ByteArray} (h1 : s.size = 71) (h : ((s.extract 0 7).toList == shaL) = true) : digB s = hexFrom s 7 := by unfold digB; rw [h]; simp [h1]
end Plain

set_option maxHeartbeats 1000000 in
theorem spec_DigestOk (s : ByteArray) (w : World) (hs : s.size ≤ 1000000000000) :
    Calls Tryz.prog 47 #[.string s] w fun e w' => e = .returned (.bool (digB s)) ∧ w = w' := by
  by_cases h1 : s.size = 71
  · cases h2 : ((s.extract 0 7).toList == shaL) with
    | false =>
      rw [digB_head h2]
      unfold shaL at h2
      go_enter Tryz.func47, Tryz.ntmps47
      go_wp2
      go_ret
      exact ⟨rfl, rfl⟩
    | true =>
      rw [digB_rest h1 h2]
      unfold shaL at h2
      have hs1 : s.size ≤ 71 := by omega
      have hs2 : 71 ≤ s.size := by omega
      go_enter Tryz.func47, Tryz.ntmps47
      go_wp2_with fail
      go_loop [3] (fun i => ∃ k : Nat, i = .int .i64 k ∧ 7 ≤ k ∧ k ≤ 71 ∧ Hid (hexFrom s k = hexFrom s 7)) (fun i => 71 - (intOf i).toNat)
      case atStart => exact ⟨7, rfl, by omega, by omega, rfl⟩
      case round =>
        obtain ⟨k, rfl, hk7, hk71, hrel⟩ := hrel
        by_cases hlt : k < 71
        · have hlt2 : k < s.size := by omega
          obtain ⟨c, hc⟩ : ∃ c, s[k].toNat = c := ⟨_, rfl⟩
          have hc256 : c < 256 := by rw [← hc]; exact s[k].toNat_lt
          have hst := hexFrom_step s k hlt2
          rw [hc] at hst
          by_cases hneg : hexI c < 0
          · have hres := hide ((unhide hrel).symm.trans (by rw [hst]; simp; intro; omega) : hexFrom s 7 = false)
            clear hst hrel
            go_wp2_with (go_at_call 65; refine (spec_l1Hexit _ _ (by omega) (by omega)).mono ?_; rintro e w' ⟨rfl, rfl⟩)
            go_ret
            exact ⟨by rw [unhide hres]; rfl, rfl⟩
          · have hres := hide ((by rw [hst]; simp; intro; omega : hexFrom s (k + 1) = hexFrom s k).trans (unhide hrel))
            clear hst hrel
            go_wp2_with (go_at_call 65; refine (spec_l1Hexit _ _ (by omega) (by omega)).mono ?_; rintro e w' ⟨rfl, rfl⟩)
            go_round
            case rel => exact ⟨k + 1, by go_num, by omega, by omega, hres⟩
            case measure => simp [intOf]; omega
        · have hres := hide ((unhide hrel).symm.trans (hexFrom_end s k (by omega)))
          clear hrel
          go_wp2
          go_ret
          exact ⟨by rw [unhide hres]; rfl, rfl⟩
  · rw [digB_size h1]
    go_enter Tryz.func47, Tryz.ntmps47
    go_wp2
    go_ret
    exact ⟨rfl, rfl⟩

theorem cut_yes (s : ByteArray) (w : World) (hs : s.size ≤ 1000000000000) (h : 7 ≤ s.size) (h2 : ((s.extract 0 7).toList == [115, 104, 97, 50, 53, 54, 58]) = true) :
    Calls Tryz.prog 33 #[.string s, .string { data := #[115, 104, 97, 50, 53, 54, 58] }] w fun e w' => e = .returned (.tuple #[.string (s.extract 7 s.size), .bool true]) ∧ w = w' := by
  go_enter Tryz.func33, Tryz.ntmps33
  go_wp2
  go_ret2
  exact ⟨rfl, rfl⟩

theorem cut_no (s : ByteArray) (w : World) (hs : s.size ≤ 1000000000000) (h : s.size < 7 ∨ 7 ≤ s.size ∧ ((s.extract 0 7).toList == [115, 104, 97, 50, 53, 54, 58]) = false) :
    Calls Tryz.prog 33 #[.string s, .string { data := #[115, 104, 97, 50, 53, 54, 58] }] w fun e w' => e = .returned (.tuple #[.string s, .bool false]) ∧ w = w' := by
  rcases h with h | ⟨h, h2⟩
  · go_enter Tryz.func33, Tryz.ntmps33
    go_wp2
    go_ret2
    exact ⟨rfl, rfl⟩
  · go_enter Tryz.func33, Tryz.ntmps33
    go_wp2
    go_ret2
    exact ⟨rfl, rfl⟩

set_option maxHeartbeats 1000000 in
theorem impl_DigestOk (s : ByteArray) (w : World) (hs : s.size ≤ 1000000000000) :
    Calls Tryz.prog 21 #[.string s] w fun e w' => e = .returned (.bool (digB s)) ∧ w = w' := by
  by_cases h0 : s.size < 7 ∨ 7 ≤ s.size ∧ ((s.extract 0 7).toList == [115, 104, 97, 50, 53, 54, 58]) = false
  · have hd : digB s = false := by
      rcases h0 with h | h
      · exact digB_size (by omega)
      · exact digB_head h.2
    rw [hd]
    clear hd
    have H0 := hide h0
    clear h0
    go_enter Tryz.func21, Tryz.ntmps21
    go_wp2_with fail
    refine (cut_no s _ hs (unhide H0)).mono ?_
    rintro e w' ⟨rfl, rfl⟩
    go_wp2
    go_ret
    exact ⟨rfl, rfl⟩
  · have h7 : 7 ≤ s.size := by omega
    have h2 : ((s.extract 0 7).toList == [115, 104, 97, 50, 53, 54, 58]) = true := by
      cases h : ((s.extract 0 7).toList == [115, 104, 97, 50, 53, 54, 58]) with
      | true => rfl
      | false => exact absurd (.inr ⟨h7, h⟩) h0
    have H2 := hide h2
    have hsz : (s.extract 7 s.size).size = s.size - 7 := by rw [ByteArray.size_extract]; omega
    clear h0
    by_cases h1 : s.size = 71
    · have hd : digB s = hexFrom (s.extract 7 s.size) 0 := (digB_rest h1 h2).trans (hexFrom_extract s h7).symm
      rw [hd]
      clear hd h2
      have ht64 : (s.extract 7 s.size).size = 64 := by omega
      obtain ⟨t, ht⟩ : ∃ t, s.extract 7 s.size = t := ⟨_, rfl⟩
      have H3 := hide h1
      rw [ht] at ht64 ⊢
      have HT := hide ht
      clear ht hsz h1
      have ht1 : t.size ≤ 64 := by omega
      have ht2 : 64 ≤ t.size := by omega
      go_enter Tryz.func21, Tryz.ntmps21
      go_wp2_with fail
      refine (cut_yes s _ hs h7 (unhide H2)).mono ?_
      rintro e w' ⟨rfl, rfl⟩
      rw [unhide HT]
      go_wp2_with fail
      go_loop [20] (fun i => ∃ k : Nat, i = .int .i64 k ∧ k ≤ 64 ∧ Hid (hexFrom t k = hexFrom t 0)) (fun i => 64 - (intOf i).toNat)
      case atStart => exact ⟨0, rfl, by omega, rfl⟩
      case round =>
        obtain ⟨k, rfl, hk71, hrel⟩ := hrel
        by_cases hlt : k < 64
        · have hlt2 : k < t.size := by omega
          obtain ⟨c, hc⟩ : ∃ c, t[k].toNat = c := ⟨_, rfl⟩
          have hc256 : c < 256 := by rw [← hc]; exact t[k].toNat_lt
          have hst := hexFrom_step t k hlt2
          rw [hc] at hst
          by_cases hneg : hexI c < 0
          · have hres := hide ((unhide hrel).symm.trans (by rw [hst]; simp; intro; omega) : hexFrom t 0 = false)
            clear hst hrel
            go_wp2_with (go_at_call 34; refine (impl_hexValue _ _ (by omega) (by omega)).mono ?_; rintro e w' ⟨rfl, rfl⟩)
            go_ret
            exact ⟨by rw [unhide hres]; rfl, rfl⟩
          · have hres := hide ((by rw [hst]; simp; intro; omega : hexFrom t (k + 1) = hexFrom t k).trans (unhide hrel))
            clear hst hrel
            go_wp2_with (go_at_call 34; refine (impl_hexValue _ _ (by omega) (by omega)).mono ?_; rintro e w' ⟨rfl, rfl⟩)
            go_round
            case rel => exact ⟨k + 1, by go_num, by omega, hres⟩
            case measure => simp [intOf]; omega
        · have hres := hide ((unhide hrel).symm.trans (hexFrom_end t k (by omega)))
          clear hrel
          go_wp2
          go_ret
          exact ⟨by rw [unhide hres]; rfl, rfl⟩
    · rw [digB_size h1]
      have hne : ¬ (s.size - 7 = 64) := by omega
      go_enter Tryz.func21, Tryz.ntmps21
      go_wp2_with fail
      refine (cut_yes s _ hs h7 (unhide H2)).mono ?_
      rintro e w' ⟨rfl, rfl⟩
      go_wp2
      go_ret
      exact ⟨rfl, rfl⟩
end Go.Proofs.YtmienlnhbdbefaaGreatDoor

