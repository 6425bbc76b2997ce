/- Texts of one kind, put together. -/
import Derived.Test.YtliklijcdcfomaaGreatMem
import Derived.Deep.RegionWith
import Derived.Test.YtliklijcdcfomaaGreatAzA

/- A word in four bytes, the lowest first: both programs by their contracts. -/
namespace Go.Proofs.YtliklijcdcfomaaGreat
open Go.RowKit Plain
set_option linter.unusedVariables false

namespace Plain
def fourL (x : Int) : List Int := [x % 256, x / 256 % 256, x / 65536 % 256, x / 16777216]
end Plain

theorem conv_lit (W : World) (xs : List Int) (h : xs.length ≤ 1000) :
    (convert 134 9 (.slice (some ⟨W.heap.size, 0, none⟩) xs.length xs.length)).run Tryz.prog (W.alloc (.cells (xs.map (Value.int .u8)).toArray 5)) = .ok (.string (strOfNums xs)) (W.alloc (.cells (xs.map (Value.int .u8)).toArray 5)) := by
  refine conv_ownB _ W.heap.size _ xs ?_
  refine ⟨by simp, .inr ⟨W.heap.size, xs.length, (xs.map (Value.int .u8)).toArray, rfl, Nat.le_refl _, heap_alloc_new _ _, Nat.le_refl _, by unfold maxLen; omega, by simp, ?_⟩⟩
  rw [Nat.mul_one]
  exact List.take_of_length_le (by simp)

theorem conv4 (W : World) (a b c d : Int) :
    (convert 134 9 (.slice (some ⟨W.heap.size, 0, none⟩) 4 4)).run Tryz.prog (W.alloc (.cells #[.int .u8 a, .int .u8 b, .int .u8 c, .int .u8 d] 5)) = .ok (.string (strOfNums [a, b, c, d])) (W.alloc (.cells #[.int .u8 a, .int .u8 b, .int .u8 c, .int .u8 d] 5)) :=
  conv_lit W [a, b, c, d] (by simp)
theorem conv1 (W : World) (a : Int) :
    (convert 134 9 (.slice (some ⟨W.heap.size, 0, none⟩) 1 1)).run Tryz.prog (W.alloc (.cells #[.int .u8 a] 5)) = .ok (.string (strOfNums [a])) (W.alloc (.cells #[.int .u8 a] 5)) :=
  conv_lit W [a] (by simp)

theorem impl_lowFirst_at (x : Int) (w : World) (h0 : 0 ≤ x) (h1 : x < 4294967296) :
    Calls Tryz.prog 111 #[.int .u32 x] w fun e w' => e = .returned (.string (strOfNums (fourL x))) ∧ w.alloc (.cells #[.int .u8 (x % 256), .int .u8 (x / 256 % 256), .int .u8 (x / 65536 % 256), .int .u8 (x / 16777216)] 5) = w' := by
  have hcv := conv4
  go_enter Tryz.func111, Tryz.ntmps111
  go_wp2
  go_ret
  exact ⟨rfl, rfl⟩

theorem impl_lowFirst (x : Int) (w : World) (h0 : 0 ≤ x) (h1 : x < 4294967296) :
    Calls Tryz.prog 111 #[.int .u32 x] w fun e w' => e = .returned (.string (strOfNums (fourL x))) ∧ Below w.heap.size w w' := by
  have hcv := conv4
  go_enter Tryz.func111, Tryz.ntmps111
  go_wp2
  go_ret
  exact ⟨rfl, (Below.refl _ _).alloc (Nat.le_refl _) _⟩

theorem spec_l2Four_at (x : Int) (w : World) (h0 : 0 ≤ x) (h1 : x < 4294967296) :
    Calls Tryz.prog 99 #[.int .u32 x] w fun e w' => e = .returned (.string (strOfNums (fourL x))) ∧ w.alloc (.cells #[.int .u8 (x % 256), .int .u8 (x / 256 % 256), .int .u8 (x / 65536 % 256), .int .u8 (x / 16777216)] 5) = w' := by
  have hcv := conv4
  go_enter Tryz.func99, Tryz.ntmps99
  go_wp2
  go_ret
  exact ⟨rfl, rfl⟩

theorem spec_l2Four (x : Int) (w : World) (h0 : 0 ≤ x) (h1 : x < 4294967296) :
    Calls Tryz.prog 99 #[.int .u32 x] w fun e w' => e = .returned (.string (strOfNums (fourL x))) ∧ Below w.heap.size w w' := by
  have hcv := conv4
  go_enter Tryz.func99, Tryz.ntmps99
  go_wp2
  go_ret
  exact ⟨rfl, (Below.refl _ _).alloc (Nat.le_refl _) _⟩
end Go.Proofs.YtliklijcdcfomaaGreat


/- The texts by which the exact laws mark memory. -/
namespace Go.Proofs.YtliklijcdcfomaaGreat
open Go.RowKit Plain
set_option linter.unusedVariables false

namespace Plain
/-- A number's decimal digits ahead of out. -/
def decB : Nat → Nat → ByteArray → ByteArray
  | 0, _, out => out
  | f + 1, k, out => if k = 0 then out else decB f (k / 10) (strOfNums [((48 + k % 10 : Nat) : Int)] ++ out)
def mtx (k : Nat) : ByteArray := ⟨#[109]⟩ ++ decB k k ⟨#[]⟩
theorem decB_zero (f : Nat) (out : ByteArray) : decB f 0 out = out := by cases f <;> simp [decB]
theorem decB_step (f k : Nat) (out : ByteArray) (h : 0 < k) (hf : k ≤ f) : ∃ f', f = f' + 1 ∧ k / 10 ≤ f' ∧ decB f k out = decB f' (k / 10) (strOfNums [((48 + k % 10 : Nat) : Int)] ++ out) := by
  obtain ⟨f', rfl⟩ : ∃ f', f = f' + 1 := ⟨f - 1, by omega⟩
  exact ⟨f', rfl, by omega, by rw [decB, if_neg (by omega)]⟩
end Plain

set_option maxHeartbeats 1000000 in
theorem markText_calls (k : Nat) (w : World) (h1 : 1 ≤ k) (h2 : k ≤ 1000000000) :
    Calls Tryz.prog 56 #[.int .i64 k] w fun e w' => e = .returned (.string (mtx k)) ∧ Below w.heap.size w w' := by
  have hm : mtx k = ⟨#[109]⟩ ++ decB k k ⟨#[]⟩ := rfl
  have HM := hide hm
  clear hm
  have i1 : (1 : Int) ≤ (k : Int) := by omega
  go_enter Tryz.func56, Tryz.ntmps56
  go_wp2_with fail
  go_loopw [0, 3] (fun n t wr => ∃ (j f : Nat) (out : ByteArray), n = .int .i64 j ∧ t = .string out ∧ j + out.size ≤ k ∧ j ≤ f ∧ Hid (decB f j out = decB k k ⟨#[]⟩) ∧ Hid (Below w.heap.size w wr)) (fun n _ _ => (intOf n).toNat)
  case atStart => exact ⟨k, k, ⟨#[]⟩, rfl, rfl, Nat.le_refl _, Nat.le_refl _, rfl, Below.refl _ _⟩
  case round =>
    obtain ⟨j, f, out, rfl, rfl, hj, hf, HD, HB⟩ := hrel
    by_cases hj0 : 0 < j
    · obtain ⟨f', rfl, hf', hst⟩ := decB_step f j out hj0 hf
      have hnx := hide (hst.symm.trans (unhide HD))
      clear hst HD
      obtain ⟨d, hd⟩ : ∃ d, j % 10 = d := ⟨_, rfl⟩
      obtain ⟨q, hq⟩ : ∃ q, j / 10 = q := ⟨_, rfl⟩
      rw [hd, hq] at hnx
      rw [hq] at hf'
      have t1 : Int.tmod (j : Int) 10 = (d : Int) := by rw [← hd]; rfl
      have t2 : Int.tdiv (j : Int) 10 = (q : Int) := by rw [← hq]; rfl
      have hd10 : d < 10 := by omega
      have hqj : q < j := by omega
      have j0 : (0 : Int) < (j : Int) := by omega
      have hcv : ∀ W : World, (convert 134 9 (.slice (some ⟨W.heap.size, 0, none⟩) 1 1)).run Tryz.prog (W.alloc (.cells #[.int .u8 (48 + (d : Int))] 5)) = .ok (.string (strOfNums [48 + (d : Int)])) (W.alloc (.cells #[.int .u8 (48 + (d : Int))] 5)) := fun W => conv1 W _
      have hs1 : (strOfNums [48 + (d : Int)]).size = 1 := strOfNums_size _
      clear hd hq
      go_wp2_with fail
      go_roundw
      case rel => exact ⟨q, f', _, rfl, rfl, by rw [ByteArray.size_append, hs1]; omega, hf', hnx, hide ((unhide HB).alloc (unhide HB).size _)⟩
      case measure => simp [intOf]; omega
    · obtain rfl : j = 0 := by omega
      have hfin := unhide HD
      rw [decB_zero] at hfin
      have HF := hide hfin
      clear HD hfin
      go_wp2_with fail
      go_ret
      exact ⟨by rw [unhide HM, ← unhide HF]; rfl, unhide HB⟩

theorem markText_at (x : Int) (k : Nat) (w : World) (hx : x = (k : Int)) (h1 : 1 ≤ k) (h2 : k ≤ 1000000000) :
    Calls Tryz.prog 56 #[.int .i64 x] w fun e w' => e = .returned (.string (mtx k)) ∧ Below w.heap.size w w' := by
  subst hx
  exact markText_calls k w h1 h2
end Go.Proofs.YtliklijcdcfomaaGreat


/- Rows of texts marked and looked at again, as the exact laws do it. -/
namespace Go.Proofs.YtliklijcdcfomaaGreat
open Go.RowKit Plain
set_option linter.unusedVariables false

theorem RowAt.ofS {W : World} {a : Option Addr} {xs : List ByteArray} (h : ∀ i (hi : i < xs.length), ∃ g, a = some ⟨g, 0, none⟩ ∧ g < W.heap.size ∧ W.cell? ⟨g, i, none⟩ = some (.string xs[i]) ∧ W.frozen? ⟨g, i, none⟩ = false) : RowAt strE W a xs := by
  intro i hi
  obtain ⟨g, e, hl, hc, hf⟩ := h i hi
  refine ⟨g, e, hl, fun j hj => ?_⟩
  obtain rfl : j = 0 := by have : strE.n = 1 := rfl; omega
  rw [show i * strE.n + 0 = i from Nat.mul_one i]
  exact ⟨hc, hf⟩
theorem RowAt.setS {W : World} {g : Nat} {L : List ByteArray} (h : RowAt strE W (some ⟨g, 0, none⟩) L) (k : Nat) (hk : k < L.length) (y : ByteArray) : RowAt strE (W.setCell ⟨g, k, none⟩ (.string y)) (some ⟨g, 0, none⟩) (L.set k y) := by
  apply RowAt.ofS
  intro i hi
  rw [List.length_set] at hi
  obtain ⟨g', e, hl, hc, hf⟩ := h.str i hi
  cases e
  refine ⟨g, rfl, by simpa using hl, ?_, by simpa using hf⟩
  by_cases e : k = i
  · subst e
    rw [World.cell?_setCell_same' _ _ _ (by rw [hc]; rfl)]
    simp
  · rw [World.cell?_setCell_other _ ⟨g, k, none⟩ ⟨g, i, none⟩ _ (fun q => e (by have := congrArg Addr.off q; simpa using this)), hc]
    simp [e]

namespace Plain
/-- What the marking leaves. -/
def mkS (b n : Nat) : List ByteArray := (List.range n).map fun i : Nat => mtx (b + i)
theorem mkS_length (b n : Nat) : (mkS b n).length = n := by simp [mkS]
theorem mkS_get (b n k : Nat) (h : k < (mkS b n).length) : (mkS b n)[k] = mtx (b + k) := by simp [mkS]
def mixS (b : Nat) (fs : List ByteArray) (k : Nat) : List ByteArray := mkS b k ++ fs.drop k
theorem mixS_length (b : Nat) (fs : List ByteArray) (k : Nat) (h : k ≤ fs.length) : (mixS b fs k).length = fs.length := by simp [mixS, mkS_length]; omega
theorem mixS_zero (b : Nat) (fs : List ByteArray) : mixS b fs 0 = fs := by simp [mixS, mkS]
theorem mixS_end (b : Nat) (fs : List ByteArray) : mixS b fs fs.length = mkS b fs.length := by simp [mixS]
theorem mixS_next (b : Nat) (fs : List ByteArray) (k : Nat) (h : k < fs.length) : (mixS b fs k).set k (mtx (b + k)) = mixS b fs (k + 1) := by
  have hl := mkS_length b k
  unfold mixS
  rw [List.set_append_right _ _ (by omega), hl, Nat.sub_self, List.drop_eq_getElem_cons h, List.set_cons_zero]
  simp [mkS, List.range_succ]
end Plain



end Go.Proofs.YtliklijcdcfomaaGreat

/- Rows of any element: made of zero values, one cell of one element set. -/
namespace Go.Proofs.YtliklijcdcfomaaGreat
open Go.RowKit Plain
set_option linter.unusedVariables false

namespace Plain
theorem made_flat (z : Array Value) (hz : 0 < z.size) : ∀ n, (madeCells z (n * z.size)).toList = (List.replicate n ()).flatMap fun _ => z.toList
  | 0 => by simp [madeCells]
  | n + 1 => by
    have ih := made_flat z hz n
    unfold madeCells at ih ⊢
    rw [Array.toList_map, Array.toList_range] at ih ⊢
    rw [Nat.succ_mul, List.range_add, List.map_append, ih, List.replicate_succ', List.flatMap_append, List.map_map]
    congr 1
    simp only [List.flatMap_cons, List.flatMap_nil, List.append_nil]
    apply List.ext_getElem?
    intro i
    by_cases hi : i < z.size
    · have h2 : (n * z.size + i) % z.size = i := by rw [Nat.mul_add_mod_self_right, Nat.mod_eq_of_lt hi]
      simp [hi, h2]
    · simp [hi]
theorem flat_setJ {α β : Type} (f : α → List β) (n : Nat) (h : ∀ x, (f x).length = n) (u : β) (j : Nat) (hj : j < n) : ∀ (xs : List α) (k : Nat) (hk : k < xs.length) (y : α), f y = (f xs[k]).set j u → (xs.set k y).flatMap f = (xs.flatMap f).set (k * n + j) u
  | [], k, hk, y, hy => by simp at hk
  | x :: l, 0, hk, y, hy => by
    rw [List.set_cons_zero, List.flatMap_cons, List.flatMap_cons, Nat.zero_mul, Nat.zero_add, List.set_append_left _ _ (by rw [h]; exact hj), hy]
    rfl
  | x :: l, k + 1, hk, y, hy => by
    rw [List.set_cons_succ, List.flatMap_cons, List.flatMap_cons, flat_setJ f n h u j hj l k (by simpa using hk) y (by simpa using hy), List.set_append_right _ _ (by rw [h, Nat.succ_mul]; omega), h, show (k + 1) * n + j - n = k * n + j from by rw [Nat.succ_mul]; omega]
end Plain
theorem make_row {α : Type} (e : Elem α) (n : Nat) (w : World) (hn : n ≤ 10000000) : (Instr.makeSlice e.S (.int .i64 n) (.int .i64 n)).run Tryz.prog w = .ok (.slice (some ⟨w.heap.size, 0, none⟩) n n) (w.alloc (.cells (madeCells e.zero.cells (n * e.n)) e.E)) := by
  obtain ⟨i0, hi, hz0, hz1, hz2⟩ := info_parts e.hinfo
  have hb := e.hb
  have hb2 : i0.bytes * n ≤ 1000 * 10000000 := Nat.mul_le_mul (by rw [hz2]; exact hb) hn
  have := run_make w e.S e.E i0 e.zero e.hund hi hz0 .i64 .i64 n n (by omega) (by omega) (by have h3 : ((i0.bytes * n : Nat) : Int) ≤ ((1000 * 10000000 : Nat) : Int) := Int.ofNat_le.2 hb2; rw [Int.natCast_mul] at h3; exact Int.le_trans h3 (by decide)) (by omega)
  rw [hz1] at this
  exact this
theorem own_made {α : Type} (e : Elem α) (z : α) (hz : e.zero.cells.toList = e.enc z) (n : Nat) (w : World) (hn : n ≤ 10000000) : OwnR e (w.alloc (.cells (madeCells e.zero.cells (n * e.n)) e.E)) w.heap.size (.slice (some ⟨w.heap.size, 0, none⟩) n n) (List.replicate n z) := by
  unfold OwnR
  have := World.ownsRow_lit (base := w.heap.size) (e := e.E) (size := e.n) w (madeCells e.zero.cells (n * e.n)) n (Nat.le_refl _) (by unfold maxLen; omega) (by simp [size_madeCells])
  have hf := made_flat e.zero.cells (by rw [e.hz]; exact e.hn) n
  rw [e.hz] at hf
  rw [hf, hz] at this
  rw [List.length_replicate]
  have h2 : (List.replicate n z).flatMap e.enc = (List.replicate n ()).flatMap fun _ => e.enc z := by
    clear this hf
    induction n with
    | zero => rfl
    | succ n ih => rw [List.replicate_succ, List.replicate_succ, List.flatMap_cons, List.flatMap_cons, ih (by omega)]
  rw [h2]
  exact this
theorem OwnR.setJ {α : Type} {e : Elem α} {W : World} {B g n cap : Nat} {xs : List α} (h : OwnR e W B (.slice (some ⟨g, 0, none⟩) n cap) xs) (hn : xs.length = n) (k : Nat) (hk : k < xs.length) (j : Nat) (hj : j < e.n) (u : Value) (y : α) (hy : e.enc y = (e.enc xs[k]).set j u) :
    OwnR e (W.setCell ⟨g, k * e.n + j, none⟩ u) B (.slice (some ⟨g, 0, none⟩) n cap) (xs.set k y) := by
  unfold OwnR at h ⊢
  rw [List.length_set, flat_setJ e.enc e.n e.hlen u j hj xs k hk y hy]
  subst hn
  exact (World.ownsRow.stored h (k * e.n + j) u).1
theorem RowAt.setJ {α : Type} {e : Elem α} {W : World} {g : Nat} {L : List α} (h : RowAt e W (some ⟨g, 0, none⟩) L) (k : Nat) (hk : k < L.length) (j : Nat) (hj : j < e.n) (u : Value) (y : α) (hy : e.enc y = (e.enc L[k]).set j u) :
    RowAt e (W.setCell ⟨g, k * e.n + j, none⟩ u) (some ⟨g, 0, none⟩) (L.set k y) := by
  intro i hi
  rw [List.length_set] at hi
  obtain ⟨g', e1, hl, hc⟩ := h i hi
  cases e1
  refine ⟨g, rfl, by simpa using hl, fun m hm => ⟨?_, by rw [World.frozen?_setCell]; exact (hc m hm).2⟩⟩
  have hdist : i * e.n + m = k * e.n + j ↔ i = k ∧ m = j := by
    constructor
    · intro q
      have h1 : (i * e.n + m) / e.n = (k * e.n + j) / e.n := by rw [q]
      have h2 : (i * e.n + m) % e.n = (k * e.n + j) % e.n := by rw [q]
      have hp := e.hn
      rw [Nat.mul_comm i, Nat.mul_comm k, Nat.mul_add_div hp, Nat.mul_add_div hp, Nat.div_eq_of_lt hm, Nat.div_eq_of_lt hj] at h1
      rw [Nat.mul_add_mod_self_right, Nat.mul_add_mod_self_right, Nat.mod_eq_of_lt hm, Nat.mod_eq_of_lt hj] at h2
      exact ⟨by omega, h2⟩
    · rintro ⟨rfl, rfl⟩; rfl
  by_cases hik : i = k
  · subst hik
    rw [List.getElem_set_self, hy]
    by_cases hmj : m = j
    · subst hmj
      rw [World.cell?_setCell_same' _ _ _ (by rw [(hc m hm).1, List.getElem?_eq_getElem (by rw [e.hlen]; exact hm)]; rfl), List.getElem?_set_self (by rw [e.hlen]; exact hm)]
    · rw [World.cell?_setCell_other _ ⟨g, i * e.n + j, none⟩ ⟨g, i * e.n + m, none⟩ _ (fun q => hmj (hdist.1 (by have := congrArg Addr.off q; simpa using this.symm)).2), (hc m hm).1, List.getElem?_set_ne (fun q => hmj q.symm)]
  · rw [World.cell?_setCell_other _ ⟨g, k * e.n + j, none⟩ ⟨g, i * e.n + m, none⟩ _ (fun q => hik (hdist.1 (by have := congrArg Addr.off q; simpa using this.symm)).1), (hc m hm).1, List.getElem_set_ne (fun q => hik q.symm)]
end Go.Proofs.YtliklijcdcfomaaGreat

