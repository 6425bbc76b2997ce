/- The program's rows of headers, and the text of a message. -/
import Derived.Test.YtanekbifdedmeaaGreatDoorJoiI
import Derived.Test.YtanekbifdedmeaaGreatDoorFitI
import Derived.Test.YtanekbifdedmeaaGreatDoorAppG
import Derived.Lib.ItoaLen
import Derived.Lib.AppendIntMem
import Derived.Lib.SmallJoins
namespace Go.Proofs.YtanekbifdedmeaaGreatDoor
open Go.RowKit Plain
set_option linter.unusedVariables false

namespace Plain
/-- A row's text. -/
def rowT (mk : ByteArray) (h : Hd) : ByteArray := h.1 ++ mk ++ h.2
/-- Headers that are not long. -/
def fitH (ls : List Hd) : Prop := ∀ h ∈ ls, h.1.size ≤ 1000 ∧ h.2.size ≤ 1000
theorem rowS_one (w : World) (x : ByteArray) : RowAt strE (w.alloc (.cells #[.string x] 9)) (some ⟨w.heap.size, 0, none⟩) [x] := by
  intro i hi
  obtain rfl : i = 0 := by simp at hi; omega
  refine ⟨w.heap.size, rfl, by simp, fun j hj => ?_⟩
  obtain rfl : j = 0 := by have : j < 1 := hj; omega
  constructor
  · simp [go_sem]
    rfl
  · simp [go_sem]
end Plain
theorem Plain.addS {a b : ByteArray} (W : World) (h : a.size + b.size ≤ 1000000000000) : (Op.stringOp .add a b).run Tryz.prog W = .ok (.string (a ++ b)) W := by
  have hm : (a.size : Int) + (b.size : Int) ≤ 9223372036854775807 := by omega
  simp [Op.stringOp, hm]

set_option maxRecDepth 10000 in
set_option maxHeartbeats 2000000 in
theorem rows_calls (a : Option Addr) (n c : Nat) (ls : List Hd) (mk : ByteArray) (w : World) (hn : ls.length = n) (hn2 : n ≤ 1000) (hmk : mk.size ≤ 10) (hf : fitH ls) (h : RowAt hdrE w a ls) :
    Calls Tryz.prog 32 #[.slice a n c, .string mk] w fun e w' => ∃ v, e = .returned v ∧ OwnR strE w' w.heap.size v (ls.map (rowT mk)) ∧ Below w.heap.size w w' := by
  have H := hide h
  have HN := hide hn
  have HF := hide hf
  clear h hn hf
  go_enter Tryz.func32, Tryz.ntmps32
  go_wp2_with fail
  go_loopw [5, 10] (fun v i wr => ∃ k : Nat, i = .int .i64 k ∧ k ≤ n ∧ Hid (OwnR strE wr w.heap.size v ((ls.take k).map (rowT mk))) ∧ Hid (Below w.heap.size w wr)) (fun _ i _ => n - (intOf i).toNat)
  case atStart => exact ⟨0, rfl, by omega, hide (by simpa using ownR_nil strE w w.heap.size), hide (Below.refl _ _)⟩
  case round =>
    obtain ⟨k, rfl, hk, HO, HB⟩ := hrel
    obtain ⟨av, cv, hv⟩ := (unhide HO).form
    rw [List.length_map, List.length_take, unhide HN, show min k n = k from by omega] at hv
    subst hv
    by_cases hlk : k < n
    · have hkl : k < ls.length := by rw [unhide HN]; exact hlk
      obtain ⟨g, e1, l1, p0, p1⟩ := ((unhide H).below (unhide HB)).hdr k hkl
      have hsz := unhide HF ls[k] (by simp)
      have HT := hide (show (ls.take (k + 1)).map (rowT mk) = (ls.take k).map (rowT mk) ++ [rowT mk ls[k]] from by rw [List.take_succ_eq_append_getElem hkl, List.map_append]; rfl)
      generalize ls[k] = x at p0 p1 hsz HT
      obtain ⟨y, z⟩ := x
      simp only at p0 p1 hsz
      obtain ⟨hy, hz⟩ := hsz
      have a1 := fun W => addS (a := y) (b := mk) W (by omega)
      have a2 := fun W => addS (a := y ++ mk) (b := z) W (by rw [ByteArray.size_append]; omega)
      obtain ⟨T, hT⟩ : ∃ T, y ++ mk ++ z = T := ⟨_, rfl⟩
      rw [hT] at a2
      have HTT := hide (show rowT mk (y, z) = T from hT)
      obtain ⟨Y, hY⟩ : ∃ Y, y ++ mk = Y := ⟨_, rfl⟩
      rw [hY] at a1 a2
      have HO2 := hide (World.ownsRow.alloc (World.ownsRow.alloc (unhide HO) (.cells #[.string y, .string z] 45)) (.cells #[.string T] 9))
      have hsz1 : (wr.alloc (.cells #[.string y, .string z] 45)).heap.size = wr.heap.size + 1 := by simp
      have HR2 := hide (show RowAt strE ((wr.alloc (.cells #[.string y, .string z] 45)).alloc (.cells #[.string T] 9)) (some ⟨wr.heap.size + 1, 0, none⟩) [T] from by rw [← hsz1]; exact rowS_one _ T)
      have HB2 := hide (belOn (belOn (unhide HB) (bel1 wr (.cells #[.string y, .string z] 45))) (bel1 _ (.cells #[.string T] 9)))
      have hzB : w.heap.size ≤ ((wr.alloc (.cells #[.string y, .string z] 45)).alloc (.cells #[.string T] 9)).heap.size := (unhide HB2).size
      have hlen : ((ls.take k).map (rowT mk)).length + 1 < 100000000 := by rw [List.length_map, List.length_take]; omega
      subst e1
      have i0 : (0 : Int) ≤ (k : Int) := by omega
      have i1 : (k : Int) < (n : Int) := by omega
      clear hT hY hkl hy hz hsz1
      go_wp2_with (at_builtin; go_must (refine appGG (e := strE) (ys := [T]) rfl _ _ rfl (unhide HO2) rfl (some ⟨wr.heap.size + 1, 0, none⟩) 1 1 rfl rfl (unhide HR2) (.inr ⟨_, rfl⟩) hlen hzB ?_); intro v6 w6 hown6 hb6)
      go_roundw
      case rel => exact ⟨k + 1, by go_num, by omega, hide (by rw [unhide HT, unhide HTT]; exact hown6), hide ((unhide HB2).trans hb6)⟩
      case measure => simp [intOf]; omega
    · obtain rfl : k = n := by omega
      have HF2 := hide (unhide HO)
      rw [show ls.take k = ls from List.take_of_length_le (by rw [unhide HN]; exact Nat.le_refl _)] at HF2
      clear HO
      go_wp2_with fail
      go_ret
      exact ⟨_, rfl, unhide HF2, unhide HB⟩

/-- The library's table of the powers of ten is as its text lays it. -/
def Plain.P10 (W : World) : Prop := Lib.TabIs Tryz.prog W "internal/strconv.uint64pow10" .u64 Lib.pow10Tab
theorem Plain.P10.below {W W' : World} (h : P10 W) (hb : Below W.heap.size W W') : P10 W' := Go.Joins.tab_stays (g := 1) (by kernel_rfl) h hb (Nat.le_refl _)
/-- A number in decimal. -/
def Plain.decN (n : Nat) : ByteArray := ⟨(Lib.decDigits n).toArray⟩
theorem Plain.decN_size (n : Nat) (h : n ≤ 9223372036854775807) : (decN n).size ≤ 21 := by
  have := Lib.itoa_length_le (n : Int) (by omega) (by omega)
  rw [Lib.itoa_nonneg] at this
  simpa [decN, ByteArray.size] using this
theorem itoa_calls (n : Nat) (w : World) (hP : P10 w) (hn : n ≤ 9223372036854775807) :
    Calls Tryz.prog 64 #[.int .i64 n] w fun e w' => e = .returned (.string (decN n)) ∧ Below w.heap.size w w' :=
  (Any.strconv_Itoa Tryz.lays171 (n : Int) (by omega) (by omega) w hP).mono fun e w' ⟨h1, k, os, h2⟩ => ⟨by rw [h1, Lib.itoa_nonneg]; rfl, by rw [h2]; exact Lib.below_grow _ _ (Nat.le_refl _) _ _⟩
theorem formatInt_calls (n : Nat) (w : World) (hP : P10 w) (hn : n ≤ 9223372036854775807) :
    Calls Tryz.prog 50 #[.int .i64 n, .int .i64 10] w fun e w' => e = .returned (.string (decN n)) ∧ Below w.heap.size w w' :=
  (Any.strconv_FormatInt_10 Tryz.lays173 (n : Int) (by omega) (by omega) w hP).mono fun e w' ⟨h1, k, os, h2⟩ => ⟨by rw [h1, Lib.itoa_nonneg]; rfl, by rw [h2]; exact Lib.below_grow _ _ (Nat.le_refl _) _ _⟩

namespace Plain
def crT : ByteArray := ⟨#[13, 10]⟩
def csT : ByteArray := ⟨#[58, 32]⟩
def clT : ByteArray := ⟨#[99, 111, 110, 116, 101, 110, 116, 45, 108, 101, 110, 103, 116, 104, 58, 32]⟩
def linesT (first : ByteArray) (hs : List Hd) (bd : ByteArray) : List ByteArray := [first] ++ hs.map (rowT csT) ++ [clT ++ decN bd.size, ⟨#[]⟩, bd]
/-- The text of a message. -/
def msgT (first : ByteArray) (hs : List Hd) (bd : ByteArray) : ByteArray := joinT (linesT first hs bd) crT
theorem own_lit (w : World) (x : ByteArray) : OwnR strE (w.alloc (.cells #[.string x] 9)) w.heap.size (.slice (some ⟨w.heap.size, 0, none⟩) 1 1) [x] := by
  unfold OwnR
  exact World.ownsRow_lit (base := w.heap.size) (e := strE.E) (size := strE.n) w #[.string x] 1 (Nat.le_refl _) (by unfold maxLen; omega) (by rfl)
theorem rowS_three (w : World) (x y z : ByteArray) : RowAt strE (w.alloc (.cells #[.string x, .string y, .string z] 9)) (some ⟨w.heap.size, 0, none⟩) [x, y, z] := by
  intro i hi
  refine ⟨w.heap.size, rfl, by simp, fun j hj => ?_⟩
  obtain rfl : j = 0 := by have : j < 1 := hj; omega
  rcases i with _ | _ | _ | i
  · constructor
    · simp [go_sem]; rfl
    · simp [go_sem]
  · constructor
    · simp [go_sem]; rfl
    · simp [go_sem]
  · constructor
    · simp [go_sem]; rfl
    · simp [go_sem]
  · simp at hi; omega
theorem own_cap {W : World} {B : Nat} {a : Option Addr} {n c : Nat} {xs : List ByteArray} (h : OwnR strE W B (.slice a n c) xs) (hx : xs ≠ []) : ∃ g, a = some ⟨g, 0, none⟩ ∧ n ≤ c := by
  rcases h.2 with ⟨h1, h2⟩ | ⟨g, cap, cur, h1, _, _, h3, _⟩
  · exact absurd (List.length_eq_zero_iff.1 h2) hx
  · simp at h1
    exact ⟨g, h1.1, by omega⟩
theorem lens_le (ls : List ByteArray) (b : Nat) (h : ∀ x ∈ ls, x.size ≤ b) : Lib.lens (lsL ls) ≤ ls.length * b := by
  induction ls with
  | nil => simp [Lib.lens, lsL]
  | cons x t ih =>
    have h1 := ih fun y hy => h y (List.mem_cons_of_mem _ hy)
    have h2 := h x (List.mem_cons_self ..)
    simp only [Lib.lens, lsL, List.map_cons, List.sum_cons, List.length_cons] at h1 ⊢
    rw [Nat.add_mul]
    have : x.data.toList.length = x.size := by simp
    omega
end Plain
end Go.Proofs.YtanekbifdedmeaaGreatDoor
