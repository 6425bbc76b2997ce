/- Texts of one kind, put together. -/
import Derived.Test.YtldgkpnlplfopaaGreatDoorSzA
import Derived.Laws.CopyRow
import Derived.Laws.CopyOwn
import Derived.Deep.RegionWith
import Derived.Deep.DeepCutAuto

/- A text's bytes as numbers, and copy from a text. -/
namespace Go.Proofs.YtldgkpnlplfopaaGreatDoor.Plain
open Go Go.RowKit
set_option linter.unusedVariables false

def bL (s : ByteArray) : List Int := s.data.toList.map fun b => ((b.toNat : Nat) : Int)
theorem bL_length (s : ByteArray) : (bL s).length = s.size := by simp [bL]
theorem bL_byte (s : ByteArray) : ∀ j, 0 ≤ (bL s).getD j 0 ∧ (bL s).getD j 0 < 256 := by
  intro j
  unfold bL
  by_cases h : j < s.data.toList.length
  · have := (s.data.toList[j]).toNat_lt
    simp only [List.getD, List.getElem?_map, List.getElem?_eq_getElem h, Option.map_some, Option.getD_some]
    omega
  · simp only [List.getD, List.getElem?_map, List.getElem?_eq_none (by omega : s.data.toList.length ≤ j), Option.map_none, Option.getD_none]
    omega

theorem run_copy_string {P : Program} (w : World) (dT sT ty elem : TypeId) (g o dLen dCap : Nat) (s : ByteArray) (cur : Array Value) (t : TypeId)
    (hu : P.underlying dT = some (.slice elem)) (hs : (P.info? elem).map (·.size) = some 1) (hg : w.heap[g]? = some (.cells cur t (0, 0))) (n : Nat) (hm : Nat.min s.size dLen = n) (hfit : o + n ≤ cur.size) :
    (Builtin.copy_ #[dT, sT] ty #[.slice (some ⟨g, o, none⟩) dLen dCap, .string s]).run P w =
      .ok (goInt n) (w.setRow g (splice cur.toList o (((bL s).take n).map (Value.int .u8))).toArray) := by
  have hns : n ≤ s.size := by rw [← hm]; exact Nat.min_le_left _ _
  have hst := run_storeCells_at P g o t (((bL s).take n).map (Value.int .u8)) 0 cur w hg (by simp [bL_length]; omega) (fun v hv => by obtain ⟨x, _, rfl⟩ := List.mem_map.1 hv; rfl)
  cases hq : P.info? elem with
  | none => simp [hq] at hs
  | some i =>
    have hi : i.size = 1 := by simpa [hq] using hs
    simp only [Builtin.copy_]
    simp [run_underlying hu, Builtin.lenOf, Builtin.firstCells, sizeOf, typeInfo, hq, hm, Sem.run_pure]
    have e2 : List.take n (List.map (fun b : UInt8 => Value.int .u8 ((b.toNat : Nat) : Int)) s.data.toList) = ((bL s).take n).map (Value.int .u8) := by
      unfold bL
      rw [List.map_take, List.map_map]
      rfl
    rw [e2, hst]
    simp [splice]

theorem splice_grown {w : World} {g : Nat} (cs : Array Value) : w.grownBy (w.setRow g cs) (some g) :=
  ⟨rfl, rfl, rfl, by simp, fun k _ hk => setRow_other w g k cs (fun e => hk (by rw [e]))⟩

theorem wpList_copy_string {P : Program} {w : World} {ops : Array Oper} {rest : List Oper} {o : Oper} {a : Act} {Q : Exit → Act → World → Prop} (hgd : o.guard = none) (d x : Operand) (dT sT : TypeId)
    (ho : o.op = .call { callee := .builtin .copy, args := #[d, x], argTypes := #[dT, sT] }) (elem : TypeId) (hu : P.underlying dT = some (.slice elem)) (hsz : (P.info? elem).map (·.size) = some 1)
    (g off dLen dCap : Nat) (s : ByteArray) (hd : a.eval d = .slice (some ⟨g, off, none⟩) dLen dCap) (hs : a.eval x = .string s)
    (cur : Array Value) (t : TypeId) (hg : w.heap[g]? = some (.cells cur t (0, 0))) (n : Nat) (hm : Nat.min s.size dLen = n) (hfit : off + n ≤ cur.size)
    (h : ∀ w', w'.heap[g]? = some (.cells (splice cur.toList off (((bL s).take n).map (Value.int .u8))).toArray t (0, 0)) → w.grownBy w' (some g) → w'.heap.size = w.heap.size → wpList P ops Q rest (a.put o.dst (goInt n)) w') : wpList P ops Q (o :: rest) a w := by
  refine wpList_plain hgd fun K hK => ?_
  have hrun := run_copy_string (P := P) w dT sT o.type elem g off dLen dCap s cur t hu hsz hg n hm hfit
  unfold Oper.wp
  simp only [execOp, ho]
  simp [resolve, invoke, builtin, hd, hs, hrun, Result.andThen, -List.map_take]
  exact hK _ _ (h _ (setRow_heap w g _ _ t _ hg) (splice_grown _) (by simp))

end Go.Proofs.YtldgkpnlplfopaaGreatDoor.Plain


/- The end of the data: the last blocks as lists of bytes. -/
namespace Go.Proofs.YtldgkpnlplfopaaGreatDoor.Plain
open Go Go.RowKit
set_option linter.unusedVariables false

def be8 (n : Int) : List Int := [n / 72057594037927936 % 256, n / 281474976710656 % 256, n / 1099511627776 % 256, n / 4294967296 % 256, n / 16777216 % 256, n / 65536 % 256, n / 256 % 256, n % 256]

/-- All of the last blocks but the length's eight bytes: the rest, a byte 128, noughts. -/
def preL (r : List Int) : List Int := r ++ 128 :: List.replicate (if r.length < 56 then 55 - r.length else 119 - r.length) 0
def lastL (r : List Int) (n : Int) : List Int := preL r ++ be8 n

theorem preL_length (r : List Int) (h : r.length < 64) : (preL r).length = if r.length < 56 then 56 else 120 := by
  unfold preL
  split <;> simp <;> omega

def byteAt (n : Int) (j : Nat) : Int := n / 2 ^ (8 * (7 - j)) % 256

def updTo (base : List Int) (off : Nat) (n : Int) : Nat → List Int
  | 0 => base
  | j + 1 => (updTo base off n j).set (off + j) (byteAt n j)

theorem updTo_length (base : List Int) (off : Nat) (n : Int) (j : Nat) : (updTo base off n j).length = base.length := by
  induction j with
  | zero => rfl
  | succ j ih => simp [updTo, ih]

theorem updTo_end (pre : List Int) (n : Int) : updTo (pre ++ List.replicate 8 0) pre.length n 8 = pre ++ be8 n := by
  have e : List.replicate 8 (0 : Int) = [0, 0, 0, 0, 0, 0, 0, 0] := rfl
  rw [e]
  simp only [updTo, byteAt, be8]
  simp

/-- The first block as it stands behind the copy and the byte 128. -/
def oneL (r : List Int) : List Int := r ++ 128 :: List.replicate (63 - r.length) 0
theorem oneL_small (r : List Int) (h : r.length < 56) : oneL r = preL r ++ List.replicate 8 0 := by
  unfold oneL preL
  rw [if_pos h, List.append_assoc, List.cons_append, List.replicate_append_replicate]
  congr 3
  omega
theorem oneL_big (r : List Int) (h : ¬ r.length < 56) (h2 : r.length < 64) : oneL r ++ List.replicate 64 0 = preL r ++ List.replicate 8 0 := by
  unfold oneL preL
  rw [if_neg h, List.append_assoc, List.cons_append, List.append_assoc, List.cons_append, List.replicate_append_replicate, List.replicate_append_replicate]
  congr 3
  omega
theorem oneL_length (r : List Int) (h : r.length < 64) : (oneL r).length = 64 := by
  unfold oneL; simp; omega

def zeros128 : Array Value := (List.replicate 128 (Value.int .u8 0)).toArray

theorem row_one (s : ByteArray) (h : s.size < 64) : (((splice zeros128.toList 0 ((bL s).map (Value.int .u8))).toArray.setIfInBounds s.size (.int .u8 128)).toList).take 64 = (oneL (bL s)).map (Value.int .u8) := by
  have hl := bL_length s
  simp only [splice, zeros128, oneL]
  rw [Array.toList_setIfInBounds]
  simp only [List.take_zero, List.nil_append, Nat.zero_add, List.length_map, hl, List.drop_replicate]
  rw [List.set_append_right _ _ (by simp [hl])]
  simp only [List.length_map, hl, Nat.sub_self]
  rw [show 128 - s.size = (127 - s.size) + 1 from by omega, List.replicate_succ, List.set_cons_zero]
  rw [List.take_append, List.take_of_length_le (by simp [hl]; omega)]
  simp only [List.length_map, hl]
  rw [show 64 - s.size = (63 - s.size) + 1 from by omega, List.take_succ_cons, List.take_replicate, Nat.min_eq_left (by omega)]
  simp

theorem spl_length (s : ByteArray) (h : s.size < 64) : (splice zeros128.toList 0 ((bL s).map (Value.int .u8))).toArray.size = 128 := by
  have hl := bL_length s
  rw [List.size_toArray, length_splice _ _ _ (by simp [zeros128, hl]; omega)]
  simp [zeros128]

theorem spl_cell {w : World} {g : Nat} {t : TypeId} (s : ByteArray) (h : s.size < 64) (hr : w.heap[g]? = some (.cells (splice zeros128.toList 0 ((bL s).map (Value.int .u8))).toArray t (0, 0))) :
    (∃ ov, w.cell? ⟨g, s.size, none⟩ = some ov) ∧ w.frozen? ⟨g, s.size, none⟩ = false := by
  refine ⟨?_, frozen_of_row w g s.size _ t hr⟩
  have hl := spl_length s h
  exact ⟨_, by rw [cell_of_row w g s.size _ t _ hr, Array.getElem?_eq_getElem (by omega)]⟩

end Go.Proofs.YtldgkpnlplfopaaGreatDoor.Plain


/- The whole sum as a plain function of the data's bytes: in blocks of 64. -/
namespace Go.Proofs.YtldgkpnlplfopaaGreatDoor.Plain
open Go Go.RowKit
set_option linter.unusedVariables false
set_option linter.unusedSimpArgs false

def h0L : List Int := [1779033703, 3144134277, 1013904242, 2773480762, 1359893119, 2600822924, 528734635, 1541459225]
def chunk (b : List Int) (k : Nat) : List Int := (b.drop (64 * k)).take 64
def hN (b : List Int) : Nat → List Int
  | 0 => h0L
  | k + 1 => blockL (hN b k) (chunk b k)

/-- The data's bytes with what is put behind them. -/
def allL (s : ByteArray) : List Int := (bL s).take (64 * (s.size / 64)) ++ lastL ((bL s).drop (64 * (s.size / 64))) (s.size * 8)
def sumL (s : ByteArray) : List Int := hN (allL s) ((allL s).length / 64)

theorem hN_length (b : List Int) (k : Nat) : (hN b k).length = 8 := by
  cases k with
  | zero => rfl
  | succ k => exact blockL_length _ _
theorem hN_word (b : List Int) (k : Nat) : ∀ x ∈ hN b k, Word x := by
  cases k with
  | zero => intro x hx; simp [hN, h0L] at hx; unfold Word; omega
  | succ k => exact blockL_word _ _

theorem bL_extract (s : ByteArray) (a : Nat) (h : a ≤ s.size) : bL (s.extract a s.size) = (bL s).drop a := by
  unfold bL
  rw [ByteArray.data_extract, Array.toList_extract]
  simp only [List.extract_eq_take_drop, List.map_take, List.map_drop]
  rw [List.take_of_length_le (by simp)]

theorem lastL_length (r : List Int) (n : Int) (h : r.length < 64) : (lastL r n).length = if r.length < 56 then 64 else 128 := by
  unfold lastL
  rw [List.length_append, preL_length r h]
  split <;> rfl

theorem take_len (s : ByteArray) : ((bL s).take (64 * (s.size / 64))).length = 64 * (s.size / 64) := by
  rw [List.length_take, bL_length]; omega

theorem chunk_low (s : ByteArray) (k : Nat) (h : k < s.size / 64) : chunk (allL s) k = ((bL s).drop (64 * k)).take 64 := by
  unfold chunk allL
  have hl := take_len s
  rw [List.drop_append_of_le_length (by omega), List.take_append_of_le_length (by rw [List.length_drop]; omega), List.drop_take, List.take_take]
  congr 1
  omega

theorem chunk_high (s : ByteArray) (j : Nat) : chunk (allL s) (s.size / 64 + j) = chunk (lastL ((bL s).drop (64 * (s.size / 64))) (s.size * 8)) j := by
  unfold chunk allL
  have hl := take_len s
  rw [List.drop_append, List.drop_of_length_le (by rw [hl]; omega), List.nil_append, hl]
  congr 2
  omega

theorem rest_len (s : ByteArray) : ((bL s).drop (64 * (s.size / 64))).length = s.size % 64 := by
  rw [List.length_drop, bL_length]; omega

theorem all_len (s : ByteArray) : (allL s).length / 64 = s.size / 64 + (if s.size % 64 < 56 then 1 else 2) := by
  unfold allL
  have hr := rest_len s
  rw [List.length_append, take_len, lastL_length _ _ (by omega), hr]
  split <;> omega

theorem getD_sub {l : List Int} (h : ∀ j, 0 ≤ l.getD j 0 ∧ l.getD j 0 < 256) (a n : Nat) : ∀ j, 0 ≤ ((l.drop a).take n).getD j 0 ∧ ((l.drop a).take n).getD j 0 < 256 := by
  intro j
  by_cases hj : j < n
  · have e : ((l.drop a).take n).getD j 0 = l.getD (a + j) 0 := by
      simp [List.getD, List.getElem?_take, hj, List.getElem?_drop]
    rw [e]; exact h _
  · have e : ((l.drop a).take n).getD j 0 = 0 := by
      simp [List.getD, List.getElem?_take, hj]
    rw [e]; omega

theorem getD_append_byte {l m : List Int} (h : ∀ j, 0 ≤ l.getD j 0 ∧ l.getD j 0 < 256) (k : ∀ j, 0 ≤ m.getD j 0 ∧ m.getD j 0 < 256) : ∀ j, 0 ≤ (l ++ m).getD j 0 ∧ (l ++ m).getD j 0 < 256 := by
  intro j
  by_cases hj : j < l.length
  · have e : (l ++ m).getD j 0 = l.getD j 0 := by simp [List.getD, List.getElem?_append_left hj]
    rw [e]; exact h j
  · have e : (l ++ m).getD j 0 = m.getD (j - l.length) 0 := by simp [List.getD, List.getElem?_append_right (show l.length ≤ j by omega)]
    rw [e]; exact k _

theorem lastL_byte (r : List Int) (n : Int) (h : ∀ j, 0 ≤ r.getD j 0 ∧ r.getD j 0 < 256) : ∀ j, 0 ≤ (lastL r n).getD j 0 ∧ (lastL r n).getD j 0 < 256 := by
  unfold lastL preL
  refine getD_append_byte (getD_append_byte h ?_) ?_
  · intro j
    cases j with
    | zero => simp
    | succ j =>
      simp only [List.getD_cons_succ]
      generalize (if r.length < 56 then 55 - r.length else 119 - r.length) = q
      by_cases hj : j < q
      · simp [List.getD, List.getElem?_replicate, hj]
      · simp [List.getD, List.getElem?_replicate, hj]
  · intro j
    unfold be8
    match j with
    | 0 => simp; omega
    | 1 => simp; omega
    | 2 => simp; omega
    | 3 => simp; omega
    | 4 => simp; omega
    | 5 => simp; omega
    | 6 => simp; omega
    | 7 => simp; omega
    | j + 8 => simp

end Go.Proofs.YtldgkpnlplfopaaGreatDoor.Plain


/- The program's words behind a block. -/
namespace Go.Proofs.YtldgkpnlplfopaaGreatDoor
open Go.RowKit Plain
set_option linter.unusedVariables false

namespace Plain
/-- The package's table of the rounds' words, as the program's text lays it, in block 0. -/
def KAt (w : World) : Prop := ∀ j, j < 64 → w.cell? ⟨1, j, none⟩ = some (.int .u32 (kL.getD j 0))
theorem KAt.below {w w' : World} {B : Nat} (h : KAt w) (hb : Below B w w') (hB : 1 < B) : KAt w' := fun j hj => (hb.cell (p := ⟨1, j, none⟩) hB).trans (h j hj)
end Plain

set_option maxRecDepth 10000 in
set_option maxHeartbeats 2000000 in
theorem with_calls (a0 a1 a2 a3 a4 a5 a6 a7 : Int) (b : List Int) (w : World) (hK : KAt w) (hb : ByteL b) (hh : ∀ x ∈ [a0, a1, a2, a3, a4, a5, a6, a7], Word x) :
    Calls Tryz.prog 95 #[.agg #[.int .u32 a0, .int .u32 a1, .int .u32 a2, .int .u32 a3, .int .u32 a4, .int .u32 a5, .int .u32 a6, .int .u32 a7], .agg (bytesV b)] w fun r w' =>
      ∃ c0 c1 c2 c3 c4 c5 c6 c7, blockL [a0, a1, a2, a3, a4, a5, a6, a7] b = [c0, c1, c2, c3, c4, c5, c6, c7] ∧ r = .returned (.agg #[.int .u32 c0, .int .u32 c1, .int .u32 c2, .int .u32 c3, .int .u32 c4, .int .u32 c5, .int .u32 c6, .int .u32 c7]) ∧ Below w.heap.size w w' := by
  have HK := hide hK
  have HB := hide hb
  have HH := hide hh
  have h0 : 1 < w.heap.size := lt_of_cell (hK 0 (by omega))
  have hi44 : (Tryz.prog.info? 131).map (·.size) = some (bytesV b).size := by rw [show (bytesV b).size = 64 from by simp [bytesV, hb.1]]; kernel_rfl
  clear hK hb hh
  go_enter Tryz.func95, Tryz.ntmps95
  go_wp2_with (refine wpList_load_row rfl 131 (.tmp 3) rfl (w.heap.size + 1) rfl 131 (bytesV b) (0, 0) _ (by first | exact (h_old _ _ (by simp)).trans (h_new _ _ (by simp))) Tryz.underlying131 rfl hi44 ?_)
  refine (schedule_calls b _ (unhide HB)).mono ?_
  rintro e w1 ⟨arr, hT, rfl, hb1⟩
  have HT := hide hT
  have hsz := hT.1
  have hi57 : (Tryz.prog.info? 142).map (·.size) = some arr.size := by rw [hsz]; exact info57
  have h1 := hT.2.1
  clear hT
  have hz1 : w.heap.size + 2 < w1.heap.size := by have := hb1.size; simp at this; omega
  have hlt : w.heap.size < w1.heap.size := by omega
  have hlt1 : w.heap.size + 1 + 1 < w1.heap.size := by omega
  have hne : ¬ w.heap.size = w1.heap.size := by omega
  have hbox : Words w1 w.heap.size [a0, a1, a2, a3, a4, a5, a6, a7] :=
    words_of_block (t := 129) ((hb1.block _ (by simp; omega)).trans ((h_old _ _ (by simp; omega)).trans ((h_old _ _ (by simp)).trans (h_new _ _ rfl))))
  have hout : Words w1 (w.heap.size + 1 + 1) [0, 0, 0, 0, 0, 0, 0, 0] :=
    words_of_block (t := 129) ((hb1.block _ (by simp)).trans (h_new _ _ (by simp)))
  have hB1 : Below w.heap.size w w1 := (((((Below.refl w.heap.size w).alloc (Nat.le_refl _) _).alloc (by simp) _).alloc (by simp; omega) _).trans (hb1.mono (by simp; omega)))
  have BB := hide hB1
  have HX := hide hbox
  have HO := hide hout
  have c0 := (hbox 0 (by simp)).1
  have c1 := (hbox 1 (by simp)).1
  have c2 := (hbox 2 (by simp)).1
  have c3 := (hbox 3 (by simp)).1
  have c4 := (hbox 4 (by simp)).1
  have c5 := (hbox 5 (by simp)).1
  have c6 := (hbox 6 (by simp)).1
  have c7 := (hbox 7 (by simp)).1
  simp at c0 c1 c2 c3 c4 c5 c6 c7
  have hso : ∀ (W : World) (g : Nat) (cs : Array Value) (b j : Nat), ¬ b = g → (W.setRow g cs).cell? ⟨b, j, none⟩ = W.cell? ⟨b, j, none⟩ := fun W g cs b j h => cell_setRow_other W g cs _ h
  clear hb1 hB1 hbox hout hz1
  go_wp2_with (refine wpList_store_row rfl 142 (.tmp 5) (.tmp 10) rfl w1.heap.size arr rfl rfl 142 _ (h_new w1 _ rfl) hi57 (by rw [hsz]; rfl) h1 ?_)
  have hst : ∀ (Z : Array Value), Words ((((w1.alloc (.cells Z 142)).setRow w1.heap.size arr).alloc (.cells #[.int .u32 a0, .int .u32 a1, .int .u32 a2, .int .u32 a3, .int .u32 a4, .int .u32 a5, .int .u32 a6, .int .u32 a7] 129))) (w1.heap.size + 1) [a0, a1, a2, a3, a4, a5, a6, a7] ∧
      (∀ j, j < 64 → ((((w1.alloc (.cells Z 142)).setRow w1.heap.size arr).alloc (.cells #[.int .u32 a0, .int .u32 a1, .int .u32 a2, .int .u32 a3, .int .u32 a4, .int .u32 a5, .int .u32 a6, .int .u32 a7] 129))).cell? ⟨w1.heap.size, j, none⟩ = some (.int .u32 (wAt b j))) ∧
      Below w1.heap.size w1 ((((w1.alloc (.cells Z 142)).setRow w1.heap.size arr).alloc (.cells #[.int .u32 a0, .int .u32 a1, .int .u32 a2, .int .u32 a3, .int .u32 a4, .int .u32 a5, .int .u32 a6, .int .u32 a7] 129))) := by
    intro Z
    refine ⟨words_of_block (t := 129) (h_new _ _ (by simp)), fun j hj => ?_, ?_⟩
    · have e1 := h_old ((w1.alloc (.cells Z 142)).setRow w1.heap.size arr) (.cells #[.int .u32 a0, .int .u32 a1, .int .u32 a2, .int .u32 a3, .int .u32 a4, .int .u32 a5, .int .u32 a6, .int .u32 a7] 129) (n := w1.heap.size) (by simp)
      exact (cell_of_row _ _ j arr _ (0, 0) (e1.trans (setRow_heap _ _ _ _ _ _ (h_new w1 _ rfl)))).trans ((unhide HT).2.2 j hj)
    · have e1 : Below w1.heap.size w1 ((w1.alloc (.cells Z 142)).setRow w1.heap.size arr) := ((Below.refl _ _).alloc (Nat.le_refl _) _).trans ⟨rfl, rfl, rfl, by simp, fun i hi => setRow_other _ _ _ _ (by omega)⟩
      exact e1.alloc (by simp) _
  have HS := hide hst
  clear hst hso c0 c1 c2 c3 c4 c5 c6 c7 h1 hi57 hi44 hsz
  go_loopw [7, 12] (fun _ i wr => ∃ (k : Nat) (v : List Int), i = .int .i64 k ∧ k ≤ 64 ∧ v.length = 8 ∧ Hid (compTo (schedTo b 64) [a0, a1, a2, a3, a4, a5, a6, a7] k = v) ∧ Hid (Words wr (w1.heap.size + 1) v) ∧
      Hid (∀ j, j < 64 → wr.cell? ⟨w1.heap.size, j, none⟩ = some (.int .u32 (wAt b j))) ∧ Hid (Below w1.heap.size w1 wr) ∧ w1.heap.size + 1 < wr.heap.size) (fun _ i _ => 64 - (intOf i).toNat)
  case atStart => exact ⟨0, _, rfl, by omega, rfl, rfl, (unhide HS _).1, (unhide HS _).2.1, (unhide HS _).2.2, by simp⟩
  case round =>
    obtain ⟨k, v, rfl, hk, hv8, hcomp, HV, HW, HBl, hsz2⟩ := hrel
    obtain ⟨v0, v1, v2, v3, v4, v5, v6, v7, rfl⟩ := list8 hv8
    by_cases hlt2 : k < 64
    · have hvw := compTo_word (schedTo b 64) [a0, a1, a2, a3, a4, a5, a6, a7] k (unhide HH)
      rw [unhide hcomp] at hvw
      have wv0 := hvw v0 (by simp)
      have wv4 := hvw v4 (by simp)
      have hstep := hide (comp_step b [a0, a1, a2, a3, a4, a5, a6, a7] k hlt2 v0 v1 v2 v3 v4 v5 v6 v7 (unhide hcomp))
      have kc : wr.cell? ⟨1, k, none⟩ = some (.int .u32 (kL.getD k 0)) := (((unhide HK).below (unhide BB) h0).below (unhide HBl) (by omega)) k hlt2
      have wc := unhide HW k hlt2
      generalize kL.getD k 0 = kk at kc hstep
      generalize wAt b k = ww at wc hstep
      have q0 := (unhide HV 0 (by simp)).1
      have q1 := (unhide HV 1 (by simp)).1
      have q2 := (unhide HV 2 (by simp)).1
      have q3 := (unhide HV 3 (by simp)).1
      have q4 := (unhide HV 4 (by simp)).1
      have q5 := (unhide HV 5 (by simp)).1
      have q6 := (unhide HV 6 (by simp)).1
      have q7 := (unhide HV 7 (by simp)).1
      simp at q0 q1 q2 q3 q4 q5 q6 q7
      have i0 : (0 : Int) ≤ (k : Int) := by omega
      have i1 : (k : Int) < 64 := by omega
      clear hvw
      go_wp2
      go_region_with (go_at_call 105; refine (round_calls _ _ _ _ _ _ _ _ _ _ wv0 wv4).mono ?_; rintro e w2 ⟨rfl, hb2⟩; obtain ⟨r0, r1, r2, r3, r4, r5, r6, r7, fz⟩ := after8 (unhide HV) hb2 hsz2; have f0 := fz 0 (by omega); have f1 := fz 1 (by omega); have f2 := fz 2 (by omega); have f3 := fz 3 (by omega); have f4 := fz 4 (by omega); have f5 := fz 5 (by omega); have f6 := fz 6 (by omega); have f7 := fz 7 (by omega); clear fz; have HP := hide (nextW rfl (unhide HV) (unhide HW) (unhide HBl) hb2 hsz2); clear hb2)
      all_goals go_wp2
      all_goals go_roundw
      all_goals first
        | (case rel => exact ⟨k + 1, _, by go_num, by omega, rfl, hstep, (unhide HP _ _ _ _ _ _ _ _).1, (unhide HP _ _ _ _ _ _ _ _).2.1, (unhide HP _ _ _ _ _ _ _ _).2.2.1, (unhide HP _ _ _ _ _ _ _ _).2.2.2⟩)
        | (case measure => simp [intOf]; omega)
    · obtain rfl : k = 64 := by omega
      have hBw : Below w.heap.size w wr := (unhide BB).trans ((unhide HBl).mono (by omega))
      have HX2 := hide ((unhide HX).below (unhide HBl) hlt)
      have HO2 := hide ((unhide HO).below (unhide HBl) hlt1)
      have hne2 : ¬ w.heap.size = w1.heap.size + 1 := by omega
      have hne3 : ¬ w1.heap.size + 1 = w.heap.size := by omega
      clear hsz2 HW HBl HX HO HS HT BB
      go_wp2_with fail
      go_loopw [8, 25] (fun _ i wr => ∃ (k : Nat), i = .int .i64 k ∧ k ≤ 8 ∧ Hid (Words wr w.heap.size (curL [a0, a1, a2, a3, a4, a5, a6, a7] [v0, v1, v2, v3, v4, v5, v6, v7] k)) ∧ Hid (Words wr (w1.heap.size + 1) [v0, v1, v2, v3, v4, v5, v6, v7]) ∧
        Hid (Words wr (w.heap.size + 1 + 1) [0, 0, 0, 0, 0, 0, 0, 0]) ∧ Below w.heap.size w wr) (fun _ i _ => 8 - (intOf i).toNat)
      case atStart => exact ⟨0, rfl, by omega, by rw [curL_zero]; exact HX2, HV, HO2, hBw⟩
      case round =>
        clear HV HX2 HO2 hBw
        obtain ⟨k, rfl, hk, HX, HV, HO, hBw⟩ := hrel
        by_cases hlt3 : k < 8
        · have hc := unhide HX k (by rw [curL_length]; exact hlt3)
          rw [curL_get _ _ _ _ hlt3, if_neg (by omega)] at hc
          obtain ⟨hc, hf⟩ := hc
          have hv := (unhide HV k (by simpa using hlt3)).1
          have hnx := hide (curL_next [a0, a1, a2, a3, a4, a5, a6, a7] [v0, v1, v2, v3, v4, v5, v6, v7] k hlt3)
          generalize [a0, a1, a2, a3, a4, a5, a6, a7].getD k 0 = x at hc hnx
          generalize [v0, v1, v2, v3, v4, v5, v6, v7].getD k 0 = y at hv hnx
          have i0 : (0 : Int) ≤ (k : Int) := by omega
          have i1 : (k : Int) < 8 := by omega
          go_wp2
          go_region
          all_goals (try go_wp2)
          all_goals go_roundw
          all_goals first
            | (case rel => exact ⟨k + 1, by go_num, by omega, by rw [← unhide hnx]; exact ((unhide HX).set k (by rw [curL_length]; exact hlt3) _).drew, ((unhide HV).other k _ (by omega)).drew, ((unhide HO).other k _ (by omega)).drew, (hBw.setCell (Nat.le_refl _) _).drew⟩)
            | (case measure => simp [intOf]; omega)
        · obtain rfl : k = 8 := by omega
          have hend := curL_end [a0, a1, a2, a3, a4, a5, a6, a7] b
          rw [unhide hcomp] at hend
          rw [hend] at HX
          obtain ⟨c0, c1, c2, c3, c4, c5, c6, c7, hcl⟩ := list8 (blockL_length [a0, a1, a2, a3, a4, a5, a6, a7] b)
          rw [hcl] at HX
          have HC := hide hcl
          have q0 := (unhide HX 0 (by simp)).1
          have q1 := (unhide HX 1 (by simp)).1
          have q2 := (unhide HX 2 (by simp)).1
          have q3 := (unhide HX 3 (by simp)).1
          have q4 := (unhide HX 4 (by simp)).1
          have q5 := (unhide HX 5 (by simp)).1
          have q6 := (unhide HX 6 (by simp)).1
          have q7 := (unhide HX 7 (by simp)).1
          simp at q0 q1 q2 q3 q4 q5 q6 q7
          obtain ⟨r0, r1, r2, r3, r4, r5, r6, r7, fz⟩ := after8 (w := wr) (w2 := wr) (unhide HO) ⟨rfl, rfl, rfl, Nat.le_refl _, fun _ _ => rfl⟩ (lt_of_cell (unhide HO 0 (by simp)).1)
          have f0 := fz 0 (by omega)
          have f1 := fz 1 (by omega)
          have f2 := fz 2 (by omega)
          have f3 := fz 3 (by omega)
          have f4 := fz 4 (by omega)
          have f5 := fz 5 (by omega)
          have f6 := fz 6 (by omega)
          have f7 := fz 7 (by omega)
          have hp := put8_words wr (w.heap.size + 1 + 1) _ rfl (unhide HO) c0 c1 c2 c3 c4 c5 c6 c7
          unfold put8 at hp
          have p0 := (hp 0 (by simp)).1
          have p1 := (hp 1 (by simp)).1
          have p2 := (hp 2 (by simp)).1
          have p3 := (hp 3 (by simp)).1
          have p4 := (hp 4 (by simp)).1
          have p5 := (hp 5 (by simp)).1
          have p6 := (hp 6 (by simp)).1
          have p7 := (hp 7 (by simp)).1
          have hbp := hide (put8_below wr (w.heap.size + 1 + 1) (.int .u32 c0) (.int .u32 c1) (.int .u32 c2) (.int .u32 c3) (.int .u32 c4) (.int .u32 c5) (.int .u32 c6) (.int .u32 c7) w.heap.size (by omega) hBw.size)
          clear fz hp hcl hend
          have P0 := hide p0
          have P1 := hide p1
          have P2 := hide p2
          have P3 := hide p3
          have P4 := hide p4
          have P5 := hide p5
          have P6 := hide p6
          have P7 := hide p7
          clear p0 p1 p2 p3 p4 p5 p6 p7
          go_wp2
          refine bodyPost_ret (v := .agg #[.int .u32 c0, .int .u32 c1, .int .u32 c2, .int .u32 c3, .int .u32 c4, .int .u32 c5, .int .u32 c6, .int .u32 c7]) ?_ rfl ⟨c0, c1, c2, c3, c4, c5, c6, c7, unhide HC, rfl, hBw.trans (unhide hbp)⟩
          have p0 := unhide P0
          have p1 := unhide P1
          have p2 := unhide P2
          have p3 := unhide P3
          have p4 := unhide P4
          have p5 := unhide P5
          have p6 := unhide P6
          have p7 := unhide P7
          simp only [List.getD_cons_zero, List.getD_cons_succ] at p0 p1 p2 p3 p4 p5 p6 p7
          simp [results, Tryz.results95, go_sem, p0, p1, p2, p3, p4, p5, p6, p7]
end Go.Proofs.YtldgkpnlplfopaaGreatDoor


/- The program's last blocks. -/
namespace Go.Proofs.YtldgkpnlplfopaaGreatDoor
open Go.RowKit Plain
set_option linter.unusedVariables false

theorem info8 : (Tryz.prog.info? 5).map (·.size) = some 1 := by kernel_rfl

theorem info44s : (Tryz.prog.info? 131).map (fun i => (i.zero, i.size, i.bytes)) = some (some (.agg (List.replicate 64 (Value.int .u8 0)).toArray), 64, 64) := by kernel_rfl
theorem make46 (w : World) : (Instr.makeSlice 133 (.int .i64 1) (.int .i64 2)).run Tryz.prog w = .ok (.slice (some ⟨w.heap.size, 0, none⟩) 1 2) (w.alloc (.cells zeros128 131)) := by kernel_rfl

/-- The slice of m blocks that the call has made in block B holds the bytes L. -/
def BlkAt (W : World) (B m : Nat) (L : List Int) : Prop := L.length = 64 * m ∧ W.ownsRow B 131 64 (.slice (some ⟨B, 0, none⟩) m 2) m (L.map (Value.int .u8))

theorem BlkAt.cell {W : World} {B m : Nat} {L : List Int} (h : BlkAt W B m L) (j : Nat) (hj : j < 64 * m) : W.cell? ⟨B, j, none⟩ = some (.int .u8 (L.getD j 0)) ∧ W.frozen? ⟨B, j, none⟩ = false := by
  refine ⟨?_, h.2.frozenAt j⟩
  rw [h.2.cellAt j (by omega)]
  have hl := h.1
  simp [List.getElem?_eq_getElem (show j < L.length by omega), List.getD]

theorem blk_one {w1 : World} {B : Nat} (s : ByteArray) (hs : s.size < 64) (hr : w1.heap[B]? = some (.cells (splice zeros128.toList 0 ((bL s).map (Value.int .u8))).toArray 131 (0, 0))) :
    BlkAt (w1.setCell ⟨B, s.size, none⟩ (.int .u8 128)) B 1 (oneL (bL s)) := by
  have hl := oneL_length (bL s) (by rw [bL_length]; exact hs)
  refine ⟨by omega, by simp [hl], .inr ⟨B, 2, _, rfl, Nat.le_refl _, heap_setCell_same w1 B s.size _ _ _ hr, by omega, by unfold maxLen; omega, ?_, ?_⟩⟩
  · have := spl_length s hs
    simp at this ⊢
    omega
  · exact row_one s hs

theorem BlkAt.set {W : World} {B m : Nat} {L : List Int} (h : BlkAt W B m L) (j : Nat) (hj : j < 64 * m) (x : Int) : BlkAt (W.setCell ⟨B, j, none⟩ (.int .u8 x)) B m (L.set j x) := by
  refine ⟨by simpa using h.1, ?_⟩
  rw [List.map_set]
  exact (h.2.stored j (.int .u8 x)).1

theorem fin_small {W : World} {B : Nat} (s : ByteArray) (n : Int) (h : s.size < 56) (hb : BlkAt W B 1 (updTo (oneL (bL s)) 56 n (64 - 56))) : BlkAt W B 1 (lastL (bL s) n) := by
  have hl : (bL s).length < 56 := by rw [bL_length]; exact h
  have hp : (preL (bL s)).length = 56 := by rw [preL_length _ (by omega), if_pos hl]
  have := updTo_end (preL (bL s)) n
  rw [hp, ← oneL_small _ hl] at this
  rw [show 64 - 56 = 8 from rfl, this] at hb
  exact hb

theorem fin_big {W : World} {B : Nat} (s : ByteArray) (n : Int) (h : ¬ s.size < 56) (h2 : s.size < 64) (hb : BlkAt W B 2 (updTo (oneL (bL s) ++ List.replicate 64 0) 120 n (64 - 56))) : BlkAt W B 2 (lastL (bL s) n) := by
  have hl : ¬ (bL s).length < 56 := by rw [bL_length]; exact h
  have hl2 : (bL s).length < 64 := by rw [bL_length]; exact h2
  have hp : (preL (bL s)).length = 120 := by rw [preL_length _ hl2, if_neg hl]
  have := updTo_end (preL (bL s)) n
  rw [hp, ← oneL_big _ hl hl2] at this
  rw [show 64 - 56 = 8 from rfl, this] at hb
  exact hb

set_option maxRecDepth 10000 in
set_option maxHeartbeats 2000000 in
theorem lastBlocks_calls (s : ByteArray) (n : Int) (w : World) (hs : s.size < 64) (hn : 0 ≤ n ∧ n < 18446744073709551616) :
    Calls Tryz.prog 96 #[.string s, .int .u64 n] w fun r w' => ∃ m, r = .returned (.slice (some ⟨w.heap.size, 0, none⟩) m 2) ∧ BlkAt w' w.heap.size m (lastL (bL s) n) ∧ Below w.heap.size w w' := by
  have hmk := make46
  obtain ⟨hn0, hn1⟩ := hn
  have i0 : (0 : Int) ≤ (s.size : Int) := by omega
  have i1 : (s.size : Int) < 64 := by omega
  by_cases h56 : s.size < 56
  · have i2 : (s.size : Int) < 56 := by omega
    go_enter Tryz.func96, Tryz.ntmps96
    go_upto_region 3 with (refine wpList_copy_string rfl (.tmp 11) (.tmp 12) 22 9 rfl 5 Tryz.underlying22 info8 w.heap.size 0 64 64 s rfl rfl zeros128 131 (h_new _ _ rfl) s.size (Nat.min_eq_left (by omega)) (by simp [zeros128]; omega) ?_; intro w1 hrow hgr hsz1)
    rw [List.take_of_length_le (by rw [bL_length]; omega)] at hrow
    obtain ⟨⟨ov, hov⟩, hfz⟩ := spl_cell s hs hrow
    have HR := hide hrow
    have hB1 : Below w.heap.size w w1 := ((Below.refl _ _).alloc (Nat.le_refl _) _).trans ((Below.refl _ _).grown hgr (by simp) (fun k hk => by simp at hk; omega))
    have HB1 := hide hB1
    clear hrow hgr hB1 hmk
    go_wp2_with fail
    go_loopw [7] (fun i wr => ∃ k : Nat, i = .int .i64 k ∧ 56 ≤ k ∧ k ≤ 64 ∧ Hid (BlkAt wr w.heap.size 1 (updTo (oneL (bL s)) 56 n (k - 56))) ∧ Below w.heap.size w wr) (fun i _ => 64 - (intOf i).toNat)
    case atStart => exact ⟨56, rfl, by omega, by omega, blk_one s hs (unhide HR), (unhide HB1).setCell (Nat.le_refl _) _⟩
    case round =>
      obtain ⟨k, rfl, hk56, hk64, hblk, hbel⟩ := hrel
      by_cases hlt : k < 64
      · have hlen := (unhide hblk).1
        have hc := (unhide hblk).cell (k) (by omega)
        obtain ⟨hc, hf⟩ := hc
        generalize (updTo (oneL (bL s)) 56 n (k - 56)).getD (k) 0 = ov2 at hc
        obtain ⟨q, hq⟩ : ∃ q, 8 * (63 - k) = q := ⟨_, rfl⟩
        have hqi : 8 * (63 - (k : Int)) = (q : Int) := by omega
        have hq60 : q ≤ 56 := by omega
        have hnx := hide ((unhide hblk).set (k) (by omega) (byteAt n (k - 56)))
        have hby : byteAt n (k - 56) = n / 2 ^ q % 256 := by unfold byteAt; rw [show 8 * (7 - (k - 56)) = q from by omega]
        have hup : (updTo (oneL (bL s)) 56 n (k - 56)).set (k) (byteAt n (k - 56)) = updTo (oneL (bL s)) 56 n (k + 1 - 56) := by
          rw [show k + 1 - 56 = (k - 56) + 1 from by omega, updTo, show 56 + (k - 56) = k from by omega]
        rw [hup, hby] at hnx
        have j0 : (0 : Int) ≤ (k : Int) := by omega
        have j1 : (k : Int) < 64 := by omega
        clear hq hlen hup hby
        go_wp2
        go_region
        all_goals (try go_wp2)
        all_goals go_roundw
        all_goals first
          | (case rel => exact ⟨k + 1, by go_num, by omega, by omega, hnx, (hbel.setCell (Nat.le_refl _) _).drew⟩)
          | (case measure => simp [intOf]; omega)
      · obtain rfl : k = 64 := by omega
        have hfin := fin_small s n h56 (unhide hblk)
        go_wp2
        go_ret
        exact ⟨1, rfl, hfin, hbel⟩
  · have i2 : (56 : Int) ≤ (s.size : Int) := by omega
    obtain ⟨t0, hi, hz0, hz1, hz2⟩ := info_parts info44s
    go_enter Tryz.func96, Tryz.ntmps96
    go_upto_region 3 with (refine wpList_copy_string rfl (.tmp 11) (.tmp 12) 22 9 rfl 5 Tryz.underlying22 info8 w.heap.size 0 64 64 s rfl rfl zeros128 131 (h_new _ _ rfl) s.size (Nat.min_eq_left (by omega)) (by simp [zeros128]; omega) ?_; intro w1 hrow hgr hsz1)
    rw [List.take_of_length_le (by rw [bL_length]; omega)] at hrow
    obtain ⟨⟨ov, hov⟩, hfz⟩ := spl_cell s hs hrow
    have HO := hide (blk_one s hs hrow)
    have hB1 : Below w.heap.size w w1 := ((Below.refl _ _).alloc (Nat.le_refl _) _).trans ((Below.refl _ _).grown hgr (by simp) (fun k hk => by simp at hk; omega))
    have HB1 := hide hB1
    clear hrow hgr hB1 hmk hsz1
    go_upto_region 6 with (at_builtin; refine wpList_append_fits _ rfl (.tmp 22) (.tmp 24) 133 rfl w.heap.size 131 t0 64 Tryz.underlying133 hi hz1 w.heap.size 1 2 _ rfl ((unhide HO).2.alloc _) ⟨w1.heap.size, 0, none⟩ 1 1 (List.replicate 64 (Value.int .u8 0)) rfl rfl ?hnew ?hone (by omega) ?_)
    case hnew =>
      intro j u hj
      have hadd : (⟨w1.heap.size, 0, none⟩ : Addr).add j = ⟨w1.heap.size, j, none⟩ := by unfold Addr.add; split <;> simp_all
      rw [hadd]
      refine (cell_of_row _ w1.heap.size j (List.replicate 64 (Value.int .u8 0)).toArray 131 (0, 0) (h_new _ _ (by simp))).trans ?_
      simpa using hj
    case hone => intro u hu; rw [List.eq_of_mem_replicate hu]; rfl
    intro w2 hown2 hg2
    have hlen := oneL_length (bL s) (by rw [bL_length]; exact hs)
    have HBK : Hid (BlkAt w2 w.heap.size 2 (oneL (bL s) ++ List.replicate 64 0)) := hide ⟨by simp [hlen], by rw [List.map_append]; exact hown2⟩
    have hB2 : Below w.heap.size w w2 := ((((unhide HB1).setCell (Nat.le_refl _) _).alloc (by have := (unhide HB1).size; simp; omega) _)).grown hg2 (by have := (unhide HB1).size; simp; omega) (fun k hk => by simp at hk; omega)
    clear hown2 hg2 hlen
    go_wp2_with fail
    go_loopw [7] (fun i wr => ∃ k : Nat, i = .int .i64 k ∧ 56 ≤ k ∧ k ≤ 64 ∧ Hid (BlkAt wr w.heap.size 2 (updTo (oneL (bL s) ++ List.replicate 64 0) 120 n (k - 56))) ∧ Below w.heap.size w wr) (fun i _ => 64 - (intOf i).toNat)
    case atStart => exact ⟨56, rfl, by omega, by omega, HBK, hB2⟩
    case round =>
      obtain ⟨k, rfl, hk56, hk64, hblk, hbel⟩ := hrel
      by_cases hlt : k < 64
      · have hlen := (unhide hblk).1
        have hc := (unhide hblk).cell (64 + k) (by omega)
        obtain ⟨hc, hf⟩ := hc
        generalize (updTo (oneL (bL s) ++ List.replicate 64 0) 120 n (k - 56)).getD (64 + k) 0 = ov2 at hc
        obtain ⟨q, hq⟩ : ∃ q, 8 * (63 - k) = q := ⟨_, rfl⟩
        have hqi : 8 * (63 - (k : Int)) = (q : Int) := by omega
        have hq60 : q ≤ 56 := by omega
        have hnx := hide ((unhide hblk).set (64 + k) (by omega) (byteAt n (k - 56)))
        have hby : byteAt n (k - 56) = n / 2 ^ q % 256 := by unfold byteAt; rw [show 8 * (7 - (k - 56)) = q from by omega]
        have hup : (updTo (oneL (bL s) ++ List.replicate 64 0) 120 n (k - 56)).set (64 + k) (byteAt n (k - 56)) = updTo (oneL (bL s) ++ List.replicate 64 0) 120 n (k + 1 - 56) := by
          rw [show k + 1 - 56 = (k - 56) + 1 from by omega, updTo, show 120 + (k - 56) = 64 + k from by omega]
        rw [hup, hby] at hnx
        have j0 : (0 : Int) ≤ (k : Int) := by omega
        have j1 : (k : Int) < 64 := by omega
        clear hq hlen hup hby
        go_wp2
        go_region
        all_goals (try go_wp2)
        all_goals go_roundw
        all_goals first
          | (case rel => exact ⟨k + 1, by go_num, by omega, by omega, hnx, (hbel.setCell (Nat.le_refl _) _).drew⟩)
          | (case measure => simp [intOf]; omega)
      · obtain rfl : k = 64 := by omega
        have hfin := fin_big s n h56 hs (unhide hblk)
        go_wp2
        go_ret
        exact ⟨2, rfl, hfin, hbel⟩

end Go.Proofs.YtldgkpnlplfopaaGreatDoor

