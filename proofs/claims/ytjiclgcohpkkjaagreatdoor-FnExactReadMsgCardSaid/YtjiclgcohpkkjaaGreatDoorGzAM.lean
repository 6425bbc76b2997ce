/- Texts of one kind, put together. -/
import Derived.Test.YtjiclgcohpkkjaaGreatDoorGzAC
import Derived.Test.YtjiclgcohpkkjaaGreatDoorGzAD
import Derived.Test.YtjiclgcohpkkjaaGreatDoorGzAE
import Derived.Test.YtjiclgcohpkkjaaGreatDoorGzAL
import Derived.Test.YtjiclgcohpkkjaaGreatDoorGzAB

/- Messages that are read: the mathematics. -/
namespace Go.Proofs.YtjiclgcohpkkjaaGreatDoor
open Go.RowKit Plain
set_option linter.unusedVariables false

namespace Plain
/-- What is left of a text from a place on. -/
def Lft (s : ByteArray) (p : Nat) (L : List UInt8) : Prop := p ≤ s.size ∧ s.data.toList.drop p = L
theorem Lft.ext {s : ByteArray} {p : Nat} {L : List UInt8} (h : Lft s p L) : s.extract p s.size = strL L := by
  obtain ⟨hp, rfl⟩ := h
  apply ByteArray.ext
  apply Array.ext'
  have hz : s.data.size = s.size := rfl
  simp [strL, ByteArray.data_extract, Array.toList_extract, List.extract]
  rw [List.take_of_length_le]
  simp [hz]
theorem Lft.next {s : ByteArray} {p : Nat} {K L : List UInt8} (h : Lft s p (K ++ L)) : Lft s (p + K.length) L := by
  obtain ⟨hp, he⟩ := h
  have hl : (s.data.toList.drop p).length = s.size - p := by rw [List.length_drop, Array.length_toList]; rfl
  rw [he, List.length_append] at hl
  refine ⟨by omega, ?_⟩
  rw [← List.drop_drop, he, List.drop_left]
theorem Lft.sz {s : ByteArray} {p : Nat} {L : List UInt8} (h : Lft s p L) : p + L.length = s.size := by
  obtain ⟨hp, rfl⟩ := h
  rw [List.length_drop, Array.length_toList]
  have : s.data.size = s.size := rfl
  omega
theorem Lft.start (L : List UInt8) : Lft (strL L) 0 L := ⟨Nat.zero_le _, by simp [strL]⟩
theorem stp_left {s : ByteArray} {p : Nat} {n : Int} {L : List UInt8} (h : Lft s p (pnL n ++ L)) (hn : numB n = true) : stp s p = some (n, p + (pnL n).length) := by
  unfold numB at hn
  simp only [Bool.and_eq_true, decide_eq_true_eq] at hn
  obtain ⟨N, rfl⟩ := Int.eq_ofNat_of_zero_le hn.1
  unfold stp
  rw [← tkN_shift s p h.1, h.ext, ← strL_add, pnL_str]
  have := tkN_put N (strL L) (by omega)
  have e : putS (Int.ofNat N) = putS (N : Int) := rfl
  rw [this]
  simp [pnL]
theorem txtL_is (t : ByteArray) (h : t.size ≤ 20000) : txtL t = pnL t.size ++ t.data.toList := by
  unfold txtL putT pnL
  rw [if_pos h]
  simp
theorem txp_left {s : ByteArray} {p : Nat} {t : ByteArray} {L : List UInt8} (h : Lft s p (txtL t ++ L)) (ht : t.size ≤ 20000) : txp s p = some (t, p + (txtL t).length) := by
  have h0 := h
  rw [txtL_is t ht, List.append_assoc] at h0
  have hx := h0.ext
  rw [← strL_add, pnL_str, ← strL_add, strL_data] at hx
  have hk := tkT_put t (strL L) ht
  rw [← hx, tkT_shift s p h.1] at hk
  unfold txp
  rw [hk]
  have h1 := h0.next
  have hsz := h1.sz
  have hpl : (pnL (t.size : Int)).length = (putS (t.size : Int)).size := by unfold pnL; rw [Array.length_toList]; rfl
  have hlt : (t.data.toList).length = t.size := by rw [Array.length_toList]; rfl
  rw [List.length_append, hlt] at hsz
  have hex := h1.ext
  have hcut : s.extract (p + (putS (t.size : Int)).size) (p + (putS (t.size : Int)).size + t.size) = t := by
    rw [← ext_front s (p + (putS (t.size : Int)).size) t.size (by omega), ← hpl, hex, ← strL_add, strL_data, pre_of]
  simp only [Option.map_some, hcut, Option.some.injEq, Prod.mk.injEq, true_and]
  rw [txtL_is t ht, List.length_append, hlt]
  omega
/-- What stands in a frame's body, read without a look at its faults. -/
def rawN (s : ByteArray) (p : Nat) : Int × Nat := ((stp s p).map fun x => x).getD (0, p)
def rawT (s : ByteArray) (p : Nat) : ByteArray × Nat := (txp s p).getD (⟨#[]⟩, p)
def rawE (b : ByteArray) : Ent := ⟨(rawN b 0).1, (rawN b (rawN b 0).2).1, (rawT b (rawN b (rawN b 0).2).2).1⟩
/-- The entry of a frame. -/
def fiveE (f : Int × ByteArray) : Option Ent := match stp f.2 0 with
  | none => none
  | some (t, p) => match stp f.2 p with
    | none => none
    | some (k, q) => match txp f.2 q with
      | none => none
      | some (b, r) => if f.1 = 2 ∧ r = f.2.size ∧ entB t k b = true then some ⟨t, k, b⟩ else none
/-- Entries that are read, by the program and by the specification. -/
def rawEs (s : ByteArray) : Nat → Nat → Option (List Ent × Nat)
  | 0, p => some ([], p)
  | n + 1, p => match txp s p with
    | none => none
    | some (t, q) => match (readF t).1 with
      | [f] => (rawEs s n q).map fun x => (rawE f.2 :: x.1, x.2)
      | _ => none
def fiveEs (s : ByteArray) : Nat → Nat → Nat → Option (List Ent × Nat)
  | 0, _, p => some ([], p)
  | n + 1, k, p => if 8 < k then some ([], p) else match txp s p with
    | none => none
    | some (t, q) => match (readF t).1 with
      | [f] => match fiveE f with
        | none => none
        | some e => (fiveEs s n (k + 1) q).map fun x => (e :: x.1, x.2)
      | _ => none
theorem ent_body {t k : Int} {b : ByteArray} (h : entB t k b = true) : (putS t ++ putS k ++ putT b) = strL (pnL t ++ (pnL k ++ (txtL b ++ []))) := by
  rw [List.append_nil, ← strL_add, ← strL_add, pnL_str, pnL_str, txtL_str]
  apply ByteArray.ext; simp
theorem ent_parts {t k : Int} {b : ByteArray} (h : entB t k b = true) : rawE (putS t ++ putS k ++ putT b) = ⟨t, k, b⟩ ∧ fiveE (2, putS t ++ putS k ++ putT b) = some ⟨t, k, b⟩ := by
  obtain ⟨h1, h2, h3, h4, h5⟩ := entB_yes h
  rw [ent_body h]
  have L0 := Lft.start (pnL t ++ (pnL k ++ (txtL b ++ [])))
  generalize strL (pnL t ++ (pnL k ++ (txtL b ++ []))) = s at L0 ⊢
  have a1 := stp_left L0 (by unfold numB; simp; omega)
  have L1 := L0.next
  have a2 := stp_left L1 (by unfold numB; simp; omega)
  have L2 := L1.next
  have a3 := txp_left L2 (by omega)
  have L3 := L2.next.sz
  constructor
  · unfold rawE rawN rawT
    simp only [a1, a2, a3, Option.map_some, Option.getD_some]
  · unfold fiveE
    simp only [a1, a2, a3]
    rw [if_pos ⟨trivial, by simpa using L3, h⟩]
theorem entT_read {t k : Int} {b : ByteArray} (h : entB t k b = true) : (readF (entT t k b)).1 = [(2, putS t ++ putS k ++ putT b)] ∧ (entT t k b).size ≤ 20000 ∧ 1 ≤ (entT t k b).size := by
  obtain ⟨h1, h2, h3, h4, h5⟩ := entB_yes h
  have hb : (putS t ++ putS k ++ putT b).size ≤ 4020 := by
    have e1 := putS_size t
    have e2 := putS_size k
    have e3 : (putT b).size ≤ 4006 := by unfold putT; rw [if_pos (by omega), ByteArray.size_append]; have := putS_size b.size; omega
    rw [ByteArray.size_append, ByteArray.size_append]; omega
  have he : entT t k b = frameB 2 (putS t ++ putS k ++ putT b) := by unfold entT; rw [if_pos h]
  obtain ⟨f1, f2, f3⟩ := frame_back 2 (putS t ++ putS k ++ putT b) (by omega) (by omega) (by omega)
  have hz : (frameB 2 (putS t ++ putS k ++ putT b)).size = (putS t ++ putS k ++ putT b).size + 9 := by
    unfold frameB
    rw [if_pos ⟨by omega, by omega, by omega⟩, ByteArray.size_append, seal_size, four_size]; omega
  rw [he]
  refine ⟨?_, by omega, by omega⟩
  rw [read_one _ (by omega) f2 (by rw [f1, hz]), f3]
theorem raw_ents (s : ByteArray) : ∀ (es : List Ent) (p : Nat), Lft s p (catE es) → entsB es = true → rawEs s es.length p = some (es, s.size)
  | [], p, h, _ => by
    have := h.sz
    simp [catE] at this
    simp [rawEs, this]
  | e :: es, p, h, hb => by
    unfold entsB at hb
    rw [List.all_cons, Bool.and_eq_true] at hb
    have hc : catE (e :: es) = txtL (entT e.term e.kind e.body) ++ catE es := rfl
    rw [hc] at h
    obtain ⟨r1, r2, r3⟩ := entT_read hb.1
    have ih := raw_ents s es _ h.next hb.2
    rw [List.length_cons, rawEs, txp_left h r2]
    simp only [r1]
    rw [ih, (ent_parts hb.1).1]
    rfl
theorem five_ents (s : ByteArray) : ∀ (es : List Ent) (k p : Nat), k + es.length ≤ 8 → Lft s p (catE es) → entsB es = true → fiveEs s es.length k p = some (es, s.size)
  | [], k, p, _, h, _ => by
    have := h.sz
    simp [catE] at this
    simp [fiveEs, this]
  | e :: es, k, p, hk, h, hb => by
    unfold entsB at hb
    rw [List.all_cons, Bool.and_eq_true] at hb
    have hc : catE (e :: es) = txtL (entT e.term e.kind e.body) ++ catE es := rfl
    rw [hc] at h
    obtain ⟨r1, r2, r3⟩ := entT_read hb.1
    rw [List.length_cons] at hk
    have ih := five_ents s es (k + 1) _ (by omega) h.next hb.2
    rw [List.length_cons, fiveEs, txp_left h r2, if_neg (by omega)]
    simp only [r1]
    rw [(ent_parts hb.1).2]
    simp only []
    rw [ih]
    rfl
end Plain
end Go.Proofs.YtjiclgcohpkkjaaGreatDoor


/- Worlds that differ in some blocks alone; rows that lie elsewhere. -/
namespace Go.Proofs.YtjiclgcohpkkjaaGreatDoor
open Go.RowKit Plain
set_option linter.unusedVariables false

namespace Plain
/-- Nothing has changed but blocks of which p is so, and new blocks. -/
structure OnlyP (p : Nat → Prop) (w w' : World) : Prop where
  os : w'.os = w.os
  tape : w'.tape = w.tape
  output : w'.output = w.output
  size : w.heap.size ≤ w'.heap.size
  block : ∀ k, k < w.heap.size → ¬ p k → w'.heap[k]? = w.heap[k]?
theorem OnlyP.of {p : Nat → Prop} {w w' : World} (h : Below w.heap.size w w') : OnlyP p w w' := ⟨h.os, h.tape, h.output, h.size, fun k hk _ => h.block k hk⟩
theorem OnlyP.row {p : Nat → Prop} {a : Option Addr} {w w' : World} (h : OnlyRow a w w') (hp : ∀ g o, a = some ⟨g, o, none⟩ → p g) : OnlyP p w w' := ⟨h.os, h.tape, h.output, h.size, fun k hk hn => h.block k hk fun o e => hn (hp k o e)⟩
theorem OnlyP.trans {p : Nat → Prop} {u v w : World} (h : OnlyP p u v) (h2 : OnlyP p v w) : OnlyP p u w :=
  ⟨h2.os.trans h.os, h2.tape.trans h.tape, h2.output.trans h.output, Nat.le_trans h.size h2.size, fun k hk hne => (h2.block k (Nat.lt_of_lt_of_le hk h.size) hne).trans (h.block k hk hne)⟩
theorem OnlyP.below {p : Nat → Prop} {w w' : World} {B : Nat} (h : OnlyP p w w') (hB : ∀ g, p g → B ≤ g) (hBw : B ≤ w.heap.size) : Below B w w' :=
  ⟨h.os, h.tape, h.output, h.size, fun k hk => h.block k (Nat.lt_of_lt_of_le hk hBw) (fun e => by have := hB k e; omega)⟩
/-- The block that a slice lies in. -/
def inB (a : Option Addr) (g : Nat) : Prop := ∃ o, a = some ⟨g, o, none⟩
end Plain
theorem RowAt.offP {α : Type} {e : Elem α} {p : Nat → Prop} {w w' : World} {a : Option Addr} {xs : List α} (h : RowAt e w a xs) (ho : OnlyP p w w') (hne : ∀ g, inB a g → ¬ p g) : RowAt e w' a xs := fun i hi => by
  obtain ⟨g, e1, hl, hc⟩ := h i hi
  have hb := ho.block g hl (hne g ⟨0, e1⟩)
  exact ⟨g, e1, Nat.lt_of_lt_of_le hl ho.size, fun j hj => ⟨(World.cell?_of_block (a := ⟨g, i * e.n + j, none⟩) hb).trans (hc j hj).1, (World.frozen?_of_block (a := ⟨g, i * e.n + j, none⟩) hb).trans (hc j hj).2⟩⟩
theorem RowAt.offR {α : Type} {e : Elem α} {w w' : World} {a b : Option Addr} {xs : List α} (h : RowAt e w a xs) (ho : OnlyRow b w w') (hne : ∀ g, inB a g → ¬ inB b g) : RowAt e w' a xs := h.offP (OnlyP.row (p := inB b) ho fun g o e => ⟨o, e⟩) hne
theorem OwnR.bl {α : Type} {e : Elem α} {w : World} {B n c : Nat} {a : Option Addr} {ls : List α} (h : OwnR e w B (.slice a n c) ls) : ∀ g, inB a g → B ≤ g ∧ g < w.heap.size := by
  rintro g ⟨o, rfl⟩
  exact World.ownsRow.lt h g rfl
end Go.Proofs.YtjiclgcohpkkjaaGreatDoor

