/- Rows of rows of texts, as the exact laws copy, measure, compare and mark them. -/
import Derived.Test.YtmicacoegkmklaaGreatDoorRzL
import Derived.Test.YtmicacoegkmklaaGreatDoorRzD
import Derived.Test.YtmicacoegkmklaaGreatDoorRzE
import Derived.Deep.QuietTactic
import Derived.BigQuiet
import Derived.SliceStrings
namespace Go.Proofs.YtmicacoegkmklaaGreatDoor
open Go.RowKit Plain
set_option linter.unusedVariables false

namespace Plain
/-- A row's head. -/
structure Hd where
  a : Option Addr
  n : Nat
  c : Nat
def hdL (h : Hd) : List Value := [.slice h.a h.n h.c]
/-- The slice at a holds the rows xs of texts. -/
def HavAt (W : World) (a : Option Addr) (n : Nat) (xs : List (List ByteArray)) : Prop := xs.length = n ∧ n ≤ 1048576 ∧ ∀ i (h : i < xs.length), ∃ g ai ci, a = some ⟨g, 0, none⟩ ∧ g < W.heap.size ∧ W.cell? ⟨g, i, none⟩ = some (.slice ai xs[i].length ci) ∧ TxtsAt W ai xs[i].length xs[i]
theorem HavAt.below {W W' : World} {a : Option Addr} {n : Nat} {xs : List (List ByteArray)} (h : HavAt W a n xs) (hb : Below W.heap.size W W') : HavAt W' a n xs :=
  ⟨h.1, h.2.1, fun i hi => by
    obtain ⟨g, ai, ci, e, l, hc, ht⟩ := h.2.2 i hi
    exact ⟨g, ai, ci, e, Nat.lt_of_lt_of_le l hb.size, (hb.cell (p := ⟨g, i, none⟩) l).trans hc, ht.below hb⟩⟩
/-- An argument that is a slice of slices of texts. -/
def StrssRow (W : World) (a : Option Addr) (n c : Nat) (xs : List (List ByteArray)) : Prop := xs.length = n ∧ n ≤ maxLen ∧ ∀ i (h : i < xs.length), ∃ g o ai ci, a = some ⟨g, o, none⟩ ∧ g < W.heap.size ∧ W.cell? ⟨g, o + i, none⟩ = some (.slice ai xs[i].length ci) ∧ StrsRow W ai xs[i].length ci xs[i]
theorem StrsRow.below {W W' : World} {a : Option Addr} {n c : Nat} {ls : List ByteArray} (h : StrsRow W a n c ls) (hb : Below W.heap.size W W') : StrsRow W' a n c ls := ⟨h.1, h.2.1, h.2.2.1, h.2.2.2.below hb⟩
theorem StrssRow.below {W W' : World} {a : Option Addr} {n c : Nat} {xs : List (List ByteArray)} (h : StrssRow W a n c xs) (hb : Below W.heap.size W W') : StrssRow W' a n c xs :=
  ⟨h.1, h.2.1, fun i hi => by
    obtain ⟨g, o, ai, ci, e, l, hc, ht⟩ := h.2.2 i hi
    exact ⟨g, o, ai, ci, e, Nat.lt_of_lt_of_le l hb.size, (hb.cell (p := ⟨g, o + i, none⟩) l).trans hc, ht.below hb⟩⟩
/-- What a row of rows weighs. -/
def totS (xs : List (List ByteArray)) : Nat := (xs.map fun x => x.length + sumZ x).sum
theorem totS_cons (x : List ByteArray) (xs : List (List ByteArray)) : totS (x :: xs) = (x.length + sumZ x) + totS xs := by simp [totS]
theorem totS_drop (xs : List (List ByteArray)) (k : Nat) (h : k < xs.length) : totS (xs.drop k) = (xs[k].length + sumZ xs[k]) + totS (xs.drop (k + 1)) := by rw [List.drop_eq_getElem_cons h, totS_cons]
theorem totS_mem (xs : List (List ByteArray)) (x : List ByteArray) (h : x ∈ xs) : x.length + sumZ x ≤ totS xs := by
  induction xs with
  | nil => simp at h
  | cons y l ih =>
    rw [totS_cons]
    rcases List.mem_cons.1 h with rfl | h
    · omega
    · have := ih h; omega
/-- The rows xs lie in blocks gs of their own; their heads in block g. -/
structure HavG (W : World) (g : Nat) (gs : List Nat) (xs : List (List ByteArray)) : Prop where
  lens : gs.length = xs.length
  lt : g < W.heap.size
  out : ∀ i (h : i < xs.length) (h2 : i < gs.length), W.cell? ⟨g, i, none⟩ = some (.slice (some ⟨gs[i], 0, none⟩) xs[i].length xs[i].length)
  ins : ∀ i (h : i < xs.length) (h2 : i < gs.length), RowAt strE W (some ⟨gs[i], 0, none⟩) xs[i]
  inb : ∀ b ∈ gs, g < b ∧ b < W.heap.size
  inc : gs.Pairwise (· < ·)
theorem HavG.below {W W' : World} {g : Nat} {gs : List Nat} {xs : List (List ByteArray)} (h : HavG W g gs xs) (hb : Below W.heap.size W W') : HavG W' g gs xs :=
  ⟨h.lens, Nat.lt_of_lt_of_le h.lt hb.size, fun i hi h2 => (hb.cell (p := ⟨g, i, none⟩) h.lt).trans (h.out i hi h2), fun i hi h2 => (h.ins i hi h2).below hb, fun b hb2 => ⟨(h.inb b hb2).1, Nat.lt_of_lt_of_le (h.inb b hb2).2 hb.size⟩, h.inc⟩
theorem HavG.offP {p : Nat → Prop} {W W' : World} {g : Nat} {gs : List Nat} {xs : List (List ByteArray)} (h : HavG W g gs xs) (ho : OnlyP p W W') (hg : ¬ p g) (hgs : ∀ b ∈ gs, ¬ p b) : HavG W' g gs xs :=
  ⟨h.lens, Nat.lt_of_lt_of_le h.lt ho.size, fun i hi h2 => (World.cell?_of_block (a := ⟨g, i, none⟩) (ho.block g h.lt hg)).trans (h.out i hi h2), fun i hi h2 => (h.ins i hi h2).offP ho (fun b hb => by obtain ⟨o, e⟩ := hb; cases e; exact hgs _ (by simp)), fun b hb2 => ⟨(h.inb b hb2).1, Nat.lt_of_lt_of_le (h.inb b hb2).2 ho.size⟩, h.inc⟩
theorem HavG.at {W : World} {g n : Nat} {gs : List Nat} {xs : List (List ByteArray)} (h : HavG W g gs xs) (hn : xs.length = n) (hz : n + totS xs ≤ 1048576) : HavAt W (some ⟨g, 0, none⟩) n xs :=
  ⟨hn, by omega, fun i hi => by
    have h2 : i < gs.length := by rw [h.lens]; exact hi
    have hm := totS_mem xs xs[i] (by simp)
    exact ⟨g, _, _, rfl, h.lt, h.out i hi h2, h.ins i hi h2, rfl, by omega, fun s hs => by have := sumZ_mem _ s hs; omega⟩⟩
theorem sumZ_nil : sumZ [] = 0 := rfl
end Plain

/-- Heads as elements. -/
def hdE : Elem Hd where
  E := 22
  S := 24
  n := 1
  bytes := 24
  zero := .slice none 0 0
  enc := hdL
  hund := Tryz.underlying24
  hinfo := by kernel_rfl
  hz := rfl
  hn := by decide
  hb := by decide
  hlen := fun _ => rfl
  hone := fun x u hu => by simp [hdL] at hu; subst hu; rfl
theorem RowAt.hd {W : World} {a : Option Addr} {xs : List Hd} (h : RowAt hdE W a xs) (i : Nat) (hi : i < xs.length) : ∃ g, a = some ⟨g, 0, none⟩ ∧ g < W.heap.size ∧ W.cell? ⟨g, i, none⟩ = some (.slice xs[i].a xs[i].n xs[i].c) ∧ W.frozen? ⟨g, i, none⟩ = false := by
  obtain ⟨g, e1, hl, h1⟩ := h i hi
  have := h1 0 (by decide)
  rw [show i * hdE.n + 0 = i from Nat.mul_one i] at this
  exact ⟨g, e1, hl, this⟩

theorem rdStrs {H : Type} {enc : TypeId × Value → H} {W : World} {spare : Nat → Bool} {held : Bool} : ∀ m us y, DataW.trod enc Tryz.prog W 0 spare held m 22 us = some y → ∃ z : Hd × List ByteArray, us = hdL z.1 ∧ StrsRow W z.1.a z.1.n z.1.c z.2 := by
  intro m us y h
  rcases Go.ChangeShapes.open_strings Tryz.underlying22 Tryz.underlying9 (by kernel_rfl) h with ⟨hcs, _⟩ | ⟨x, l, c, ss, hcs, _, hl, hm, hz, _, hcell, hsz⟩
  · exact ⟨(⟨none, 0, 0⟩, []), hcs, rfl, Nat.zero_le _, fun _ h => by simp at h, StrsAt.nil _ _⟩
  · have hz2 : l ≤ ss.length := by rw [hz]; split <;> omega
    exact ⟨(⟨some x, l, c⟩, ss.take l), hcs, (show (ss.take l).length = l from by rw [List.length_take]; omega), Nat.le_trans hl hm, fun s hs => hsz s (List.mem_of_mem_take hs), StrsAt.of_cells hz2 hcell⟩
theorem argSS {W : World} {a : Option Addr} {k c : Nat} {zs : List (Hd × List ByteArray)} (h : ArgRow 1 (fun z : Hd × List ByteArray => hdL z.1) (fun z => StrsRow W z.1.a z.1.n z.1.c z.2) W a k c zs) : StrssRow W a k c (zs.map Prod.snd) := by
  refine ⟨by rw [List.length_map]; exact h.len, h.le, fun i hi => ?_⟩
  have hi2 : i < zs.length := by simpa using hi
  obtain ⟨g, o, e, l, hc⟩ := h.row i hi2
  have hc0 := hc 0 (by decide)
  have hg := h.good zs[i] (by simp)
  rw [List.getElem_map]
  refine ⟨g, o, zs[i].1.a, zs[i].1.c, e, l, ?_, ?_⟩
  · rw [show o + i * 1 + 0 = o + i from by omega] at hc0
    rw [hc0, hg.1]
    rfl
  · rw [hg.1]; exact hg

set_option maxRecDepth 10000 in
set_option maxHeartbeats 1000000 in
theorem szStringSS_calls (a : Option Addr) (n c : Nat) (xs : List (List ByteArray)) (left : Int) (w : World) (h0 : 0 ≤ left) (h1 : left ≤ 10000000) (h : StrssRow w a n c xs) :
    Calls Tryz.prog 6 #[.slice a n c, .int .i64 left] w fun e w' => ∃ r : Int, e = .returned (.int .i64 r) ∧ (r = -1 ∨ (0 ≤ r ∧ r ≤ 10000000 ∧ ((n + totS xs : Nat) : Int) ≤ left)) ∧ Below w.heap.size w w' := by
  have hn := h.1
  have hn2 := h.2.1
  unfold maxLen at hn2
  have H := hide h
  have HN := hide hn
  clear h hn
  by_cases hlt : left < (n : Int)
  · clear H HN
    go_enter Tryz.func6, Tryz.ntmps6
    go_wp2_with fail
    go_ret
    exact ⟨-1, rfl, .inl rfl, Below.refl _ _⟩
  obtain ⟨L, hL⟩ : ∃ L : Nat, left - (n : Int) = (L : Int) := ⟨(left - n).toNat, by omega⟩
  have HL := hide (show ((n + totS xs : Nat) : Int) ≤ left ↔ ((totS (xs.drop 0) : Nat) : Int) ≤ (L : Int) from by rw [List.drop_zero]; omega)
  go_enter Tryz.func6, Tryz.ntmps6
  go_wp2_with fail
  go_loopw [1, 5] (fun l i wr => ∃ (k r : Nat), l = .int .i64 r ∧ i = .int .i64 k ∧ k ≤ n ∧ r ≤ 10000000 ∧ Hid (((n + totS xs : Nat) : Int) ≤ left ↔ ((totS (xs.drop k) : Nat) : Int) ≤ (r : Int)) ∧ Hid (Below w.heap.size w wr)) (fun _ i _ => n - (intOf i).toNat)
  case atStart => exact ⟨0, L, by rw [← hL], rfl, by omega, by omega, HL, hide (Below.refl _ _)⟩
  case round =>
    clear HL
    obtain ⟨k, r, rfl, rfl, hk, hr, HR, HB⟩ := hrel
    by_cases hlk : k < n
    · have hkl : k < xs.length := by rw [unhide HN]; exact hlk
      obtain ⟨g, o, ai, ci, e1, l1, p1, hrow⟩ := ((unhide H).below (unhide HB)).2.2 k hkl
      have hst := totS_drop xs k hkl
      have HSZ := hide (szStringS_calls ai xs[k].length ci xs[k] (r : Int) wr hrow.1 (by have := hrow.2.1; unfold maxLen at this; omega) (fun l hl => by have := hrow.2.2.1 l hl; unfold maxLen at this; omega) (by omega) (by omega) hrow.2.2.2)
      unfold szL at HSZ
      generalize xs[k] = x at p1 hst HSZ hrow
      obtain ⟨m, hm⟩ : ∃ m, x.length = m := ⟨_, rfl⟩
      obtain ⟨z, hz⟩ : ∃ z, sumZ x = z := ⟨_, rfl⟩
      rw [hm] at p1
      rw [hm, hz] at HSZ hst
      have HR2 := hide (show ((n + totS xs : Nat) : Int) ≤ left ↔ (((m + z) + totS (xs.drop (k + 1)) : Nat) : Int) ≤ (r : Int) from by rw [← hst]; exact unhide HR)
      have i0 : (0 : Int) ≤ (k : Int) := by omega
      have i1 : (k : Int) < (n : Int) := by omega
      clear HR hst hrow hm hz
      by_cases hrx : (r : Int) < (m : Int) + (z : Int)
      · rw [if_pos hrx] at HSZ
        subst e1
        go_wp2_with fail
        refine (unhide HSZ).mono ?_
        rintro e w1 ⟨rfl, hb1⟩
        have HB1 := hide ((unhide HB).trans (hb1.mono (unhide HB).size))
        clear hb1
        go_wp2_with fail
        go_ret
        exact ⟨-1, rfl, .inl rfl, unhide HB1⟩
      · rw [if_neg hrx] at HSZ
        obtain ⟨r', hr'⟩ : ∃ r' : Nat, (r : Int) - ((m : Int) + (z : Int)) = (r' : Int) := ⟨r - (m + z), by omega⟩
        rw [hr'] at HSZ
        have HR3 := hide (show ((n + totS xs : Nat) : Int) ≤ left ↔ ((totS (xs.drop (k + 1)) : Nat) : Int) ≤ (r' : Int) from by rw [unhide HR2]; omega)
        subst e1
        go_wp2_with fail
        refine (unhide HSZ).mono ?_
        rintro e w1 ⟨rfl, hb1⟩
        have HB1 := hide ((unhide HB).trans (hb1.mono (unhide HB).size))
        clear hb1
        go_wp2_with fail
        go_roundw
        case rel => exact ⟨k + 1, r', rfl, by go_num, by omega, by omega, HR3, HB1⟩
        case measure => simp [intOf]; omega
    · have hF := unhide HR
      rw [List.drop_of_length_le (by rw [unhide HN]; omega)] at hF
      have HF := hide (hF.2 (by show ((0 : Nat) : Int) ≤ _; omega))
      clear hF HR
      go_wp2_with fail
      go_ret
      exact ⟨r, rfl, .inr ⟨by omega, by omega, unhide HF⟩, unhide HB⟩

namespace Plain
/-- While rows are copied: k of them lie in blocks of their own. -/
structure TsI (w wr : World) (n k : Nat) (L : List Hd) (gs : List Nat) (xs : List (List ByteArray)) : Prop where
  hl : L.length = n
  row : RowAt hdE wr (some ⟨w.heap.size, 0, none⟩) L
  gl : gs.length = k
  ent : ∀ i, i < k → ∀ (h1 : i < L.length) (h2 : i < gs.length) (h3 : i < xs.length), L[i] = ⟨some ⟨gs[i], 0, none⟩, xs[i].length, xs[i].length⟩
  ins : ∀ i (h2 : i < gs.length) (h3 : i < xs.length), RowAt strE wr (some ⟨gs[i], 0, none⟩) xs[i]
  inb : ∀ b ∈ gs, w.heap.size < b ∧ b < wr.heap.size
  inc : gs.Pairwise (· < ·)
  lt : w.heap.size < wr.heap.size
  bel : Below w.heap.size w wr
theorem rowOff {α : Type} {e : Elem α} {W : World} {a : Option Addr} {xs : List α} {b i : Nat} {u : Value} (h : RowAt e W a xs) (hne : ∀ g, a = some ⟨g, 0, none⟩ → g ≠ b) : RowAt e (W.setCell ⟨b, i, none⟩ u) a xs := fun j hj => by
  obtain ⟨g, e1, l, hc⟩ := h j hj
  refine ⟨g, e1, by simpa using l, fun m hm => ⟨?_, by rw [World.frozen?_setCell]; exact (hc m hm).2⟩⟩
  rw [World.cell?_setCell_other _ _ _ _ (fun q => hne g e1 (by have := congrArg Addr.block q; simpa using this.symm))]
  exact (hc m hm).1
theorem TsI.step {w wr w1 : World} {n k : Nat} {L : List Hd} {gs : List Nat} {xs : List (List ByteArray)} (h : TsI w wr n k L gs xs) (hk : k < n) (hkx : k < xs.length) (hb : Below wr.heap.size wr w1) {g1 m : Nat} (ho : OwnR strE w1 wr.heap.size (.slice (some ⟨g1, 0, none⟩) m m) xs[k]) (hm : xs[k].length = m) :
    TsI w (w1.setCell ⟨w.heap.size, k, none⟩ (.slice (some ⟨g1, 0, none⟩) m m)) n (k + 1) (L.set k ⟨some ⟨g1, 0, none⟩, m, m⟩) (gs ++ [g1]) xs := by
  have hg1 := ho.bl g1 ⟨0, rfl⟩
  have hlt := h.lt
  have hsz := hb.size
  have hkL : k < L.length := by rw [h.hl]; exact hk
  refine ⟨by rw [List.length_set]; exact h.hl, ?_, by rw [List.length_append, h.gl]; rfl, ?_, ?_, ?_, ?_, by simp; omega, ?_⟩
  · have := RowAt.setJ (h.row.below hb) k hkL 0 (by decide) (.slice (some ⟨g1, 0, none⟩) m m) (⟨some ⟨g1, 0, none⟩, m, m⟩ : Hd) rfl
    rwa [show k * hdE.n + 0 = k from by show k * 1 + 0 = k; omega] at this
  · intro i hi h1 h2 h3
    by_cases e : i = k
    · subst e
      rw [List.getElem_set_self, ← hm]
      have hg : (gs ++ [g1])[i]'h2 = g1 := by
        rw [List.getElem_append_right (by rw [h.gl]; exact Nat.le_refl _)]
        simp
      rw [hg]
    · rw [List.getElem_set_ne (fun q => e q.symm)]
      have h2' : i < gs.length := by rw [h.gl]; omega
      rw [List.getElem_append_left h2']
      exact h.ent i (by omega) _ h2' h3
  · intro i h2 h3
    by_cases e : i < gs.length
    · rw [List.getElem_append_left e]
      have hin := h.inb gs[i] (by simp)
      exact rowOff ((h.ins i e h3).below hb) (fun g q => by cases q; omega)
    · obtain rfl : i = k := by rw [List.length_append, h.gl] at h2; rw [h.gl] at e; simp at h2; omega
      have hg : (gs ++ [g1])[i]'h2 = g1 := by
        rw [List.getElem_append_right (by omega)]
        simp
      rw [hg]
      exact rowOff ho.at (fun g q => by cases q; omega)
  · intro b hb2
    rcases List.mem_append.1 hb2 with h3 | h3
    · have := h.inb b h3
      exact ⟨this.1, by simp; omega⟩
    · rw [List.mem_singleton] at h3
      subst h3
      exact ⟨by omega, by simp; omega⟩
  · refine List.pairwise_append.2 ⟨h.inc, List.pairwise_singleton _ _, fun a ha b hb2 => ?_⟩
    rw [List.mem_singleton] at hb2
    subst hb2
    have := h.inb a ha
    omega
  · exact (h.bel.trans (hb.mono (Nat.le_of_lt hlt))).setCell (p := ⟨w.heap.size, k, none⟩) (Nat.le_refl _) _
theorem TsI.fin {w wr : World} {n : Nat} {L : List Hd} {gs : List Nat} {xs : List (List ByteArray)} (h : TsI w wr n n L gs xs) (hn : xs.length = n) : HavG wr w.heap.size gs xs := by
  refine ⟨by rw [h.gl, hn], h.lt, fun i hi h2 => ?_, fun i hi h2 => h.ins i h2 hi, h.inb, h.inc⟩
  have h1 : i < L.length := by rw [h.hl]; omega
  obtain ⟨g, e, _, hc, _⟩ := h.row.hd i h1
  cases e
  rw [hc, h.ent i (by omega) h1 h2 hi]
end Plain

set_option maxRecDepth 10000 in
set_option maxHeartbeats 1000000 in
theorem toStringSS_calls (a : Option Addr) (n c : Nat) (xs : List (List ByteArray)) (w : World) (hz : n + totS xs ≤ 1048576) (h : StrssRow w a n c xs) :
    Calls Tryz.prog 10 #[.slice a n c] w fun e w' => ∃ gs, e = .returned (.slice (some ⟨w.heap.size, 0, none⟩) n n) ∧ HavG w' w.heap.size gs xs ∧ Below w.heap.size w w' := by
  have H := hide h
  have HN := hide h.1
  have hmk : (Instr.makeSlice 24 (.int .i64 n) (.int .i64 n)).run Tryz.prog w = _ := make_row hdE n w (by omega)
  have HO := hide (own_made hdE ⟨none, 0, 0⟩ rfl n w (by omega))
  have hba : Below w.heap.size w (w.alloc (.cells (madeCells hdE.zero.cells (n * hdE.n)) hdE.E)) := (Below.refl _ _).alloc (Nat.le_refl _) _
  have hlt : w.heap.size < (w.alloc (.cells (madeCells hdE.zero.cells (n * hdE.n)) hdE.E)).heap.size := by simp
  generalize w.alloc (.cells (madeCells hdE.zero.cells (n * hdE.n)) hdE.E) = wa at hmk HO hlt hba
  have HT := hide (show TsI w wa n 0 (List.replicate n ⟨none, 0, 0⟩) [] xs from ⟨by simp, (unhide HO).at, rfl, fun i hi => by omega, fun i h2 => by simp at h2, fun b hb => by simp at hb, List.Pairwise.nil, hlt, hba⟩)
  clear h hba HO
  go_enter Tryz.func10, Tryz.ntmps10
  go_wp2_with fail
  go_loopw [4] (fun i wr => ∃ (k : Nat) (L : List Hd) (gs : List Nat), i = .int .i64 k ∧ k ≤ n ∧ Hid (TsI w wr n k L gs xs)) (fun i _ => n - (intOf i).toNat)
  case atStart => exact ⟨0, _, _, rfl, by omega, HT⟩
  case round =>
    clear HT hmk hlt
    obtain ⟨k, L, gs, rfl, hk, HT⟩ := hrel
    by_cases hlk : k < n
    · have hkl : k < xs.length := by rw [unhide HN]; exact hlk
      obtain ⟨g, o, ai, ci, e1, l1, p1, hrow⟩ := ((unhide H).below (unhide HT).bel).2.2 k hkl
      have hm2 := totS_mem xs xs[k] (by simp)
      have HTS := hide (toStringS_calls ai xs[k].length ci xs[k] wr hrow.1 (by omega) hrow.2.2.2)
      obtain ⟨m, hm⟩ : ∃ m, xs[k].length = m := ⟨_, rfl⟩
      rw [hm] at p1 HTS
      have HM := hide hm
      have i0 : (0 : Int) ≤ (k : Int) := by omega
      have i1 : (k : Int) < (n : Int) := by omega
      clear hrow hm2 hm
      subst e1
      go_wp2_with fail
      refine (unhide HTS).mono ?_
      rintro e w1 ⟨g1, rfl, ho, hb1⟩
      have HT2 := hide ((unhide HT).step hlk hkl hb1 ho (unhide HM))
      have hkL : k < L.length := by rw [(unhide HT).hl]; exact hlk
      obtain ⟨g', e2, l2, q1, q2⟩ := ((unhide HT).row.below hb1).hd k hkL
      cases e2
      generalize (.slice L[k].a L[k].n L[k].c : Value) = old at q1
      clear ho hb1 HTS HT
      go_wp2_with fail
      go_roundw
      case rel => exact ⟨k + 1, _, _, by go_num, by omega, HT2⟩
      case measure => simp [intOf]; omega
    · obtain rfl : k = n := by omega
      have HF := hide ((unhide HT).fin (unhide HN))
      have HB := hide (unhide HT).bel
      clear HT
      go_wp2_with fail
      go_ret
      exact ⟨gs, rfl, unhide HF, unhide HB⟩

set_option maxRecDepth 10000 in
set_option maxHeartbeats 1000000 in
theorem eqStringSS_calls (g1 g2 n : Nat) (gs1 gs2 : List Nat) (xs : List (List ByteArray)) (w : World) (hn : xs.length = n) (hz : n + totS xs ≤ 1048576) (h1 : HavG w g1 gs1 xs) (h2 : HavG w g2 gs2 xs) :
    Calls Tryz.prog 15 #[.slice (some ⟨g1, 0, none⟩) n n, .slice (some ⟨g2, 0, none⟩) n n] w fun e w' => e = .returned (.bool true) ∧ Below w.heap.size w w' := by
  have H1 := hide h1
  have H2 := hide h2
  have HN := hide hn
  clear h1 h2 hn
  go_enter Tryz.func15, Tryz.ntmps15
  go_wp2_with fail
  go_loopw [5] (fun i wr => ∃ (k : Nat), i = .int .i64 k ∧ k ≤ n ∧ Hid (Below w.heap.size w wr)) (fun i _ => n - (intOf i).toNat)
  case atStart => exact ⟨0, rfl, by omega, Below.refl _ _⟩
  case round =>
    obtain ⟨k, rfl, hk, HB⟩ := hrel
    by_cases hlt : k < n
    · have hkl : k < xs.length := by rw [unhide HN]; exact hlt
      have k1 : k < gs1.length := by rw [(unhide H1).lens]; exact hkl
      have k2 : k < gs2.length := by rw [(unhide H2).lens]; exact hkl
      have hm2 := totS_mem xs xs[k] (by simp)
      have HQ := hide (fun (W : World) (hW : Below w.heap.size w W) => (show W.cell? ⟨g1, k, none⟩ = some (.slice (some ⟨gs1[k], 0, none⟩) xs[k].length xs[k].length) ∧ W.cell? ⟨g2, k, none⟩ = some (.slice (some ⟨gs2[k], 0, none⟩) xs[k].length xs[k].length) from ⟨((unhide H1).below hW).out k hkl k1, ((unhide H2).below hW).out k hkl k2⟩))
      have HE := hide (fun (W : World) (hW : Below w.heap.size w W) => eqStringS_calls (some ⟨gs1[k], 0, none⟩) (some ⟨gs2[k], 0, none⟩) xs[k].length xs[k].length xs[k].length xs[k] W rfl (by omega) (((unhide H1).below hW).ins k hkl k1).strs (((unhide H2).below hW).ins k hkl k2).strs)
      generalize gs1[k] = b1 at HQ HE
      generalize gs2[k] = b2 at HQ HE
      generalize xs[k].length = m at HQ HE
      obtain ⟨p1, p2⟩ := unhide HQ wr (unhide HB)
      have i0 : (0 : Int) ≤ (k : Int) := by omega
      have i1 : (k : Int) < (n : Int) := by omega
      clear H1 H2 hm2 HQ
      have HE1 := hide (unhide HE wr.drew (belDrew (unhide HB)))
      go_wp2_with fail
      go_region_with (go_at_call 13; refine (unhide HE1).mono ?_; rintro e w2 ⟨rfl, hb2⟩)
      all_goals
        go_wp2_with fail
        exact ⟨⟨k + 1, by go_num, by omega, hide ((belDrew (unhide HB)).trans (hb2.mono (unhide HB).size))⟩, by simp [intOf]; omega⟩
    · obtain rfl : k = n := by omega
      go_wp2_with fail
      go_ret
      exact ⟨rfl, unhide HB⟩

set_option maxRecDepth 10000 in
set_option maxHeartbeats 1000000 in
theorem markStringSS_calls (b g n : Nat) (gs : List Nat) (xs : List (List ByteArray)) (w : World) (hb1 : 1 ≤ b) (hb2 : b ≤ 10000000) (hn : xs.length = n) (hz : n + totS xs ≤ 1048576) (h : HavG w g gs xs) :
    Calls Tryz.prog 18 #[.slice (some ⟨g, 0, none⟩) n n, .int .i64 b] w fun e w' => ∃ m : Nat, e = .returned (.int .i64 m) ∧ OnlyP (fun x => x ∈ gs) w w' := by
  have H := hide h
  have HN := hide hn
  have HT := hide (show b + totS (xs.drop 0) ≤ 20000000 from by rw [List.drop_zero]; omega)
  clear h hn
  go_enter Tryz.func18, Tryz.ntmps18
  go_wp2_with fail
  go_loopw [1, 5] (fun m i wr => ∃ (k M : Nat), i = .int .i64 k ∧ m = .int .i64 M ∧ k ≤ n ∧ 1 ≤ M ∧ Hid (M + totS (xs.drop k) ≤ 20000000) ∧ Hid (∀ i (h3 : i < xs.length) (h2 : i < gs.length), k ≤ i → RowAt strE wr (some ⟨gs[i], 0, none⟩) xs[i]) ∧ Hid (OnlyP (fun x => x ∈ gs) w wr)) (fun _ i _ => n - (intOf i).toNat)
  case atStart => exact ⟨0, b, rfl, rfl, by omega, hb1, HT, hide (fun i h3 h2 _ => (unhide H).ins i h3 h2), hide (OnlyP.of (Below.refl _ _))⟩
  case round =>
    clear HT
    obtain ⟨k, M, rfl, rfl, hk, hM, HT, HR, HB⟩ := hrel
    by_cases hlt : k < n
    · have hkl : k < xs.length := by rw [unhide HN]; exact hlt
      have k1 : k < gs.length := by rw [(unhide H).lens]; exact hkl
      have ht := unhide HT
      rw [totS_drop xs k hkl] at ht
      have p1 : wr.cell? ⟨g, k, none⟩ = some (.slice (some ⟨gs[k], 0, none⟩) xs[k].length xs[k].length) := (World.cell?_of_block (a := ⟨g, k, none⟩) ((unhide HB).block g (unhide H).lt (fun q => by have := (unhide H).inb g q; omega))).trans ((unhide H).out k hkl k1)
      have HMK := hide (markStringS_calls M (some ⟨gs[k], 0, none⟩) xs[k].length xs[k].length xs[k] wr hM (by omega) rfl (by omega) (unhide HR k hkl k1 (Nat.le_refl _)))
      have HIN := hide (show gs[k] ∈ gs from by simp)
      have HNE := hide (fun (i : Nat) (h2 : i < gs.length) (hi : k < i) => (show gs[i] ≠ gs[k] from by have := List.pairwise_iff_getElem.1 (unhide H).inc k i k1 h2 hi; omega))
      obtain ⟨m, hm⟩ : ∃ m, xs[k].length = m := ⟨_, rfl⟩
      rw [hm] at p1 HMK ht
      have hm2 : m ≤ 20000000 := by omega
      obtain ⟨z, hzz⟩ : ∃ z, sumZ xs[k] = z := ⟨_, rfl⟩
      rw [hzz] at ht
      have HT2 := hide (show (M + m) + totS (xs.drop (k + 1)) ≤ 20000000 from by omega)
      have hM2 : M ≤ 20000000 := by omega
      obtain ⟨M2, hM3⟩ : ∃ M2, M + m = M2 := ⟨_, rfl⟩
      rw [hM3] at HMK HT2
      have hM4 : 1 ≤ M2 := by omega
      generalize gs[k] = bk at p1 HMK HIN HNE
      have i0 : (0 : Int) ≤ (k : Int) := by omega
      have i1 : (k : Int) < (n : Int) := by omega
      clear ht HT hm hzz hM3
      go_wp2_with fail
      refine (unhide HMK).mono ?_
      rintro e w1 ⟨rfl, -, ho⟩
      have hop := OnlyP.row (p := fun x => x = bk) ho fun g o e => by cases e; rfl
      have HB2 := hide ((unhide HB).trans (OnlyP.row (p := fun x => x ∈ gs) ho fun g o e => by cases e; exact unhide HIN))
      have HR2 := hide (fun (i : Nat) (h3 : i < xs.length) (h2 : i < gs.length) (hi : k + 1 ≤ i) => (unhide HR i h3 h2 (by omega)).offP hop (fun g hg hp => by obtain ⟨o, e⟩ := hg; cases e; exact unhide HNE i h2 (by omega) hp))
      clear ho hop HMK HR HB HNE
      go_wp2_with fail
      go_roundw
      case rel => exact ⟨k + 1, M2, by go_num, rfl, by omega, hM4, HT2, HR2, HB2⟩
      case measure => simp [intOf]; omega
    · obtain rfl : k = n := by omega
      go_wp2_with fail
      go_ret
      exact ⟨M, rfl, unhide HB⟩
end Go.Proofs.YtmicacoegkmklaaGreatDoor
