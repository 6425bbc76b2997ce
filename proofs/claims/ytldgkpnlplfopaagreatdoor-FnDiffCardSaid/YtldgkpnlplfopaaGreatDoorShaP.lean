/- Bytes of a string in a row of the call's own, and a byte appended to them. -/
import Derived.Test.YtldgkpnlplfopaaGreatDoorMem
import Derived.Test.YtldgkpnlplfopaaGreatDoorSzB
import Derived.ArgAppend
import Derived.Laws.IdiomStrings
import Derived.Deep.MidRow
namespace Go.Proofs.YtldgkpnlplfopaaGreatDoor
open Go.RowKit Plain
set_option linter.unusedVariables false

/-- Block g, of cap places, of the call's own (from B on), holds the bytes xs; all of it may be written. -/
def OwnP (W : World) (B g cap : Nat) (xs : List Int) : Prop :=
  B ≤ g ∧ g < W.heap.size ∧ xs.length ≤ cap ∧ (∀ j, j < xs.length → W.cell? ⟨g, j, none⟩ = some (.int .u8 (xs.getD j 0))) ∧ (∀ j, j < cap → (W.cell? ⟨g, j, none⟩).isSome = true ∧ W.frozen? ⟨g, j, none⟩ = false)

theorem OwnP.keep {W W' : World} {B g cap : Nat} {xs : List Int} (h : OwnP W B g cap xs) (hg : W'.heap[g]? = W.heap[g]?) (hs : W.heap.size ≤ W'.heap.size) : OwnP W' B g cap xs := by
  obtain ⟨h1, h2, h3, h4, h5⟩ := h
  refine ⟨h1, Nat.lt_of_lt_of_le h2 hs, h3, fun j hj => ?_, fun j hj => ?_⟩
  · rw [World.cell?_of_block (w := W) hg]; exact h4 j hj
  · rw [World.cell?_of_block (w := W) hg, World.frozen?_of_block (w := W) hg]; exact h5 j hj

theorem OwnP.range {W : World} {B g cap : Nat} {xs : List Int} (h : OwnP W B g cap xs) : W.rangeAt g 0 (xs.map (Value.int .u8)) := by
  intro j v hv
  have hl : j < xs.length := by have := (List.getElem?_eq_some_iff.1 hv).1; simpa using this
  rw [Nat.zero_add, h.2.2.2.1 j hl, ← hv]
  simp [List.getD, List.getElem?_eq_getElem hl]

theorem bytes_own (s : ByteArray) (w : World) : ∃ cap w', (convert 9 22 (.string s)).run Tryz.prog w = .ok (.slice (some ⟨w.heap.size, 0, none⟩) s.size cap) w' ∧ OwnP w' w.heap.size w.heap.size cap (bL s) ∧ Below w.heap.size w w' := by
  have hge := grownCap_ge w s.size 0 5
  refine ⟨_, _, run_bytes_of_string w 9 22 5 s Tryz.underlying9 Tryz.underlying22 Tryz.underlying5, ?_, ?_⟩
  · generalize grownCap w s.size 0 5 = cap at hge
    have hsz : (bytesRow s cap).size = cap := by simp [bytesRow]; omega
    have hnew := h_new w.drew (.cells (bytesRow s cap) 5 ((bytesRow s cap).size, (bytesRow s cap).size + 1)) (n := w.heap.size) rfl
    refine ⟨Nat.le_refl _, by simp, by rw [bL_length]; exact hge, fun j hj => ?_, fun j hj => ?_⟩
    · rw [bL_length] at hj
      rw [cell_of_row _ _ j _ _ _ hnew, bytesRow, Array.getElem?_append_left (by simpa using hj)]
      have hj' : j < s.data.size := hj
      simp [bL, List.getD, Array.getElem?_eq_getElem hj']
    · constructor
      · rw [cell_of_row _ _ j _ _ _ hnew, Array.getElem?_eq_getElem (by omega)]; rfl
      · unfold World.frozen?
        rw [hnew]
        simp
        omega
  · exact ((Below.refl _ w).drew).alloc (Nat.le_refl _) _

theorem appQ {ops : Array Oper} {rest : List Oper} {o : Oper} {a : Act} {Q : Exit → Act → World → Prop} (hgd : o.guard = none) (s x : Operand)
    (ho : o.op = .call { callee := .builtin .append, args := #[s, x], argTypes := #[22, 22] })
    {w : World} {B g cap n : Nat} {b : Int} {xs : List Int} (hown : OwnP w B g cap xs) (hn : xs.length = n) (hs : a.eval s = .slice (some ⟨g, 0, none⟩) n cap)
    (hx : a.eval x = .slice (some ⟨w.heap.size, 0, none⟩) 1 1) (hlen : n < 1000000000000) (hB : B ≤ w.heap.size)
    (h : ∀ g' cap' w', OwnP w' B g' cap' (xs ++ [b]) → Below B w w' → (∀ k, k < w.heap.size → k ≠ g → w'.heap[k]? = w.heap[k]?) → (g' = g ∨ w.heap.size ≤ g') → wpList Tryz.prog ops Q rest (a.put o.dst (.slice (some ⟨g', 0, none⟩) (n + 1) cap')) w') :
    wpList Tryz.prog ops Q (o :: rest) a (w.alloc (.cells #[.int .u8 b] 5)) := by
  subst hn
  obtain ⟨i0, hi, hz0, hz1, hz2⟩ := info_parts info5
  have hb1 : Below w.heap.size w (w.alloc (.cells #[.int .u8 b] 5)) := (Below.refl _ _).alloc (Nat.le_refl _) _
  have ha : OwnP (w.alloc (.cells #[.int .u8 b] 5)) B g cap xs := hown.keep (hb1.block _ hown.2.1) hb1.size
  obtain ⟨h1, h2, h3, h4, h5⟩ := ha
  refine wpList_append_arg _ hgd s x 22 ho 5 i0 (.int .u8 0) 1 1 Tryz.underlying22 hi hz0 hz1 hz2 rfl (by decide) g 0 xs.length cap (xs.map (Value.int .u8)) hs (by simp) ?_
    ⟨w.heap.size, 0, none⟩ 1 1 [.int .u8 b] hx rfl (cell_one_new _ _ _) ?_ ?_ (by unfold maxLen; omega) (by omega) ?_ ?_
  · intro j u hu
    have hl : j < xs.length := by have := (List.getElem?_eq_some_iff.1 hu).1; simpa using this
    rw [Nat.zero_add, h4 j hl, ← hu]
    simp [List.getD, List.getElem?_eq_getElem hl]
  · intro u hu; simp at hu; subst hu; rfl
  · intro hroom j hj
    simp at hj; subst hj
    have := h5 xs.length (by omega)
    simpa using this
  · intro hroom
    have e : (w.alloc (.cells #[.int .u8 b] 5)).setCells g (0 + xs.length * 1) [.int .u8 b] = (w.alloc (.cells #[.int .u8 b] 5)).setCell ⟨g, xs.length, none⟩ (.int .u8 b) := by
      simp [World.setCells]
    rw [e]
    refine h g cap _ ⟨h1, by simpa using h2, by simpa using hroom, fun j hj => ?_, fun j hj => ?_⟩ ((hb1.mono hB).setCell h1 _) (fun k hk hne => (Below.heap_setCell _ _ _ _ hne).trans (Below.heap_alloc w _ k hk)) (.inl rfl)
    · by_cases e : xs.length = j
      · subst e
        rw [World.cell?_setCell_same' _ _ _ (h5 _ (by omega)).1]
        simp [List.getD]
      · simp at hj
        rw [World.cell?_setCell_other _ ⟨g, xs.length, none⟩ ⟨g, j, none⟩ _ (fun q => e (congrArg Addr.off q)), h4 j (by omega)]
        simp [List.getD, List.getElem?_append_left (show j < xs.length by omega)]
    · refine ⟨?_, by simpa using (h5 j hj).2⟩
      by_cases e : xs.length = j
      · subst e; rw [World.cell?_setCell_same' _ _ _ (h5 _ (by omega)).1]; rfl
      · rw [World.cell?_setCell_other _ ⟨g, xs.length, none⟩ ⟨g, j, none⟩ _ (fun q => e (congrArg Addr.off q))]; exact (h5 j hj).1
  · intro hfull v' w' hr hgr
    have hbw : Below B w w' := (hb1.mono hB).trans ((Below.refl B _).grown hgr (by simp; omega) (fun k hk => by simp at hk))
    rcases hr.2 with ⟨_, h0⟩ | ⟨g', cap', cur, rfl, hbg, hcur, hle, hmx, hcs, htk⟩
    · omega
    · refine h g' cap' w' ⟨?_, ?_, by simpa using hle, fun j hj => ?_, fun j hj => ?_⟩ hbw (fun k hk _ => (hgr.block k (by simp; omega) (by simp)).trans (Below.heap_alloc w _ k hk)) (.inr (by simp at hbg; omega))
      · simp at hbg; omega
      · rcases Nat.lt_or_ge g' w'.heap.size with hlt | hge
        · exact hlt
        · rw [Array.getElem?_eq_none hge] at hcur; cases hcur
      · rw [cell_of_row _ _ j _ _ _ hcur]
        simp at hj
        have hk : cur.toList[j]? = (xs.map (Value.int .u8) ++ [.int .u8 b])[j]? := by rw [← htk, List.getElem?_take_of_lt (by omega)]
        rw [← Array.getElem?_toList, hk]
        by_cases e : j < xs.length
        · simp [List.getD, List.getElem?_append_left, e]
        · obtain rfl : j = xs.length := by omega
          simp [List.getD]
      · exact ⟨by rw [cell_of_row _ _ j _ _ _ hcur, Array.getElem?_eq_getElem (by omega)]; rfl, frozen_of_row _ _ j _ _ hcur⟩

theorem appP {ops : Array Oper} {rest : List Oper} {o : Oper} {a : Act} {Q : Exit → Act → World → Prop} (hgd : o.guard = none) (s x : Operand)
    (ho : o.op = .call { callee := .builtin .append, args := #[s, x], argTypes := #[22, 22] })
    {w : World} {B g cap n : Nat} {b : Int} {xs : List Int} (hown : OwnP w B g cap xs) (hn : xs.length = n) (hs : a.eval s = .slice (some ⟨g, 0, none⟩) n cap)
    (hx : a.eval x = .slice (some ⟨w.heap.size, 0, none⟩) 1 1) (hlen : n < 1000000000000) (hB : B ≤ w.heap.size)
    (h : ∀ g' cap' w', OwnP w' B g' cap' (xs ++ [b]) → Below B w w' → wpList Tryz.prog ops Q rest (a.put o.dst (.slice (some ⟨g', 0, none⟩) (n + 1) cap')) w') :
    wpList Tryz.prog ops Q (o :: rest) a (w.alloc (.cells #[.int .u8 b] 5)) :=
  appQ hgd s x ho hown hn hs hx hlen hB fun g' cap' w' h1 h2 _ _ => h g' cap' w' h1 h2

theorem OwnP.drew {W : World} {B g cap : Nat} {xs : List Int} (h : OwnP W B g cap xs) : OwnP W.drew B g cap xs := h
end Go.Proofs.YtldgkpnlplfopaaGreatDoor
