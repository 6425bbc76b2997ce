/- The program's sum. -/
import Derived.Test.YtldgkpnlplfopaaShaW
import Derived.Test.YtldgkpnlplfopaaShaL
import Derived.Test.YtldgkpnlplfopaaShaF
import Derived.Deep.MidRow
namespace Go.Proofs.Ytldgkpnlplfopaa
open Go.RowKit Plain
set_option linter.unusedVariables false

theorem wpList_store_any {P : Program} {ops : Array Oper} {rest : List Oper} {o : Oper} {a : Act} {w : World} {Q : Exit → Act → World → Prop} (hgd : o.guard = none) (ty : TypeId) (x y : Operand) (ho : o.op = .store ty x y)
    (g : Nat) (cells : Array Value) (hx : a.eval x = .pointer (some ⟨g, 0, none⟩)) (hy : a.eval y = .agg cells)
    (t : TypeId) (old : Array Value) (hg : w.heap[g]? = some (.cells old t (0, 0))) (hi : (P.info? ty).map (·.size) = some cells.size)
    (hold : old.size = cells.size) (h1 : cells.all (·.oneCell') = true)
    (h : ∀ w', w'.heap[g]? = some (.cells cells t (0, 0)) → w.grownBy w' (some g) → w'.heap.size = w.heap.size → wpList P ops Q rest (a.put o.dst undef) w') : wpList P ops Q (o :: rest) a w :=
  wpList_store_row hgd ty x y ho g cells hx hy t old hg hi hold h1 (h _ (setRow_heap w g _ _ t _ hg) (splice_grown _) (by simp))



def strSize : Value → Nat
  | .string s => s.size
  | _ => 0



namespace Plain
theorem words8 {w : World} {g : Nat} {v0 v1 v2 v3 v4 v5 v6 v7 : Int} (h : Words w g [v0, v1, v2, v3, v4, v5, v6, v7]) :
    (w.cell? ⟨g, 0, none⟩ = some (.int .u32 v0) ∧ w.cell? ⟨g, 1, none⟩ = some (.int .u32 v1) ∧ w.cell? ⟨g, 2, none⟩ = some (.int .u32 v2) ∧ w.cell? ⟨g, 3, none⟩ = some (.int .u32 v3) ∧
    w.cell? ⟨g, 4, none⟩ = some (.int .u32 v4) ∧ w.cell? ⟨g, 5, none⟩ = some (.int .u32 v5) ∧ w.cell? ⟨g, 6, none⟩ = some (.int .u32 v6) ∧ w.cell? ⟨g, 7, none⟩ = some (.int .u32 v7)) ∧
    (w.frozen? ⟨g, 0, none⟩ = false ∧ w.frozen? ⟨g, 1, none⟩ = false ∧ w.frozen? ⟨g, 2, none⟩ = false ∧ w.frozen? ⟨g, 3, none⟩ = false ∧
    w.frozen? ⟨g, 4, none⟩ = false ∧ w.frozen? ⟨g, 5, none⟩ = false ∧ w.frozen? ⟨g, 6, none⟩ = false ∧ w.frozen? ⟨g, 7, none⟩ = false) :=
  ⟨⟨(h 0 (by simp)).1, (h 1 (by simp)).1, (h 2 (by simp)).1, (h 3 (by simp)).1, (h 4 (by simp)).1, (h 5 (by simp)).1, (h 6 (by simp)).1, (h 7 (by simp)).1⟩,
   ⟨(h 0 (by simp)).2, (h 1 (by simp)).2, (h 2 (by simp)).2, (h 3 (by simp)).2, (h 4 (by simp)).2, (h 5 (by simp)).2, (h 6 (by simp)).2, (h 7 (by simp)).2⟩⟩

def zeros64 : Array Value := (List.replicate 64 (Value.int .u8 0)).toArray
theorem splice_full (s : ByteArray) (h : 64 ≤ s.size) : (splice zeros64.toList 0 (((bL s).take 64).map (Value.int .u8))).toArray = bytesV ((bL s).take 64) := by
  have hl : ((bL s).take 64).length = 64 := by rw [List.length_take, bL_length]; omega
  simp only [splice, zeros64, bytesV]
  simp only [List.take_zero, List.nil_append, Nat.zero_add, List.length_map, hl, List.drop_replicate, Nat.sub_self]
  simp
theorem range_of_block {w w' : World} {b : Nat} (h : w'.heap[b]? = w.heap[b]?) {o : Nat} {cs : List Value} (hr : w.rangeAt b o cs) : w'.rangeAt b o cs := by
  intro j v hv
  rw [← hr j v hv]
  simp [World.cell?, h]
theorem range_chunk {w : World} {b : Nat} {L : List Int} (hr : w.rangeAt b 0 (L.map (Value.int .u8))) (j : Nat) (hj : 64 * j + 64 ≤ L.length) : w.rangeAt b (j * 64) ((chunk L j).map (Value.int .u8)) := by
  intro i v hv
  have hi : i < 64 := by
    have := (List.getElem?_eq_some_iff.1 hv).1
    simp [chunk] at this
    omega
  have := hr (j * 64 + i) v (by
    rw [List.getElem?_map] at hv ⊢
    rw [← hv, chunk, List.getElem?_take_of_lt hi, List.getElem?_drop, Nat.mul_comm])
  rwa [Nat.zero_add] at this
theorem extract_size (s : ByteArray) (a : Nat) : (s.extract a s.size).size = s.size - a := by simp
theorem extract_next (s : ByteArray) (k : Nat) : (s.extract (64 * k) s.size).extract 64 (s.extract (64 * k) s.size).size = s.extract (64 * (k + 1)) s.size := by
  apply ByteArray.ext
  simp [ByteArray.data_extract]
  congr 1 <;> omega
theorem allL_byte (s : ByteArray) : ∀ j, 0 ≤ (allL s).getD j 0 ∧ (allL s).getD j 0 < 256 := by
  unfold allL
  refine getD_append_byte ?_ (lastL_byte _ _ ?_)
  · have := getD_sub (bL_byte s) 0 (64 * (s.size / 64))
    rwa [List.drop_zero] at this
  · have := getD_sub (bL_byte s) (64 * (s.size / 64)) (s.size)
    rwa [List.take_of_length_le (by rw [List.length_drop, bL_length]; omega)] at this
theorem chunk_ok (s : ByteArray) (k : Nat) (h : k < (allL s).length / 64) : ByteL (chunk (allL s) k) := by
  unfold chunk
  refine ⟨?_, getD_sub (allL_byte s) _ _⟩
  rw [List.length_take, List.length_drop]; omega
end Plain

end Go.Proofs.Ytldgkpnlplfopaa