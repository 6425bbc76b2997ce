/- A text's bytes as numbers, and copy from a text. -/
import Derived.Test.YtldgkpnlplfopaaShaC
import Derived.Laws.CopyRow
import Derived.Laws.CopyOwn
namespace Go.Proofs.Ytldgkpnlplfopaa.Plain
open Go Go.RowKit
set_option linter.unusedVariables false

def bL (s : ByteArray) : List Int := s.data.toList.map fun b => ((b.toNat : Nat) : Int)
theorem bL_length (s : ByteArray) : (bL s).length = s.size := by simp [bL]
theorem bL_byte (s : ByteArray) : ∀ j, 0 ≤ (bL s).getD j 0 ∧ (bL s).getD j 0 < 256 := by
  intro j
  unfold bL
  by_cases h : j < s.data.toList.length
  · have := (s.data.toList[j]).toNat_lt
    simp only [List.getD, List.getElem?_map, List.getElem?_eq_getElem h, Option.map_some, Option.getD_some]
    omega
  · simp only [List.getD, List.getElem?_map, List.getElem?_eq_none (by omega : s.data.toList.length ≤ j), Option.map_none, Option.getD_none]
    omega

theorem run_copy_string {P : Program} (w : World) (dT sT ty elem : TypeId) (g o dLen dCap : Nat) (s : ByteArray) (cur : Array Value) (t : TypeId)
    (hu : P.underlying dT = some (.slice elem)) (hs : (P.info? elem).map (·.size) = some 1) (hg : w.heap[g]? = some (.cells cur t (0, 0))) (n : Nat) (hm : Nat.min s.size dLen = n) (hfit : o + n ≤ cur.size) :
    (Builtin.copy_ #[dT, sT] ty #[.slice (some ⟨g, o, none⟩) dLen dCap, .string s]).run P w =
      .ok (goInt n) (w.setRow g (splice cur.toList o (((bL s).take n).map (Value.int .u8))).toArray) := by
  have hns : n ≤ s.size := by rw [← hm]; exact Nat.min_le_left _ _
  have hst := run_storeCells_at P g o t (((bL s).take n).map (Value.int .u8)) 0 cur w hg (by simp [bL_length]; omega) (fun v hv => by obtain ⟨x, _, rfl⟩ := List.mem_map.1 hv; rfl)
  cases hq : P.info? elem with
  | none => simp [hq] at hs
  | some i =>
    have hi : i.size = 1 := by simpa [hq] using hs
    simp only [Builtin.copy_]
    simp [run_underlying hu, Builtin.lenOf, Builtin.firstCells, sizeOf, typeInfo, hq, hm, Sem.run_pure]
    have e2 : List.take n (List.map (fun b : UInt8 => Value.int .u8 ((b.toNat : Nat) : Int)) s.data.toList) = ((bL s).take n).map (Value.int .u8) := by
      unfold bL
      rw [List.map_take, List.map_map]
      rfl
    rw [e2, hst]
    simp [splice]

theorem splice_grown {w : World} {g : Nat} (cs : Array Value) : w.grownBy (w.setRow g cs) (some g) :=
  ⟨rfl, rfl, rfl, by simp, fun k _ hk => setRow_other w g k cs (fun e => hk (by rw [e]))⟩

theorem wpList_copy_string {P : Program} {w : World} {ops : Array Oper} {rest : List Oper} {o : Oper} {a : Act} {Q : Exit → Act → World → Prop} (hgd : o.guard = none) (d x : Operand) (dT sT : TypeId)
    (ho : o.op = .call { callee := .builtin .copy, args := #[d, x], argTypes := #[dT, sT] }) (elem : TypeId) (hu : P.underlying dT = some (.slice elem)) (hsz : (P.info? elem).map (·.size) = some 1)
    (g off dLen dCap : Nat) (s : ByteArray) (hd : a.eval d = .slice (some ⟨g, off, none⟩) dLen dCap) (hs : a.eval x = .string s)
    (cur : Array Value) (t : TypeId) (hg : w.heap[g]? = some (.cells cur t (0, 0))) (n : Nat) (hm : Nat.min s.size dLen = n) (hfit : off + n ≤ cur.size)
    (h : ∀ w', w'.heap[g]? = some (.cells (splice cur.toList off (((bL s).take n).map (Value.int .u8))).toArray t (0, 0)) → w.grownBy w' (some g) → w'.heap.size = w.heap.size → wpList P ops Q rest (a.put o.dst (goInt n)) w') : wpList P ops Q (o :: rest) a w := by
  refine wpList_plain hgd fun K hK => ?_
  have hrun := run_copy_string (P := P) w dT sT o.type elem g off dLen dCap s cur t hu hsz hg n hm hfit
  unfold Oper.wp
  simp only [execOp, ho]
  simp [resolve, invoke, builtin, hd, hs, hrun, Result.andThen, -List.map_take]
  exact hK _ _ (h _ (setRow_heap w g _ _ t _ hg) (splice_grown _) (by simp))

end Go.Proofs.Ytldgkpnlplfopaa.Plain
