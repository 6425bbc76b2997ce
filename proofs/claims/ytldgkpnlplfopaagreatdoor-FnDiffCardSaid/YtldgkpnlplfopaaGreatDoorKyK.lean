/- Keys of digests as keys of a map. -/
import Derived.Test.YtldgkpnlplfopaaGreatDoorKyC
import Derived.Test.YtldgkpnlplfopaaGreatDoorSetI
import Derived.Maps.Own
import Derived.Maps.OwnOps
import Derived.Maps.OwnSet
import Derived.Maps.Views
import Derived.DeepKeys4
namespace Go.Proofs.YtldgkpnlplfopaaGreatDoor
open Go.RowKit Go.Maps Plain
set_option linter.unusedVariables false

namespace Plain
def litsK (k : List UInt8) : List Lit := (padK k).map fun b => .int .u8 (b.toNat : Int)
def keyLK (k : List UInt8) : Lit := .string (keyBytes (litsK k))
theorem keyLK_ok (k : List UInt8) : WideAt.IsKeyLit (keyLK k) := trivial
theorem flat_one {α β : Type} (f : α → β) : ∀ l : List α, (l.map fun x => [f x]).flatten = l.map f
  | [] => rfl
  | x :: l => by rw [List.map_cons, List.flatten_cons, flat_one f l]; rfl
end Plain
theorem sizeT2 : ∃ m, Tryz.prog.types.size = m + 1 := ⟨Tryz.prog.types.size - 1, by have : 0 < Tryz.prog.types.size := of_decide_eq_true (by kernel_rfl); omega⟩
theorem keyLits_KK (d : Nat) (k : List UInt8) : Tryz.prog.keyLits (d + 2) 63 (encK k) = some (litsK k) := by
  unfold Program.keyLits
  rw [Tryz.underlying63]
  simp only
  rw [if_pos (by rw [encK_len, cellsK])]
  have hl := padK_len k
  have := mapM_some (fun i => Tryz.prog.keyLits (d + 1) 5 (((encK k).drop (i * Tryz.prog.cellsOf 5)).take (Tryz.prog.cellsOf 5))) (fun i => [Lit.int .u8 (((padK k).getD i 0).toNat : Int)]) (List.range 32) (fun i hi => by
    have hi2 : i < (padK k).length := by rw [hl]; exact List.mem_range.1 hi
    have e : ((encK k).drop (i * Tryz.prog.cellsOf 5)).take (Tryz.prog.cellsOf 5) = [.int .u8 ((padK k)[i].toNat : Int)] := by
      rw [cellsU8, Nat.mul_one, List.drop_eq_getElem_cons (by simpa [encK] using hi2)]
      simp [encK]
    have hb := (padK k)[i].toNat_lt
    rw [e, keyLits_u8 d _ ⟨by omega, by omega⟩]
    simp [List.getD, List.getElem?_eq_getElem hi2])
  rw [this]
  rw [Option.map_some, flat_one]
  congr 1
theorem keyK_of (k : List UInt8) : keyOf Tryz.prog 63 (.agg (encK k).toArray) = some (keyLK k) := by
  have h1 : (Tryz.prog.keyType 63 && (Value.agg (encK k).toArray).formed Tryz.prog 63) = true := by
    rw [Bool.and_eq_true]
    refine ⟨by kernel_rfl, ?_⟩
    simp [Value.formed, Tryz.underlying63, cellsK, encK_len]
  obtain ⟨m, hm⟩ := sizeT2
  unfold keyOf
  rw [Tryz.underlying63]
  simp only
  rw [if_pos h1, hm, show (Value.agg (encK k).toArray).cells.toList = encK k from by simp [Value.cells], keyLits_KK]
  rfl
theorem encK_inj {a b : List UInt8} (ha : a.length = 32) (hb : b.length = 32) (h : encK a = encK b) : a = b := by
  unfold encK at h
  rw [padK_id ha, padK_id hb] at h
  apply List.ext_getElem
  · rw [ha, hb]
  · intro i h1 h2
    have := congrArg (·[i]?) h
    simp [h1, h2] at this
    exact UInt8.toNat_inj.1 (by omega)
theorem keyLK_inj {a b : List UInt8} (ha : a.length = 32) (hb : b.length = 32) (h : keyLK a = keyLK b) : a = b := by
  have := keyedK.inj (keyK_of a) (by rw [h]; exact keyK_of b)
  simp at this
  exact encK_inj ha hb this
set_option maxRecDepth 100000 in
theorem u8_inv (d : Nat) (z : Value) (ls : List Lit) (hz : Tryz.prog.keyLits (d + 1) 5 [z] = some ls) : ∃ b : UInt8, z = .int .u8 (b.toNat : Int) := by
  unfold Program.keyLits at hz
  rw [Tryz.underlying5] at hz
  cases z with
  | int kd n =>
    simp at hz
    obtain ⟨⟨rfl, q⟩, _⟩ := hz
    have hn : 0 ≤ n ∧ n < 256 := by
      simp [Lit.wf, IntKind.min, IntKind.max, IntKind.bits, IntKind.signed] at q
      omega
    refine ⟨n.toNat.toUInt8, ?_⟩
    have : n.toNat.toUInt8.toNat = n.toNat := by
      simp
      omega
    rw [this]
    congr 1
    omega
  | _ => simp at hz
theorem mapM_all {α β : Type} (f : α → Option β) : ∀ (l : List α) (r : List β), l.mapM f = some r → ∀ x ∈ l, ∃ y, f x = some y
  | [], r, _, x, hx => by cases hx
  | a :: l, r, h, x, hx => by
    rw [List.mapM_cons] at h
    cases hf : f a with
    | none => rw [hf] at h; cases h
    | some y =>
      rw [hf] at h
      cases hl : l.mapM f with
      | none => rw [hl] at h; cases h
      | some ys =>
        rcases List.mem_cons.1 hx with rfl | hx
        · exact ⟨y, hf⟩
        · exact mapM_all f l ys hl x hx
set_option maxRecDepth 100000 in
theorem keyK_inv {key : Value} {kl : Lit} (h : keyOf Tryz.prog 63 key = some kl) : ∃ x : List UInt8, key = .agg (encK x).toArray ∧ x.length = 32 := by
  have hu := Tryz.underlying63
  obtain ⟨m, hm⟩ := sizeT2
  unfold keyOf at h
  rw [hu] at h
  simp only at h
  split at h
  · next hf =>
    rw [Bool.and_eq_true] at hf
    have hf2 := hf.2
    cases key with
    | agg cs =>
      simp only [Value.formed, hu, cellsK] at hf2
      have hsz : cs.size = 32 := by simpa using hf2
      rw [hm] at h
      simp only [Value.cells] at h
      unfold Program.keyLits at h
      rw [hu] at h
      simp only [cellsK] at h
      rw [if_pos (by simpa using hsz)] at h
      cases hmm : (List.range 32).mapM (fun i => Tryz.prog.keyLits (m + 1) 5 ((cs.toList.drop (i * Tryz.prog.cellsOf 5)).take (Tryz.prog.cellsOf 5))) with
      | none => rw [hmm] at h; simp at h
      | some lss =>
        have each : ∀ i : Fin 32, ∃ b : UInt8, cs[i.val]'(by rw [hsz]; exact i.isLt) = .int .u8 (b.toNat : Int) := by
          intro i
          obtain ⟨ls, hls⟩ := mapM_all _ _ _ hmm i.val (List.mem_range.2 i.isLt)
          have hi : i.val < cs.toList.length := by simp [hsz]
          have e : (cs.toList.drop (i.val * Tryz.prog.cellsOf 5)).take (Tryz.prog.cellsOf 5) = [cs[i.val]'(by rw [hsz]; exact i.isLt)] := by
            rw [cellsU8, Nat.mul_one, List.drop_eq_getElem_cons hi]
            simp
          rw [e] at hls
          exact u8_inv m _ ls hls
        refine ⟨List.ofFn fun i => Classical.choose (each i), ?_, by simp⟩
        congr 1
        apply Array.ext'
        unfold encK
        rw [padK_id (by simp)]
        apply List.ext_getElem
        · simp [hsz]
        · intro i h1 h2
          have hi : i < 32 := by simpa [hsz] using h1
          have := Classical.choose_spec (each ⟨i, hi⟩)
          simp only [List.getElem_map, List.getElem_ofFn, Array.getElem_toList]
          exact this
    | _ => simp [Value.formed, hu] at hf2
  · cases h
end Go.Proofs.YtldgkpnlplfopaaGreatDoor
