/- The program's table of files: a map from a name to its file. -/
import Derived.Test.YtknpccpfjclngaaDskW
import Derived.Maps.Own
import Derived.Maps.OwnOps
import Derived.Maps.OwnSet
import Derived.Maps.Views
import Derived.StringKeys
namespace Go.Proofs.Ytknpccpfjclngaa
open Go.RowKit Go.Maps Plain
set_option linter.unusedVariables false

namespace Plain
def flD (f : Fl) : DataW Unit := .agg [.lit (.string f.1.data.toList), .lit (.string f.2.data.toList)]
/-- How a file reads that is a map's element. -/
def flElem (v : Value) : Option (DataW Unit × List MemPlace) := match v with
  | .agg cs => match cs.toList with
    | [.string n, .string d] => some (flD (n, d), [])
    | _ => none
  | _ => none
theorem flElem_mk (n d : ByteArray) : flElem (.agg #[.string n, .string d]) = some (flD (n, d), []) := rfl
theorem flElem_inv {v : Value} {f : Fl} {ps : List MemPlace} (h : flElem v = some (flD f, ps)) : v = .agg #[.string f.1, .string f.2] := by
  unfold flElem at h
  split at h
  · next cs =>
    split at h
    · next n d hcs =>
      simp [flD] at h
      obtain ⟨⟨h1, h2⟩, _⟩ := h
      have e1 : n = f.1 := ByteArray.ext h1
      have e2 : d = f.2 := ByteArray.ext h2
      subst e1 e2
      congr 1
      exact Array.toList_inj.1 hcs
    · simp at h
  · simp at h
def keyL (n : ByteArray) : Lit := .string n.data.toList
theorem key_ok (n : ByteArray) : WideAt.IsKeyLit (keyL n) := trivial
theorem keyL_inj {a b : ByteArray} (h : keyL a = keyL b) : a = b := by
  unfold keyL at h
  simp at h
  exact ByteArray.ext h
/-- What is read of a table: under each name a text or none. -/
def TabD (D : DataW Unit) (f : ByteArray → Option ByteArray) : Prop := ∀ n, match f n with
  | none => Maps.has D (keyL n) = false
  | some d => Maps.has D (keyL n) = true ∧ ∀ z, D.atKey (keyL n) z = flD (n, d)
def Tab (W : World) (b m : Nat) (f : ByteArray → Option ByteArray) : Prop := ∃ D, W.ownsMap Try.prog 9 flElem b m D ∧ TabD D f
noncomputable def updT (f : ByteArray → Option ByteArray) (n : ByteArray) (d : Option ByteArray) : ByteArray → Option ByteArray := fun x => if x = n then d else f x
theorem TabD.put {D : DataW Unit} {f : ByteArray → Option ByteArray} (h : TabD D f) (hm : IsMap D) (n d : ByteArray) : TabD (D.put (keyL n) (flD (n, d))) (updT f n (some d)) := by
  intro x
  unfold updT
  by_cases e : x = n
  · subst e
    rw [if_pos rfl]
    exact ⟨has_put_same hm (key_ok x) _, fun z => atKey_put_same hm (key_ok x) _ z⟩
  · rw [if_neg e]
    have hne : keyL x ≠ keyL n := fun h => e (keyL_inj h)
    have hx := h x
    cases hf : f x with
    | none => rw [hf] at hx; exact (has_put_other hne _).trans hx
    | some y => rw [hf] at hx; exact ⟨(has_put_other hne _).trans hx.1, fun z => (atKey_put_other hne _ z).trans (hx.2 z)⟩
theorem TabD.del {D : DataW Unit} {f : ByteArray → Option ByteArray} (h : TabD D f) (n : ByteArray) : TabD (D.del (keyL n)) (updT f n none) := by
  intro x
  unfold updT
  by_cases e : x = n
  · subst e
    rw [if_pos rfl]
    exact has_del_same
  · rw [if_neg e]
    have hne : keyL x ≠ keyL n := fun h => e (keyL_inj h)
    have hx := h x
    cases hf : f x with
    | none => rw [hf] at hx; exact (has_del_other hne).trans hx
    | some y => rw [hf] at hx; exact ⟨(has_del_other hne).trans hx.1, fun z => (atKey_del_other hne z).trans (hx.2 z)⟩
theorem TabD.empty : TabD (.map []) (fun _ => none) := fun n => rfl
/-- The file's text under a name, in a row in which no name stands twice: the last. -/
noncomputable def tabF : List Fl → ByteArray → Option ByteArray
  | [] => fun _ => none
  | f :: t => fun x => match tabF t x with | some d => some d | none => if x = f.1 then some f.2 else none
theorem tabF_snoc (fs : List Fl) (f : Fl) : tabF (fs ++ [f]) = updT (tabF fs) f.1 (some f.2) := by
  funext x
  induction fs with
  | nil => simp [tabF, updT]
  | cons g t ih =>
    rw [List.cons_append]
    show (match tabF (t ++ [f]) x with | some d => some d | none => if x = g.1 then some g.2 else none) = _
    rw [ih]
    unfold updT
    by_cases e : x = f.1
    · simp [e]
    · simp only [if_neg e]; rfl
end Plain

theorem make_tab (n : Nat) (w : World) : (Instr.makeMap 56 (some (.int .i64 n))).run Try.prog w = .ok (.map (some w.heap.size)) (w.alloc (.map #[] 0)) := by
  simp [Instr.makeMap, run_underlying Try.underlying56, asInt, asIntOf]
theorem law_str : Keyed Try.prog 9 := string_keyed Try.underlying9

set_option maxRecDepth 10000 in
set_option maxHeartbeats 4000000 in
theorem tableOf_calls (a : Option Addr) (n c : Nat) (fs : List Fl) (w : World) (hn : fs.length = n) (hn2 : n ≤ 1000000) (hf : FitF fs) (h : RowAt fileE w a fs) :
    Calls Try.prog 26 #[.slice a n c] w fun e w' => ∃ b m, e = .returned (.map (some b)) ∧ w.heap.size ≤ b ∧ m ≤ n ∧ Hid (Tab w' b m (tabF fs)) ∧ Below w.heap.size w w' := by
  have H := hide h
  have HN := hide hn
  have HF := hide hf
  clear h hn hf
  have hmm := make_tab n w
  have HT0 := hide (show Tab (w.alloc (.map #[] 0)) w.heap.size 0 (tabF []) from ⟨_, World.ownsMap_made w Try.prog 9 flElem, TabD.empty⟩)
  have HB0 := hide (bel1 w (.map #[] 0))
  go_enter Try.func26, Try.ntmps26
  go_wp2_with fail
  go_loopw [11] (fun i wr => ∃ k : Nat, i = .int .i64 k ∧ k ≤ n ∧ Hid (Tab wr w.heap.size k (tabF (fs.take k))) ∧ Hid (Below w.heap.size w wr)) (fun i _ => n - (intOf i).toNat)
  case atStart => exact ⟨0, rfl, by omega, HT0, HB0⟩
  case round =>
    clear hmm
    obtain ⟨k, rfl, hk, HT, HB⟩ := hrel
    by_cases hkn : k < n
    · have hkl : k < fs.length := by rw [unhide HN]; exact hkn
      obtain ⟨g, e1, l1, p0, p1⟩ := ((unhide H).below (unhide HB)).file k hkl
      have hfit := unhide HF fs[k] (by simp)
      have htk : tabF (fs.take (k + 1)) = updT (tabF (fs.take k)) fs[k].1 (some fs[k].2) := by rw [List.take_succ_eq_append_getElem hkl, tabF_snoc]
      generalize fs[k] = f at p0 p1 hfit htk
      obtain ⟨fn, fd⟩ := f
      simp only at p0 p1 hfit htk
      obtain ⟨D, hown, hD⟩ := unhide HT
      have HO := hide (hown.alloc (.cells #[.string fn, .string fd] 65))
      have HDP := hide (hD.put hown.isMap fn fd)
      have HTK := hide htk
      have hkey : keyOf Try.prog 9 (.string fn) = some (keyL fn) := Go.WideMaps.keyOf_string_mk Try.underlying9 (by unfold maxLen; omega)
      have HKEY := hide hkey
      subst e1
      have i0 : (0 : Int) ≤ (k : Int) := by omega
      have i1 : (k : Int) < (n : Int) := by omega
      clear hown hD htk hkey
      go_wp2_with (at_mapUpdate; go_must (refine wpList_mapUpdate_own _ rfl _ _ _ 56 rfl 9 65 law_str Try.underlying56 flElem w.heap.size k D rfl (unhide HO) (by unfold maxLen; omega) _ _ (keyL fn) rfl rfl (unhide HKEY) _ [] (flElem_mk fn fd) ?_); intro w1 hown1 hgrow1)
      go_roundw
      case rel => exact ⟨k + 1, by go_num, by omega, hide ⟨_, hown1, by rw [unhide HTK]; exact unhide HDP⟩, hide (((unhide HB).alloc (unhide HB).size _).grown hgrow1 (Nat.le_trans (unhide HB).size (by simp)) (fun j hj => by cases hj; exact Nat.le_refl _))⟩
      case measure => simp [intOf]; omega
    · obtain rfl : k = n := by omega
      have HT2 := unhide HT
      rw [List.take_of_length_le (by rw [unhide HN]; exact Nat.le_refl _)] at HT2
      have HT3 := hide HT2
      clear HT HT2
      go_wp2_with fail
      go_ret
      exact ⟨_, _, rfl, Nat.le_refl _, Nat.le_refl _, HT3, unhide HB⟩
end Go.Proofs.Ytknpccpfjclngaa
