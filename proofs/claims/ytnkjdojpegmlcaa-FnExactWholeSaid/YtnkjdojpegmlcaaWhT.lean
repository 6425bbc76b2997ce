/- The program's table of pieces: a map from a place to its piece. -/
import Derived.Test.YtnkjdojpegmlcaaWhQ
import Derived.Maps.Own
import Derived.Maps.OwnOps
import Derived.Maps.OwnSet
import Derived.Maps.Views
import Derived.Deep.RegionHeld3
namespace Go.Proofs.Ytnkjdojpegmlcaa
open Go.RowKit Go.Maps Plain
set_option linter.unusedVariables false

namespace Plain
def pcD (a c : Int) (d : ByteArray) : DataW Unit := .agg [.lit (.int .i64 a), .lit (.int .i64 c), .lit (.string d.data.toList)]
def pcElem (v : Value) : Option (DataW Unit × List MemPlace) := match v with
  | .agg cs => match cs.toList with
    | [.int .i64 a, .int .i64 c, .string d] => some (pcD a c d, [])
    | _ => none
  | _ => none
def pcA (a c : Int) (d : ByteArray) : Value := .agg #[.int .i64 a, .int .i64 c, .string d]
theorem pcElem_mk (a c : Int) (d : ByteArray) : pcElem (pcA a c d) = some (pcD a c d, []) := rfl
theorem pcElem_inv {v : Value} {a c : Int} {d : ByteArray} {ps : List MemPlace} (h : pcElem v = some (pcD a c d, ps)) : v = pcA a c d := by
  unfold pcElem at h
  split at h
  · next cs =>
    split at h
    · next a' c' d' hcs =>
      simp [pcD] at h
      obtain ⟨⟨h1, h2, h3⟩, _⟩ := h
      have e3 : d' = d := ByteArray.ext h3
      subst h1 h2 e3
      unfold pcA
      congr 1
      exact Array.toList_inj.1 hcs
    · simp at h
  · simp at h
def keyN (a : Int) : Lit := .int .i64 a
theorem keyN_ok (a : Int) : WideAt.IsKeyLit (keyN a) := trivial
theorem keyN_inj {a b : Int} (h : keyN a = keyN b) : a = b := by
  unfold keyN at h
  simpa using h
/-- What is read of the table: at each place a piece or none. -/
def TabN (D : DataW Unit) (f : Int → Option (Int × ByteArray)) : Prop := ∀ n, match f n with
  | none => Maps.has D (keyN n) = false
  | some y => Maps.has D (keyN n) = true ∧ ∀ z, D.atKey (keyN n) z = pcD n y.1 y.2
def updN (f : Int → Option (Int × ByteArray)) (n : Int) (y : Int × ByteArray) : Int → Option (Int × ByteArray) := fun x => if x = n then some y else f x
theorem TabN.put {D : DataW Unit} {f : Int → Option (Int × ByteArray)} (h : TabN D f) (hm : IsMap D) (n : Int) (y : Int × ByteArray) : TabN (D.put (keyN n) (pcD n y.1 y.2)) (updN f n y) := by
  intro x
  unfold updN
  by_cases e : x = n
  · subst e
    rw [if_pos rfl]
    exact ⟨has_put_same hm (keyN_ok x) _, fun z => atKey_put_same hm (keyN_ok x) _ z⟩
  · rw [if_neg e]
    have hne : keyN x ≠ keyN n := fun h => e (keyN_inj h)
    have hx := h x
    cases hf : f x with
    | none => rw [hf] at hx; exact (has_put_other hne _).trans hx
    | some y => rw [hf] at hx; exact ⟨(has_put_other hne _).trans hx.1, fun z => (atKey_put_other hne _ z).trans (hx.2 z)⟩
theorem TabN.has {D : DataW Unit} {f : Int → Option (Int × ByteArray)} (h : TabN D f) (n : Int) : Maps.has D (keyN n) = (f n).isSome := by
  have hx := h n
  cases hf : f n with
  | none => rw [hf] at hx; exact hx
  | some y => rw [hf] at hx; exact hx.1
/-- The table at b has n pieces, f. -/
def PTab (W : World) (b n : Nat) (f : Int → Option (Int × ByteArray)) : Prop := ∃ D m, m ≤ 100000 ∧ W.ownsMap Try.prog 2 pcElem b m D ∧ Maps.size D = n ∧ TabN D f
def pcAt (f : Int → Option (Int × ByteArray)) (a : Int) : Value := match f a with
  | none => pcA 0 0 ⟨#[]⟩
  | some y => pcA a y.1 y.2
theorem PTab.lt {W : World} {b n : Nat} {f : Int → Option (Int × ByteArray)} (h : PTab W b n f) : b < W.heap.size := by
  obtain ⟨D, m, _, ⟨es, clock, h1, _⟩, _⟩ := h
  rcases Nat.lt_or_ge b W.heap.size with q | q
  · exact q
  · rw [Array.getElem?_eq_none q] at h1; cases h1
theorem PTab.keep {W W' : World} {b n : Nat} {f : Int → Option (Int × ByteArray)} (h : PTab W b n f) (hb : Below W.heap.size W W') : PTab W' b n f := by
  have l := h.lt
  obtain ⟨D, m, hm, ⟨es, clock, h1, h2⟩, h3⟩ := h
  exact ⟨D, m, hm, ⟨es, clock, (hb.block b l).trans h1, h2⟩, h3⟩
end Plain
theorem law_int : Keyed Try.prog 2 := int_keyed Try.underlying2
theorem zeroP (w : World) : (zeroValue 54).run Try.prog w = .ok (pcA 0 0 ⟨#[]⟩) w := by kernel_rfl
theorem Plain.PTab.look {W : World} {b n : Nat} {f : Int → Option (Int × ByteArray)} (h : PTab W b n f) {a : Int} (ha : (Lit.int .i64 a).wf = true) : (Instr.lookup 55 (.map (some b)) (.int .i64 a) false).run Try.prog W = .ok (pcAt f a) W := by
  obtain ⟨D, m, _, hown, _, hD⟩ := h
  obtain ⟨v, ps, hrun, hv⟩ := hown.lookup law_int Try.underlying55 (zeroP W) (pcElem_mk 0 0 ⟨#[]⟩) (keyOf_int_mk Try.underlying2 ha)
  rw [hrun]
  have hx := hD a
  unfold pcAt
  cases hf : f a with
  | none =>
    rw [hf] at hx
    rw [show D.atKey (.int .i64 a) (pcD 0 0 ⟨#[]⟩) = pcD 0 0 ⟨#[]⟩ from atKey_of_not_has hx _] at hv
    rw [pcElem_inv hv]
  | some y =>
    rw [hf] at hx
    rw [show D.atKey (.int .i64 a) (pcD 0 0 ⟨#[]⟩) = pcD a y.1 y.2 from hx.2 _] at hv
    rw [pcElem_inv hv]
theorem Plain.PTab.look_ok {W : World} {b n : Nat} {f : Int → Option (Int × ByteArray)} (h : PTab W b n f) {a : Int} (ha : (Lit.int .i64 a).wf = true) : (Instr.lookup 55 (.map (some b)) (.int .i64 a) true).run Try.prog W = .ok (.tuple #[pcAt f a, .bool (f a).isSome]) W := by
  obtain ⟨D, m, _, hown, _, hD⟩ := h
  obtain ⟨v, ps, hrun, hv⟩ := hown.look_ok law_int Try.underlying55 (zeroP W) (pcElem_mk 0 0 ⟨#[]⟩) (keyOf_int_mk Try.underlying2 ha)
  rw [hrun, show Maps.has D (.int .i64 a) = (f a).isSome from hD.has a]
  have hx := hD a
  unfold pcAt
  cases hf : f a with
  | none =>
    rw [hf] at hx
    rw [show D.atKey (.int .i64 a) (pcD 0 0 ⟨#[]⟩) = pcD 0 0 ⟨#[]⟩ from atKey_of_not_has hx _] at hv
    rw [pcElem_inv hv]
  | some y =>
    rw [hf] at hx
    rw [show D.atKey (.int .i64 a) (pcD 0 0 ⟨#[]⟩) = pcD a y.1 y.2 from hx.2 _] at hv
    rw [pcElem_inv hv]
theorem Plain.PTab.len {W : World} {b n : Nat} {f : Int → Option (Int × ByteArray)} (h : PTab W b n f) (ty : TypeId) : (Builtin.len_ #[55] ty #[.map (some b)]).run Try.prog W = .ok (.int .i64 n) W := by
  obtain ⟨D, m, _, hown, hs, _⟩ := h
  rw [hown.len Try.underlying55 ty, hs]
theorem Plain.PTab.made (w : World) : PTab (w.alloc (.map #[] 0)) w.heap.size 0 (fun _ => none) :=
  ⟨_, 0, by decide, World.ownsMap_made w Try.prog 2 pcElem, rfl, fun n => rfl⟩
theorem make_pt (w : World) : (Instr.makeMap 55 none).run Try.prog w = .ok (.map (some w.heap.size)) (w.alloc (.map #[] 0)) := by
  simp [Instr.makeMap]
/-- 'm[a] = p'. -/
theorem Plain.PTab.upd {w : World} {b n : Nat} {f : Int → Option (Int × ByteArray)} (h : PTab w b n f) (pl cn : Int) (dt : ByteArray) (hn : n ≤ 5000) (hw : (Lit.int .i64 pl).wf = true) :
    ∃ w', (Instr.mapUpdate 55 (.map (some b)) (.int .i64 pl) (.agg #[.int .i64 pl, .int .i64 cn, .string dt])).run Try.prog w = .ok () w' ∧ PTab w' b (if (f pl).isSome then n else n + 1) (updN f pl (cn, dt)) ∧ w.grownBy w' (some b) := by
  obtain ⟨D, k, hk, hown, hs, hD⟩ := h
  obtain ⟨es, clock, e1, e2, e3, e4⟩ := hown
  have hsz : Maps.size D = es.size := by rw [e4]; simp [Maps.size, length_sorted]
  have hown : w.ownsMap Try.prog 2 pcElem b n D := ⟨es, clock, e1, e2, by omega, e4⟩
  obtain ⟨w', hrun, r1, r2⟩ := hown.update law_int Try.underlying55 (by unfold maxLen; omega) (keyOf_int_mk Try.underlying2 hw) (pcElem_mk pl cn dt)
  refine ⟨w', hrun, ⟨_, n + 1, by omega, r1, ?_, hD.put hown.isMap pl (cn, dt)⟩, r2⟩
  rw [size_put (hown.tidy law_int), show Maps.has D (.int .i64 pl) = (f pl).isSome from hD.has pl, hs]
end Go.Proofs.Ytnkjdojpegmlcaa
