/- The program's ways: a map from a way (two ids) to a row of packets; one packet more. -/
import Derived.Test.YtgdcamolpmjceaaNetI
import Derived.Test.YtgdcamolpmjceaaAppG
import Derived.Maps.Own
import Derived.Maps.OwnOps
import Derived.Maps.OwnSet
import Derived.Maps.Views
import Derived.WideKeyEntry
import Derived.DeepKeys4
import Derived.Deep.RegionHeld3
namespace Go.Proofs.Ytgdcamolpmjceaa
open Go.RowKit Go.Maps Plain
open Go.ChangeMaps (setBlock heap_setBlock_same heap_setBlock_other)
set_option linter.unusedVariables false

namespace Plain
def hdD (g n c : Nat) : DataW Unit := .agg [.lit (.int .i64 g), .lit (.int .i64 n), .lit (.int .i64 c)]
/-- How a row's head reads that is a map's element. -/
def hdElem (v : Value) : Option (DataW Unit × List MemPlace) := match v with
  | .slice none n c => if n = 0 ∧ c = 0 then some (.agg [], []) else none
  | .slice (some ⟨g, o, k⟩) n c => if o = 0 ∧ k = none then some (hdD g n c, []) else none
  | _ => none
theorem hdElem_nil : hdElem (.slice none 0 0) = some (.agg [], []) := rfl
theorem hdElem_mk (g n c : Nat) : hdElem (.slice (some ⟨g, 0, none⟩) n c) = some (hdD g n c, []) := rfl
theorem hdElem_cases {v : Value} {z : DataW Unit × List MemPlace} (h : hdElem v = some z) : (v = .slice none 0 0 ∧ z = (.agg [], [])) ∨ ∃ g n c, v = .slice (some ⟨g, 0, none⟩) n c ∧ z = (hdD g n c, []) := by
  unfold hdElem at h
  split at h
  · split at h
    · next n c hc => obtain ⟨rfl, rfl⟩ := hc; exact .inl ⟨rfl, by simpa using h.symm⟩
    · simp at h
  · split at h
    · next g o k n c hc => obtain ⟨rfl, rfl⟩ := hc; exact .inr ⟨g, n, c, rfl, by simpa using h.symm⟩
    · simp at h
  · simp at h
theorem hdD_inj {g n c g' n' c' : Nat} (h : hdD g n c = hdD g' n' c') : g = g' ∧ n = n' ∧ c = c' := by
  unfold hdD at h
  simp at h
  omega
theorem hdElem_none {v : Value} {ps : List MemPlace} (h : hdElem v = some (.agg [], ps)) : v = .slice none 0 0 := by
  rcases hdElem_cases h with ⟨e, -⟩ | ⟨g, n, c, -, e⟩
  · exact e
  · simp [hdD] at e
theorem hdElem_some {v : Value} {g n c : Nat} {ps : List MemPlace} (h : hdElem v = some (hdD g n c, ps)) : v = .slice (some ⟨g, 0, none⟩) n c := by
  rcases hdElem_cases h with ⟨-, e⟩ | ⟨g', n', c', e, e2⟩
  · simp [hdD] at e
  · obtain ⟨rfl, rfl, rfl⟩ := hdD_inj (congrArg Prod.fst e2); exact e
def keyW (f t : Int) : Lit := .string (keyBytes [.int .i64 f, .int .i64 t])
theorem keyW_ok (f t : Int) : WideAt.IsKeyLit (keyW f t) := trivial
def wfP (f t : Int) : Prop := (Lit.int .i64 f).wf = true ∧ (Lit.int .i64 t).wf = true
end Plain
theorem laidW : laidOutB Try.prog = true := by kernel_rfl
theorem wideW : (match Try.prog.underlying 53 with | some (.array _ _) | some (.struct _) => true | _ => false) = true := by kernel_rfl
theorem rowW : (53 : TypeId) < Try.prog.types.size := of_decide_eq_true (by kernel_rfl)
set_option maxRecDepth 100000 in
theorem law_wayK : WideMaps.KeyLaw Try.prog 53 := deep_law_laid laidW (m := 3) (by omega) rowW (by kernel_rfl) wideW
theorem law_way : Keyed Try.prog 53 := Keyed.of_law law_wayK
theorem keyTypeW : Try.prog.keyType 53 = true := by kernel_rfl
theorem cellsW : Try.prog.cellsOf 53 = 2 := by kernel_rfl
theorem cellsI : Try.prog.cellsOf 2 = 1 := by kernel_rfl
theorem sizeW : Try.prog.types.size + 1 = Try.prog.types.size - 1 + 1 + 1 := by
  have h : 1 ≤ Try.prog.types.size := of_decide_eq_true (by kernel_rfl)
  omega

theorem keyW_of {f t : Int} (h : wfP f t) : keyOf Try.prog 53 (.agg #[.int .i64 f, .int .i64 t]) = some (keyW f t) := by
  have hu := Try.underlying53
  have hi := Try.underlying2
  have e1 : ∀ x : Int, (Lit.int .i64 x).wf = true → ∀ d, Try.prog.keyLits (d + 1) 2 [.int .i64 x] = some [.int .i64 x] := fun x hx d => by simp [Program.keyLits, hi, hx]
  unfold keyOf
  rw [hu]
  simp only [keyTypeW, Value.formed, hu, cellsW, Value.cells]
  rw [sizeW]
  unfold Program.keyLits
  rw [hu]
  simp [cellsW, cellsI, e1 _ h.1, e1 _ h.2, keyW]
theorem keyW_inj {f t f' t' : Int} (h : wfP f t) (h' : wfP f' t') (e : keyW f t = keyW f' t') : f = f' ∧ t = t' := by
  have := law_way.inj (keyW_of h) (by rw [e]; exact keyW_of h')
  simpa using this
theorem zeroS (w : World) : (zeroValue 24).run Try.prog w = .ok (.slice none 0 0) w := by kernel_rfl

/-- 'm.ways[k] = f(m.ways[k])': the entry, and what is stored there behind it. -/
theorem ways_entry {w : World} {b n : Nat} {D : DataW Unit} (h : w.ownsMap Try.prog 53 hdElem b n D) (hn : n < maxLen) {key : Value} {kl : Lit} (hkey : keyOf Try.prog 53 key = some kl) :
    ∃ v0 st es1 clock1, (Instr.mapEntry 51 (.map (some b)) key).run Try.prog w = .ok (.tuple #[v0, goInt st]) (setBlock w b (.map es1 clock1)) ∧ w.heap[b]? ≠ none ∧ (setBlock w b (.map es1 clock1)).heap[b]? = some (.map es1 clock1) ∧ (∃ ps, hdElem v0 = some (D.atKey kl (.agg []), ps)) ∧
      ∀ (w2 : World) (g m c : Nat), w2.heap[b]? = some (.map es1 clock1) → ∃ es' clock', (Instr.entryStore 51 (.map (some b)) (goInt st) (.slice (some ⟨g, 0, none⟩) m c)).run Try.prog w2 = .ok () (setBlock w2 b (.map es' clock')) ∧ (setBlock w2 b (.map es' clock')).ownsMap Try.prog 53 hdElem b (n + 1) (D.put kl (hdD g m c)) := by
  have h0 := h
  obtain ⟨es, clock, hb, F, hs, hD⟩ := h0
  obtain ⟨v0, st, es1, clock1, hrun, hv, hst⟩ := WideElems.entry_then_store law_wayK Try.underlying51 zeroS hb F hkey
  refine ⟨v0, st, es1, clock1, hrun, by rw [hb]; simp, heap_setBlock_same hb _, ?_, fun w2 g m c hw2 => ?_⟩
  · subst hD
    rcases fit_look false law_way Try.underlying51 (zeroS w) hb F hkey with ⟨_, hno, hat⟩ | ⟨e0, y, he, hk, _, hR, hat, _⟩
    · rcases hv with ⟨e1, he1, hk1, _⟩ | ⟨_, rfl⟩
      · exact absurd hk1 (hno e1 he1)
      · exact ⟨[], by rw [hat]; rfl⟩
    · rcases hv with ⟨e1, he1, hk1, rfl⟩ | ⟨hno, _⟩
      · have hpw : es.toList.Pairwise (fun x y => x.key ≠ y.key) := ((MapKept.stamped_iff es clock).1 F.stamped).2.2
        have : e1 = e0 := Classical.byContradiction fun hne => by
          obtain ⟨i, hi, e1i⟩ := List.mem_iff_getElem.1 he1
          obtain ⟨j, hj, e0j⟩ := List.mem_iff_getElem.1 he
          have hpw2 := List.pairwise_iff_getElem.1 hpw
          rcases Nat.lt_trichotomy i j with q | q | q
          · exact hpw2 i j hi hj q (by rw [e1i, e0j]; exact hk1.trans hk.symm)
          · subst q; exact hne (e1i.symm.trans e0j)
          · exact hpw2 j i hj hi q (by rw [e1i, e0j]; exact hk.trans hk1.symm)
        subst this
        exact ⟨y.2, by rw [hat]; exact hR⟩
      · exact absurd hk (hno e0 he)
  · obtain ⟨es', clock', h1, h2⟩ := hst w2 _ hw2
    refine ⟨es', clock', h1, ?_⟩
    obtain ⟨w', hu, hown, _⟩ := h.update law_way Try.underlying51 hn hkey (hdElem_mk g m c)
    rw [h2] at hu
    obtain rfl : setBlock w b (.map es' clock') = w' := by simpa using hu
    obtain ⟨es2, c2, q1, q2⟩ := hown
    rw [heap_setBlock_same hb] at q1
    cases q1
    exact ⟨es', clock', heap_setBlock_same hw2 _, q2⟩
end Go.Proofs.Ytgdcamolpmjceaa
