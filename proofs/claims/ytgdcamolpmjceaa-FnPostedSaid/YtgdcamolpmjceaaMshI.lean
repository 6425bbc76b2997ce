/- The program's mesh: packets put on their ways. -/
import Derived.Test.YtgdcamolpmjceaaWayT
import Derived.Test.YtgdcamolpmjceaaNetU
import Derived.Deep.AppendLies
namespace Go.Proofs.Ytgdcamolpmjceaa
open Go.RowKit Go.Maps Plain
open Go.ChangeMaps (setBlock heap_setBlock_same heap_setBlock_other)
set_option linter.unusedVariables false

theorem stepLies {α : Type} {e : Elem α} {ops : Array Oper} {o : Oper} {a : Act} {K : Act → World → Prop} {Q : Exit → Act → World → Prop} {F : Prop} (hgd : o.guard = none) (s x : Operand)
    (ho : o.op = .call { callee := .builtin .append, args := #[s, x], argTypes := #[e.S, e.S] })
    {w : World} {B : Nat} {v : Value} {xs : List α} {y : α} (hown : OwnR e w B v xs) (hs : a.eval s = v) (g c : Nat) (hx : a.eval x = .slice (some ⟨g, 0, none⟩) 1 c) (hr : RowAt e w (some ⟨g, 0, none⟩) [y])
    (hlen : xs.length + 1 < 100000000) (hB : B ≤ w.heap.size)
    (h : ∀ g' c' w', OwnR e w' B (.slice (some ⟨g', 0, none⟩) (xs.length + 1) c') (xs ++ [y]) → w.grownBy w' v.ownBlock → (v.ownBlock = some g' ∨ g' = w.heap.size) → K (a.put o.dst (.slice (some ⟨g', 0, none⟩) (xs.length + 1) c')) w') :
    if Region.wanted o (yielded ops a.tmps) = true then Oper.wp Try.prog o a w K Q else F := by
  rw [if_pos (by simp [Region.wanted, hgd])]
  obtain ⟨i0, hi, hz0, hz1, hz2⟩ := info_parts e.hinfo
  have hby := e.hb
  refine wp_append_lies _ s x e.S ho B e.E i0 e.zero e.n e.bytes e.hund hi hz0 hz1 hz2 e.hz e.hn v xs.length (xs.flatMap e.enc) hs hown
    ⟨g, 0, none⟩ 1 c (e.enc y) hx (by rw [e.hlen, Nat.one_mul]) ?_ (e.hone y) (by decide) (by unfold maxLen; omega) ?_ hB _ rfl ?_
  · intro j u hj
    have hjl : j < e.n := by have := (List.getElem?_eq_some_iff.1 hj).1; rw [e.hlen] at this; exact this
    obtain ⟨g', e1, hl, hc⟩ := hr 0 (by simp)
    cases e1
    have h1 := (hc j hjl).1
    simp only [Nat.zero_mul, Nat.zero_add, List.getElem_cons_zero] at h1
    rw [hj] at h1
    have e0 : (⟨g, 0, none⟩ : Addr).add j = ⟨g, j, none⟩ := by
      unfold Addr.add
      by_cases q : j = 0
      · subst q; simp
      · simp [q]
    rw [e0]; exact h1
  · exact Nat.le_trans (Nat.mul_le_mul_left _ hby) (by omega)
  · intro g' c' w' h1 h2 h3 _
    refine h g' c' w' ?_ h2 h3
    unfold OwnR
    rw [List.flatMap_append, List.length_append]
    simpa using h1

/-- The packets of a way, in order. -/
def Plain.wayF (ps : List Pkt) (f t : Int) : List Pkt := ps.filter fun p => decide (p.src = f) && decide (p.dst = t)
def Plain.addF (F : Int → Int → List Pkt) (p : Pkt) (f t : Int) : List Pkt := if p.src = f ∧ p.dst = t then F f t ++ [p] else F f t
theorem Plain.wayF_snoc (ps : List Pkt) (p : Pkt) : wayF (ps ++ [p]) = addF (wayF ps) p := by
  funext f t
  unfold wayF addF
  rw [List.filter_append]
  by_cases h : p.src = f ∧ p.dst = t
  · rw [if_pos h]; simp [h.1, h.2]
  · rw [if_neg h]
    simp only [List.filter_cons, List.filter_nil]
    rw [if_neg (by simpa using h)]
    simp

/-- Ids of nodes. -/
def Plain.rgP (f t : Int) : Prop := (0 ≤ f ∧ f < 51) ∧ 0 ≤ t ∧ t < 51
/-- A mesh in memory: the struct at M, the map at b, a row of its own under each way. -/
structure Plain.MshAt (W : World) (B M b n : Nat) (nx : Int) (F : Int → Int → List Pkt) (H : Int → Int → Option (Nat × Nat)) : Prop where
  map : ∃ D, W.ownsMap Try.prog 53 hdElem b n D ∧ ∀ f t, wfP f t → match H f t with
    | none => Maps.has D (keyW f t) = false
    | some y => Maps.has D (keyW f t) = true ∧ ∀ z, D.atKey (keyW f t) z = hdD y.1 (F f t).length y.2
  nil : ∀ f t, H f t = none → F f t = []
  wf : ∀ f t y, H f t = some y → wfP f t
  row : ∀ f t y, H f t = some y → OwnR pktE W B (.slice (some ⟨y.1, 0, none⟩) (F f t).length y.2) (F f t)
  apart : ∀ f t f' t' y y', H f t = some y → H f' t' = some y' → y.1 = y'.1 → f = f' ∧ t = t'
  off : ∀ f t y, H f t = some y → y.1 ≠ b ∧ y.1 ≠ M
  Mb : M ≠ b
  BM : B ≤ M
  Bb : B ≤ b
  c0 : W.cell? ⟨M, 0, none⟩ = some (.int .i64 nx)
  c1 : W.cell? ⟨M, 1, none⟩ = some (.map (some b))
  z0 : W.frozen? ⟨M, 0, none⟩ = false
  rng : ∀ f t y, H f t = some y → rgP f t
theorem Plain.MshAt.lt {W : World} {B M b n : Nat} {nx : Int} {F : Int → Int → List Pkt} {H : Int → Int → Option (Nat × Nat)} (h : MshAt W B M b n nx F H) : M < W.heap.size ∧ b < W.heap.size := by
  obtain ⟨D, hD, _⟩ := h.map
  exact ⟨lt_of_cell h.c0, hD.lt⟩
theorem Plain.MshAt.below {W W' : World} {B M b n : Nat} {nx : Int} {F : Int → Int → List Pkt} {H : Int → Int → Option (Nat × Nat)} (h : MshAt W B M b n nx F H) (hb : Below W.heap.size W W') : MshAt W' B M b n nx F H := by
  have hl := h.lt
  obtain ⟨D, hD, hK⟩ := h.map
  refine ⟨⟨D, ?_, hK⟩, h.nil, h.wf, fun f t y hy => (h.row f t y hy).keep hb, h.apart, h.off, h.Mb, h.BM, h.Bb, bcl hb hl.1 h.c0, bcl hb hl.1 h.c1, (hb.frozen (p := ⟨M, 0, none⟩) hl.1).trans h.z0, h.rng⟩
  obtain ⟨es, clock, q1, q2⟩ := hD
  exact ⟨es, clock, (hb.block b hl.2).trans q1, q2⟩
end Go.Proofs.Ytgdcamolpmjceaa
