/- A row appended to an empty slice without room: nothing that was there is changed. -/
import Derived.Test.YtknpccpfjclngaaGAD
import Derived.Deep.AppendLies
import Derived.Deep.RegionHeld3
import Derived.ArgAppend
namespace Go.Proofs.Ytknpccpfjclngaa
open Go.RowKit Plain
set_option linter.unusedVariables false

/-- What an append to an empty slice in block g without room leaves. -/
structure Plain.AppN {α : Type} (e : Elem α) (g : Nat) (w w' : World) (a : Option Addr) (c : Nat) (ys : List α) : Prop where
  below : Below w.heap.size w w'
  row : RowAt e w' a ys
  bl : ∀ k, inB a k → (k = g ∨ w.heap.size ≤ k) ∧ k < w'.heap.size
  own : OwnR e w' w.heap.size (.slice a ys.length c) ys ∨ (ys = [] ∧ c = 0 ∧ a = some ⟨g, 0, none⟩)
theorem Plain.below_none {w w' : World} (h : w.grownBy w' none) : Below w.heap.size w w' := ⟨h.os, h.tape, h.output, h.size, fun k hk => h.block k hk (fun q => by cases q)⟩
theorem row_news {α : Type} {e : Elem α} {w : World} {gx : Nat} {ys : List α} (hr : RowAt e w (some ⟨gx, 0, none⟩) ys) : ∀ j u, (ys.flatMap e.enc)[j]? = some u → w.cell? ((⟨gx, 0, none⟩ : Addr).add j) = some u := by
  intro j u hj
  have hjl : j < ys.length * e.n := by
    have := (List.getElem?_eq_some_iff.1 hj).1
    rw [flat_len e.enc e.n e.hlen] at this
    exact this
  have hn := e.hn
  have hq : j / e.n < ys.length := Nat.div_lt_of_lt_mul (by rw [Nat.mul_comm]; exact hjl)
  have hm : j % e.n < e.n := Nat.mod_lt _ hn
  have hd : j / e.n * e.n + j % e.n = j := by rw [Nat.mul_comm]; exact Nat.div_add_mod j e.n
  obtain ⟨g', e1, hl, hc⟩ := hr (j / e.n) hq
  cases e1
  have h1 := (hc (j % e.n) hm).1
  rw [hd] at h1
  have h2 := flat_get e.enc e.n e.hlen ys (j / e.n) (j % e.n) hq hm
  rw [hd] at h2
  rw [show (⟨gx, 0, none⟩ : Addr).add j = ⟨gx, j, none⟩ from by unfold Addr.add; split <;> simp_all, h1, ← h2]
  exact hj
theorem run_app0 {α : Type} (e : Elem α) (ty : TypeId) (w : World) (g gx c : Nat) (ys : List α) (hr : RowAt e w (some ⟨gx, 0, none⟩) ys) (hlen : ys.length ≤ 1048576) (hg : g < w.heap.size) :
    ∃ a' c' w', (Builtin.append_ #[e.S, e.S] ty #[.slice (some ⟨g, 0, none⟩) 0 0, .slice (some ⟨gx, 0, none⟩) ys.length c]).run Try.prog w = .ok (.slice a' ys.length c') w' ∧ AppN e g w w' a' c' ys := by
  obtain ⟨i0, hi, hz0, hz1, hz2⟩ := info_parts e.hinfo
  have hby := e.hb
  rcases Nat.eq_zero_or_pos ys.length with h0 | h0
  · have hys : ys = [] := List.length_eq_zero_iff.1 h0
    subst hys
    refine ⟨some ⟨g, 0, none⟩, 0, w, ?_, Below.refl _ _, fun i hi => by simp at hi, ?_, .inr ⟨rfl, rfl, rfl⟩⟩
    · simp [Builtin.append_, run_underlying e.hund, sizeOf, typeInfo, hi, storeCells, go_sem]
    · rintro k ⟨o, q⟩
      cases q
      exact ⟨.inl rfl, hg⟩
  · obtain ⟨v', w', hr', h2, h3⟩ := run_append_arg_grows (P := Try.prog) w e.S ty e.E i0 e.zero e.n e.bytes e.hund hi hz0 hz1 hz2 e.hz e.hn ⟨g, 0, none⟩ 0 0 [] (by simp) (fun j u hj => by simp at hj) ⟨gx, 0, none⟩ ys.length c (ys.flatMap e.enc) (flat_len e.enc e.n e.hlen ys) (row_news hr) (by omega) (by unfold maxLen; omega) (Nat.le_trans (Nat.mul_le_mul_left _ hby) (by omega))
    have h1' : OwnR e w' w.heap.size v' ys := by unfold OwnR; rw [Nat.zero_add, List.nil_append] at h2; exact h2
    obtain ⟨a', c', rfl⟩ := h1'.form
    exact ⟨a', c', w', hr', below_none h3, h1'.at, fun k hk => ⟨.inr (h1'.bl k hk).1, (h1'.bl k hk).2⟩, .inl h1'⟩
theorem stepN {α : Type} {e : Elem α} {ops : Array Oper} {o : Oper} {a : Act} {K : Act → World → Prop} {Q : Exit → Act → World → Prop} {F : Prop} (hgd : o.guard = none) (s x : Operand)
    (ho : o.op = .call { callee := .builtin .append, args := #[s, x], argTypes := #[e.S, e.S] })
    {w : World} {ys : List α} (g : Nat) (hs : a.eval s = .slice (some ⟨g, 0, none⟩) 0 0) (hg : g < w.heap.size) (gx m c : Nat) (hx : a.eval x = .slice (some ⟨gx, 0, none⟩) m c) (hy : ys.length = m) (hr : RowAt e w (some ⟨gx, 0, none⟩) ys)
    (hlen : m ≤ 1048576)
    (h : ∀ a' c' w', AppN e g w w' a' c' ys → K (a.put o.dst (.slice a' m c')) w') :
    if Region.wanted o (yielded ops a.tmps) = true then Oper.wp Try.prog o a w K Q else F := by
  rw [if_pos (by simp [Region.wanted, hgd])]
  subst hy
  obtain ⟨a', c', w', hr', hA⟩ := run_app0 e o.type w g gx c ys hr hlen hg
  unfold Oper.wp execOp
  simp only [ho, resolve, invoke, builtin, Sem.run_bind, Sem.run_pure, Result.andThen_ok, List.map_toArray, List.map_cons, List.map_nil, hs, hx, hr']
  exact h a' c' w' hA
/-- As stepN, from a slice that may be nil. -/
theorem stepNA {α : Type} {e : Elem α} {ops : Array Oper} {o : Oper} {a : Act} {K : Act → World → Prop} {Q : Exit → Act → World → Prop} {F : Prop} (hgd : o.guard = none) (s x : Operand)
    (ho : o.op = .call { callee := .builtin .append, args := #[s, x], argTypes := #[e.S, e.S] })
    {w : World} {ys : List α} (g : Nat) (hs : a.eval s = .slice (some ⟨g, 0, none⟩) 0 0) (hg : g < w.heap.size) (ad : Option Addr) (m c : Nat) (hx : a.eval x = .slice ad m c) (hy : ys.length = m) (hr : RowAt e w ad ys) (had : AdG ad c)
    (hlen : m ≤ 1048576)
    (h : ∀ a' c' w', AppN e g w w' a' c' ys → K (a.put o.dst (.slice a' m c')) w') :
    if Region.wanted o (yielded ops a.tmps) = true then Oper.wp Try.prog o a w K Q else F := by
  rcases had with ⟨rfl, rfl⟩ | ⟨gx, rfl⟩
  · have hys : ys = [] := by
      cases ys with
      | nil => rfl
      | cons y l => obtain ⟨g, e1, _⟩ := hr 0 (by simp); simp at e1
    subst hys
    obtain rfl : m = 0 := by simpa using hy.symm
    rw [if_pos (by simp [Region.wanted, hgd])]
    obtain ⟨i0, hi, hz0, hz1, hz2⟩ := info_parts e.hinfo
    have hrun : (Builtin.append_ #[e.S, e.S] o.type #[.slice (some ⟨g, 0, none⟩) 0 0, .slice none 0 0]).run Try.prog w = .ok (.slice (some ⟨g, 0, none⟩) 0 0) w := by
      simp [Builtin.append_, run_underlying e.hund, sizeOf, typeInfo, hi, storeCells, go_sem]
    unfold Oper.wp execOp
    simp only [ho, resolve, invoke, builtin, Sem.run_bind, Sem.run_pure, Result.andThen_ok, List.map_toArray, List.map_cons, List.map_nil, hs, hx, hrun]
    refine h (some ⟨g, 0, none⟩) 0 w ⟨Below.refl _ _, fun i hi => by simp at hi, ?_, .inr ⟨rfl, rfl, rfl⟩⟩
    rintro k ⟨o, q⟩
    cases q
    exact ⟨.inl rfl, hg⟩
  · exact stepN hgd s x ho g hs hg gx m c hx hy hr hlen h
end Go.Proofs.Ytknpccpfjclngaa
