/- A row appended to an empty slice that was just made: where it lies, always. -/
import Derived.Test.YtbcklkdhminofaaStpE
namespace Go.Proofs.Ytbcklkdhminofaa
open Go.RowKit Plain
set_option linter.unusedVariables false

/-- What an append to an empty slice in block g leaves. -/
structure Plain.AppF {α : Type} (e : Elem α) (g : Nat) (w w' : World) (a : Option Addr) (c : Nat) (ys : List α) : Prop where
  own : OwnR e w' g (.slice a ys.length c) ys
  gr : w.grownBy w' (some g)
  lies : ∀ k, inB a k → k = g ∨ k = w.heap.size
theorem stepF {α : Type} {e : Elem α} {ops : Array Oper} {o : Oper} {a : Act} {K : Act → World → Prop} {Q : Exit → Act → World → Prop} {F : Prop} (hgd : o.guard = none) (s x : Operand)
    (ho : o.op = .call { callee := .builtin .append, args := #[s, x], argTypes := #[e.S, e.S] })
    {w : World} {ys : List α} (g : Nat) (hs : a.eval s = .slice (some ⟨g, 0, none⟩) 0 0) (hg : w.heap[g]? = some (.cells #[] e.E)) (gx m c : Nat) (hx : a.eval x = .slice (some ⟨gx, 0, none⟩) m c) (hy : ys.length = m) (hr : RowAt e w (some ⟨gx, 0, none⟩) ys)
    (hlen : m ≤ 1048576)
    (h : ∀ a' c' w', AppF e g w w' a' c' ys → K (a.put o.dst (.slice a' m c')) w') :
    if Region.wanted o (yielded ops a.tmps) = true then Oper.wp Try.prog o a w K Q else F := by
  rw [if_pos (by simp [Region.wanted, hgd])]
  obtain ⟨i0, hi, hz0, hz1, hz2⟩ := info_parts e.hinfo
  subst hy
  have hgl : g < w.heap.size := by
    rcases Nat.lt_or_ge g w.heap.size with h1 | h1
    · exact h1
    · rw [Array.getElem?_eq_none h1] at hg; cases hg
  have hnews : ∀ j u, (ys.flatMap e.enc)[j]? = some u → w.cell? ((⟨gx, 0, none⟩ : Addr).add j) = some u := by
    intro j u hj
    have hjl : j < ys.length * e.n := by
      have := (List.getElem?_eq_some_iff.1 hj).1
      rw [flat_len e.enc e.n e.hlen] at this
      exact this
    have hn := e.hn
    have hq : j / e.n < ys.length := Nat.div_lt_of_lt_mul (by rw [Nat.mul_comm]; exact hjl)
    have hm : j % e.n < e.n := Nat.mod_lt _ hn
    have hd : j / e.n * e.n + j % e.n = j := by rw [Nat.mul_comm]; exact Nat.div_add_mod j e.n
    obtain ⟨g', e1, hl, hc⟩ := hr (j / e.n) hq
    cases e1
    have h1 := (hc (j % e.n) hm).1
    rw [hd] at h1
    have h2 := flat_get e.enc e.n e.hlen ys (j / e.n) (j % e.n) hq hm
    rw [hd] at h2
    rw [show (⟨gx, 0, none⟩ : Addr).add j = ⟨gx, j, none⟩ from by unfold Addr.add; split <;> simp_all, h1, ← h2]
    exact hj
  have hone : ∀ u ∈ ys.flatMap e.enc, u.oneCell' = true := by
    intro u hu
    obtain ⟨y, _, hy⟩ := List.mem_flatMap.1 hu
    exact e.hone y u hy
  have hby := e.hb
  have hbytes : (0 + ys.length) * e.bytes ≤ 140737488355328 := Nat.le_trans (Nat.mul_le_mul_left _ hby) (by omega)
  have hown : OwnR e w g (.slice (some ⟨g, 0, none⟩) 0 0) [] := emptyAt hg
  obtain ⟨v', w', hr', h2, h3, _, h5⟩ := run_append_own_at (P := Try.prog) w g e.S o.type e.E i0 e.zero e.n e.bytes e.hund hi hz0 hz1 hz2 e.hz e.hn _ 0 [] hown ⟨gx, 0, none⟩ ys.length c (ys.flatMap e.enc) (flat_len e.enc e.n e.hlen ys) hnews hone (by unfold maxLen; omega) hbytes (by omega)
  have h1' : OwnR e w' g v' ys := by unfold OwnR; rw [Nat.zero_add, List.nil_append] at h2; exact h2
  obtain ⟨a', c', rfl⟩ := h1'.form
  unfold Oper.wp execOp
  simp only [ho, resolve, invoke, builtin, Sem.run_bind, Sem.run_pure, Result.andThen_ok, List.map_toArray, List.map_cons, List.map_nil, hs, hx, hr']
  refine h a' c' w' ⟨h1', h3, ?_⟩
  rintro k ⟨o', rfl⟩
  rcases h5 with h5 | h5
  · exact .inl (by simpa [Value.ownBlock] using h5)
  · exact .inr (by simpa [Value.ownBlock] using h5)
theorem Plain.AppF.ne {α : Type} {e : Elem α} {g g2 : Nat} {w w' : World} {a : Option Addr} {c : Nat} {ys : List α} (h : AppF e g w w' a c ys) (h1 : g ≠ g2) (h2 : g2 < w.heap.size ∨ w'.heap.size ≤ g2) : ∀ k, inB a k → k ≠ g2 := fun k hk => by
  have hl := (h.own.bl k hk).2
  rcases h.lies k hk with rfl | rfl
  · exact h1
  · omega
theorem Plain.AppF.apart {α β : Type} {e : Elem α} {e' : Elem β} {g g2 : Nat} {w w' W W' : World} {a a' : Option Addr} {c c' : Nat} {ys : List α} {zs : List β} (h : AppF e g w w' a c ys) (h' : AppF e' g2 W W' a' c' zs) (hW : w'.heap.size ≤ W.heap.size) (h1 : g ≠ g2) (h2 : g2 < w.heap.size ∨ w'.heap.size ≤ g2) : ∀ k, inB a k → ¬ inB a' k := fun k hk hk' => by
  have hl := (h.own.bl k hk).2
  rcases h'.lies k hk' with q | q
  · exact h.ne h1 h2 k hk q
  · omega
end Go.Proofs.Ytbcklkdhminofaa
