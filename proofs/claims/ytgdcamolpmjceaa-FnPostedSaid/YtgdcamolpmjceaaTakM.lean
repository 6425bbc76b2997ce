/- Packets taken: the mathematics; a row cut and joined again. -/
import Derived.Test.YtgdcamolpmjceaaPstI
namespace Go.Proofs.Ytgdcamolpmjceaa
open Go.RowKit Go.Maps Plain
set_option linter.unusedVariables false

namespace Plain
def zPkt : Pkt := ⟨0, 0, 0, ⟨#[]⟩⟩
/-- What Take answers. -/
structure TkR where
  nx : Int
  es : List Pkt
  p : Pkt
  ok : Bool
def dropI (es : List Pkt) (id : Int) : List Pkt := es.filter fun q => !decide (q.id = id)
def takF (nx : Int) (es : List Pkt) (id : Int) (keep : Bool) : TkR := if netB nx es = false then ⟨0, [], zPkt, false⟩ else match es.find? fun q => decide (q.id = id) with
  | none => ⟨nx, es, zPkt, false⟩
  | some p => ⟨nx, if keep = true then es else dropI es id, p, true⟩
theorem find_at {es : List Pkt} {id : Int} {k : Nat} (hr : RisP es) (hk : k < es.length) (e : es[k].id = id) : (es.find? fun q => decide (q.id = id)) = some es[k] := by
  cases h : es.find? fun q => decide (q.id = id) with
  | none => rw [List.find?_eq_none] at h; exact absurd (h es[k] (by simp)) (by simp [e])
  | some p =>
    have h1 := List.find?_some h
    have h2 := List.mem_of_find?_eq_some h
    simp at h1
    rw [hr.inj h2 (List.getElem_mem hk) (by rw [h1, e])]
theorem find_no {es : List Pkt} {id : Int} (h : ∀ p ∈ es, p.id ≠ id) : (es.find? fun q => decide (q.id = id)) = none := by
  rw [List.find?_eq_none]
  intro p hp
  simp [h p hp]
theorem drop_at {es : List Pkt} {id : Int} {k : Nat} (hr : RisP es) (hk : k < es.length) (e : es[k].id = id) : dropI es id = es.take k ++ es.drop (k + 1) := by
  have hs : es = es.take k ++ (es[k] :: es.drop (k + 1)) := by rw [← List.drop_eq_getElem_cons hk, List.take_append_drop]
  have hp : RisP (es.take k ++ (es[k] :: es.drop (k + 1))) := by rw [← hs]; exact hr
  unfold RisP at hp
  rw [List.pairwise_append] at hp
  obtain ⟨_, h2, h3⟩ := hp
  obtain ⟨h4, _⟩ := List.pairwise_cons.1 h2
  unfold dropI
  conv => lhs; rw [hs]
  rw [List.filter_append, List.filter_cons_of_neg (by simp [e])]
  congr 1
  · rw [List.filter_eq_self]
    intro p hp
    have := h3 p hp es[k] List.mem_cons_self
    simp; omega
  · rw [List.filter_eq_self]
    intro p hp
    have := h4 p hp
    simp; omega
def pktV (p : Pkt) : Value := .agg #[.int .i64 p.id, .int .i64 p.src, .int .i64 p.dst, .string p.body]
def TakPost (R : TkR) (w : World) (e : Ending) (w' : World) : Prop := ∃ a c, e = .returned (.tuple #[.agg #[.int .i64 R.nx, .slice a R.es.length c], pktV R.p, .bool R.ok]) ∧ OwnR pktE w' w.heap.size (.slice a R.es.length c) R.es ∧ Below w.heap.size w w'
end Plain
theorem OwnR.cutP {α : Type} {e : Elem α} {W : World} {B g n m cap : Nat} {xs : List α} (h : OwnR e W B (.slice (some ⟨g, 0, none⟩) n cap) xs) (hm : m ≤ n) : OwnR e W B (.slice (some ⟨g, 0, none⟩) m cap) (xs.take m) := by
  obtain ⟨_, _, hf⟩ := h.form
  have hn : n = xs.length := by injection hf
  subst hn
  rcases h.2 with ⟨e1, _⟩ | ⟨g', cap', cur, e1, hg, hc, h1, h2, h3, h4⟩
  · simp at e1
  · simp only [Value.slice.injEq, Option.some.injEq, Addr.mk.injEq, and_true] at e1
    obtain ⟨rfl, -, rfl⟩ := e1
    have hl : (xs.take m).length = m := by rw [List.length_take]; omega
    refine ⟨by rw [hl, flat_len e.enc e.n e.hlen, hl], .inr ⟨g, cap, cur, by rw [hl], hg, hc, by rw [hl]; omega, h2, h3, ?_⟩⟩
    rw [hl]
    have e2 : (xs.take m).flatMap e.enc = (xs.flatMap e.enc).take (m * e.n) := by
      apply List.ext_getElem?
      intro j
      by_cases hj : j < m * e.n
      · rw [List.getElem?_take_of_lt hj]
        have hn := e.hn
        have hq : j / e.n < m := Nat.div_lt_of_lt_mul (by rw [Nat.mul_comm]; exact hj)
        have hr : j % e.n < e.n := Nat.mod_lt _ hn
        have hd : j / e.n * e.n + j % e.n = j := by rw [Nat.mul_comm]; exact Nat.div_add_mod j e.n
        have a1 := flat_get e.enc e.n e.hlen (xs.take m) (j / e.n) (j % e.n) (by rw [hl]; exact hq) hr
        have a2 := flat_get e.enc e.n e.hlen xs (j / e.n) (j % e.n) (by omega) hr
        rw [hd] at a1 a2
        rw [a1, a2, List.getElem_take]
      · rw [List.getElem?_take_eq_none (by omega), List.getElem?_eq_none (by rw [flat_len e.enc e.n e.hlen, hl]; omega)]
    have hle : m * e.n ≤ xs.length * e.n := Nat.mul_le_mul_right _ hm
    rw [e2, ← h4, List.take_take, Nat.min_eq_left hle]
/-- What follows a place of a row, behind its offset. -/
theorem OwnR.newsAt {α : Type} {e : Elem α} {W : World} {B g n cap k : Nat} {xs : List α} (h : OwnR e W B (.slice (some ⟨g, 0, none⟩) n cap) xs) (hk : k ≤ xs.length) : ∀ j u, ((xs.drop k).flatMap e.enc)[j]? = some u → W.cell? ((⟨g, k * e.n, none⟩ : Addr).add j) = some u := by
  intro j u hj
  have hjl : j < (xs.drop k).length * e.n := by
    have := (List.getElem?_eq_some_iff.1 hj).1
    rw [flat_len e.enc e.n e.hlen] at this
    exact this
  have hn := e.hn
  rw [List.length_drop] at hjl
  have hq : j / e.n < xs.length - k := Nat.div_lt_of_lt_mul (by rw [Nat.mul_comm]; exact hjl)
  have hr : j % e.n < e.n := Nat.mod_lt _ hn
  have hd : j / e.n * e.n + j % e.n = j := by rw [Nat.mul_comm]; exact Nat.div_add_mod j e.n
  have a1 := flat_get e.enc e.n e.hlen (xs.drop k) (j / e.n) (j % e.n) (by rw [List.length_drop]; exact hq) hr
  rw [hd, List.getElem_drop] at a1
  obtain ⟨g', e1, hl, hc⟩ := h.at (k + j / e.n) (by omega)
  cases e1
  have h2 := (hc (j % e.n) hr).1
  have e3 : (k + j / e.n) * e.n + j % e.n = k * e.n + j := by rw [Nat.add_mul]; omega
  rw [e3, ← a1, hj] at h2
  rw [show (⟨g, k * e.n, none⟩ : Addr).add j = ⟨g, k * e.n + j, none⟩ from by unfold Addr.add; split <;> simp_all]
  exact h2
/-- 's[:i]' with what stands behind one element put behind it, in a region that draws. -/
theorem stepCut {α : Type} {e : Elem α} {ops : Array Oper} {o : Oper} {a : Act} {K : Act → World → Prop} {Q : Exit → Act → World → Prop} {F : Prop} (hgd : o.guard = none) (s x : Operand)
    (ho : o.op = .call { callee := .builtin .append, args := #[s, x], argTypes := #[e.S, e.S] })
    {w : World} {B g n cap i c2 : Nat} {xs : List α} (hown : OwnR e w B (.slice (some ⟨g, 0, none⟩) n cap) xs) (hi : i < n) (hs : a.eval s = .slice (some ⟨g, 0, none⟩) i cap)
    (hx : a.eval x = .slice (if cap = i + 1 then some ⟨g, 0, none⟩ else some ⟨g, (i + 1) * e.n, none⟩) (n - (i + 1)) c2)
    (hlen : n < 100000000) (hB : B ≤ w.heap.size)
    (h : ∀ v' w', OwnR e w' B v' (xs.take i ++ xs.drop (i + 1)) → w.grownBy w' (some g) → K (a.put o.dst v') w') :
    if Region.wanted o (yielded ops a.tmps) = true then Oper.wp Try.prog o a w K Q else F := by
  rw [if_pos (by simp [Region.wanted, hgd])]
  obtain ⟨_, _, hf⟩ := hown.form
  have hn : n = xs.length := by injection hf
  subst hn
  obtain ⟨i0, hif, hz0, hz1, hz2⟩ := info_parts e.hinfo
  have hby := e.hb
  have hc := hown.cutP (m := i) (by omega)
  have hcl : (xs.take i).length = i := by rw [List.length_take]; omega
  have hnc : xs.length ≤ cap := by
    rcases hown.2 with ⟨q, _⟩ | ⟨g', cap', cur, q, _, _, q2, _⟩
    · cases q
    · injection q with _ _ q3
      omega
  have hic : i ≤ cap := by omega
  by_cases hz : xs.length - (i + 1) = 0
  · have hdn : xs.drop (i + 1) = [] := List.drop_of_length_le (by omega)
    have hx2 : ∃ ad, a.eval x = .slice ad 0 c2 := by
      rw [hz] at hx; exact ⟨_, hx⟩
    obtain ⟨ad, hx3⟩ := hx2
    have hrun : (Builtin.append_ #[e.S, e.S] o.type #[.slice (some ⟨g, 0, none⟩) i cap, .slice ad 0 c2]).run Try.prog w = .ok (.slice (some ⟨g, 0, none⟩) i cap) w := by
      cases ad <;> simp [Builtin.append_, run_underlying e.hund, sizeOf, typeInfo, hif, Builtin.lenOf, Builtin.firstCells, hic, storeCells, go_sem]
    unfold Oper.wp execOp
    simp only [ho, resolve, invoke, builtin, Sem.run_bind, Sem.run_pure, Result.andThen_ok, List.map_toArray, List.map_cons, List.map_nil, hs, hx3, hrun]
    exact h _ w (by rw [hdn, List.append_nil]; exact hc) ⟨rfl, rfl, rfl, Nat.le_refl _, fun _ _ _ => rfl⟩
  · rw [if_neg (by omega)] at hx
    · have hl : (xs.drop (i + 1)).length = xs.length - (i + 1) := List.length_drop
      refine wp_append_lies _ s x e.S ho B e.E i0 e.zero e.n e.bytes e.hund hif hz0 hz1 hz2 e.hz e.hn (.slice (some ⟨g, 0, none⟩) i cap) i ((xs.take i).flatMap e.enc) hs (by have := hc; unfold OwnR at this; rw [hcl] at this; exact this)
        ⟨g, (i + 1) * e.n, none⟩ (xs.length - (i + 1)) c2 ((xs.drop (i + 1)).flatMap e.enc) hx (by rw [flat_len e.enc e.n e.hlen, hl]) (hown.newsAt (by omega)) ?_ (by omega) (by unfold maxLen; omega) ?_ hB _ rfl ?_
      · intro u hu
        obtain ⟨y, _, hy⟩ := List.mem_flatMap.1 hu
        exact e.hone y u hy
      · exact Nat.le_trans (Nat.mul_le_mul_left _ hby) (by omega)
      · intro g' c' w' h1 h2 h3 _
        refine h _ w' ?_ h2
        unfold OwnR
        rw [List.flatMap_append, List.length_append, hcl, hl]
        exact h1
end Go.Proofs.Ytgdcamolpmjceaa
