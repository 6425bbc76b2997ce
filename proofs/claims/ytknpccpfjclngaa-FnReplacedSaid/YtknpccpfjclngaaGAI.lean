/- Texts of one kind, put together. -/
import Derived.Test.YtknpccpfjclngaaGAH
import Derived.Test.YtknpccpfjclngaaGAF
import Derived.Test.YtknpccpfjclngaaStpM
import Derived.ArgAppend

/- Ops done on a disk, all or none, by the program. -/
namespace Go.Proofs.Ytknpccpfjclngaa
open Go.RowKit Go.Maps Plain
set_option linter.unusedVariables false

theorem Plain.apartNil2 : Apart none none none := by refine ⟨?_, ?_, ?_⟩ <;> (rintro g ⟨o, e⟩; cases e)
theorem disk_liv2 {live safe : List Fl} {ops : List Dop} (h : diskB live safe ops = true) : filesB live = true := by
  unfold diskB at h
  rw [Bool.and_eq_true] at h
  exact h.1
/-- A disk that is told, out of the block of the answer. -/
theorem dskRet {f : Value → Value} {w w7 : World} {B rb : Nat} {y1 y2 y3 : Option Addr} {k1 k2 k3 : Nat} {live safe : List Fl} {ops : List Dop} (h1 : OwnR fileE w7 B (.slice y1 live.length k1) live) (h2 : OwnR fileE w7 B (.slice y2 safe.length k2) safe) (h3 : OwnR dopE w7 B (.slice y3 ops.length k3) ops) (ap : Apart y1 y2 y3)
    (hrb : w.heap.size ≤ rb) (hB : rb < B) (hb : Below w.heap.size w w7) : DskPost f live safe ops w (.returned (f (.agg #[.slice y1 live.length k1, .slice y2 safe.length k2, .slice y3 ops.length k3]))) (((w7.setCell ⟨rb, 0, none⟩ (.slice y1 live.length k1)).setCell ⟨rb, 1, none⟩ (.slice y2 safe.length k2)).setCell ⟨rb, 2, none⟩ (.slice y3 ops.length k3)) := by
  refine ⟨y1, k1, y2, k2, y3, k3, rfl, (h1.other ?_).le (by omega), (h2.other ?_).le (by omega), (h3.other ?_).le (by omega), ap, ((hb.setCell hrb _).setCell hrb _).setCell hrb _⟩
  · intro g hg
    have hg2 : rb ≠ g := by have := (World.ownsRow.lt h1 g hg).1; omega
    rw [heap_set hg2, heap_set hg2, heap_set hg2]
  · intro g hg
    have hg2 : rb ≠ g := by have := (World.ownsRow.lt h2 g hg).1; omega
    rw [heap_set hg2, heap_set hg2, heap_set hg2]
  · intro g hg
    have hg2 : rb ≠ g := by have := (World.ownsRow.lt h3 g hg).1; omega
    rw [heap_set hg2, heap_set hg2, heap_set hg2]

theorem appLd {α : Type} {e : Elem α} {ops : Array Oper} {rest : List Oper} {o : Oper} {a : Act} {Q : Exit → Act → World → Prop} (hgd : o.guard = none) (s x : Operand)
    (ho : o.op = .call { callee := .builtin .append, args := #[s, x], argTypes := #[e.S, e.S] })
    {w : World} {B : Nat} {v : Value} {xs ys : List α} (hown : OwnR e w B v xs) (hs : a.eval s = v) (g m c : Nat) (hx : a.eval x = .slice (some ⟨g, 0, none⟩) m c) (hy : ys.length = m) (hr : RowAt e w (some ⟨g, 0, none⟩) ys) (hm : 0 < m)
    (hlen : xs.length + m < 100000000) (hB : B ≤ w.heap.size)
    (h : ∀ g' c' w', OwnR e w' B (.slice (some ⟨g', 0, none⟩) (xs.length + m) c') (xs ++ ys) → w.grownBy w' v.ownBlock → (v.ownBlock = some g' ∨ g' = w.heap.size) → wpList Try.prog ops Q rest (a.put o.dst (.slice (some ⟨g', 0, none⟩) (xs.length + m) c')) w') :
    wpList Try.prog ops Q (o :: rest) a w := by
  obtain ⟨i0, hi, hz0, hz1, hz2⟩ := info_parts e.hinfo
  subst hy
  have hby := e.hb
  refine wpList_append_lies _ hgd s x e.S ho B e.E i0 e.zero e.n e.bytes e.hund hi hz0 hz1 hz2 e.hz e.hn v xs.length (xs.flatMap e.enc) hs hown
    ⟨g, 0, none⟩ ys.length c (ys.flatMap e.enc) hx (flat_len e.enc e.n e.hlen ys) ?_ ?_ hm (by unfold maxLen; omega) ?_ hB _ rfl ?_
  · intro j u hj
    have hjl : j < ys.length * e.n := by
      have := (List.getElem?_eq_some_iff.1 hj).1
      rw [flat_len e.enc e.n e.hlen] at this
      exact this
    have hn := e.hn
    have hq : j / e.n < ys.length := Nat.div_lt_of_lt_mul (by rw [Nat.mul_comm]; exact hjl)
    have hm : j % e.n < e.n := Nat.mod_lt _ hn
    have hd : j / e.n * e.n + j % e.n = j := by rw [Nat.mul_comm]; exact Nat.div_add_mod j e.n
    obtain ⟨g', e1, hl, hc⟩ := hr (j / e.n) hq
    cases e1
    have h1 := (hc (j % e.n) hm).1
    rw [hd] at h1
    have h2 := flat_get e.enc e.n e.hlen ys (j / e.n) (j % e.n) hq hm
    rw [hd] at h2
    rw [show (⟨g, 0, none⟩ : Addr).add j = ⟨g, j, none⟩ from by unfold Addr.add; split <;> simp_all, h1, ← h2]
    exact hj
  · intro u hu
    obtain ⟨y, _, hy⟩ := List.mem_flatMap.1 hu
    exact e.hone y u hy
  · exact Nat.le_trans (Nat.mul_le_mul_left _ hby) (by omega)
  · intro g' c' w' h1 h2 h3 h4
    refine h g' c' w' ?_ h2 h3
    unfold OwnR
    rw [List.flatMap_append, List.length_append]
    exact h1

theorem Plain.NxAt.mk1 {W : World} {B b m nb : Nat} {now : List Fl} {aL : Option Addr} {lL kL : Nat} {yS : Option Addr} {kS : Nat} {yO : Option Addr} {kO : Nat} {safe : List Fl} {os : List Dop} {v0 v1 v2 : Value} (tab : Tab W b m (tabF now)) (ok : filesB now = true) (bB : B ≤ b) (nB : B ≤ nb) (bn : b ≠ nb)
    (s : OwnR fileE W B (.slice yS safe.length kS) safe) (o : OwnR dopE W B (.slice yO os.length kO) os) (so : ∀ g, inB yS g → ¬ inB yO g) (sb : ¬ inB yS b) (ob : ¬ inB yO b) (sn : ¬ inB yS nb) (on : ¬ inB yO nb)
    (u0 : W.cell? ⟨nb, 0, none⟩ = some v0) (u1 : W.cell? ⟨nb, 1, none⟩ = some v1) (u2 : W.cell? ⟨nb, 2, none⟩ = some v2) (j0 : W.frozen? ⟨nb, 0, none⟩ = false) (j2 : W.frozen? ⟨nb, 2, none⟩ = false) :
    NxAt (((W.setCell ⟨nb, 0, none⟩ (.slice aL lL kL)).setCell ⟨nb, 1, none⟩ (.slice yS safe.length kS)).setCell ⟨nb, 2, none⟩ (.slice yO os.length kO)) B b m nb now (.slice aL lL kL) yS kS yO kO safe os := by
  have st : ∀ (X : World) (i : Nat) (v : Value), X.grownBy (X.setCell ⟨nb, i, none⟩ v) (some nb) := fun X i v => (OnlyRow.set (g := nb) (o := 0) i v).gr
  refine ⟨Tab.off (Tab.off (Tab.off tab (st _ _ _) bn) (st _ _ _) bn) (st _ _ _) bn, ok, bB, nB, bn, ((s.off (st _ _ _) sn).off (st _ _ _) sn).off (st _ _ _) sn, ((o.off (st _ _ _) on).off (st _ _ _) on).off (st _ _ _) on, so, sb, ob, sn, on, ?_, ?_, ?_, ?_, ?_⟩
  · exact (cell_off (.inr (by decide))).trans ((cell_off (.inr (by decide))).trans (cell_set u0))
  · exact (cell_off (.inr (by decide))).trans (cell_set ((cell_off (.inr (by decide))).trans u1))
  · exact cell_set ((cell_off (.inr (by decide))).trans ((cell_off (.inr (by decide))).trans u2))
  · rw [World.frozen?_setCell, World.frozen?_setCell, World.frozen?_setCell]; exact j0
  · rw [World.frozen?_setCell, World.frozen?_setCell, World.frozen?_setCell]; exact j2
theorem Plain.NxAt.mk2 {W : World} {B b m : Nat} {now : List Fl} {aL : Option Addr} {lL kL : Nat} {yS : Option Addr} {kS : Nat} {yO : Option Addr} {kO : Nat} {safe : List Fl} {os : List Dop} (tab : Tab W b m (tabF now)) (ok : filesB now = true) (bB : B ≤ b) (nB : B ≤ W.heap.size)
    (s : OwnR fileE W B (.slice yS safe.length kS) safe) (o : OwnR dopE W B (.slice yO os.length kO) os) (so : ∀ g, inB yS g → ¬ inB yO g) (sb : ¬ inB yS b) (ob : ¬ inB yO b) :
    NxAt (W.alloc (.cells #[.slice aL lL kL, .slice yS safe.length kS, .slice yO os.length kO] 27)) B b m W.heap.size now (.slice aL lL kL) yS kS yO kO safe os := by
  have hlt := tab.lt
  have hb := bel1 W (.cells #[.slice aL lL kL, .slice yS safe.length kS, .slice yO os.length kO] 27)
  exact ⟨tab.below hb hlt, ok, bB, nB, by omega, s.keep hb, o.keep hb, so, sb, ob, fun h => by have := (s.bl _ h).2; omega, fun h => by have := (o.bl _ h).2; omega, by simp [go_sem], by simp [go_sem], by simp [go_sem], by simp [go_sem], by simp [go_sem]⟩

end Go.Proofs.Ytknpccpfjclngaa


/- A row appended to an empty slice without room: nothing that was there is changed. -/
namespace Go.Proofs.Ytknpccpfjclngaa
open Go.RowKit Plain
set_option linter.unusedVariables false

/-- A row that is owned, or an empty slice without room. -/
def Plain.OwnOr {α : Type} (e : Elem α) (w : World) (B : Nat) (a : Option Addr) (c : Nat) (xs : List α) : Prop := OwnR e w B (.slice a xs.length c) xs ∨ (xs = [] ∧ c = 0 ∧ ∃ g, a = some ⟨g, 0, none⟩ ∧ g < w.heap.size)
/-- What one element more leaves. -/
structure Plain.AppM {α : Type} (e : Elem α) (B : Nat) (w w' : World) (a : Option Addr) (c : Nat) (xs : List α) (x : α) (g' c' : Nat) : Prop where
  own : OwnR e w' B (.slice (some ⟨g', 0, none⟩) (xs.length + 1) c') (xs ++ [x])
  gr : w.grownBy w' none ∨ (OwnR e w B (.slice a xs.length c) xs ∧ w.grownBy w' (Value.slice a xs.length c).ownBlock)
  lies : inB a g' ∨ w.heap.size ≤ g'
theorem appM {α : Type} {e : Elem α} {ops : Array Oper} {rest : List Oper} {o : Oper} {a : Act} {Q : Exit → Act → World → Prop} (hgd : o.guard = none) (s x : Operand)
    (ho : o.op = .call { callee := .builtin .append, args := #[s, x], argTypes := #[e.S, e.S] })
    {w : World} {B : Nat} {ad : Option Addr} {cd : Nat} {xs : List α} {y : α} (hown : OwnOr e w B ad cd xs) (hs : a.eval s = .slice ad xs.length cd) (g c : Nat) (hx : a.eval x = .slice (some ⟨g, 0, none⟩) 1 c) (hr : RowAt e w (some ⟨g, 0, none⟩) [y])
    (hlen : xs.length + 1 < 100000000) (hB : B ≤ w.heap.size)
    (h : ∀ g' c' w', AppM e B w w' ad cd xs y g' c' → wpList Try.prog ops Q rest (a.put o.dst (.slice (some ⟨g', 0, none⟩) (xs.length + 1) c')) w') :
    wpList Try.prog ops Q (o :: rest) a w := by
  rcases hown with hown | ⟨rfl, rfl, g0, rfl, hg0⟩
  · exact appLd hgd s x ho hown hs g 1 c hx rfl hr (by omega) hlen hB fun g' c' w' h1 h2 h3 => h g' c' w' ⟨h1, .inr ⟨hown, h2⟩, h3.imp (fun q => hown.inb q) (fun q => by omega)⟩
  · refine wpList_plain hgd fun K hK => ?_
    obtain ⟨a', c', w', hr', hA⟩ := run_app0 e o.type w g0 g c [y] hr (by simp) hg0
    have hs2 : a.eval s = .slice (some ⟨g0, 0, none⟩) 0 0 := hs
    have hx2 : a.eval x = .slice (some ⟨g, 0, none⟩) [y].length c := hx
    unfold Oper.wp execOp
    simp only [ho, resolve, invoke, builtin, Sem.run_bind, Sem.run_pure, Result.andThen_ok, List.map_toArray, List.map_cons, List.map_nil, hs2, hx2, hr']
    rcases hA.own with h1 | ⟨h1, _⟩
    · obtain ⟨g', cap, e1, hb1, _⟩ := World.ownsRow.form h1 (by simp)
      cases e1
      exact hK _ _ (h g' c' w' ⟨h1.le hB, .inl ⟨hA.below.os, hA.below.tape, hA.below.output, hA.below.size, fun k hk _ => hA.below.block k hk⟩, .inr hb1⟩)
    · cases h1
end Go.Proofs.Ytknpccpfjclngaa

