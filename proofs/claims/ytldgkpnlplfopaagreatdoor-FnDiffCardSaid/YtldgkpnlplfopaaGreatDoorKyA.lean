/- The keys of a set, collected. -/
import Derived.Test.YtldgkpnlplfopaaGreatDoorKyI
import Derived.Test.YtldgkpnlplfopaaGreatDoorAppG
import Derived.Great.BuildSlice
namespace Go.Proofs.YtldgkpnlplfopaaGreatDoor
open Go.RowKit Go.Maps Plain
set_option linter.unusedVariables false

namespace Plain
/-- What lies in memory while keys are collected: the box Bs holds the row of those that have come. -/
def ColK (w : World) (ss : List (List UInt8)) (W : World) : Prop := (∃ v, W.heap[w.heap.size]? = some (.cells #[v] 53 (0, 0)) ∧ OwnR keyE W w.heap.size v ss) ∧ Below w.heap.size w W
/-- The round's variable is laid. -/
def VarK (w : World) (lb : Array Value) (x : List UInt8) (a : Act) (W : World) : Prop := ∃ p, a = { tmps := #[.slice none 0 0, .func (.func 62) #[] lb, .pointer (some ⟨w.heap.size, 0, none⟩), undef, .slice none 0 0, .pointer (some ⟨p, 0, none⟩), .func (.func 62) #[] lb, .agg (encK x).toArray, undef, undef, undef, undef, undef], defers := [] } ∧ W.heap[p]? = some (.cells (encK x).toArray 63 (0, 0))
theorem keepCells {W W' : World} {row : Option Nat} {b : Nat} {cs : Array Value} {t : TypeId} {f : Nat × Nat} (h : W.heap[b]? = some (.cells cs t f)) (hg : W.grownBy W' row) (hr : ∀ r, row = some r → ∃ o : Obj, W.heap[r]? = some o ∧ o.isCells = false) : W'.heap[b]? = some (.cells cs t f) := by
  refine (hg.block b (Array.getElem?_eq_some_iff.1 h).1 (fun e => ?_)).trans h
  obtain ⟨o, ho, hc⟩ := hr b e.symm
  rw [h] at ho
  cases ho
  cases hc
theorem keepRow {α : Type} {e : Elem α} {W W' : World} {row : Option Nat} {B : Nat} {v : Value} {xs : List α} (h : OwnR e W B v xs) (hg : W.grownBy W' row) (hr : ∀ r, row = some r → ∃ o : Obj, W.heap[r]? = some o ∧ o.isCells = false) : OwnR e W' B v xs := by
  refine ⟨h.1, ?_⟩
  rcases h.2 with ⟨q, c⟩ | ⟨g, cap, cur, q, c, d, r⟩
  · exact .inl ⟨q, c⟩
  · exact .inr ⟨g, cap, cur, q, c, keepCells d hg hr, r⟩
theorem keepRowT {α : Type} {e : Elem α} {W W' : World} {b B : Nat} {v : Value} {xs : List α} {cs : Array Value} {t : TypeId} {f : Nat × Nat} (h : OwnR e W B v xs) (hg : W.grownBy W' (some b)) (hb : W.heap[b]? = some (.cells cs t f)) (ht : e.E ≠ t) : OwnR e W' B v xs := by
  refine ⟨h.1, ?_⟩
  rcases h.2 with ⟨q, c⟩ | ⟨g, cap, cur, q, c, d, r⟩
  · exact .inl ⟨q, c⟩
  · refine .inr ⟨g, cap, cur, q, c, (hg.block g (Array.getElem?_eq_some_iff.1 d).1 (fun e => ?_)).trans d, r⟩
    have h9 : g = b := Option.some.inj e
    rw [h9, hb] at d
    cases d
    exact ht rfl
theorem ColK.own (w : World) (B : Nat) (hB : w.heap.size ≤ B) : OwnFrom B (ColK w) := fun ss W W' row h hg hr => by
  obtain ⟨⟨v, h1, h2⟩, h3⟩ := h
  have hr' : ∀ r, row = some r → ∃ o : Obj, W.heap[r]? = some o ∧ o.isCells = false := fun r e => (hr r e).2
  exact ⟨⟨v, keepCells h1 hg hr', keepRow h2 hg hr'⟩, h3.grown hg h3.size (fun k e => Nat.le_trans hB (hr k e).1)⟩
theorem VarK.own (w : World) (lb : Array Value) (B : Nat) (x : List UInt8) (a : Act) : OwnFrom B (fun (_ : Unit) W => VarK w lb x a W) := fun _ W W' row h hg hr => by
  obtain ⟨p, h1, h2⟩ := h
  exact ⟨p, h1, keepCells h2 hg (fun r e => (hr r e).2)⟩
theorem keeps_none {B : Nat} {W W' : World} (hg : W.grownBy W' none) : KeepsFrom B W W' ∧ KeepsWalks W W' :=
  ⟨⟨hg.size, fun k o _ hk _ => (hg.block k (Array.getElem?_eq_some_iff.1 hk).1 (fun e => by cases e)).trans hk⟩, hg.size, fun k o hk _ => (hg.block k (Array.getElem?_eq_some_iff.1 hk).1 (fun e => by cases e)).trans hk⟩
theorem keeps_cells {B b : Nat} {W W' : World} {cs : Array Value} {t : TypeId} {f : Nat × Nat} (h : W.heap[b]? = some (.cells cs t f)) (hg : W.grownBy W' (some b)) : KeepsFrom B W W' ∧ KeepsWalks W W' := by
  have key : ∀ (k : Nat) (o : Obj), W.heap[k]? = some o → (∀ cs t f, o ≠ .cells cs t f) → W'.heap[k]? = some o := fun k o hk ho => (hg.block k (Array.getElem?_eq_some_iff.1 hk).1 (fun e => by
    have : k = b := Option.some.inj e
    subst this
    rw [hk] at h
    cases h
    exact ho _ _ _ rfl)).trans hk
  exact ⟨⟨hg.size, fun k o _ hk ho => key k o hk (fun cs t f e => by subst e; cases ho)⟩, hg.size, fun k o hk ho => key k o hk (fun cs t f e => by subst e; cases ho)⟩
end Plain
theorem appIn {α : Type} {e : Elem α} {F : Fence} {n : Nat} {ops : Array Oper} {rest : List Oper} {o : Oper} {a : Act} {Q : Exit → Act → World → Prop} (hgd : o.guard = none) (s x : Operand)
    (ho : o.op = .call { callee := .builtin .append, args := #[s, x], argTypes := #[e.S, e.S] })
    {w : World} {B : Nat} {v : Value} {xs : List α} (hown : OwnR e w B v xs) (hs : a.eval s = v) (y : α) {cs : Array Value} (hcs : cs.toList = e.enc y)
    (gx : Nat) (hx : a.eval x = .slice (some ⟨gx, 0, none⟩) 1 1) (hgx : gx = w.heap.size) (hlen : xs.length < 100000000) (hB : B ≤ w.heap.size)
    (h : ∀ v' w', OwnR e w' B v' (xs ++ [y]) → Below B w w' → (w.alloc (.cells cs e.E)).grownBy w' v.ownBlock → wpListIn F n Tryz.prog ops Q rest (a.put o.dst v') w') :
    wpListIn F n Tryz.prog ops Q (o :: rest) a (w.alloc (.cells cs e.E)) := by
  subst hgx
  obtain ⟨i0, hi, hz0, hz1, hz2⟩ := info_parts e.hinfo
  have ha := World.ownsRow.alloc hown (.cells cs e.E)
  have hnew : (w.alloc (.cells cs e.E)).heap[w.heap.size]? = some (.cells cs e.E) := (MapKept.heap_alloc w _).1
  have hby := e.hb
  refine wpListIn_append_own _ hgd s x e.S ho B e.E i0 e.zero e.n e.bytes e.hund hi hz0 hz1 hz2 e.hz e.hn v xs.length (xs.flatMap e.enc) hs ha
    ⟨w.heap.size, 0, none⟩ 1 1 (e.enc y) hx (by rw [e.hlen, Nat.one_mul]) (by rw [← hcs]; exact World.news_of_block hnew) (e.hone y) (by unfold maxLen; omega) ?_ (by simp; omega) ?_
  · exact Nat.le_trans (Nat.mul_le_mul_left _ hby) (by omega)
  · intro v' w' h1 h2 _
    refine h v' w' ?_ (((Below.refl B w).alloc hB _).trans (own_below ha h2 (by simp; omega))) h2
    unfold OwnR
    rw [List.flatMap_append, List.length_append]
    simpa using h1
theorem foldAll : ∀ (l : List Value) (k : Nat) (base : Array Value), k + l.length = base.size → (l.zipIdx k).foldl (fun cs x => cs.setIfInBounds (0 + x.2) x.1) base = (base.toList.take k ++ l).toArray
  | [], k, base, h => by
    simp at h
    subst h
    apply Array.ext'
    rw [show base.size = base.toList.length from by simp, List.take_length]
    simp
  | x :: l, k, base, h => by
    have hk : k < base.size := by simp at h; omega
    rw [List.zipIdx_cons, List.foldl_cons, foldAll l (k + 1) _ (by simp at h ⊢; omega)]
    apply Array.ext'
    simp only [Nat.zero_add, Array.toList_setIfInBounds]
    have hkl : k < base.toList.length := by simpa using hk
    rw [List.take_succ_eq_append_getElem (by simpa using hkl), List.take_set_of_le (Nat.le_refl _)]
    simp
theorem fillK (base cs : Array Value) (h : cs.size = 32) (hb : base.size = 32) : Instr.fill (fun i => some (i * 32, 32)) base [(0, .agg cs)] = some cs := by
  unfold Instr.fill
  simp only [Value.cells, h, hb, Nat.zero_mul]
  rw [if_neg (by simp)]
  unfold Instr.fill
  congr 1
  have h2 : cs.zipIdx.size = 32 := by simp [h]
  rw [← Array.foldl_toList]
  have := foldAll cs.toList 0 base (by simp [h, hb])
  simp only [List.take_zero, List.nil_append, Array.toArray_toList] at this
  rw [show cs.zipIdx.toList = cs.toList.zipIdx 0 from by simp]
  exact this
theorem inBuild {F : Fence} {n : Nat} {ops : Array Oper} {rest : List Oper} {o : Oper} {a : Act} {w : World} {Q : Exit → Act → World → Prop} (hgd : o.guard = none) (y : Operand) (ho : o.op = .buildSlice 53 1 #[(0, y)])
    (cs : Array Value) (hy : a.eval y = .agg cs) (hs : cs.size = 32)
    (h : wpListIn F n Tryz.prog ops Q rest (a.put o.dst (.slice (some ⟨w.heap.size, 0, none⟩) 1 1)) (w.alloc (.cells cs 63))) : wpListIn F n Tryz.prog ops Q (o :: rest) a w := by
  refine wpListIn_plain hgd fun K hK => ?_
  unfold Oper.wpIn
  refine ⟨by simp [Oper.about, ho], ?_⟩
  rw [Oper.semAt_plain F _ _ (by rw [ho]; intro c hc; cases hc)]
  obtain ⟨i0, hi, hz0, hz1, hz2⟩ := info_parts keyE.hinfo
  have hz3 : i0.size = 32 := hz1
  have hrun := run_buildSlice (P := Tryz.prog) w 53 63 1 #[(0, .agg cs)] cs i0 keyE.zero Tryz.underlying53 hi hz0 (by rw [hz3]; decide) (by rw [hz3]; decide) (by
    rw [hz3]
    exact fillK _ cs hs (by simp))
  unfold execOp
  simp only [ho, Sem.run_bind, List.map_toArray, List.map_cons, List.map_nil, hy, hrun, Result.andThen_ok]
  exact hK _ _ h
theorem infX (x : List UInt8) : (Tryz.prog.info? 63).map (·.size) = some (encK x).toArray.size := by
  rw [show (encK x).toArray.size = 32 from by simp [encK_len]]
  exact infoK
theorem s32X (x : List UInt8) : (32 : Nat) = (encK x).toArray.size := by simp [encK_len]
theorem oneX (x : List UInt8) : (encK x).toArray.all (·.oneCell') = true := by
  simp [encK]
  intro i hi
  rfl
theorem neKS : keyE.E ≠ (53 : TypeId) := by decide

set_option maxRecDepth 100000 in
set_option maxHeartbeats 2000000 in
theorem appendSeqK (n : Nat) (hn : 2 ≤ n) (Bm b nn : Nat) (D0 : DataW Unit) (hN : Maps.size D0 ≤ 1000000) (w : World) (hBm : Bm < w.heap.size) (hm : w.cell? ⟨Bm, 0, none⟩ = some (.map (some b))) (hown : w.ownsMap Tryz.prog 63 anyR b nn D0) :
    CallsIn Fence.wide n Tryz.prog 73 #[.slice none 0 0, .func (.func 62) #[] #[.pointer (some ⟨Bm, 0, none⟩)]] w fun e w' => ∃ v ss, e = .returned v ∧ CameK D0 (fun _ => false) ss ∧ OwnR keyE w' w.heap.size v ss ∧ Below w.heap.size w w' := by
  have hro : Fence.wide.round = none := rfl
  have h1 : 1 ≤ n := by omega
  have hseq := keys_stops (n - 1) (by omega) Bm b nn D0 w hBm hm hown
  have eg : ∀ args w, (callFunc 62 args).run Tryz.prog w = .ok (.enter 62 args) w := enters_of Tryz.func62 (by kernel_rfl) rfl
  refine callsIn_of_wp_marks Tryz.func73 rfl trivial ?_ hro
  simp only [Tryz.ntmps73, List.size_toArray, List.length_cons, List.length_nil, Nat.reduceAdd, Nat.reduceSub, Array.replicate_succ, Array.replicate_zero, List.push_toArray, List.append_toArray, List.nil_append, List.cons_append]
  gi_wp2
  obtain ⟨W0, hW0⟩ : ∃ W0, w.alloc (.cells #[.slice none 0 0] 53) = W0 := ⟨_, rfl⟩
  have hs0 : W0.heap.size = w.heap.size + 1 := by rw [← hW0]; simp
  have hb0 : Below w.heap.size w W0 := by rw [← hW0]; exact (Below.refl _ w).alloc (Nat.le_refl _) _
  have hI0 : ColK w [] W0 := ⟨⟨.slice none 0 0, by rw [← hW0]; exact heap_alloc_new _ _, ownR_nil _ _ _⟩, hb0⟩
  rw [hW0]
  refine wpIn_rangeFunc_ownH hro h1 rfl trivial eg hseq (fun h k => h.trans k) ?_ hb0 (fun _ => rfl) (ColK w) (fun _ _ _ => False) (ColK.own w _ (by omega)) (fun _ _ _ _ _ h => by cases h) hI0 (VarK w #[.pointer (some ⟨Bm, 0, none⟩)]) (VarK.own w _ _) ?_ ?_ ?_ ?_
  · intro W l o o' _ hl _ hw
    exact KeepsWalks.putObj _ hl hw
  · intro l pre x W K hI hK
    have hinx := infX x
    have h32x := s32X x
    have honx := oneX x
    gi_wp2_with (first
      | (refine inStore rfl 63 (.tmp 5) (.tmp 7) rfl W.heap.size (encK x).toArray rfl rfl 63 _ (heap_alloc_new W _) hinx h32x honx ?_; intro w3 hrow3 hgr3 hsz3)
      | (rw [Oper.semAt_eq _ _ _ (fun c h => by cases h)]; go_simp; try go_bits))
    have hg23 : W.grownBy w3 none := ⟨hgr3.os, hgr3.tape, hgr3.output, Nat.le_trans (by simp) hgr3.size, fun k hk _ => (hgr3.block k (by simp; omega) (fun e => by have h9 : k = W.heap.size := Option.some.inj e; omega)).trans (Below.heap_alloc _ _ k hk)⟩
    have hk23 := keeps_none (B := W0.heap.size) hg23
    exact hK _ _ hk23.1 hk23.2 (ColK.own w W0.heap.size (by omega) pre W w3 none hI hg23 (fun r e => by cases e)) ⟨W.heap.size, rfl, hrow3⟩
  · intro l pre x a' W hl hr hI hA hlen
    obtain ⟨p, rfl, hp⟩ := hA
    have hinx := infX x
    have h32x := s32X x
    have honx := oneX x
    obtain ⟨⟨v, hv, hrow⟩, hb⟩ := hI
    have hc0 : W.cell? ⟨w.heap.size, 0, none⟩ = some v := by rw [cell_of_row W w.heap.size 0 _ _ _ hv]; rfl
    have hbz := hb.size
    have hwl : w.heap.size < W.heap.size := (Array.getElem?_eq_some_iff.1 hv).1
    have hlen2 : pre.length < 100000000 := by omega
    have hne : ∀ g, v.ownBlock = some g → g ≠ w.heap.size := fun g hg e => by
      subst e
      rcases hrow.2 with ⟨q, _⟩ | ⟨g1, cap, cur, q, _, d, _⟩
      · rw [q] at hg; cases hg
      · rw [q] at hg
        have h9 : g1 = w.heap.size := by simpa [Value.ownBlock] using hg
        rw [h9, hv] at d
        simp at d
        exact neKS d.2.symm
    gi_wp2_with (first
      | (refine inLoad rfl 63 (.tmp 5) rfl p rfl 63 (encK x).toArray (0, 0) _ hp Tryz.underlying63 rfl hinx ?_)
      | (refine inBuild rfl (.tmp 9) rfl (encK x).toArray rfl h32x.symm ?_)
      | (gi_at_builtin; refine appIn (e := keyE) rfl (.tmp 8) (.tmp 10) rfl hrow rfl x rfl _ rfl rfl hlen2 hbz ?_; intro v' w3 hown3 hb3 hg3; obtain ⟨a4, c4, hv4⟩ := hown3.form; subst hv4; have hv3 : w3.heap[w.heap.size]? = some (.cells #[v] 53 (0, 0)) := (hg3.block w.heap.size (by simp; omega) (fun e => hne _ e.symm rfl)).trans ((Below.heap_alloc _ _ _ hwl).trans hv); have hc3 : w3.cell? ⟨w.heap.size, 0, none⟩ = some v := (by { rw [cell_of_row w3 w.heap.size 0 _ _ _ hv3]; rfl }); have hf3 : w3.frozen? ⟨w.heap.size, 0, none⟩ = false := frozen_of_row w3 w.heap.size 0 _ _ hv3)
      | (rw [Oper.semAt_eq _ _ _ (fun c h => by cases h)]; go_simp; try go_bits))
    have hz4 : (pre ++ [x]).length = pre.length + 1 := by simp
    rw [hz4] at hown3
    have hrow4 : (w3.setCell ⟨w.heap.size, 0, none⟩ (.slice a4 (pre.length + 1) c4)).heap[w.heap.size]? = some (.cells #[.slice a4 (pre.length + 1) c4] 53 (0, 0)) := Boxed.set _ hv3
    have hg4 := grownBy_setCell' w3 w.heap.size (.slice a4 (pre.length + 1) c4)
    have k1 := keeps_none (B := W0.heap.size) (World.grownBy_alloc W (.cells (encK x).toArray 63) none)
    have k2 : KeepsFrom W0.heap.size (W.alloc (.cells (encK x).toArray 63)) w3 ∧ KeepsWalks (W.alloc (.cells (encK x).toArray 63)) w3 := by
      rcases hrow.2 with ⟨q, _⟩ | ⟨g1, cap, cur, q, _, d, _⟩
      · rw [q] at hg3
        exact keeps_none hg3
      · rw [q] at hg3
        exact keeps_cells ((Below.heap_alloc _ _ _ (Array.getElem?_eq_some_iff.1 d).1).trans d) hg3
    have k3 := keeps_cells (B := W0.heap.size) hv3 hg4
    refine ⟨(k1.1.trans k2.1).trans k3.1, (k1.2.trans k2.2).trans k3.2, ⟨_, hrow4, ?_⟩, hb.trans (hb3.setCell (Nat.le_refl _) _)⟩
    exact keepRowT hown3 hg4 hv3 neKS
  · intro D xs W hD hS hI hK
    obtain ⟨⟨v, hv, hrow⟩, hb⟩ := hI
    have hc0 : W.cell? ⟨w.heap.size, 0, none⟩ = some v := by rw [cell_of_row W w.heap.size 0 _ _ _ hv]; rfl
    gi_wp2
    refine ⟨by simp, .inl ⟨_, _, rfl, run_takeDeferred hK, ?_⟩⟩
    have hgp := grownBy_putObj' W D (.deferred none)
    have hrp : ∀ r, some D = some r → ∃ o : Obj, W.heap[r]? = some o ∧ o.isCells = false := fun r e => by
      cases e
      exact ⟨_, hK, rfl⟩
    exact ⟨_, results_tmp rfl _ _ _, v, xs, rfl, hS, keepRow hrow hgp hrp, hb.grown hgp hb.size (fun k e => by cases e; omega)⟩
  · intro D c pre W _ _ h
    cases h
end Go.Proofs.YtldgkpnlplfopaaGreatDoor
