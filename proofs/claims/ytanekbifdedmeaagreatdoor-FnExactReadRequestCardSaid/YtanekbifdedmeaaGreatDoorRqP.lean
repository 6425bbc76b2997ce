/- A range over the pieces of a text: the caller's side. -/
import Derived.Test.YtanekbifdedmeaaGreatDoorRqI
namespace Go.Proofs.YtanekbifdedmeaaGreatDoor
open Go.RowKit Plain
set_option linter.unusedVariables false

theorem splitSeq_calls (s : ByteArray) (w : World) :
    Calls Tryz.prog 135 #[.string s, .string ⟨#[38]⟩] w fun e w' => e = .returned (.func (.func 179) #[] #[.pointer (some ⟨w.heap.size + 1, 0, none⟩), .pointer (some ⟨w.heap.size, 0, none⟩), .pointer (some ⟨w.heap.size + 2, 0, none⟩)]) ∧ SqAt w' w.heap.size (w.heap.size + 1) (w.heap.size + 2) s ∧ Below w.heap.size w w' ∧ w'.heap.size = w.heap.size + 3 := by
  go_enter Tryz.func135, Tryz.ntmps135
  go_wp2
  go_ret
  refine ⟨rfl, ⟨?_, ?_, ?_, ?_⟩, ?_, ?_⟩
  · simp [go_sem]
  · simp [go_sem]
  · simp [go_sem]
  · simp [go_sem]
  · exact belOn (belOn (bel1 _ _) (bel1 _ _)) (bel1 _ _)
  · simp

namespace Plain
theorem keepQ {w w' : World} (hb : Below w.heap.size w w') (b : Nat) (o : Obj) (h : w.heap[b]? = some o) : w'.heap[b]? = some o := (hb.block b (Array.getElem?_eq_some_iff.1 h).1).trans h
theorem newQ (w : World) (o : Obj) : Below w.heap.size w (w.alloc o) := (Below.refl _ _).alloc (Nat.le_refl _) _
theorem onlyPutQ {l : Nat} {W : World} {o : Obj} : OnlyP (fun k => k = l) W (W.putObj l o) := by
  have h := grownBy_putObj' W l o
  exact ⟨h.os, h.tape, h.output, h.size, fun k hk hn => h.block k hk (fun e => hn (by cases e; rfl))⟩
theorem OnlyP.wideQ {p q : Nat → Prop} {w w' : World} (h : OnlyP p w w') (hq : ∀ k, p k → q k) : OnlyP q w w' := ⟨h.os, h.tape, h.output, h.size, fun k hk hn => h.block k hk (fun e => hn (hq k e))⟩
/-- How a round's body may be left: what stays, and what holds then. -/
def RndQ (l D : Nat) (S : Nat → Prop) (K : World → Prop) (Kx : World → Prop) (X W : World) : Exit → Act → World → Prop
  | .normal, _, W' => (W'.heap[l]? = W.heap[l]? ∧ W'.heap[D]? = W.heap[D]? ∧ ∀ k, S k → W'.heap[k]? = X.heap[k]?) ∧ K W'
  | .ret, _, W' => (W'.heap[l]? = W.heap[l]? ∧ W'.heap[D]? = W.heap[D]?) ∧ Kx W'
  | _, _, _ => False
end Plain

set_option maxHeartbeats 1000000 in
theorem range_seq {ps : Array Tmp} {assign body : Code} {Q : Exit → Act → World → Prop} {a : Act} {w : World} {g : Operand} (s : ByteArray) (Bs Bp Bv : Nat) (h1 : Bs ≠ Bp) (h2 : Bs ≠ Bv) (hd : SqAt w Bs Bp Bv s) (hs : s.size ≤ 2000000)
    (hg : a.eval g = .func (.func 179) #[] #[.pointer (some ⟨Bp, 0, none⟩), .pointer (some ⟨Bs, 0, none⟩), .pointer (some ⟨Bv, 0, none⟩)]) (hps : ps.size = 1)
    (K : List (List UInt8) → World → Prop) (Kx : World → Prop)
    (hV : ∀ r X, K r X → RrV X)
    (hK : ∀ r X X', K r X → OnlyP (fun k => k = Bs ∨ k = w.heap.size + 1) X X' → K r X')
    (hKx : ∀ X X', Kx X → OnlyP (fun k => k = w.heap.size + 1) X X' → Kx X')
    (h0 : ∀ X, Below w.heap.size w X → w.heap.size + 2 ≤ X.heap.size → K (splt 38 s.data.toList) X)
    (hround : ∀ (x : List UInt8) (r : List (List UInt8)) (X : World), K (x :: r) X → w.heap.size + 2 ≤ X.heap.size →
      assign.wpIn (Fence.wide.inRound (w.heap.size + 1)) 1 Tryz.prog (Exit.then (fun a1 w1 => Below X.heap.size X w1 ∧ ∀ w2, OnlyP (fun k => k = w.heap.size + 1) w1 w2 → (∃ r, w2.heap[w.heap.size + 1]? = some (.loop r)) → w2.heap[w.heap.size]? = some (.deferred (some [])) →
          body.wpIn (Fence.wide.inRound (w.heap.size + 1)) 1 Tryz.prog (RndQ (w.heap.size + 1) w.heap.size (fun k => k = Bs ∨ k = Bp ∨ k = Bv) (K r) Kx X w2) a1 w2) (fun _ _ _ => False))
        { tmps := (ps.zip #[.string (bU x)]).foldl (fun t (p, v) => t.setIfInBounds p v) a.tmps, defers := [] } X)
    (hdone : ∀ (X : World), K [] X → X.heap[w.heap.size]? = some (.deferred (some [])) → Q .normal { a with defers := { target := .collected w.heap.size, args := #[] } :: a.defers } X)
    (hstop : ∀ (X : World), Kx X → X.heap[w.heap.size]? = some (.deferred (some [])) → Code.ret.wpIn Fence.wide 3 Tryz.prog Q { a with defers := { target := .collected w.heap.size, args := #[] } :: a.defers } X) :
    (Code.rangeFunc g ps assign body).wpIn Fence.wide 3 Tryz.prog Q a w := by
  refine wpIn_rangeFunc fun fn hfn => ?_
  obtain ⟨rc, hrc⟩ : ∃ rc : LoopState → Option Code → Obj, rc = fun st pe => .loop { state := st, pending := pe, fn := fn, tmps := a.tmps, params := ps, assign := assign, body := body, defers := w.heap.size } := ⟨_, rfl⟩
  obtain ⟨W1, hW1⟩ : ∃ W1, (w.alloc (.deferred (some []))).alloc (rc .ready none) = W1 := ⟨_, rfl⟩
  have hz : W1.heap.size = w.heap.size + 2 := by rw [← hW1]; simp
  have hbW : Below w.heap.size w W1 := by rw [← hW1]; exact belOn (newQ _ _) (newQ _ _)
  have hL1 : W1.heap[w.heap.size + 1]? = some (rc .ready none) := by
    rw [← hW1]
    have := World.alloc_heap_new (w.alloc (.deferred (some []))) (rc .ready none)
    rwa [World.size_alloc] at this
  have hD1 : W1.heap[w.heap.size]? = some (.deferred (some [])) := by
    rw [← hW1]
    exact keepQ (newQ _ _) _ _ (World.alloc_heap_new w _)
  have hbs : Bs < w.heap.size := lt_of_cell hd.c0
  have hbp : Bp < w.heap.size := lt_of_cell hd.c1
  have hbv : Bv < w.heap.size := lt_of_cell hd.c2
  refine ⟨w.heap.size + 1, [{ target := .collected w.heap.size, args := #[] }], W1, { target := .fn (.func 179) #[.pointer (some ⟨Bp, 0, none⟩), .pointer (some ⟨Bs, 0, none⟩), .pointer (some ⟨Bv, 0, none⟩)], args := #[.func (.yield (w.heap.size + 1)) #[] #[]] }, W1, 179,
    #[.func (.yield (w.heap.size + 1)) #[] #[], .pointer (some ⟨Bp, 0, none⟩), .pointer (some ⟨Bs, 0, none⟩), .pointer (some ⟨Bv, 0, none⟩)], W1, ?_, ?_, fun _ _ => trivial, ?_, fun _ => by decide, ?_⟩
  · rw [← hW1, hrc]
    exact run_enterLoop_outer _ _ _ _ _
  · simp only [resolve, hg]
    simp [go_sem]
  · have eg : ∀ args w, (callFunc 179 args).run Tryz.prog w = .ok (.enter 179 args) w := enters_of Tryz.func179 (by kernel_rfl) rfl
    simp [invoke, go_sem, eg]
  · have key := seq_calls W1 Bs Bp Bv s h1 h2 (hd.same (hbW.block _ hbs) (hbW.block _ hbp) (hbW.block _ hbv)) hs (w.heap.size + 1)
      (fun r X => K r X ∧ w.heap.size + 2 ≤ X.heap.size ∧ X.heap[w.heap.size + 1]? = some (rc .ready none) ∧ X.heap[w.heap.size]? = some (.deferred (some [])))
      (fun X => Kx X ∧ X.heap[w.heap.size + 1]? = some (rc .done (some .ret)) ∧ X.heap[w.heap.size]? = some (.deferred (some [])))
      (fun r X h => hV r X h.1)
      (fun r X X' ⟨k1, kz, k2, k3⟩ ho => ⟨hK r X X' k1 (ho.wideQ fun k e => .inl e), Nat.le_trans kz ho.size, (ho.block _ (Array.getElem?_eq_some_iff.1 k2).1 (by omega)).trans k2, (ho.block _ (Array.getElem?_eq_some_iff.1 k3).1 (by omega)).trans k3⟩)
      ?_ ⟨h0 W1 hbW (by omega), by omega, hL1, hD1⟩
    · refine key.mono ?_
      rintro e W3 ⟨⟨v, rfl⟩, ⟨k1, kz, k2, k3⟩ | ⟨k1, k2, k3⟩⟩
      · rw [hrc] at k2
        refine ⟨none, _, run_endLoop k2 (by simp), ?_⟩
        exact hdone _ (hK [] _ _ k1 (onlyPutQ.wideQ fun k e => .inr e)) ((World.putObj_heap_other (by omega)).trans k3)
      · rw [hrc] at k2
        refine ⟨some .ret, _, run_endLoop k2 (by simp), ?_⟩
        exact hstop _ (hKx _ _ k1 onlyPutQ) ((World.putObj_heap_other (by omega)).trans k3)
    · rintro x r X ⟨k1, kz, k2, k3⟩
      have hy := run_yield (P := Tryz.prog) (args := #[.string (bU x)]) (by rw [hrc] at k2; exact k2) (by simp [hps])
      refine ⟨fn, _, assign, body, hy, roundIn_of_wpIn hfn (wpIn_mono (hround x r X k1 kz) ?_)⟩
      rintro ex a1 w1 hx
      cases ex with
      | normal =>
        obtain ⟨hb1, hbd⟩ := hx
        have l1 := keepQ hb1 _ _ k2
        rw [hrc] at l1
        refine ⟨_, run_beginRound l1 rfl, ?_⟩
        have hlt : w.heap.size + 1 < w1.heap.size := (Array.getElem?_eq_some_iff.1 l1).1
        have l2 := World.putObj_heap_same (o := .loop { ({ state := .ready, pending := none, fn := fn, tmps := a.tmps, params := ps, assign := assign, body := body, defers := w.heap.size } : Loop) with state := .busy }) hlt
        have d2 : (w1.putObj (w.heap.size + 1) (.loop { ({ state := .ready, pending := none, fn := fn, tmps := a.tmps, params := ps, assign := assign, body := body, defers := w.heap.size } : Loop) with state := .busy })).heap[w.heap.size]? = some (.deferred (some [])) := (World.putObj_heap_other (by omega)).trans (keepQ hb1 _ _ k3)
        refine wpIn_mono (hbd _ onlyPutQ ⟨_, l2⟩ d2) ?_
        rintro e2 a2 w2 hq
        cases e2 with
        | normal =>
          obtain ⟨⟨q1, q2, q3⟩, hk⟩ := hq
          have l3 := q1.trans l2
          have hz2 : w.heap.size + 1 < w2.heap.size := (Array.getElem?_eq_some_iff.1 l3).1
          refine ⟨_, _, run_endRound none l3, .inl ⟨rfl, ⟨hK r _ _ hk (onlyPutQ.wideQ fun k e => .inr e), ?_, ?_, (World.putObj_heap_other (by omega)).trans (q2.trans d2)⟩, (World.putObj_heap_other (by omega)).trans (q3 Bs (.inl rfl)), (World.putObj_heap_other (by omega)).trans (q3 Bp (.inr (.inl rfl))), (World.putObj_heap_other (by omega)).trans (q3 Bv (.inr (.inr rfl)))⟩⟩
          · exact Nat.le_trans hz2 (onlyPutQ (l := w.heap.size + 1)).size
          · rw [hrc]
            exact World.putObj_heap_same hz2
        | ret =>
          obtain ⟨⟨q1, q2⟩, hk⟩ := hq
          have l3 := q1.trans l2
          refine ⟨_, _, run_endRound (some .ret) l3, .inr ⟨rfl, hKx _ _ hk onlyPutQ, ?_, (World.putObj_heap_other (by omega)).trans (q2.trans d2)⟩⟩
          rw [hrc]
          exact World.putObj_heap_same (Array.getElem?_eq_some_iff.1 l3).1
        | exit id => exact hq.elim
        | goto t => exact hq.elim
        | panic ch => exact hq.elim
        | outgrown => exact hq.elim
      | ret => exact hx.elim
      | exit id => exact hx.elim
      | goto t => exact hx.elim
      | panic ch => exact hx.elim
      | outgrown => exact hx.elim
end Go.Proofs.YtanekbifdedmeaaGreatDoor
