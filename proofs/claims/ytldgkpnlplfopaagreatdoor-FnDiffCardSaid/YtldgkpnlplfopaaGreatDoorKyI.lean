/- The iterator over a set's keys. -/
import Derived.Test.YtldgkpnlplfopaaGreatDoorKyK
import Derived.Shelf.SlIter.Collect
import Derived.Maps.RangeWalk
import Derived.Sort.MapsRangeIn
import Derived.RangeFuncGives
import Derived.RangeFuncNested
import Derived.OwnWalkIn
namespace Go.Proofs.YtldgkpnlplfopaaGreatDoor
open Go.RowKit Go.Maps Plain
set_option linter.unusedVariables false

section
variable {F : Fence} {n : Nat} {P : Program} {ops : Array Oper} {rest : List Oper} {o : Oper} {a : Act} {w : World} {Q : Exit → Act → World → Prop}
theorem inLoad (hgd : o.guard = none) (ty : TypeId) (x : Operand) (ho : o.op = .load ty x)
    (g : Nat) (hx : a.eval x = .pointer (some ⟨g, 0, none⟩)) (t : TypeId) (cs : Array Value) (fr : Nat × Nat) (d : TypeDesc) (hg : w.heap[g]? = some (.cells cs t fr))
    (hu : P.underlying ty = some d) (hd : (match d with | .struct _ | .array _ _ => true | _ => false) = true) (hi : (P.info? ty).map (·.size) = some cs.size)
    (h : wpListIn F n P ops Q rest (a.put o.dst (.agg cs)) w) : wpListIn F n P ops Q (o :: rest) a w := by
  refine wpListIn_plain hgd fun K hK => ?_
  unfold Oper.wpIn
  refine ⟨by simp [Oper.about, ho], ?_⟩
  rw [Oper.semAt_plain F _ _ (by rw [ho]; intro c hc; cases hc)]
  unfold execOp
  simp only [ho, hx, Instr.loadAt, Instr.sureAddr, Sem.run_bind, Sem.run_pure, Result.andThen_ok, run_loadVar_row w g t ty cs fr d hg hu hd hi]
  exact hK _ _ h
theorem inStore (hgd : o.guard = none) (ty : TypeId) (x y : Operand) (ho : o.op = .store ty x y)
    (g : Nat) (cells : Array Value) (hx : a.eval x = .pointer (some ⟨g, 0, none⟩)) (hy : a.eval y = .agg cells)
    (t : TypeId) (old : Array Value) (hg : w.heap[g]? = some (.cells old t (0, 0))) (hi : (P.info? ty).map (·.size) = some cells.size)
    (hold : old.size = cells.size) (h1 : cells.all (·.oneCell') = true)
    (h : ∀ w', w'.heap[g]? = some (.cells cells t (0, 0)) → w.grownBy w' (some g) → w'.heap.size = w.heap.size → wpListIn F n P ops Q rest (a.put o.dst undef) w') : wpListIn F n P ops Q (o :: rest) a w := by
  refine wpListIn_plain hgd fun K hK => ?_
  unfold Oper.wpIn
  refine ⟨by simp [Oper.about, ho], ?_⟩
  rw [Oper.semAt_plain F _ _ (by rw [ho]; intro c hc; cases hc)]
  unfold execOp
  simp only [ho, hx, hy, Instr.storeAt, Instr.sureAddr, Sem.run_bind, Sem.run_pure, Result.andThen_ok, run_storeVar_row w g t ty old cells hg hi hold h1]
  exact hK _ _ (h _ (setRow_heap w g _ _ t _ hg) (splice_grown _) (by simp))
end

namespace Plain
/-- What has come of a set's keys: no key twice, just those that are no longer to come. -/
def CameK (D : DataW Unit) (left : Lit → Bool) (ss : List (List UInt8)) : Prop := ss.Nodup ∧ (∀ x ∈ ss, x.length = 32) ∧ ∀ x : List UInt8, x.length = 32 → (x ∈ ss ↔ (has D (keyLK x) = true ∧ left (keyLK x) = false))
theorem CameK.start (D : DataW Unit) : CameK D (has D) [] := ⟨List.nodup_nil, fun x hx => (by cases hx), fun x _ => by cases has D (keyLK x) <;> simp⟩
theorem CameK.step {D : DataW Unit} {left : Lit → Bool} {ss : List (List UInt8)} (h : CameK D left ss) {x : List UInt8} (hx : x.length = 32) {y : DataW Unit} (hlk : left (keyLK x) = true) (hat : ∀ zd, D.atKey (keyLK x) zd = y) : CameK D (fun z => left z && !z.sameKey (keyLK x)) (ss ++ [x]) := by
  have hhas : has D (keyLK x) = true := has_true_of_atKey hat
  have hnew : x ∉ ss := fun q => by have := ((h.2.2 x hx).1 q).2; rw [hlk] at this; cases this
  refine ⟨List.nodup_append.2 ⟨h.1, by simp, fun a ha b hb => by simp at hb; subst hb; exact fun e => hnew (e ▸ ha)⟩, fun y hy => ?_, fun y hy => ?_⟩
  · rcases List.mem_append.1 hy with q | q
    · exact h.2.1 y q
    · rw [List.mem_singleton] at q; rw [q]; exact hx
  · by_cases e : y = x
    · subst e
      have : (keyLK y).sameKey (keyLK y) = true := (WideAt.sameKey_iff (keyLK_ok y)).2 rfl
      simp [hhas, this]
    · have hs : (keyLK y).sameKey (keyLK x) = false := by
        rw [Bool.eq_false_iff]
        intro q
        exact e (keyLK_inj hy hx ((WideAt.sameKey_iff (keyLK_ok x)).1 q))
      rw [List.mem_append, List.mem_singleton, h.2.2 y hy]
      simp [e, hs]
theorem CameK.all {D : DataW Unit} {left : Lit → Bool} {ss : List (List UInt8)} (h : CameK D left ss) (hl : ∀ kl, left kl = false) : CameK D (fun _ => false) ss := ⟨h.1, h.2.1, fun x hx => by rw [h.2.2 x hx, hl]⟩
/-- Keys as values. -/
def valK (x : {x : List UInt8 // x.length = 32}) : Value := .agg (encK x.1).toArray
end Plain

set_option maxRecDepth 100000 in
set_option maxHeartbeats 1000000 in
theorem keysIter (n : Nat) (hn : 1 ≤ n) (l Bm b nn : Nat) (D0 : DataW Unit) (J Jx : List (List UInt8) → World → Prop)
    (hY : ∀ pre x W, J pre W → pre.length < Maps.size D0 → YieldAt Fence.wide (n - 1) Tryz.prog l #[.agg (encK x).toArray] W fun e W' => (e = .returned (.bool true) ∧ J (pre ++ [x]) W' ∧ KeepsWalks W W') ∨ (e = .returned (.bool false) ∧ Jx (pre ++ [x]) W'))
    (W : World) (hJ : AbidesFrom W.heap.size J) (hm : W.cell? ⟨Bm, 0, none⟩ = some (.map (some b))) (hown : W.ownsMap Tryz.prog 63 anyR b nn D0) (h0 : J [] W) :
    CallsIn Fence.wide n Tryz.prog 62 #[.func (.yield l) #[] #[], .pointer (some ⟨Bm, 0, none⟩)] W fun e W' => (∃ v, e = .returned v) ∧ ((∃ ss : List (List UInt8), CameK D0 (fun _ => false) ss ∧ J ss W') ∨ ∃ pre : List (List UInt8), True ∧ Jx pre W') := by
  have hro : Fence.wide.round = none := rfl
  refine callsIn_of_wp Tryz.func62 rfl trivial ?_ hro
  simp only [Tryz.ntmps62, List.size_toArray, List.length_cons, List.length_nil, Nat.reduceAdd, Nat.reduceSub, Array.replicate_succ, Array.replicate_zero, List.push_toArray, List.append_toArray, List.nil_append, List.cons_append]
  gi_wp2_with (first
    | (gi_at_range; refine wpListIn_range_own _ rfl _ 44 rfl 63 71 keyedK Tryz.underlying44 _ b nn _ rfl hown ?_; intro w0 hrg0 hg0 hs0)
    | gi_in)
  have hinf : ∀ x : List UInt8, (Tryz.prog.info? 63).map (·.size) = some (encK x).toArray.size := fun x => by
    rw [show (encK x).toArray.size = 32 from by simp [encK_len]]
    exact infoK
  have hs32 : ∀ x : List UInt8, (32 : Nat) = (encK x).toArray.size := fun x => by simp [encK_len]
  have hone : ∀ x : List UInt8, (encK x).toArray.all (·.oneCell') = true := fun x => by
    simp [encK]
    intro i hi
    rfl
  go_frame
  gi_loopw [3] (fun _ wr => ∃ (left : Lit → Bool) (cnt : Nat) (ss : List (List UInt8)), wr.ranges Tryz.prog 63 anyR b W.heap.size nn D0 left cnt ∧ ss.length + cnt ≤ Maps.size D0 ∧ CameK D0 left ss ∧ J ss wr)
    (fun _ wr => wr.rangeLeft b W.heap.size)
  case atStart =>
    exact ⟨_, _, [], hrg0, by simp, CameK.start D0, hJ [] W w0 none h0 hg0 (fun r e => by cases e)⟩
  case round =>
    obtain ⟨left, cnt, ss, hrg, hcs, hC, hJs⟩ := hrel
    gi_wp2_with (first
      | (gi_at_next; refine wpListIn_next_ranges _ rfl _ rfl 63 keyedK anyR valK id (fun key kl hk => by obtain ⟨x, e, hx⟩ := keyK_inv hk; exact ⟨⟨x, hx⟩, e⟩) (fun v _ _ => ⟨v, rfl⟩) b W.heap.size nn _ _ _ rfl hrg ?_ ?_)
      | gi_in)
    · intro hc0 hl0
      gi_wp2
      go_end0
      exact ⟨⟨_, rfl⟩, .inl ⟨ss, hC.all hl0, hJs⟩⟩
    · intro x hx c kl yd yp w2 cnt2 hkey hlk hv hat hrg2 hlt hg2 hs2 hen
      obtain rfl : keyLK x = kl := Option.some.inj ((keyK_of x).symm.trans hkey)
      have hJ2 : J ss w2 := hJ ss wr w2 (some W.heap.size) hJs hg2 (fun r e => by cases e; exact ⟨Nat.le_refl _, hrg.iter_walk⟩)
      simp only [valK] at hen
      have hinx := hinf x
      have h32x := hs32 x
      have honx := hone x
      clear hs2 hinf hs32 hone hkey hv
      gi_wp2_with (first
        | (refine inStore rfl 63 (.tmp 3) (.tmp 9) rfl w2.heap.size (encK x).toArray rfl rfl 63 _ (heap_alloc_new w2 _) hinx h32x honx ?_; intro w3 hrow3 hgr3 hsz3)
        | (refine inLoad rfl 63 (.tmp 3) rfl w2.heap.size rfl 63 (encK x).toArray (0, 0) _ hrow3 Tryz.underlying63 rfl hinx ?_)
        | gi_in)
      have hg23 : w2.grownBy w3 none := ⟨hgr3.os, hgr3.tape, hgr3.output, Nat.le_trans (by simp) hgr3.size, fun k hk _ => (hgr3.block k (by simp; omega) (fun e => by have h9 : k = w2.heap.size := Option.some.inj e; omega)).trans (Below.heap_alloc _ _ k hk)⟩
      have hk23 : KeepsWalks w2 w3 := ⟨hg23.size, fun k o hk _ => (hg23.block k (Array.getElem?_eq_some_iff.1 hk).1 (fun e => by cases e)).trans hk⟩
      have hJ3 : J ss w3 := hJ ss w2 w3 none hJ2 hg23 (fun r e => by cases e)
      obtain ⟨fn, tmps, assign, body, hy, hR⟩ := hY ss x w3 hJ3 (by omega)
      have hrg3 := hrg2.of_walks hk23
      clear hgr3 hsz3 hrow3 hen
      rw [hy]
      gi_wp2
      refine hR.mono ?_
      rintro e W3 (⟨rfl, hJ4, hk3⟩ | ⟨rfl, hJ4⟩)
      case inr =>
        gi_wp2
        refine bodyPost_ret (results_none rfl _ _ _) rfl ?_
        exact ⟨⟨_, rfl⟩, .inr ⟨_, trivial, hJ4⟩⟩
      gi_wp2
      have hrg4 := hrg3.of_walks hk3
      go_roundw
      case rel => exact ⟨_, cnt2, ss ++ [x], hrg4, by simp; omega, hC.step hx hlk hat, hJ4⟩
      case measure => rw [hrg4.left_eq, hrg.left_eq]; exact hlt
theorem keys_stops (n : Nat) (hn : 1 ≤ n) (Bm b nn : Nat) (D0 : DataW Unit) (w : World) (hBm : Bm < w.heap.size) (hm : w.cell? ⟨Bm, 0, none⟩ = some (.map (some b))) (hown : w.ownsMap Tryz.prog 63 anyR b nn D0) :
    SeqStopsK Fence.wide n Tryz.prog 62 #[.pointer (some ⟨Bm, 0, none⟩)] (fun x : List UInt8 => #[.agg (encK x).toArray]) KeepsWalks (CameK D0 (fun _ => false)) (fun _ => True) (Maps.size D0) w := fun l J Jx W hW hJ _ hY h0 => by
  have hown' : W.ownsMap Tryz.prog 63 anyR b nn D0 := by
    have hbl := hown.lt
    obtain ⟨es, clock, hb, Ft, hs, hD⟩ := hown
    exact ⟨es, clock, (hW.block b hbl).trans hb, Ft, hs, hD⟩
  exact keysIter n hn l Bm b nn D0 J Jx hY W hJ ((hW.cell (p := ⟨Bm, 0, none⟩) hBm).trans hm) hown' h0
end Go.Proofs.YtldgkpnlplfopaaGreatDoor
