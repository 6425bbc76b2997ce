/- Texts of one kind, put together. -/
import Derived.Test.YtliklijcdcfomaaGreatMem
import Derived.Deep.QuietTactic
import Derived.BigQuiet
import Derived.Test.YtliklijcdcfomaaGreatRzA
import Derived.Test.YtliklijcdcfomaaGreatCzA
import Derived.Test.YtliklijcdcfomaaGreatOzA
import Derived.Test.YtliklijcdcfomaaGreatEzA
import Derived.Test.YtliklijcdcfomaaGreatRzD

/- Regions that draw their order and whose callees may make new blocks: one walk in the order of the text. -/
namespace Go.Proofs.YtliklijcdcfomaaGreat
open Go.RowKit Plain
set_option linter.unusedVariables false

/-- A world that has grown out of W: new blocks alone. -/
structure Plain.Grown (W : World) where
  w : World
  ok : Below W.heap.size W w
theorem Plain.region_grown {id : Nat} {Q : Exit → Act → World → Prop} {a : Act} {w : World} {l : List Oper} (hm : Tryz.prog.follows .mixedOrders = true) (hB : Region.lexB .any l.toArray = true) (W : World) (hW : Below W.heap.size W w)
    (h : wpQuiet Tryz.prog l.toArray (fun w' => ∃ x : Grown W, w' = x.w) (fun a' => ∀ w', (∃ x : Grown W, w' = x.w) → Q .normal a' w') l a) : (Code.region id l.toArray true).wp Tryz.prog Q a w :=
  wp_region_quiet (C := fun w' => ∃ x : Grown W, w' = x.w) hm hB ⟨⟨{ w with drawn := w.drawn + 1 }, ⟨hW.os, hW.tape, hW.output, hW.size, hW.block⟩⟩, rfl⟩ h
theorem Plain.Grown.cell {W : World} {p : Addr} {v : Value} (h : W.cell? p = some v) (hl : p.block < W.heap.size) (x : Grown W) : x.w.cell? p = some v := (x.ok.cell (p := p) hl).trans h
/-- A call that leaves new blocks alone, as such a walk asks it. -/
theorem Plain.calls_grown {f : FuncId} {args : Array Value} {W : World} {v : Value} (x : Grown W) (h : Calls Tryz.prog f args x.w fun e w' => e = .returned v ∧ Below x.w.heap.size x.w w') :
    Calls Tryz.prog f args x.w fun e w'' => e = .returned v ∧ ∃ y : Grown W, w'' = y.w :=
  h.mono fun e w' ⟨h1, h2⟩ => ⟨h1, ⟨w', x.ok.trans (h2.mono x.ok.size)⟩, rfl⟩
end Go.Proofs.YtliklijcdcfomaaGreat


/- A region that draws its order and writes once: one walk in the order of the text serves every order, where nothing in it reads what it writes. Two classes of worlds: ahead of the write and behind it. -/
namespace Go.Proofs.YtliklijcdcfomaaGreat
open Go.RowKit Plain
set_option linter.unusedVariables false

namespace Plain.Reg2
section
variable {P : Program} {ops : Array Oper} {md : Region.Mode} {C0 C1 : World → Prop} {s : Nat}
/-- One value in all worlds of both classes, and the class is kept. -/
def Both (P : Program) (C0 C1 : World → Prop) (o : Oper) (a : Act) (v : Value) : Prop := (∀ w, C0 w → o.quietAt P a C0 w v) ∧ ∀ w, C1 w → o.quietAt P a C1 w v
/-- The write: out of the first class into the second. -/
def Over (P : Program) (C0 C1 : World → Prop) (o : Oper) (a : Act) : Prop := ∀ w, C0 w → ∃ w', (execOp a.eval o).run P w = .ok .skip w' ∧ C1 w'
/-- What an operation leaves in its slot, whenever it comes up. -/
def Gives (P : Program) (ops : Array Oper) (C0 C1 : World → Prop) (s i : Nat) (o : Oper) (v : Value) (a : Act) : Prop :=
  (Region.wanted o (yielded ops a.tmps) = true ∧ ((i = s ∧ Over P C0 C1 o a ∧ v = undef) ∨ (i ≠ s ∧ Both P C0 C1 o a v))) ∨ (Region.wanted o (yielded ops a.tmps) = false ∧ i ≠ s ∧ v = undef)
theorem Gives.same {i : Nat} {o : Oper} {v : Value} {a a' : Act} (h : Gives P ops C0 C1 s i o v a) (he : execOp a'.eval o = execOp a.eval o) (hw : Region.wanted o (yielded ops a'.tmps) = Region.wanted o (yielded ops a.tmps)) : Gives P ops C0 C1 s i o v a' := by
  unfold Gives Both Over Oper.quietAt at *
  rw [he, hw]
  exact h
/-- Operation number i comes up. -/
def At2 (P : Program) (ops : Array Oper) (C0 C1 : World → Prop) (s i : Nat) (K : Act → Prop) (a : Act) : Prop := ∃ o, ops[i]? = some o ∧ ∃ v, Gives P ops C0 C1 s i o v a ∧ K (a.put o.dst v)
/-- Whatever order is picked from here on. -/
def Any2 (P : Program) (md : Region.Mode) (ops : Array Oper) (C0 C1 : World → Prop) (s : Nat) (Q : Act → Prop) : Nat → Array Bool → Act → Prop
  | 0, listed, a => Region.ready md ops listed = [] ∧ listed.getD s false = true ∧ Q a
  | n + 1, listed, a => Region.ready md ops listed ≠ [] ∧ ∀ i ∈ Region.ready md ops listed, At2 P ops C0 C1 s i (Any2 P md ops C0 C1 s Q n (listed.setIfInBounds i true)) a
/-- The class that a world is of: it hangs on whether the write has come up. -/
def Cls (C0 C1 : World → Prop) (b : Bool) (w : World) : Prop := if b = true then C1 w else C0 w
theorem getD_ready {listed : Array Bool} {i : Nat} (h : i ∈ Region.ready md ops listed) : listed.getD i true = false := (mem_ready.1 h).1
theorem getD_tf {listed : Array Bool} {i : Nat} (h : listed.getD i true = false) : listed.getD i false = false ∧ i < listed.size := by
  rcases Nat.lt_or_ge i listed.size with h' | h'
  · simp [h'] at h ⊢; exact h
  · simp [Array.getElem?_eq_none h'] at h
theorem any_of {Q : Act → Prop} {Q' : Exit → Act → World → Prop} (hQ : ∀ a w, C1 w → Q a → Q' .normal a w) : ∀ (n : Nat) (listed : Array Bool) (a : Act) (w : World), Cls C0 C1 (listed.getD s false) w → Any2 P md ops C0 C1 s Q n listed a → wpAny P md ops Q' n listed a w
  | 0, listed, a, w, hw, h => by
    refine ⟨h.1, hQ a w ?_ h.2.2⟩
    unfold Cls at hw
    rw [h.2.1] at hw
    exact hw
  | n + 1, listed, a, w, hw, h => by
    refine ⟨fun h0 => absurd h0 h.1, fun i hi => ?_⟩
    obtain ⟨o, ho, v, hg, hk⟩ := h.2 i hi
    obtain ⟨hl, hsz⟩ := getD_tf (getD_ready hi)
    have key : ∀ w', Cls C0 C1 ((listed.setIfInBounds i true).getD s false) w' → wpAny P md ops Q' n (listed.setIfInBounds i true) (a.put o.dst v) w' := fun w' hw' => any_of hQ n _ _ w' hw' hk
    unfold wpOp
    simp only [ho]
    rcases hg with ⟨hwa, ⟨rfl, hov, rfl⟩ | ⟨hne, hq0, hq1⟩⟩ | ⟨hwa, hne, rfl⟩
    · rw [if_pos hwa]
      left
      unfold Cls at hw
      rw [hl] at hw
      obtain ⟨w', hr, hw'⟩ := hov w (by simpa using hw)
      unfold Oper.wp
      rw [hr]
      show wpAny P md ops Q' n _ _ w'
      refine key w' ?_
      unfold Cls
      simp [hsz, hw']
    · rw [if_pos hwa]
      left
      have hcl : (listed.setIfInBounds i true).getD s false = listed.getD s false := getD_set_ne false hne
      rw [hcl] at key
      unfold Cls at key hw
      cases hb : listed.getD s false with
      | true =>
        rw [hb] at key hw
        exact Oper.wp_of_quiet (C := C1) (K := fun a' => a' = a.put o.dst v) (by simpa using hw) (fun a' w' hw' ha => by rw [ha]; exact key w' (by simpa using hw')) ⟨v, hq1, rfl⟩
      | false =>
        rw [hb] at key hw
        exact Oper.wp_of_quiet (C := C0) (K := fun a' => a' = a.put o.dst v) (by simpa using hw) (fun a' w' hw' ha => by rw [ha]; exact key w' (by simpa using hw')) ⟨v, hq0, rfl⟩
    · rw [if_neg (by rw [hwa]; simp)]
      refine key w ?_
      rw [getD_set_ne false hne]
      exact hw
/-- Whether a value is in its slot already makes no difference to an operation that is apart. -/
theorem At2.put {i j : Nat} {oi oj : Oper} {v : Value} (hj : ops[j]? = some oj) (hap : oi.apart ops oj = true) (hsi : ∀ cs b, oi.op ≠ .select cs b) (hsj : ∀ cs b, oj.op ≠ .select cs b) {K : Act → Prop} {a : Act}
    (hy : Gives P ops C0 C1 s i oi v a) (h : At2 P ops C0 C1 s j K (a.put oi.dst v)) : At2 P ops C0 C1 s j (fun a' => Gives P ops C0 C1 s i oi v a' ∧ K (a'.put oi.dst v)) a := by
  obtain ⟨h1, h2, h3⟩ := Oper.apart_spec hap
  obtain ⟨o', ho', u, hg, hk⟩ := h
  obtain rfl : oj = o' := Option.some.inj (hj.symm.trans ho')
  refine ⟨oj, hj, u, hg.same (execOp_put oj hsj a oi.dst v h1).symm (wanted_put oj a oi.dst v h1).symm, hy.same (execOp_put oi hsi a oj.dst u h3) (wanted_put oi a oj.dst u h3), ?_⟩
  rw [← Act.put_comm a v u h2]
  exact hk
theorem At2.mono {i : Nat} {K K' : Act → Prop} {a : Act} (h : At2 P ops C0 C1 s i K a) (hk : ∀ a, K a → K' a) : At2 P ops C0 C1 s i K' a := by
  obtain ⟨o, ho, v, hg, h1⟩ := h
  exact ⟨o, ho, v, hg, hk _ h1⟩
/-- An operation that may come up now may be taken first. -/
theorem first2 {Q : Act → Prop} {i : Nat} {oi : Oper} {v : Value} (hi : ops[i]? = some oi) (hsel : ∀ (j : Nat) (o : Oper) cs b, ops[j]? = some o → o.op ≠ .select cs b) :
    ∀ (n : Nat) (listed : Array Bool) (a : Act), (∀ j oj, ops[j]? = some oj → j ≠ i → listed.getD j true = false → (∀ e ∈ oj.after, Region.binds md e = true → e.on ≠ i) → oi.apart ops oj = true) →
      i ∈ Region.ready md ops listed → Gives P ops C0 C1 s i oi v a → Any2 P md ops C0 C1 s Q n (listed.setIfInBounds i true) (a.put oi.dst v) → Any2 P md ops C0 C1 s Q (n + 1) listed a := by
  intro n
  induction n with
  | zero =>
    intro listed a _ hr hy H
    refine ⟨List.ne_nil_of_mem hr, fun j hj => ?_⟩
    rcases Nat.decEq j i with hne | rfl
    · have hm := ready_mono hj hne
      rw [H.1] at hm
      cases hm
    · exact ⟨oi, hi, v, hy, H⟩
  | succ n ih =>
    intro listed a hf hr hy H
    refine ⟨List.ne_nil_of_mem hr, fun j hj => ?_⟩
    rcases Nat.decEq j i with hne | rfl
    · obtain ⟨hun, oj, hoj, hall⟩ := mem_ready.1 hj
      have hno : ∀ e ∈ oj.after, Region.binds md e = true → e.on ≠ i := by
        intro e he hb hon
        have h1 := hall e he hb
        rw [hon, (getD_tf (getD_ready hr)).1] at h1
        cases h1
      have hp := At2.put hoj (hf j oj hoj hne hun hno) (fun cs b => hsel i oi cs b hi) (fun cs b => hsel j oj cs b hoj) hy (H.2 j (ready_mono hj hne))
      refine hp.mono fun a' ha' => ih (listed.setIfInBounds j true) a' (fun k ok hk hki hu hn => hf k ok hk hki ?_ hn) (ready_mono hr (Ne.symm hne)) ha'.1 ?_
      · rcases Nat.decEq j k with hjk | rfl
        · rw [getD_set_ne true hjk] at hu; exact hu
        · exact hun
      · rw [Array.setIfInBounds_comm _ _ hne]
        exact ha'.2
    · exact ⟨oi, hi, v, hy, H⟩
/-- The walk in the order of the text. -/
def Lex2 (P : Program) (ops : Array Oper) (C0 C1 : World → Prop) (s : Nat) (Q : Act → Prop) : Nat → List Oper → Act → Prop
  | _, [], a => Q a
  | k, o :: l, a => ∃ v, Gives P ops C0 C1 s k o v a ∧ Lex2 P ops C0 C1 s Q (k + 1) l (a.put o.dst v)
theorem any_lex {Q : Act → Prop} (hs : Region.noSelect ops = true) : ∀ (l : List Oper) (k : Nat) (listed : Array Bool) (a : Act), (∀ j, l[j]? = ops[k + j]?) → (listed.getD s false = true ∨ (k ≤ s ∧ s < k + l.length)) → listed.size = ops.size →
    Region.lexFrom md ops l.length k listed = true → Lex2 P ops C0 C1 s Q k l a → Any2 P md ops C0 C1 s Q l.length listed a
  | [], k, listed, a, _, hl, _, hB, h => ⟨by simpa [Region.lexFrom] using hB, by rcases hl with hl | hl; exact hl; (simp at hl; omega), h⟩
  | o :: l, k, listed, a, hl, hsl, hsz, hB, h => by
    have h0 : ops[k]? = some o := by simpa using (hl 0).symm
    simp only [List.length_cons, Region.lexFrom, Bool.and_eq_true] at hB
    obtain ⟨⟨hr, hf⟩, hB'⟩ := hB
    obtain ⟨v, hg, hk⟩ := h
    have hr' : k ∈ Region.ready md ops listed := by simpa using hr
    refine first2 h0 (Region.noSelect_spec hs) l.length listed a (Region.free_spec h0 hf) hr' hg (any_lex hs l (k + 1) _ _ (fun j => ?_) ?_ (by simpa using hsz) hB' hk)
    · have := hl (j + 1)
      simpa [Nat.add_assoc, Nat.add_comm 1 j] using this
    · rcases hsl with h1 | ⟨h1, h2⟩
      · rcases Nat.decEq k s with hne | rfl
        · left; rw [getD_set_ne false hne]; exact h1
        · left; simp [(getD_tf (getD_ready hr')).2]
      · rcases Nat.decEq k s with hne | rfl
        · right; simp only [List.length_cons] at h2; omega
        · left; simp [(getD_tf (getD_ready hr')).2]
end
/-- ONE WALK FOR EVERY ORDER, with one write in it. -/
theorem region_two {P : Program} {id : Nat} {Q : Exit → Act → World → Prop} {a : Act} {w : World} {l : List Oper} (C0 C1 : World → Prop) (s : Nat) (hm : P.follows .mixedOrders = true) (hB : Region.lexB .any l.toArray = true) (hs : s < l.length) (hC : C0 { w with drawn := w.drawn + 1 })
    (h : Lex2 P l.toArray C0 C1 s (fun a' => ∀ w', C1 w' → Q .normal a' w') 0 l a) : (Code.region id l.toArray true).wp P Q a w := by
  simp only [Region.lexB, Bool.and_eq_true] at hB
  refine wp_region_any hm (any_of (C0 := C0) (C1 := C1) (s := s) (Q := fun a' => ∀ w', C1 w' → Q .normal a' w') (fun _ w' hw' h => h w' hw') _ _ _ _ ?_ ?_)
  · unfold Cls
    rw [if_neg (by simp [hs])]
    exact hC
  · have := any_lex (P := P) (C0 := C0) (C1 := C1) (s := s) (md := .any) hB.1 l 0 (Array.replicate l.toArray.size false) a (by simp) (.inr ⟨Nat.zero_le _, by simpa using hs⟩) (by simp) (by simpa using hB.2) h
    simpa using this
section
variable {P : Program} {ops : Array Oper} {C0 C1 : World → Prop} {s : Nat}
/-- Each of these operations has a slot of its own. -/
def OwnSlots (n : Nat) : List Oper → Bool
  | [] => true
  | o :: l => (match o.dst with | some d => decide (d < n) && l.all (fun o' => o'.dst != some d) | none => false) && OwnSlots n l
theorem put_off {a : Act} {d : Nat} {x : Option Tmp} {v : Value} (h : (x != some d) = true) : (a.put x v).tmps[d]? = a.tmps[d]? := by
  cases x with
  | none => rfl
  | some e =>
    have hne : e ≠ d := fun q => by subst q; simp at h
    show (a.tmps.setIfInBounds e v)[d]? = _
    simp [hne]
theorem put_size {a : Act} {x : Option Tmp} {v : Value} : (a.put x v).tmps.size = a.tmps.size := by
  cases x with
  | none => rfl
  | some e => show (a.tmps.setIfInBounds e v).size = _; simp
theorem quiet_off {C : World → Prop} {F : Act} {d : Nat} : ∀ (l : List Oper) (a : Act), wpQuiet P ops C (fun a' => a' = F) l a → (l.all fun o' => o'.dst != some d) = true → F.tmps[d]? = a.tmps[d]?
  | [], a, h, _ => by
    have h' : a = F := h
    rw [h']
  | o :: l, a, h, hd => by
    rw [List.all_cons, Bool.and_eq_true] at hd
    unfold wpQuiet at h
    split at h
    · obtain ⟨v, _, h⟩ := h
      rw [quiet_off l _ h hd.2, put_off hd.1]
    · rw [quiet_off l _ h hd.2, put_off hd.1]
/-- Two walks, one in each class, that come to one end. -/
theorem lex_of {Q : Act → Prop} {F : Act} {rest : List Oper} : ∀ (l : List Oper) (k : Nat) (a : Act), OwnSlots a.tmps.size l = true → (∀ j, j < l.length → k + j ≠ s) → wpQuiet P ops C0 (fun a' => a' = F) l a → wpQuiet P ops C1 (fun a' => a' = F) l a → Lex2 P ops C0 C1 s Q (k + l.length) rest F → Lex2 P ops C0 C1 s Q k (l ++ rest) a
  | [], k, a, _, _, h0, _, h => by
    have h' : a = F := h0
    rw [h']
    exact h
  | o :: l, k, a, hO, hk, h0, h1, h => by
    have hks : k ≠ s := by have := hk 0 (by simp); simpa using this
    have hk' : ∀ j, j < l.length → (k + 1) + j ≠ s := fun j hj => by have := hk (j + 1) (by simp; omega); omega
    have hr : Lex2 P ops C0 C1 s Q ((k + 1) + l.length) rest F := by
      have e : k + (o :: l).length = (k + 1) + l.length := by rw [List.length_cons]; omega
      rw [e] at h; exact h
    unfold OwnSlots at hO
    rw [Bool.and_eq_true] at hO
    cases hd : o.dst with
    | none => rw [hd] at hO; simp at hO
    | some d =>
      rw [hd] at hO
      simp only [Bool.and_eq_true, decide_eq_true_eq] at hO
      unfold wpQuiet at h0 h1
      by_cases hw : Region.wanted o (yielded ops a.tmps) = true
      · rw [if_pos hw] at h0 h1
        obtain ⟨v, q0, h0⟩ := h0
        obtain ⟨u, q1, h1⟩ := h1
        have e0 := quiet_off (d := d) l _ h0 hO.1.2
        have e1 := quiet_off (d := d) l _ h1 hO.1.2
        rw [hd] at e0 e1
        have huv : u = v := by
          have e2 := e1.symm.trans e0
          have g : ∀ x : Value, (a.put (some d) x).tmps[d]? = some x := fun x => by
            show (a.tmps.setIfInBounds d x)[d]? = _
            simp [hO.1.1]
          rw [g, g] at e2
          exact Option.some.inj e2
        subst huv
        exact ⟨u, .inl ⟨hw, .inr ⟨hks, q0, q1⟩⟩, lex_of l (k + 1) _ (by rw [put_size]; exact hO.2) hk' h0 h1 hr⟩
      · rw [if_neg hw] at h0 h1
        exact ⟨undef, .inr ⟨by simpa using hw, hks, rfl⟩, lex_of l (k + 1) _ (by rw [put_size]; exact hO.2) hk' h0 h1 hr⟩
/-- A region that draws its order, with one write, number s: a walk of what stands ahead of the write and one of what stands behind it, each in both classes. -/
theorem region_write {id : Nat} {Q : Exit → Act → World → Prop} {a : Act} {w : World} {l : List Oper} (C0 C1 : World → Prop) (s : Nat) (o : Oper) (F G : Act) (hm : P.follows .mixedOrders = true) (hB : Region.lexB .any l.toArray = true) (hs : l[s]? = some o) (hn : o.dst = none)
    (h1 : OwnSlots a.tmps.size (l.take s) = true) (h2 : OwnSlots F.tmps.size (l.drop (s + 1)) = true) (hC : C0 { w with drawn := w.drawn + 1 })
    (a0 : wpQuiet P l.toArray C0 (fun a' => a' = F) (l.take s) a) (a1 : wpQuiet P l.toArray C1 (fun a' => a' = F) (l.take s) a) (ho : Region.wanted o (yielded l.toArray F.tmps) = true) (hov : Over P C0 C1 o F)
    (b0 : wpQuiet P l.toArray C0 (fun a' => a' = G) (l.drop (s + 1)) F) (b1 : wpQuiet P l.toArray C1 (fun a' => a' = G) (l.drop (s + 1)) F) (hQ : ∀ w', C1 w' → Q .normal G w') : (Code.region id l.toArray true).wp P Q a w := by
  have hsl : s < l.length := by
    rcases Nat.lt_or_ge s l.length with h | h
    · exact h
    · rw [List.getElem?_eq_none h] at hs; cases hs
  have hlen : (l.take s).length = s := by rw [List.length_take]; omega
  have hl : l = l.take s ++ (o :: (l.drop (s + 1) ++ [])) := by
    rw [List.append_nil]
    have e : l.drop s = o :: l.drop (s + 1) := by
      rw [List.drop_eq_getElem_cons hsl]
      rw [List.getElem?_eq_getElem hsl] at hs
      rw [Option.some.inj hs]
    rw [← e, List.take_append_drop]
  refine region_two C0 C1 s hm hB hsl hC ?_
  have key : Lex2 P l.toArray C0 C1 s (fun a' => ∀ w', C1 w' → Q .normal a' w') 0 (l.take s ++ (o :: (l.drop (s + 1) ++ []))) a := by
    refine lex_of (F := F) (l.take s) 0 a h1 (fun j hj => by rw [hlen] at hj; omega) a0 a1 ?_
    rw [hlen, Nat.zero_add]
    refine ⟨undef, .inl ⟨ho, .inl ⟨rfl, hov, rfl⟩⟩, ?_⟩
    rw [hn]
    exact lex_of (F := G) (l.drop (s + 1)) (s + 1) F h2 (fun j _ => by omega) b0 b1 hQ
  rw [← hl] at key
  exact key
/-- Where a walk comes to. -/
theorem quiet_end {C : World → Prop} {R : Act → Prop} : ∀ (l : List Oper) (a : Act), wpQuiet P ops C R l a → ∃ F : Act, F.tmps.size = a.tmps.size ∧ wpQuiet P ops C (fun a' => a' = F) l a ∧ R F
  | [], a, h => ⟨a, rfl, rfl, h⟩
  | o :: l, a, h => by
    unfold wpQuiet at h
    by_cases hw : Region.wanted o (yielded ops a.tmps) = true
    · rw [if_pos hw] at h
      obtain ⟨v, q, h⟩ := h
      obtain ⟨F, hz, h1, h2⟩ := quiet_end l _ h
      refine ⟨F, hz.trans put_size, ?_, h2⟩
      unfold wpQuiet
      rw [if_pos hw]
      exact ⟨v, q, h1⟩
    · rw [if_neg hw] at h
      obtain ⟨F, hz, h1, h2⟩ := quiet_end l _ h
      refine ⟨F, hz.trans put_size, ?_, h2⟩
      unfold wpQuiet
      rw [if_neg hw]
      exact h1
/-- The same, the ends of the walks not named ahead. -/
theorem region_wrote {id : Nat} {Q : Exit → Act → World → Prop} {a : Act} {w : World} {l : List Oper} (C0 C1 : World → Prop) (s : Nat) (o : Oper) (hm : P.follows .mixedOrders = true) (hB : Region.lexB .any l.toArray = true) (hs : l[s]? = some o) (hn : o.dst = none)
    (h1 : OwnSlots a.tmps.size (l.take s) = true) (h2 : OwnSlots a.tmps.size (l.drop (s + 1)) = true) (hC : C0 { w with drawn := w.drawn + 1 })
    (h : wpQuiet P l.toArray C0 (fun F => wpQuiet P l.toArray C1 (fun a' => a' = F) (l.take s) a ∧ Region.wanted o (yielded l.toArray F.tmps) = true ∧ Over P C0 C1 o F ∧ wpQuiet P l.toArray C0 (fun G => wpQuiet P l.toArray C1 (fun a' => a' = G) (l.drop (s + 1)) F ∧ ∀ w', C1 w' → Q .normal G w') (l.drop (s + 1)) F) (l.take s) a) : (Code.region id l.toArray true).wp P Q a w := by
  obtain ⟨F, hz, a0, a1, ho, hov, hb⟩ := quiet_end _ _ h
  obtain ⟨G, _, b0, b1, hQ⟩ := quiet_end _ _ hb
  exact region_write C0 C1 s o F G hm hB hs hn h1 (by rw [hz]; exact h2) hC a0 a1 ho hov b0 b1 hQ
end
end Plain.Reg2
end Go.Proofs.YtliklijcdcfomaaGreat


/- The entry of a frame, by the specification. -/
namespace Go.Proofs.YtliklijcdcfomaaGreat
open Go.RowKit Plain
set_option linter.unusedVariables false

namespace Plain
theorem tkV_open (r : ByteArray) : ∃ (t : Int) (s : ByteArray) (g : Bool), takeV r = .tuple #[.int .i64 t, .string s, .bool g] ∧ s.size ≤ r.size ∧ (0 ≤ t ∧ t ≤ 1000000000000) ∧ (g = false → tkN r 0 = none) ∧ (g = true → ∃ v l : Nat, tkN r 0 = some (v, l) ∧ t = v ∧ s = r.extract l r.size ∧ l ≤ r.size) := by
  unfold takeV
  cases h : tkN r 0 with
  | none => exact ⟨0, ByteArray.empty, false, rfl, Nat.zero_le _, by omega, fun _ => rfl, fun e => by cases e⟩
  | some x =>
    obtain ⟨v, l⟩ := x
    have := tkN_le h
    exact ⟨v, _, true, rfl, by rw [ByteArray.size_extract]; omega, by omega, (fun e => by cases e), fun _ => ⟨v, l, rfl, rfl, rfl, by omega⟩⟩
theorem txV_open (r : ByteArray) : ∃ (t s : ByteArray) (g : Bool), textV r = .tuple #[.string t, .string s, .bool g] ∧ s.size ≤ r.size ∧ t.size ≤ 20000 ∧ (g = false → tkT r 0 = none) ∧ (g = true → ∃ v l : Nat, tkT r 0 = some (l, v) ∧ t = r.extract l (l + v) ∧ s = r.extract (l + v) r.size ∧ l + v ≤ r.size) := by
  unfold textV
  cases h : tkT r 0 with
  | none => exact ⟨ByteArray.empty, ByteArray.empty, false, rfl, Nat.zero_le _, Nat.zero_le _, fun _ => rfl, fun e => by cases e⟩
  | some x =>
    obtain ⟨l, v⟩ := x
    have := tkT_le h
    exact ⟨_, _, true, rfl, by rw [ByteArray.size_extract]; omega, by rw [ByteArray.size_extract]; omega, (fun e => by cases e), fun _ => ⟨v, l, rfl, rfl, rfl, by omega⟩⟩
theorem ext2 (b : ByteArray) (p l : Nat) (hp : p ≤ b.size) : (b.extract p b.size).extract l (b.extract p b.size).size = b.extract (p + l) b.size := by
  rw [ByteArray.extract_extract, ByteArray.size_extract]
  congr 1
  omega
/-- The entry of a frame, by its parts as they are read. -/
theorem five_of {k : Int} {b r1 r2 r3 t3 : ByteArray} {t1 t2 : Int} {g1 g2 g3 : Bool}
    (a1 : g1 = false → tkN b 0 = none) (a2 : g1 = true → ∃ v l : Nat, tkN b 0 = some (v, l) ∧ t1 = v ∧ r1 = b.extract l b.size ∧ l ≤ b.size)
    (b1 : g2 = false → tkN r1 0 = none) (b2 : g2 = true → ∃ v l : Nat, tkN r1 0 = some (v, l) ∧ t2 = v ∧ r2 = r1.extract l r1.size ∧ l ≤ r1.size)
    (c1 : g3 = false → tkT r2 0 = none) (c2 : g3 = true → ∃ v l : Nat, tkT r2 0 = some (l, v) ∧ t3 = r2.extract l (l + v) ∧ r3 = r2.extract (l + v) r2.size ∧ l + v ≤ r2.size) :
    fiveE (k, b) = if k = 2 ∧ g1 = true ∧ g2 = true ∧ g3 = true ∧ r3.size = 0 ∧ entB t1 t2 t3 = true then some ⟨t1, t2, t3⟩ else none := by
  unfold fiveE
  cases g1 with
  | false =>
    rw [if_neg (by simp)]
    simp only [stp, a1 rfl, Option.map_none]
  | true =>
    obtain ⟨v1, l1, e1, rfl, rfl, h1⟩ := a2 rfl
    have s1 : stp b 0 = some ((v1 : Int), l1) := by unfold stp; rw [e1]; simp
    simp only [s1]
    cases g2 with
    | false =>
      have := b1 rfl
      rw [tkN_shift b l1 h1] at this
      rw [if_neg (by simp)]
      simp only [stp, this, Option.map_none]
    | true =>
      obtain ⟨v2, l2, e2, rfl, rfl, h2⟩ := b2 rfl
      rw [tkN_shift b l1 h1] at e2
      have hz : (b.extract l1 b.size).size = b.size - l1 := by rw [ByteArray.size_extract]; omega
      have s2 : stp b l1 = some ((v2 : Int), l1 + l2) := by unfold stp; rw [e2]; rfl
      simp only [s2]
      rw [ext2 b l1 l2 h1] at c1 c2
      cases g3 with
      | false =>
        have := c1 rfl
        rw [tkT_shift b (l1 + l2) (by omega)] at this
        rw [if_neg (by simp)]
        simp only [txp, this, Option.map_none]
      | true =>
        obtain ⟨v3, l3, e3, rfl, rfl, h3⟩ := c2 rfl
        rw [tkT_shift b (l1 + l2) (by omega)] at e3
        have hz2 : (b.extract (l1 + l2) b.size).size = b.size - (l1 + l2) := by rw [ByteArray.size_extract]; omega
        have e4 : (b.extract (l1 + l2) b.size).extract l3 (l3 + v3) = b.extract (l1 + l2 + l3) (l1 + l2 + l3 + v3) := by
          rw [ByteArray.extract_extract]; congr 1; omega
        rw [e4, ext2 b (l1 + l2) (l3 + v3) (by omega)]
        have s3 : txp b (l1 + l2) = some (b.extract (l1 + l2 + l3) (l1 + l2 + l3 + v3), l1 + l2 + l3 + v3) := by unfold txp; rw [e3]; rfl
        simp only [s3]
        have hz3 : (b.extract (l1 + l2 + (l3 + v3)) b.size).size = b.size - (l1 + l2 + (l3 + v3)) := by rw [ByteArray.size_extract]; omega
        by_cases hc : k = 2 ∧ l1 + l2 + l3 + v3 = b.size ∧ entB (v1 : Int) (v2 : Int) (b.extract (l1 + l2 + l3) (l1 + l2 + l3 + v3)) = true
        · rw [if_pos hc, if_pos ⟨hc.1, trivial, trivial, trivial, by omega, hc.2.2⟩]
        · rw [if_neg hc, if_neg (fun q => hc ⟨q.1, by have := q.2.2.2.2.1; omega, q.2.2.2.2.2⟩)]
/-- A world in which a block of three cells was written, and nothing else but new blocks. -/
structure Wrote (W : World) (g : Nat) (v0 v1 v2 : Value) where
  w : World
  ok : OnlyP (fun k => k = g) W w
  c0 : w.cell? ⟨g, 0, none⟩ = some v0
  c1 : w.cell? ⟨g, 1, none⟩ = some v1
  c2 : w.cell? ⟨g, 2, none⟩ = some v2
theorem Wrote.cell {W : World} {g b i : Nat} {v0 v1 v2 v : Value} (h : W.cell? ⟨b, i, none⟩ = some v) (hl : b < W.heap.size) (hb : b ≠ g) (x : Wrote W g v0 v1 v2) : x.w.cell? ⟨b, i, none⟩ = some v := (World.cell?_of_block (a := ⟨b, i, none⟩) (x.ok.block b hl hb)).trans h
theorem calls_wrote {f : FuncId} {args : Array Value} {W : World} {g : Nat} {v0 v1 v2 v : Value} (x : Wrote W g v0 v1 v2) (h : Calls Tryz.prog f args x.w fun e w' => e = .returned v ∧ Below x.w.heap.size x.w w') :
    Calls Tryz.prog f args x.w fun e w'' => e = .returned v ∧ ∃ y : Wrote W g v0 v1 v2, w'' = y.w :=
  h.mono fun e w' ⟨h1, h2⟩ => ⟨h1, ⟨w', x.ok.trans (OnlyP.of h2), bcl h2 (lt_of_cell x.c0) x.c0, bcl h2 (lt_of_cell x.c0) x.c1, bcl h2 (lt_of_cell x.c0) x.c2⟩, rfl⟩
end Plain

set_option maxRecDepth 10000 in
set_option maxHeartbeats 4000000 in
theorem l5Read_calls (k : Int) (b : ByteArray) (w : World) (hb : b.size ≤ 1000000000) :
    Calls Tryz.prog 98 #[.agg #[.int .i64 k, .string b]] w fun e w' => ∃ (t1 t2 : Int) (t3 : ByteArray) (ok : Bool), e = .returned (.tuple #[.agg #[.int .i64 t1, .int .i64 t2, .string t3], .bool ok]) ∧ t3.size ≤ 20000 ∧ fiveE (k, b) = (if ok = true then some ⟨t1, t2, t3⟩ else none) ∧ Below w.heap.size w w' := by
  obtain ⟨W0, hW0⟩ : ∃ W0, W0 = (w.alloc (.cells #[.int .i64 k, .string b] 103)).alloc (.cells #[.int .i64 0, .int .i64 0, .string ⟨#[]⟩] 76) := ⟨_, rfl⟩
  have hb0 : Below w.heap.size w W0 := by rw [hW0]; exact belOn (bel1 _ _) (bel1 _ _)
  have hz : W0.heap.size = w.heap.size + 2 := by rw [hW0]; simp
  have f0 : W0.cell? ⟨w.heap.size, 0, none⟩ = some (.int .i64 k) := by rw [hW0]; simp [go_sem]
  have f1 : W0.cell? ⟨w.heap.size, 1, none⟩ = some (.string b) := by rw [hW0]; simp [go_sem]
  have r0 : W0.cell? ⟨w.heap.size + 1, 0, none⟩ = some (.int .i64 0) := by rw [hW0]; simp [go_sem]
  have r1 : W0.cell? ⟨w.heap.size + 1, 1, none⟩ = some (.int .i64 0) := by rw [hW0]; simp [go_sem]
  have r2 : W0.cell? ⟨w.heap.size + 1, 2, none⟩ = some (.string ⟨#[]⟩) := by rw [hW0]; simp [go_sem]
  have y0 : W0.frozen? ⟨w.heap.size + 1, 0, none⟩ = false := by rw [hW0]; simp [go_sem]
  have y1 : W0.frozen? ⟨w.heap.size + 1, 1, none⟩ = false := by rw [hW0]; simp [go_sem]
  have y2 : W0.frozen? ⟨w.heap.size + 1, 2, none⟩ = false := by rw [hW0]; simp [go_sem]
  obtain ⟨t1, s1, g1, e1, hs1, hv1, a1, a2⟩ := tkV_open b
  obtain ⟨t2, s2, g2, e2, hs2, hv2, b1, b2⟩ := tkV_open s1
  obtain ⟨t3, s3, g3, e3, hs3, hv3, c1, c2⟩ := txV_open s2
  have HFV := hide (five_of (k := k) a1 a2 b1 b2 c1 c2)
  have HN := hide (spec_TakeNumber b W0 (by omega))
  rw [e1] at HN
  have HM := hide (fun (W : World) => spec_TakeNumber s1 W (by omega))
  rw [e2] at HM
  have HT := hide (fun (W : World) => spec_TakeText s2 W (by omega))
  rw [e3] at HT
  have HB0 := hide hb0
  have HW0 := hide hW0.symm
  have HC0 := hide (fun (W : World) (hW : Below W0.heap.size W0 W) => And.intro (bcl hW (by omega) f0) (And.intro (And.intro (bcl hW (by omega) r0) (And.intro (bcl hW (by omega) r1) (bcl hW (by omega) r2))) (And.intro ((hW.frozen (p := ⟨w.heap.size + 1, 0, none⟩) (show w.heap.size + 1 < W0.heap.size by omega)).trans y0) (And.intro ((hW.frozen (p := ⟨w.heap.size + 1, 1, none⟩) (show w.heap.size + 1 < W0.heap.size by omega)).trans y1) ((hW.frozen (p := ⟨w.heap.size + 1, 2, none⟩) (show w.heap.size + 1 < W0.heap.size by omega)).trans y2)))))
  clear e1 e2 e3 a1 a2 b1 b2 c1 c2 hW0 hb0 f0 f1 r0 r1 r2 y0 y1 y2
  go_enter Tryz.func98, Tryz.ntmps98
  go_wp2_with fail
  rw [unhide HW0]
  refine (unhide HN).mono ?_
  rintro e w1 ⟨rfl, q1, rfl⟩
  go_wp2_with fail
  refine (unhide HM _).mono ?_
  rintro e w1 ⟨rfl, q2, rfl⟩
  go_wp2_with fail
  refine (unhide HT _).mono ?_
  rintro e w1 ⟨rfl, hb1⟩
  have hb2 : Below W0.heap.size W0 w1 := ⟨hb1.os, hb1.tape, hb1.output, hb1.size, hb1.block⟩
  have hs := hb2.size
  obtain ⟨W2, hW2⟩ : ∃ W2, W2 = w1.alloc (.cells #[.int .i64 t1, .int .i64 t2, .string t3] 76) := ⟨_, rfl⟩
  have hb3 : Below w1.heap.size w1 W2 := by rw [hW2]; exact bel1 _ _
  have e0 : W2.cell? ⟨w1.heap.size, 0, none⟩ = some (.int .i64 t1) := by rw [hW2]; simp [go_sem]
  have e1 : W2.cell? ⟨w1.heap.size, 1, none⟩ = some (.int .i64 t2) := by rw [hW2]; simp [go_sem]
  have e2 : W2.cell? ⟨w1.heap.size, 2, none⟩ = some (.string t3) := by rw [hW2]; simp [go_sem]
  have HW2 := hide hW2.symm
  obtain ⟨f0, ⟨r0, r1, r2⟩, y0, y1, y2⟩ := unhide HC0 _ (belOn hb2 hb3)
  have HB3 := hide (belOn (unhide HB0) (belOn hb2 hb3))
  have hne : w1.heap.size ≠ w.heap.size + 1 := by omega
  have HLE := hide (fun (W : World) => l5Entry_calls t1 t2 t3 W (by omega))
  have HFIN := hide (fun (X : World) (hX : Below w.heap.size w X) => show Below w.heap.size w (((X.setCell ⟨w.heap.size + 1, 0, none⟩ (.int .i64 t1)).setCell ⟨w.heap.size + 1, 1, none⟩ (.int .i64 t2)).setCell ⟨w.heap.size + 1, 2, none⟩ (.string t3)) from ((hX.setCell (p := ⟨w.heap.size + 1, 0, none⟩) (Nat.le_succ _) _).setCell (p := ⟨w.heap.size + 1, 1, none⟩) (Nat.le_succ _) _).setCell (p := ⟨w.heap.size + 1, 2, none⟩) (Nat.le_succ _) _)
  obtain ⟨em, hem⟩ : ∃ em : Bool, s3.toList.isEmpty = em := ⟨_, rfl⟩
  have HEM := hide (show em = true ↔ s3.size = 0 from by rw [← hem, ByteArray.toList_eq, List.isEmpty_iff_length_eq_zero, Array.length_toList]; exact Iff.rfl)
  have hcs : (k ≠ 2) ∨ (k = 2 ∧ g1 = false) ∨ (k = 2 ∧ g1 = true ∧ g2 = false) ∨ (k = 2 ∧ g1 = true ∧ g2 = true ∧ g3 = false) ∨ (k = 2 ∧ g1 = true ∧ g2 = true ∧ g3 = true ∧ em = false) ∨ (k = 2 ∧ g1 = true ∧ g2 = true ∧ g3 = true ∧ em = true) := by
    by_cases hk : k = 2
    · cases g1 <;> cases g2 <;> cases g3 <;> cases em <;> simp [hk]
    · exact .inl hk
  have hrl := lt_of_cell r0
  have hel := lt_of_cell e0
  have hfl := lt_of_cell f0
  have A0 := Grown.cell e0 hel
  have A1 := Grown.cell e1 hel
  have A2 := Grown.cell e2 hel
  have A3 := Grown.cell f0 hfl
  have B0 := Wrote.cell (v0 := .int .i64 t1) (v1 := .int .i64 t2) (v2 := .string t3) e0 hel hne
  have B1 := Wrote.cell (v0 := .int .i64 t1) (v1 := .int .i64 t2) (v2 := .string t3) e1 hel hne
  have B2 := Wrote.cell (v0 := .int .i64 t1) (v1 := .int .i64 t2) (v2 := .string t3) e2 hel hne
  have B3 := Wrote.cell (g := w.heap.size + 1) (v0 := .int .i64 t1) (v1 := .int .i64 t2) (v2 := .string t3) f0 hfl (by omega)
  have HOV := hide (fun (x : Grown W2) => And.intro (And.intro (Grown.cell r0 hrl x) (And.intro (Grown.cell r1 hrl x) (Grown.cell r2 hrl x))) (And.intro ((x.ok.frozen (p := ⟨w.heap.size + 1, 0, none⟩) hrl).trans y0) (And.intro ((x.ok.frozen (p := ⟨w.heap.size + 1, 1, none⟩) hrl).trans y1) ((x.ok.frozen (p := ⟨w.heap.size + 1, 2, none⟩) hrl).trans y2))))
  have HWR := hide (fun (x : Grown W2) => show ∃ y : Wrote W2 (w.heap.size + 1) (.int .i64 t1) (.int .i64 t2) (.string t3), ((x.w.setCell ⟨w.heap.size + 1, 0, none⟩ (.int .i64 t1)).setCell ⟨w.heap.size + 1, 1, none⟩ (.int .i64 t2)).setCell ⟨w.heap.size + 1, 2, none⟩ (.string t3) = y.w from by
    obtain ⟨⟨x0, x1, x2⟩, _⟩ := unhide HOV x
    refine ⟨⟨_, ?_, ?_, ?_, ?_⟩, rfl⟩
    · have o1 : ∀ (X : World) (i : Nat) (v : Value), OnlyP (fun k => k = w.heap.size + 1) X (X.setCell ⟨w.heap.size + 1, i, none⟩ v) := fun X i v => have h := OnlyAt.setCell ⟨w.heap.size + 1, i, none⟩ X v; ⟨h.os, h.tape, h.output, h.size, fun k hk hn => h.block k hk hn⟩
      exact (((OnlyP.of x.ok).trans (o1 _ _ _)).trans (o1 _ _ _)).trans (o1 _ _ _)
    · exact (World.cell?_setCell_other _ _ _ _ (by simp)).trans ((World.cell?_setCell_other _ _ _ _ (by simp)).trans (World.cell?_setCell_same _ _ _ x0))
    · exact (World.cell?_setCell_other _ _ _ _ (by simp)).trans (World.cell?_setCell_same _ _ _ ((World.cell?_setCell_other _ _ _ _ (by simp)).trans x1))
    · exact World.cell?_setCell_same _ _ _ ((World.cell?_setCell_other _ _ _ _ (by simp)).trans ((World.cell?_setCell_other _ _ _ _ (by simp)).trans x2)))
  have hNG : Nonempty (Grown W2) := ⟨⟨W2, Below.refl _ _⟩⟩
  have hNW : Nonempty (Wrote W2 (w.heap.size + 1) (.int .i64 t1) (.int .i64 t2) (.string t3)) := by obtain ⟨y, _⟩ := unhide HWR ⟨W2, Below.refl _ _⟩; exact ⟨y⟩
  have HFN := hide (fun (y : Wrote W2 (w.heap.size + 1) (.int .i64 t1) (.int .i64 t2) (.string t3)) => show Below w.heap.size w y.w from (unhide HB3).trans (y.ok.below (B := w.heap.size) (fun g hg => by omega) (unhide HB3).size))
  obtain ⟨B, hB⟩ : ∃ B, entB t1 t2 t3 = B := ⟨_, rfl⟩
  rw [hB] at HLE HFV
  clear hB hW2 hb1 hb2 hb3 hs HN HM HT hz HC0 HW0 HB0 r0 r1 r2 y0 y1 y2 e0 e1 e2 f0 HFIN HB3
  rcases hcs with hk | ⟨rfl, rfl⟩ | ⟨rfl, rfl, rfl⟩ | ⟨rfl, rfl, rfl, rfl⟩ | ⟨rfl, rfl, rfl, rfl, rfl⟩ | ⟨rfl, rfl, rfl, rfl, rfl⟩
  case' inl => have hk2 : (k == 2) = false := by rw [beq_eq_false_iff_ne]; exact hk
  all_goals
    go_wp2_with fail
    rw [unhide HW2]
    refine Reg2.region_wrote (fun w' => ∃ x : Grown W2, w' = x.w) (fun w' => ∃ x : Wrote W2 (w.heap.size + 1) (.int .i64 t1) (.int .i64 t2) (.string t3), w' = x.w) 21 _ (by kernel_rfl) (by kernel_rfl) rfl rfl (by kernel_rfl) (by kernel_rfl) ⟨⟨{ W2 with drawn := W2.drawn + 1 }, ⟨rfl, rfl, rfl, Nat.le_refl _, fun _ _ => rfl⟩⟩, rfl⟩ ?_
    simp only [List.take_succ_cons, List.take_zero, List.drop_succ_cons, List.drop_zero]
    repeat (go_big_quiet_step (first | (go_at_call 87; exact calls_grown _ (unhide HLE _))))
    refine wpQuiet_nil ⟨?_, by kernel_rfl, ?_, ?_⟩
    · repeat (go_big_quiet_step (first | (go_at_call 87; exact calls_wrote _ (unhide HLE _))))
      exact wpQuiet_nil rfl
    · rintro _ ⟨x, rfl⟩
      obtain ⟨⟨x0, x1, x2⟩, z0, z1, z2⟩ := unhide HOV x
      obtain ⟨y, hy⟩ := unhide HWR x
      refine ⟨((x.w.setCell ⟨w.heap.size + 1, 0, none⟩ (.int .i64 t1)).setCell ⟨w.heap.size + 1, 1, none⟩ (.int .i64 t2)).setCell ⟨w.heap.size + 1, 2, none⟩ (.string t3), ?_, ⟨y, hy⟩⟩
      simp [go_sem, x0, x1, x2, z0, z1, z2]
    · repeat (go_big_quiet_step (fail))
      refine wpQuiet_nil ⟨?_, ?_⟩
      · repeat (go_big_quiet_step (fail))
        exact wpQuiet_nil rfl
      · rintro _ ⟨y, rfl⟩
        have y0 := y.c0
        have y1 := y.c1
        have y2 := y.c2
        go_wp2_with fail
        first
          | (refine bodyPost_ret (v := .tuple #[.agg #[.int .i64 t1, .int .i64 t2, .string t3], .bool false]) ?_ rfl ⟨t1, t2, t3, false, rfl, hv3, ?_, unhide HFN y⟩
             · simp [results, Tryz.results98, go_sem, y0, y1, y2]
               done
             · rw [unhide HFV, if_neg (fun q => by first | exact hk q.1 | exact absurd q.2.1 (by decide) | exact absurd q.2.2.1 (by decide) | exact absurd q.2.2.2.1 (by decide) | exact absurd ((unhide HEM).2 q.2.2.2.2.1) (by decide))]
               rfl)
          | (refine bodyPost_ret (v := .tuple #[.agg #[.int .i64 t1, .int .i64 t2, .string t3], .bool B]) ?_ rfl ⟨t1, t2, t3, B, rfl, hv3, ?_, unhide HFN y⟩
             · simp [results, Tryz.results98, go_sem, y0, y1, y2]
               done
             · rw [unhide HFV]
               cases B
               · rw [if_neg (fun q => absurd q.2.2.2.2.2 (by decide)), if_neg (by decide)]
               · rw [if_pos (And.intro (by trivial) (And.intro (by trivial) (And.intro (by trivial) (And.intro (by trivial) (And.intro ((unhide HEM).1 (by trivial)) (by trivial))))))]
                 rfl)
end Go.Proofs.YtliklijcdcfomaaGreat


/- A log, as the specification reads it. -/
namespace Go.Proofs.YtliklijcdcfomaaGreat
open Go.RowKit Plain
set_option linter.unusedVariables false

namespace Plain
theorem entT_small (t k : Int) (b : ByteArray) : (entT t k b).size ≤ 2000000 := by
  unfold entT
  cases h : entB t k b with
  | false => exact Nat.zero_le _
  | true =>
    rw [if_pos rfl]
    have := entB_sizes h
    unfold frameB
    split
    · rw [ByteArray.size_append, seal_size, four_size]; omega
    · exact Nat.zero_le _
theorem logZ_le : ∀ es : List Ent, logZ es ≤ es.length * 2000000
  | [] => Nat.zero_le _
  | e :: l => by
    have h1 := logZ_le l
    have h2 := entT_small e.term e.kind e.body
    have h3 : logZ (e :: l) = (entT e.term e.kind e.body).size + logZ l := by simp [logZ]
    rw [h3, List.length_cons]
    omega
/-- Rows of unlike elements lie apart. -/
theorem rows_apart {α β : Type} {e : Elem α} {e' : Elem β} {W : World} {B B' : Nat} {v v' : Value} {xs : List α} {ys : List β} (h : OwnR e W B v xs) (h' : OwnR e' W B' v' ys) (hne : e.E ≠ e'.E) : ∀ g, v.ownBlock = some g → v'.ownBlock = some g → False := by
  intro g h1 h2
  rcases h.2 with ⟨q, _⟩ | ⟨g1, cap, cur, q, c, d, r⟩
  · rw [q] at h1; cases h1
  · rcases h'.2 with ⟨q', _⟩ | ⟨g2, cap', cur', q', c', d', r'⟩
    · rw [q'] at h2; cases h2
    · rw [q] at h1; rw [q'] at h2
      obtain rfl : g1 = g := Option.some.inj h1
      obtain rfl : g2 = g1 := Option.some.inj h2
      rw [d] at d'
      simp at d'
      exact hne d'.2
theorem own_beside {α β : Type} {e : Elem α} {e' : Elem β} {W W' : World} {B B' : Nat} {v v' : Value} {xs : List α} {ys : List β} {o : Obj} (h : OwnR e W B v xs) (h' : OwnR e' W B' v' ys) (hne : e.E ≠ e'.E) (hg : (W.alloc o).grownBy W' v'.ownBlock) : OwnR e W' B v xs := by
  refine ⟨h.1, ?_⟩
  rcases h.2 with ⟨q, c⟩ | ⟨g, cap, cur, q, c, d, r⟩
  · exact .inl ⟨q, c⟩
  · have hl := (Array.getElem?_eq_some_iff.1 d).1
    refine .inr ⟨g, cap, cur, q, c, (hg.block g (by simp; omega) (fun e1 => rows_apart h h' hne g (by rw [q]; rfl) e1.symm)).trans (((Below.refl W.heap.size W).alloc (Nat.le_refl _) _).block g hl |>.trans d), r⟩
theorem own_below' {α : Type} {e : Elem α} {W W' : World} {B : Nat} {v : Value} {xs : List α} (h : OwnR e W B v xs) (hb : Below W.heap.size W W') : OwnR e W' B v xs := h.keep hb
theorem acc_five {term : Int} {acc : List Ent} {f : Int × ByteArray} (h5 : acc.length < 500) : accE term acc f = (fiveE f).filter fun e => decide (e.term ≤ term) && decide (prevT acc acc.length ≤ e.term) := by unfold accE; rw [if_pos h5]
theorem five_ok {f : Int × ByteArray} {e : Ent} (h : fiveE f = some e) : 1 ≤ e.term := by
  unfold fiveE at h
  split at h
  · cases h
  · split at h
    · cases h
    · split at h
      · cases h
      · split at h
        · rename_i hc
          cases h
          exact (entB_yes hc.2.2).1
        · cases h
theorem log_full {term : Int} {acc : List Ent} {l : List (Int × ByteArray)} (h : acc.length = 500) : logE term acc l = acc := by
  cases l with
  | nil => rfl
  | cons f l =>
    have : accE term acc f = none := by unfold accE; rw [if_neg (by omega)]
    rw [logE, this]
end Plain

set_option maxRecDepth 10000 in
set_option maxHeartbeats 4000000 in
theorem l5Log_calls (s : ByteArray) (term : Int) (w : World) (hs : s.size ≤ 1000000000) :
    Calls Tryz.prog 65 #[.string s, .int .i64 term] w fun e w' => ∃ v, e = .returned (.tuple #[v, .int .i64 (logZ (logF s term) : Nat)]) ∧ OwnR entE w' w.heap.size v (logF s term) ∧ Below w.heap.size w w' := by
  obtain ⟨LF, hLF⟩ : ∃ LF, logF s term = LF := ⟨_, rfl⟩
  have hst : logE term [] (readF s).1 = LF := hLF
  rw [hLF]
  clear hLF
  obtain ⟨W0, hW0⟩ : ∃ W0, W0 = w.alloc (.cells #[] 76) := ⟨_, rfl⟩
  have ho0 : OwnR entE W0 w.heap.size (.slice (some ⟨w.heap.size, 0, none⟩) 0 0) [] := by rw [hW0]; exact ownR_empty entE w _ (Nat.le_refl _)
  have hb0 : Below w.heap.size w W0 := by rw [hW0]; exact bel1 _ _
  have HRD := hide (specRead_calls s W0 hs)
  have HSM := hide (fr_le s)
  have HW0 := hide hW0.symm
  have HO0 := hide ho0
  have HB0 := hide hb0
  clear ho0 hb0 hW0
  generalize readF s = Q at HRD HSM hst
  obtain ⟨F, ps, cc⟩ := Q
  simp only [] at HRD HSM hst
  have HST := hide hst
  clear hst
  go_enter Tryz.func65, Tryz.ntmps65
  go_wp2_with fail
  rw [unhide HW0]
  refine (unhide HRD).mono ?_
  rintro e w1 ⟨vf, rfl, hof, hb1⟩
  obtain ⟨fa, fc, rfl⟩ := ownF_form hof
  have HO1 := hide (own_below' (unhide HO0) hb1)
  have HF1 := hide (own_frm hof)
  have HB1 := hide (belOn (unhide HB0) hb1)
  obtain ⟨nF, hnF⟩ : ∃ nF, F.length = nF := ⟨_, rfl⟩
  rw [hnF] at HF1
  have HNF := hide hnF
  clear hof hb1 HRD HO0 HB0 HW0
  rw [hnF]
  clear hnF
  go_wp2_with fail
  go_loopw [6, 7, 11, 12, 13] (fun v z i _ _ wr => ∃ acc : List Ent, i = .int .i64 acc.length ∧ z = .int .i64 (logZ acc : Nat) ∧ acc.length ≤ nF ∧ acc.length ≤ 500 ∧ Hid (logE term acc (F.drop acc.length) = LF) ∧ Hid (OwnR entE wr w.heap.size v acc) ∧ Hid (OwnR frmE wr W0.heap.size (.slice fa nF fc) F) ∧ Hid (Below w.heap.size w wr)) (fun _ _ i _ _ _ => nF - (intOf i).toNat)
  case atStart =>
    exact ⟨[], rfl, rfl, Nat.zero_le _, by decide, HST, HO1, HF1, HB1⟩
  case round =>
    obtain ⟨acc, rfl, rfl, ha1, ha5, HS, HO, HF, HB⟩ := hrel
    obtain ⟨va, vc, rfl⟩ := (unhide HO).form
    have hzl := logZ_le acc
    by_cases h1 : acc.length < nF
    · have g1 : (acc.length : Int) < (nF : Int) := by omega
      by_cases h5 : acc.length < 500
      · have g5 : (acc.length : Int) < 500 := by omega
        have hfl : acc.length < F.length := by rw [unhide HNF]; exact h1
        obtain ⟨g, e1, l1, p0, p1⟩ := (OwnR.at (unhide HF)).fm acc.length hfl
        have hsm := unhide HSM F[acc.length] (List.getElem_mem hfl)
        have hstp := unhide HS
        rw [List.drop_eq_getElem_cons hfl, logE, acc_five h5] at hstp
        have HRE := hide (fun (W : World) => l5Read_calls F[acc.length].1 F[acc.length].2 W (Nat.le_trans hsm hs))
        generalize F[acc.length] = f at p0 p1 hsm hstp HRE
        obtain ⟨k, b⟩ := f
        simp only at p0 p1 hsm hstp HRE
        subst e1
        have HST2 := hide hstp
        clear hstp hfl
        have i0 : (0 : Int) ≤ (acc.length : Int) := by omega
        go_wp2_with fail
        refine (unhide HRE _).mono ?_
        rintro e w3 ⟨t1, t2, t3, ok, rfl, h3, h5r, hb3⟩
        cases ok with
        | false =>
          rw [if_neg (by simp)] at h5r
          have HL := hide (show acc = LF from by have h := unhide HST2; rw [h5r] at h; exact h)
          have HB3 := hide (belOn (unhide HB) hb3)
          have HO3 := hide (own_below' (unhide HO) hb3)
          clear hb3
          go_wp2_with fail
          go_quiet (fail)
          all_goals (try go_wp2_with fail)
          go_ret2
          have hll := unhide HL
          subst hll
          exact ⟨_, rfl, own_below' (unhide HO3) (belQ (bel1 _ _) _), belQ (belOn (unhide HB3) (bel1 _ _)) _⟩
        | true =>
          rw [if_pos rfl] at h5r
          have ht1 : 1 ≤ t1 := five_ok h5r
          have hst3 := unhide HST2
          rw [h5r] at hst3
          simp only [Option.filter] at hst3
          have HST3 := hide hst3
          clear hst3 HST2
          obtain ⟨W4, hW4⟩ : ∃ W4, W4 = w3.alloc (.cells #[.int .i64 t1, .int .i64 t2, .string t3] 76) := ⟨_, rfl⟩
          have hb4 : Below w3.heap.size w3 W4 := by rw [hW4]; exact bel1 _ _
          have d0 : W4.cell? ⟨w3.heap.size, 0, none⟩ = some (.int .i64 t1) := by rw [hW4]; simp [go_sem]
          have d1 : W4.cell? ⟨w3.heap.size, 1, none⟩ = some (.int .i64 t2) := by rw [hW4]; simp [go_sem]
          have d2 : W4.cell? ⟨w3.heap.size, 2, none⟩ = some (.string t3) := by rw [hW4]; simp [go_sem]
          have hbr := belOn hb3 hb4
          have HO4 := hide (own_below' (unhide HO) hbr)
          have HF4 := hide (own_below' (unhide HF) hbr)
          have HB4 := hide (belOn (unhide HB) hbr)
          have HDD := hide (fun (W : World) (hW : W.heap[w3.heap.size]? = W4.heap[w3.heap.size]?) => And.intro ((World.cell?_of_block (a := ⟨w3.heap.size, 0, none⟩) hW).trans d0) (And.intro ((World.cell?_of_block (a := ⟨w3.heap.size, 1, none⟩) hW).trans d1) ((World.cell?_of_block (a := ⟨w3.heap.size, 2, none⟩) hW).trans d2)))
          have hz3 := hb3.size
          have hlt4 : w3.heap.size < W4.heap.size := by rw [hW4]; simp
          have HW4 := hide hW4.symm
          clear hb4 hbr hW4 hb3
          by_cases hg : term < t1
          · have hd1 : (decide (t1 ≤ term) && decide (prevT acc acc.length ≤ t1)) = false := by rw [decide_eq_false (by omega)]; rfl
            have HL := hide (show acc = LF from by have h := unhide HST3; simp only [hd1, Bool.false_eq_true, if_false] at h; exact h)
            have hdg : decide (term < t1) = true := decide_eq_true hg
            clear hd1
            go_wp2_with fail
            rw [unhide HW4]
            go_quiet (fail)
            all_goals (try go_wp2_with fail)
            go_ret2
            rw [← unhide HL]
            exact ⟨_, rfl, unhide HO4, belQ (unhide HB4) _⟩
          · have hdg : decide (term < t1) = false := decide_eq_false hg
            have hlen : acc.length < 100000000 := by omega
            have hz1 := (unhide HB).size
            have hzw : w.heap.size ≤ W4.heap.size := by omega
            have hes := entT_small t1 t2 t3
            have hzn : logZ (acc ++ [⟨t1, t2, t3⟩]) = logZ acc + (entT t1 t2 t3).size := logZ_snoc acc ⟨t1, t2, t3⟩
            rcases Nat.eq_zero_or_pos acc.length with h0 | h0
            · have hd1 : (decide (t1 ≤ term) && decide (prevT acc acc.length ≤ t1)) = true := by
                rw [h0, decide_eq_true (show t1 ≤ term by omega), Bool.true_and]
                exact decide_eq_true (by show (0 : Int) ≤ t1; omega)
              have HST4 := hide (show logE term (acc ++ [⟨t1, t2, t3⟩]) (F.drop (acc.length + 1)) = LF from by have h := unhide HST3; simp only [hd1, if_true] at h; exact h)
              have hz0 : decide (0 < acc.length) = false := by rw [h0]; rfl
              have hz0i : decide ((0 : Int) < (acc.length : Int)) = false := by rw [h0]; rfl
              have H0 := hide h0
              clear hd1 h0 hz0i
              generalize hZ : logZ acc = Z at *
              go_wp2_with fail
              rw [unhide HW4]
              go_quiet (fail)
              all_goals (try go_wp2_with (first | (at_builtin; refine appR (e := entE) rfl _ _ rfl (OwnR.drewN (unhide HO4) _) rfl ⟨t1, t2, t3⟩ rfl _ rfl rfl hlen hzw ?_; intro v6 w6 hown6 hb6 hg6; obtain ⟨a6, c6, hv6⟩ := hown6.form; subst hv6; have hgb := hg6.block; have hd6 := unhide HDD w6 ((hg6.block w3.heap.size (by simp; omega) (fun e => by have := (World.ownsRow.lt (unhide HO) _ e.symm).2; omega)).trans (((Below.refl W4.heap.size W4).alloc (Nat.le_refl _) _).block w3.heap.size hlt4)); obtain ⟨x0, x1, x2⟩ := hd6) | (go_at_call 47; refine (spec_EntryText t1 t2 t3 w6 (by omega)).mono ?_; rintro e w7 ⟨rfl, hb7⟩)))
              have hz4 : (acc ++ [(⟨t1, t2, t3⟩ : Ent)]).length = acc.length + 1 := by simp
              rw [hz4] at hown6
              have hbb6 : Below w.heap.size w w6 := (belQ (unhide HB4) nq).trans hb6
              have hF6 := own_beside (OwnR.drewN (unhide HF4) nq) (OwnR.drewN (unhide HO4) nq) (show frmE.E ≠ entE.E from by decide) hg6
              refine ⟨⟨acc ++ [⟨t1, t2, t3⟩], by rw [hz4]; rfl, ?_, by omega, by omega, ?_, hide (own_below' hown6 hb7), hide (own_below' hF6 hb7), hide (belOn hbb6 hb7)⟩, by simp [intOf]; omega⟩
              · rw [hzn]
                first
                  | rfl
                  | (congr 1; unfold wrap64; omega)
              · rw [hz4]
                exact HST4
            · obtain ⟨j, hj⟩ : ∃ j, acc.length = j + 1 := ⟨acc.length - 1, by omega⟩
              have hjl : j < acc.length := by omega
              have hpv : prevT acc acc.length = acc[j].term := by rw [hj, prevT, List.getElem?_eq_getElem hjl]; rfl
              obtain ⟨g2, e2, l2, u0, u1, u2⟩ := (OwnR.at (unhide HO4)).ex j hjl
              rw [hpv] at HST3
              generalize acc[j].term = pt at u0 HST3
              clear u1 u2 hpv
              subst e2
              have j0 : (0 : Int) ≤ (j : Int) := by omega
              have j1 : (j : Int) < (acc.length : Int) := by omega
              have jw : IntKind.i64.wrap ((acc.length : Int) - 1) = (j : Int) := by rw [IntKind.wrap_i64]; omega
              have hz0 : decide (0 < acc.length) = true := decide_eq_true (by omega)
              by_cases hp : t1 < pt
              · have hd1 : (decide (t1 ≤ term) && decide (pt ≤ t1)) = false := by rw [decide_eq_false (show ¬ pt ≤ t1 by omega), Bool.and_false]
                have HL := hide (show acc = LF from by have h := unhide HST3; simp only [hd1, Bool.false_eq_true, if_false] at h; exact h)
                have hdp : decide (t1 < pt) = true := decide_eq_true hp
                have HJ := hide hj
                clear hd1 hj
                go_wp2_with fail
                rw [unhide HW4]
                go_quiet (fail)
                all_goals (try go_wp2_with fail)
                go_ret2
                rw [← unhide HL]
                exact ⟨_, rfl, unhide HO4, belQ (unhide HB4) _⟩
              · have hd1 : (decide (t1 ≤ term) && decide (pt ≤ t1)) = true := by rw [decide_eq_true (show t1 ≤ term by omega), Bool.true_and]; exact decide_eq_true (by omega)
                have HST4 := hide (show logE term (acc ++ [⟨t1, t2, t3⟩]) (F.drop (acc.length + 1)) = LF from by have h := unhide HST3; simp only [hd1, if_true] at h; exact h)
                have hdp : decide (t1 < pt) = false := decide_eq_false hp
                have HJ := hide hj
                clear hd1 hj
                generalize hZ : logZ acc = Z at *
                go_wp2_with fail
                rw [unhide HW4]
                go_quiet (fail)
                all_goals (try go_wp2_with (first | (at_builtin; refine appR (e := entE) rfl _ _ rfl (OwnR.drewN (unhide HO4) _) rfl ⟨t1, t2, t3⟩ rfl _ rfl rfl hlen hzw ?_; intro v6 w6 hown6 hb6 hg6; obtain ⟨a6, c6, hv6⟩ := hown6.form; subst hv6; have hgb := hg6.block; have hd6 := unhide HDD w6 ((hg6.block w3.heap.size (by simp; omega) (fun e => by have := (World.ownsRow.lt (unhide HO) _ e.symm).2; omega)).trans (((Below.refl W4.heap.size W4).alloc (Nat.le_refl _) _).block w3.heap.size hlt4)); obtain ⟨x0, x1, x2⟩ := hd6) | (go_at_call 47; refine (spec_EntryText t1 t2 t3 w6 (by omega)).mono ?_; rintro e w7 ⟨rfl, hb7⟩)))
                have hz4 : (acc ++ [(⟨t1, t2, t3⟩ : Ent)]).length = acc.length + 1 := by simp
                rw [hz4] at hown6
                have hbb6 : Below w.heap.size w w6 := (belQ (unhide HB4) nq).trans hb6
                have hF6 := own_beside (OwnR.drewN (unhide HF4) nq) (OwnR.drewN (unhide HO4) nq) (show frmE.E ≠ entE.E from by decide) hg6
                refine ⟨⟨acc ++ [⟨t1, t2, t3⟩], by rw [hz4]; rfl, ?_, by omega, by omega, ?_, hide (own_below' hown6 hb7), hide (own_below' hF6 hb7), hide (belOn hbb6 hb7)⟩, by simp [intOf]; omega⟩
                · rw [hzn]
                  first
                    | rfl
                    | (congr 1; unfold wrap64; omega)
                · rw [hz4]
                  exact HST4
      · have hl5 : acc.length = 500 := by omega
        have HL := hide ((log_full (term := term) (l := F.drop acc.length) hl5).symm.trans (unhide HS))
        clear hl5
        have g5 : ¬ (acc.length : Int) < 500 := by omega
        go_wp2_with fail
        go_ret2
        have hll := unhide HL
        subst hll
        exact ⟨.slice va acc.length vc, rfl, unhide HO, unhide HB⟩
    · have HL := hide (show acc = LF from by rw [← unhide HS, List.drop_of_length_le (by rw [unhide HNF]; omega)]; rfl)
      have g1 : ¬ (acc.length : Int) < (nF : Int) := by omega
      go_wp2_with fail
      go_ret2
      have hll := unhide HL
      subst hll
      exact ⟨.slice va acc.length vc, rfl, unhide HO, unhide HB⟩
end Go.Proofs.YtliklijcdcfomaaGreat

