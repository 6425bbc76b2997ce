/- A region that draws its order and writes once: one walk in the order of the text serves every order, where nothing in it reads what it writes. Two classes of worlds: ahead of the write and behind it. -/
import Derived.Test.YtanekbifdedmeaaGreatDoorGAA
import Derived.Deep.QuietTactic
import Derived.BigQuiet
namespace Go.Proofs.YtanekbifdedmeaaGreatDoor
open Go.RowKit Plain
set_option linter.unusedVariables false

namespace Plain.Reg2
section
variable {P : Program} {ops : Array Oper} {md : Region.Mode} {C0 C1 : World → Prop} {s : Nat}
/-- One value in all worlds of both classes, and the class is kept. -/
def Both (P : Program) (C0 C1 : World → Prop) (o : Oper) (a : Act) (v : Value) : Prop := (∀ w, C0 w → o.quietAt P a C0 w v) ∧ ∀ w, C1 w → o.quietAt P a C1 w v
/-- The write: out of the first class into the second. -/
def Over (P : Program) (C0 C1 : World → Prop) (o : Oper) (a : Act) : Prop := ∀ w, C0 w → ∃ w', (execOp a.eval o).run P w = .ok .skip w' ∧ C1 w'
/-- What an operation leaves in its slot, whenever it comes up. -/
def Gives (P : Program) (ops : Array Oper) (C0 C1 : World → Prop) (s i : Nat) (o : Oper) (v : Value) (a : Act) : Prop :=
  (Region.wanted o (yielded ops a.tmps) = true ∧ ((i = s ∧ Over P C0 C1 o a ∧ v = undef) ∨ (i ≠ s ∧ Both P C0 C1 o a v))) ∨ (Region.wanted o (yielded ops a.tmps) = false ∧ i ≠ s ∧ v = undef)
theorem Gives.same {i : Nat} {o : Oper} {v : Value} {a a' : Act} (h : Gives P ops C0 C1 s i o v a) (he : execOp a'.eval o = execOp a.eval o) (hw : Region.wanted o (yielded ops a'.tmps) = Region.wanted o (yielded ops a.tmps)) : Gives P ops C0 C1 s i o v a' := by
  unfold Gives Both Over Oper.quietAt at *
  rw [he, hw]
  exact h
/-- Operation number i comes up. -/
def At2 (P : Program) (ops : Array Oper) (C0 C1 : World → Prop) (s i : Nat) (K : Act → Prop) (a : Act) : Prop := ∃ o, ops[i]? = some o ∧ ∃ v, Gives P ops C0 C1 s i o v a ∧ K (a.put o.dst v)
/-- Whatever order is picked from here on. -/
def Any2 (P : Program) (md : Region.Mode) (ops : Array Oper) (C0 C1 : World → Prop) (s : Nat) (Q : Act → Prop) : Nat → Array Bool → Act → Prop
  | 0, listed, a => Region.ready md ops listed = [] ∧ listed.getD s false = true ∧ Q a
  | n + 1, listed, a => Region.ready md ops listed ≠ [] ∧ ∀ i ∈ Region.ready md ops listed, At2 P ops C0 C1 s i (Any2 P md ops C0 C1 s Q n (listed.setIfInBounds i true)) a
/-- The class that a world is of: it hangs on whether the write has come up. -/
def Cls (C0 C1 : World → Prop) (b : Bool) (w : World) : Prop := if b = true then C1 w else C0 w
theorem getD_ready {listed : Array Bool} {i : Nat} (h : i ∈ Region.ready md ops listed) : listed.getD i true = false := (mem_ready.1 h).1
theorem getD_tf {listed : Array Bool} {i : Nat} (h : listed.getD i true = false) : listed.getD i false = false ∧ i < listed.size := by
  rcases Nat.lt_or_ge i listed.size with h' | h'
  · simp [h'] at h ⊢; exact h
  · simp [Array.getElem?_eq_none h'] at h
theorem any_of {Q : Act → Prop} {Q' : Exit → Act → World → Prop} (hQ : ∀ a w, C1 w → Q a → Q' .normal a w) : ∀ (n : Nat) (listed : Array Bool) (a : Act) (w : World), Cls C0 C1 (listed.getD s false) w → Any2 P md ops C0 C1 s Q n listed a → wpAny P md ops Q' n listed a w
  | 0, listed, a, w, hw, h => by
    refine ⟨h.1, hQ a w ?_ h.2.2⟩
    unfold Cls at hw
    rw [h.2.1] at hw
    exact hw
  | n + 1, listed, a, w, hw, h => by
    refine ⟨fun h0 => absurd h0 h.1, fun i hi => ?_⟩
    obtain ⟨o, ho, v, hg, hk⟩ := h.2 i hi
    obtain ⟨hl, hsz⟩ := getD_tf (getD_ready hi)
    have key : ∀ w', Cls C0 C1 ((listed.setIfInBounds i true).getD s false) w' → wpAny P md ops Q' n (listed.setIfInBounds i true) (a.put o.dst v) w' := fun w' hw' => any_of hQ n _ _ w' hw' hk
    unfold wpOp
    simp only [ho]
    rcases hg with ⟨hwa, ⟨rfl, hov, rfl⟩ | ⟨hne, hq0, hq1⟩⟩ | ⟨hwa, hne, rfl⟩
    · rw [if_pos hwa]
      left
      unfold Cls at hw
      rw [hl] at hw
      obtain ⟨w', hr, hw'⟩ := hov w (by simpa using hw)
      unfold Oper.wp
      rw [hr]
      show wpAny P md ops Q' n _ _ w'
      refine key w' ?_
      unfold Cls
      simp [hsz, hw']
    · rw [if_pos hwa]
      left
      have hcl : (listed.setIfInBounds i true).getD s false = listed.getD s false := getD_set_ne false hne
      rw [hcl] at key
      unfold Cls at key hw
      cases hb : listed.getD s false with
      | true =>
        rw [hb] at key hw
        exact Oper.wp_of_quiet (C := C1) (K := fun a' => a' = a.put o.dst v) (by simpa using hw) (fun a' w' hw' ha => by rw [ha]; exact key w' (by simpa using hw')) ⟨v, hq1, rfl⟩
      | false =>
        rw [hb] at key hw
        exact Oper.wp_of_quiet (C := C0) (K := fun a' => a' = a.put o.dst v) (by simpa using hw) (fun a' w' hw' ha => by rw [ha]; exact key w' (by simpa using hw')) ⟨v, hq0, rfl⟩
    · rw [if_neg (by rw [hwa]; simp)]
      refine key w ?_
      rw [getD_set_ne false hne]
      exact hw
/-- Whether a value is in its slot already makes no difference to an operation that is apart. -/
theorem At2.put {i j : Nat} {oi oj : Oper} {v : Value} (hj : ops[j]? = some oj) (hap : oi.apart ops oj = true) (hsi : ∀ cs b, oi.op ≠ .select cs b) (hsj : ∀ cs b, oj.op ≠ .select cs b) {K : Act → Prop} {a : Act}
    (hy : Gives P ops C0 C1 s i oi v a) (h : At2 P ops C0 C1 s j K (a.put oi.dst v)) : At2 P ops C0 C1 s j (fun a' => Gives P ops C0 C1 s i oi v a' ∧ K (a'.put oi.dst v)) a := by
  obtain ⟨h1, h2, h3⟩ := Oper.apart_spec hap
  obtain ⟨o', ho', u, hg, hk⟩ := h
  obtain rfl : oj = o' := Option.some.inj (hj.symm.trans ho')
  refine ⟨oj, hj, u, hg.same (execOp_put oj hsj a oi.dst v h1).symm (wanted_put oj a oi.dst v h1).symm, hy.same (execOp_put oi hsi a oj.dst u h3) (wanted_put oi a oj.dst u h3), ?_⟩
  rw [← Act.put_comm a v u h2]
  exact hk
theorem At2.mono {i : Nat} {K K' : Act → Prop} {a : Act} (h : At2 P ops C0 C1 s i K a) (hk : ∀ a, K a → K' a) : At2 P ops C0 C1 s i K' a := by
  obtain ⟨o, ho, v, hg, h1⟩ := h
  exact ⟨o, ho, v, hg, hk _ h1⟩
/-- An operation that may come up now may be taken first. -/
theorem first2 {Q : Act → Prop} {i : Nat} {oi : Oper} {v : Value} (hi : ops[i]? = some oi) (hsel : ∀ (j : Nat) (o : Oper) cs b, ops[j]? = some o → o.op ≠ .select cs b) :
    ∀ (n : Nat) (listed : Array Bool) (a : Act), (∀ j oj, ops[j]? = some oj → j ≠ i → listed.getD j true = false → (∀ e ∈ oj.after, Region.binds md e = true → e.on ≠ i) → oi.apart ops oj = true) →
      i ∈ Region.ready md ops listed → Gives P ops C0 C1 s i oi v a → Any2 P md ops C0 C1 s Q n (listed.setIfInBounds i true) (a.put oi.dst v) → Any2 P md ops C0 C1 s Q (n + 1) listed a := by
  intro n
  induction n with
  | zero =>
    intro listed a _ hr hy H
    refine ⟨List.ne_nil_of_mem hr, fun j hj => ?_⟩
    rcases Nat.decEq j i with hne | rfl
    · have hm := ready_mono hj hne
      rw [H.1] at hm
      cases hm
    · exact ⟨oi, hi, v, hy, H⟩
  | succ n ih =>
    intro listed a hf hr hy H
    refine ⟨List.ne_nil_of_mem hr, fun j hj => ?_⟩
    rcases Nat.decEq j i with hne | rfl
    · obtain ⟨hun, oj, hoj, hall⟩ := mem_ready.1 hj
      have hno : ∀ e ∈ oj.after, Region.binds md e = true → e.on ≠ i := by
        intro e he hb hon
        have h1 := hall e he hb
        rw [hon, (getD_tf (getD_ready hr)).1] at h1
        cases h1
      have hp := At2.put hoj (hf j oj hoj hne hun hno) (fun cs b => hsel i oi cs b hi) (fun cs b => hsel j oj cs b hoj) hy (H.2 j (ready_mono hj hne))
      refine hp.mono fun a' ha' => ih (listed.setIfInBounds j true) a' (fun k ok hk hki hu hn => hf k ok hk hki ?_ hn) (ready_mono hr (Ne.symm hne)) ha'.1 ?_
      · rcases Nat.decEq j k with hjk | rfl
        · rw [getD_set_ne true hjk] at hu; exact hu
        · exact hun
      · rw [Array.setIfInBounds_comm _ _ hne]
        exact ha'.2
    · exact ⟨oi, hi, v, hy, H⟩
/-- The walk in the order of the text. -/
def Lex2 (P : Program) (ops : Array Oper) (C0 C1 : World → Prop) (s : Nat) (Q : Act → Prop) : Nat → List Oper → Act → Prop
  | _, [], a => Q a
  | k, o :: l, a => ∃ v, Gives P ops C0 C1 s k o v a ∧ Lex2 P ops C0 C1 s Q (k + 1) l (a.put o.dst v)
theorem any_lex {Q : Act → Prop} (hs : Region.noSelect ops = true) : ∀ (l : List Oper) (k : Nat) (listed : Array Bool) (a : Act), (∀ j, l[j]? = ops[k + j]?) → (listed.getD s false = true ∨ (k ≤ s ∧ s < k + l.length)) → listed.size = ops.size →
    Region.lexFrom md ops l.length k listed = true → Lex2 P ops C0 C1 s Q k l a → Any2 P md ops C0 C1 s Q l.length listed a
  | [], k, listed, a, _, hl, _, hB, h => ⟨by simpa [Region.lexFrom] using hB, by rcases hl with hl | hl; exact hl; (simp at hl; omega), h⟩
  | o :: l, k, listed, a, hl, hsl, hsz, hB, h => by
    have h0 : ops[k]? = some o := by simpa using (hl 0).symm
    simp only [List.length_cons, Region.lexFrom, Bool.and_eq_true] at hB
    obtain ⟨⟨hr, hf⟩, hB'⟩ := hB
    obtain ⟨v, hg, hk⟩ := h
    have hr' : k ∈ Region.ready md ops listed := by simpa using hr
    refine first2 h0 (Region.noSelect_spec hs) l.length listed a (Region.free_spec h0 hf) hr' hg (any_lex hs l (k + 1) _ _ (fun j => ?_) ?_ (by simpa using hsz) hB' hk)
    · have := hl (j + 1)
      simpa [Nat.add_assoc, Nat.add_comm 1 j] using this
    · rcases hsl with h1 | ⟨h1, h2⟩
      · rcases Nat.decEq k s with hne | rfl
        · left; rw [getD_set_ne false hne]; exact h1
        · left; simp [(getD_tf (getD_ready hr')).2]
      · rcases Nat.decEq k s with hne | rfl
        · right; simp only [List.length_cons] at h2; omega
        · left; simp [(getD_tf (getD_ready hr')).2]
end
/-- ONE WALK FOR EVERY ORDER, with one write in it. -/
theorem region_two {P : Program} {id : Nat} {Q : Exit → Act → World → Prop} {a : Act} {w : World} {l : List Oper} (C0 C1 : World → Prop) (s : Nat) (hm : P.follows .mixedOrders = true) (hB : Region.lexB .any l.toArray = true) (hs : s < l.length) (hC : C0 { w with drawn := w.drawn + 1 })
    (h : Lex2 P l.toArray C0 C1 s (fun a' => ∀ w', C1 w' → Q .normal a' w') 0 l a) : (Code.region id l.toArray true).wp P Q a w := by
  simp only [Region.lexB, Bool.and_eq_true] at hB
  refine wp_region_any hm (any_of (C0 := C0) (C1 := C1) (s := s) (Q := fun a' => ∀ w', C1 w' → Q .normal a' w') (fun _ w' hw' h => h w' hw') _ _ _ _ ?_ ?_)
  · unfold Cls
    rw [if_neg (by simp [hs])]
    exact hC
  · have := any_lex (P := P) (C0 := C0) (C1 := C1) (s := s) (md := .any) hB.1 l 0 (Array.replicate l.toArray.size false) a (by simp) (.inr ⟨Nat.zero_le _, by simpa using hs⟩) (by simp) (by simpa using hB.2) h
    simpa using this
section
variable {P : Program} {ops : Array Oper} {C0 C1 : World → Prop} {s : Nat}
/-- Each of these operations has a slot of its own. -/
def OwnSlots (n : Nat) : List Oper → Bool
  | [] => true
  | o :: l => (match o.dst with | some d => decide (d < n) && l.all (fun o' => o'.dst != some d) | none => false) && OwnSlots n l
theorem put_off {a : Act} {d : Nat} {x : Option Tmp} {v : Value} (h : (x != some d) = true) : (a.put x v).tmps[d]? = a.tmps[d]? := by
  cases x with
  | none => rfl
  | some e =>
    have hne : e ≠ d := fun q => by subst q; simp at h
    show (a.tmps.setIfInBounds e v)[d]? = _
    simp [hne]
theorem put_size {a : Act} {x : Option Tmp} {v : Value} : (a.put x v).tmps.size = a.tmps.size := by
  cases x with
  | none => rfl
  | some e => show (a.tmps.setIfInBounds e v).size = _; simp
theorem quiet_off {C : World → Prop} {F : Act} {d : Nat} : ∀ (l : List Oper) (a : Act), wpQuiet P ops C (fun a' => a' = F) l a → (l.all fun o' => o'.dst != some d) = true → F.tmps[d]? = a.tmps[d]?
  | [], a, h, _ => by
    have h' : a = F := h
    rw [h']
  | o :: l, a, h, hd => by
    rw [List.all_cons, Bool.and_eq_true] at hd
    unfold wpQuiet at h
    split at h
    · obtain ⟨v, _, h⟩ := h
      rw [quiet_off l _ h hd.2, put_off hd.1]
    · rw [quiet_off l _ h hd.2, put_off hd.1]
/-- Two walks, one in each class, that come to one end. -/
theorem lex_of {Q : Act → Prop} {F : Act} {rest : List Oper} : ∀ (l : List Oper) (k : Nat) (a : Act), OwnSlots a.tmps.size l = true → (∀ j, j < l.length → k + j ≠ s) → wpQuiet P ops C0 (fun a' => a' = F) l a → wpQuiet P ops C1 (fun a' => a' = F) l a → Lex2 P ops C0 C1 s Q (k + l.length) rest F → Lex2 P ops C0 C1 s Q k (l ++ rest) a
  | [], k, a, _, _, h0, _, h => by
    have h' : a = F := h0
    rw [h']
    exact h
  | o :: l, k, a, hO, hk, h0, h1, h => by
    have hks : k ≠ s := by have := hk 0 (by simp); simpa using this
    have hk' : ∀ j, j < l.length → (k + 1) + j ≠ s := fun j hj => by have := hk (j + 1) (by simp; omega); omega
    have hr : Lex2 P ops C0 C1 s Q ((k + 1) + l.length) rest F := by
      have e : k + (o :: l).length = (k + 1) + l.length := by rw [List.length_cons]; omega
      rw [e] at h; exact h
    unfold OwnSlots at hO
    rw [Bool.and_eq_true] at hO
    cases hd : o.dst with
    | none => rw [hd] at hO; simp at hO
    | some d =>
      rw [hd] at hO
      simp only [Bool.and_eq_true, decide_eq_true_eq] at hO
      unfold wpQuiet at h0 h1
      by_cases hw : Region.wanted o (yielded ops a.tmps) = true
      · rw [if_pos hw] at h0 h1
        obtain ⟨v, q0, h0⟩ := h0
        obtain ⟨u, q1, h1⟩ := h1
        have e0 := quiet_off (d := d) l _ h0 hO.1.2
        have e1 := quiet_off (d := d) l _ h1 hO.1.2
        rw [hd] at e0 e1
        have huv : u = v := by
          have e2 := e1.symm.trans e0
          have g : ∀ x : Value, (a.put (some d) x).tmps[d]? = some x := fun x => by
            show (a.tmps.setIfInBounds d x)[d]? = _
            simp [hO.1.1]
          rw [g, g] at e2
          exact Option.some.inj e2
        subst huv
        exact ⟨u, .inl ⟨hw, .inr ⟨hks, q0, q1⟩⟩, lex_of l (k + 1) _ (by rw [put_size]; exact hO.2) hk' h0 h1 hr⟩
      · rw [if_neg hw] at h0 h1
        exact ⟨undef, .inr ⟨by simpa using hw, hks, rfl⟩, lex_of l (k + 1) _ (by rw [put_size]; exact hO.2) hk' h0 h1 hr⟩
/-- A region that draws its order, with one write, number s: a walk of what stands ahead of the write and one of what stands behind it, each in both classes. -/
theorem region_write {id : Nat} {Q : Exit → Act → World → Prop} {a : Act} {w : World} {l : List Oper} (C0 C1 : World → Prop) (s : Nat) (o : Oper) (F G : Act) (hm : P.follows .mixedOrders = true) (hB : Region.lexB .any l.toArray = true) (hs : l[s]? = some o) (hn : o.dst = none)
    (h1 : OwnSlots a.tmps.size (l.take s) = true) (h2 : OwnSlots F.tmps.size (l.drop (s + 1)) = true) (hC : C0 { w with drawn := w.drawn + 1 })
    (a0 : wpQuiet P l.toArray C0 (fun a' => a' = F) (l.take s) a) (a1 : wpQuiet P l.toArray C1 (fun a' => a' = F) (l.take s) a) (ho : Region.wanted o (yielded l.toArray F.tmps) = true) (hov : Over P C0 C1 o F)
    (b0 : wpQuiet P l.toArray C0 (fun a' => a' = G) (l.drop (s + 1)) F) (b1 : wpQuiet P l.toArray C1 (fun a' => a' = G) (l.drop (s + 1)) F) (hQ : ∀ w', C1 w' → Q .normal G w') : (Code.region id l.toArray true).wp P Q a w := by
  have hsl : s < l.length := by
    rcases Nat.lt_or_ge s l.length with h | h
    · exact h
    · rw [List.getElem?_eq_none h] at hs; cases hs
  have hlen : (l.take s).length = s := by rw [List.length_take]; omega
  have hl : l = l.take s ++ (o :: (l.drop (s + 1) ++ [])) := by
    rw [List.append_nil]
    have e : l.drop s = o :: l.drop (s + 1) := by
      rw [List.drop_eq_getElem_cons hsl]
      rw [List.getElem?_eq_getElem hsl] at hs
      rw [Option.some.inj hs]
    rw [← e, List.take_append_drop]
  refine region_two C0 C1 s hm hB hsl hC ?_
  have key : Lex2 P l.toArray C0 C1 s (fun a' => ∀ w', C1 w' → Q .normal a' w') 0 (l.take s ++ (o :: (l.drop (s + 1) ++ []))) a := by
    refine lex_of (F := F) (l.take s) 0 a h1 (fun j hj => by rw [hlen] at hj; omega) a0 a1 ?_
    rw [hlen, Nat.zero_add]
    refine ⟨undef, .inl ⟨ho, .inl ⟨rfl, hov, rfl⟩⟩, ?_⟩
    rw [hn]
    exact lex_of (F := G) (l.drop (s + 1)) (s + 1) F h2 (fun j _ => by omega) b0 b1 hQ
  rw [← hl] at key
  exact key
/-- Where a walk comes to. -/
theorem quiet_end {C : World → Prop} {R : Act → Prop} : ∀ (l : List Oper) (a : Act), wpQuiet P ops C R l a → ∃ F : Act, F.tmps.size = a.tmps.size ∧ wpQuiet P ops C (fun a' => a' = F) l a ∧ R F
  | [], a, h => ⟨a, rfl, rfl, h⟩
  | o :: l, a, h => by
    unfold wpQuiet at h
    by_cases hw : Region.wanted o (yielded ops a.tmps) = true
    · rw [if_pos hw] at h
      obtain ⟨v, q, h⟩ := h
      obtain ⟨F, hz, h1, h2⟩ := quiet_end l _ h
      refine ⟨F, hz.trans put_size, ?_, h2⟩
      unfold wpQuiet
      rw [if_pos hw]
      exact ⟨v, q, h1⟩
    · rw [if_neg hw] at h
      obtain ⟨F, hz, h1, h2⟩ := quiet_end l _ h
      refine ⟨F, hz.trans put_size, ?_, h2⟩
      unfold wpQuiet
      rw [if_neg hw]
      exact h1
/-- The same, the ends of the walks not named ahead. -/
theorem region_wrote {id : Nat} {Q : Exit → Act → World → Prop} {a : Act} {w : World} {l : List Oper} (C0 C1 : World → Prop) (s : Nat) (o : Oper) (hm : P.follows .mixedOrders = true) (hB : Region.lexB .any l.toArray = true) (hs : l[s]? = some o) (hn : o.dst = none)
    (h1 : OwnSlots a.tmps.size (l.take s) = true) (h2 : OwnSlots a.tmps.size (l.drop (s + 1)) = true) (hC : C0 { w with drawn := w.drawn + 1 })
    (h : wpQuiet P l.toArray C0 (fun F => wpQuiet P l.toArray C1 (fun a' => a' = F) (l.take s) a ∧ Region.wanted o (yielded l.toArray F.tmps) = true ∧ Over P C0 C1 o F ∧ wpQuiet P l.toArray C0 (fun G => wpQuiet P l.toArray C1 (fun a' => a' = G) (l.drop (s + 1)) F ∧ ∀ w', C1 w' → Q .normal G w') (l.drop (s + 1)) F) (l.take s) a) : (Code.region id l.toArray true).wp P Q a w := by
  obtain ⟨F, hz, a0, a1, ho, hov, hb⟩ := quiet_end _ _ h
  obtain ⟨G, _, b0, b1, hQ⟩ := quiet_end _ _ hb
  exact region_write C0 C1 s o F G hm hB hs hn h1 (by rw [hz]; exact h2) hC a0 a1 ho hov b0 b1 hQ
end
end Plain.Reg2
end Go.Proofs.YtanekbifdedmeaaGreatDoor
