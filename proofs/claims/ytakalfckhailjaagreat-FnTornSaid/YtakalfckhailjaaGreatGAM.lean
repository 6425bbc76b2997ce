/- Texts of one kind, put together. -/
import Derived.Test.YtakalfckhailjaaGreatGAI
import Derived.Test.YtakalfckhailjaaGreatGAG
import Derived.Test.YtakalfckhailjaaGreatGAD

/- Journals as plain mathematics; what may stand behind others in a log. -/
namespace Go.Proofs.YtakalfckhailjaaGreat
open Go.RowKit Plain
set_option linter.unusedVariables false

namespace Plain
def numB (n : Int) : Bool := decide (0 ≤ n) && decide (n ≤ 1000000000000)
def folB (term p : Int) (e : Ent) : Bool := entB e.term e.kind e.body && (decide (e.term ≤ term) && decide (p ≤ e.term))
def okE (term : Int) : Int → List Ent → Bool
  | _, [] => true
  | p, e :: l => folB term p e && okE term e.term l
def prevT (es : List Ent) : Nat → Int
  | 0 => 0
  | k + 1 => ((es[k]?).map fun e => e.term).getD 0
theorem okE_step (term : Int) (es : List Ent) (k : Nat) (h : k < es.length) : okE term (prevT es k) (es.drop k) = (folB term (prevT es k) es[k] && okE term (prevT es (k + 1)) (es.drop (k + 1))) := by
  rw [List.drop_eq_getElem_cons h, okE]
  congr 2
  rw [prevT, List.getElem?_eq_getElem h]
  rfl
def jouB (t v : Int) (es : List Ent) : Bool := (numB t && numB v) && (decide (es.length ≤ 500) && okE t 0 es)
end Plain

set_option maxRecDepth 10000 in
theorem numberOk_calls (n : Int) (w : World) : Calls Tryz.prog 52 #[.int .i64 n] w fun e w' => e = .returned (.bool (numB n)) ∧ w = w' := by
  obtain ⟨R, hR⟩ : ∃ R, numB n = R := ⟨_, rfl⟩
  rw [hR]
  unfold numB at hR
  have HR := hide hR
  clear hR
  go_enter Tryz.func52, Tryz.ntmps52
  go_wp2
  all_goals go_ret
  all_goals refine ⟨?_, rfl⟩
  all_goals (show Ending.returned (.bool _) = Ending.returned (.bool _); rw [← unhide HR]; congr 2; rw [Bool.eq_iff_iff]; simp; try omega)

set_option maxRecDepth 10000 in
set_option maxHeartbeats 2000000 in
theorem follows_calls (tm kd : Int) (bd : ByteArray) (a : Option Addr) (k c : Nat) (es : List Ent) (term : Int) (w : World) (hk : k ≤ es.length) (hk2 : k ≤ 1000000) (hb : bd.size ≤ 1000000000000) (h : RowAt entE w a es) :
    Calls Tryz.prog 81 #[.agg #[.int .i64 tm, .int .i64 kd, .string bd], .slice a k c, .int .i64 term] w fun e w' => e = .returned (.bool (decide (k < 500) && folB term (prevT es k) ⟨tm, kd, bd⟩)) ∧ Below w.heap.size w w' := by
  obtain ⟨W0, hW0⟩ : ∃ W0, W0 = w.alloc (.cells #[.int .i64 tm, .int .i64 kd, .string bd] 45) := ⟨_, rfl⟩
  have hb0 : Below w.heap.size w W0 := by rw [hW0]; exact bel1 _ _
  have hlt : w.heap.size < W0.heap.size := by rw [hW0]; simp
  have c0 : W0.cell? ⟨w.heap.size, 0, none⟩ = some (.int .i64 tm) := by rw [hW0]; simp [go_sem]
  have c1 : W0.cell? ⟨w.heap.size, 1, none⟩ = some (.int .i64 kd) := by rw [hW0]; simp [go_sem]
  have c2 : W0.cell? ⟨w.heap.size, 2, none⟩ = some (.string bd) := by rw [hW0]; simp [go_sem]
  have HC := hide (fun (W : World) (hW : Below W0.heap.size W0 W) => And.intro (bcl hW hlt c0) (And.intro (bcl hW hlt c1) (bcl hW hlt c2)))
  have HFIN := hide (fun (W : World) (hW : Below W0.heap.size W0 W) => belOn hb0 hW)
  have HROW := hide (fun (W : World) (hW : Below W0.heap.size W0 W) => h.below (belOn hb0 hW))
  have HW0 := hide hW0.symm
  clear hb0 hlt c0 c1 c2 hW0 h
  by_cases h5 : k < 500
  · rw [decide_eq_true h5, Bool.true_and]
    unfold folB
    simp only
    have g5 : ¬ (500 : Int) ≤ (k : Int) := by omega
    cases he : entB tm kd bd with
    | false =>
      have HE := hide he
      clear he
      go_enter Tryz.func81, Tryz.ntmps81
      go_wp2_with fail
      rw [unhide HW0]
      refine (entryOk_calls tm kd bd W0 hb).mono ?_
      rintro e w1 ⟨rfl, hb1⟩
      rw [unhide HE]
      have HB1 := hide (unhide HFIN _ hb1)
      clear hb1
      go_wp2_with fail
      go_ret
      exact ⟨rfl, unhide HB1⟩
    | true =>
      have HE := hide he
      have ht1 := (entB_yes he).1
      clear he
      by_cases ht : tm ≤ term
      · rw [decide_eq_true ht]
        rcases Nat.eq_zero_or_pos k with hk0 | hk0
        · subst hk0
          rw [decide_eq_true (show prevT es 0 ≤ tm from by show (0 : Int) ≤ tm; omega)]
          go_enter Tryz.func81, Tryz.ntmps81
          go_wp2_with fail
          rw [unhide HW0]
          refine (entryOk_calls tm kd bd W0 hb).mono ?_
          rintro e w1 ⟨rfl, hb1⟩
          rw [unhide HE]
          have HB1 := hide (unhide HFIN _ hb1)
          obtain ⟨q0, q1, q2⟩ := unhide HC _ hb1
          clear hb1
          go_wp2_with fail
          go_quiet (fail)
          all_goals (try go_wp2_with fail)
          all_goals (try go_ret)
          all_goals exact ⟨rfl, belQ (unhide HB1) _⟩
        · obtain ⟨j, hkj⟩ : ∃ j, k = j + 1 := ⟨k - 1, by omega⟩
          have hj : j < es.length := by omega
          have hp : prevT es k = es[j].term := by rw [hkj, prevT, List.getElem?_eq_getElem hj]; rfl
          rw [hp]
          have HCD := hide (fun (W : World) (hW : Below W0.heap.size W0 W) => (unhide HROW _ hW).ex j hj)
          generalize es[j] = p at HCD
          obtain ⟨pt, pk, pb⟩ := p
          simp only at HCD ⊢
          have j0 : (0 : Int) ≤ (j : Int) := by omega
          have j1 : (j : Int) < (k : Int) := by omega
          have jn : ((k : Int) == 0) = false := by simp; omega
          have jw : IntKind.i64.wrap ((k : Int) - 1) = (j : Int) := by rw [IntKind.wrap_i64]; omega
          clear hp hj HROW hk hkj
          go_enter Tryz.func81, Tryz.ntmps81
          go_wp2_with fail
          rw [unhide HW0]
          refine (entryOk_calls tm kd bd W0 hb).mono ?_
          rintro e w1 ⟨rfl, hb1⟩
          rw [unhide HE]
          have HB1 := hide (unhide HFIN _ hb1)
          obtain ⟨q0, q1, q2⟩ := unhide HC _ hb1
          obtain ⟨g, e1, l1, p0, p1, p2⟩ := unhide HCD _ hb1
          subst e1
          clear hb1
          go_wp2_with fail
          go_quiet (fail)
          all_goals (try go_wp2_with fail)
          all_goals (try go_ret)
          all_goals exact ⟨rfl, belQ (unhide HB1) _⟩
      · rw [decide_eq_false ht]
        go_enter Tryz.func81, Tryz.ntmps81
        go_wp2_with fail
        rw [unhide HW0]
        refine (entryOk_calls tm kd bd W0 hb).mono ?_
        rintro e w1 ⟨rfl, hb1⟩
        rw [unhide HE]
        have HB1 := hide (unhide HFIN _ hb1)
        obtain ⟨q0, q1, q2⟩ := unhide HC _ hb1
        clear hb1
        go_wp2_with fail
        go_ret
        exact ⟨rfl, unhide HB1⟩
  · rw [decide_eq_false h5, Bool.false_and]
    have g5 : (500 : Int) ≤ (k : Int) := by omega
    go_enter Tryz.func81, Tryz.ntmps81
    go_wp2_with fail
    rw [unhide HW0]
    go_ret
    exact ⟨rfl, unhide HFIN _ (Below.refl _ _)⟩
end Go.Proofs.YtakalfckhailjaaGreat


/- Entries in frames' bodies, as mathematics; logs in bytes. -/
namespace Go.Proofs.YtakalfckhailjaaGreat
open Go.RowKit Plain
set_option linter.unusedVariables false

namespace Plain
/-- What stands in a frame's body, read without a look at its faults. -/
def rawN (s : ByteArray) (p : Nat) : Int × Nat := ((stp s p).map fun x => x).getD (0, p)
def rawT (s : ByteArray) (p : Nat) : ByteArray × Nat := (txp s p).getD (⟨#[]⟩, p)
def rawE (b : ByteArray) : Ent := ⟨(rawN b 0).1, (rawN b (rawN b 0).2).1, (rawT b (rawN b (rawN b 0).2).2).1⟩
/-- The entry of a frame. -/
def fiveE (f : Int × ByteArray) : Option Ent := match stp f.2 0 with
  | none => none
  | some (t, p) => match stp f.2 p with
    | none => none
    | some (k, q) => match txp f.2 q with
      | none => none
      | some (b, r) => if f.1 = 2 ∧ r = f.2.size ∧ entB t k b = true then some ⟨t, k, b⟩ else none
/-- The entry of a frame that is formed, whether it is right or not. -/
def frE (f : Int × ByteArray) : Option Ent := match stp f.2 0 with
  | none => none
  | some (t, p) => match stp f.2 p with
    | none => none
    | some (k, q) => match txp f.2 q with
      | none => none
      | some (b, r) => if f.1 = 2 ∧ r = f.2.size then some ⟨t, k, b⟩ else none
theorem five_fr (f : Int × ByteArray) : fiveE f = (frE f).filter fun e => entB e.term e.kind e.body := by
  unfold fiveE frE
  cases h1 : stp f.2 0 with
  | none => rfl
  | some x =>
    obtain ⟨t, p⟩ := x
    simp only
    cases h2 : stp f.2 p with
    | none => rfl
    | some y =>
      obtain ⟨k, q⟩ := y
      simp only
      cases h3 : txp f.2 q with
      | none => rfl
      | some z =>
        obtain ⟨b, r⟩ := z
        simp only
        by_cases hc : f.1 = 2 ∧ r = f.2.size
        · rw [if_pos hc]
          cases he : entB t k b with
          | true => rw [if_pos ⟨hc.1, hc.2, rfl⟩]; simp [Option.filter, he]
          | false => rw [if_neg (fun q => by cases q.2.2)]; simp [Option.filter, he]
        · rw [if_neg hc, if_neg (fun q => hc ⟨q.1, q.2.1⟩)]; rfl
theorem frE_of (k : Int) (b : ByteArray) : frE (k, b) = if k = 2 ∧ (tkN b 0).isSome = true ∧ (tkN b (rawN b 0).2).isSome = true ∧ (tkT b (rawN b (rawN b 0).2).2).isSome = true ∧ (rawT b (rawN b (rawN b 0).2).2).2 = b.size then some (rawE b) else none := by
  unfold frE rawE rawN rawT stp txp
  cases h1 : tkN b 0 with
  | none => simp
  | some x =>
    simp only [Option.map_some, Option.getD_some, Nat.zero_add]
    cases h2 : tkN b x.2 with
    | none => simp
    | some y =>
      simp only [Option.map_some, Option.getD_some]
      cases h3 : tkT b (x.2 + y.2) with
      | none => simp
      | some z => simp
/-- The entry that a frame adds to a log, if it does. -/
def accE (term : Int) (acc : List Ent) (f : Int × ByteArray) : Option Ent :=
  if acc.length < 500 then (fiveE f).filter fun e => decide (e.term ≤ term) && decide (prevT acc acc.length ≤ e.term) else none
def logE (term : Int) : List Ent → List (Int × ByteArray) → List Ent
  | acc, [] => acc
  | acc, f :: l => match accE term acc f with
    | some e => logE term (acc ++ [e]) l
    | none => acc
def logF (s : ByteArray) (term : Int) : List Ent := logE term [] (readF s).1
theorem acc_yes {term : Int} {acc : List Ent} {f : Int × ByteArray} {e : Ent} (h : frE f = some e) (h5 : acc.length < 500) (hf : folB term (prevT acc acc.length) e = true) : accE term acc f = some e := by
  unfold accE
  unfold folB at hf
  rw [Bool.and_eq_true] at hf
  rw [if_pos h5, five_fr, h]
  simp only [Option.filter, hf.1, if_true, hf.2]
theorem acc_no {term : Int} {acc : List Ent} {f : Int × ByteArray} (h : ∀ e, frE f = some e → (decide (acc.length < 500) && folB term (prevT acc acc.length) e) = false) : accE term acc f = none := by
  unfold accE
  by_cases h5 : acc.length < 500
  · rw [if_pos h5, five_fr]
    cases he : frE f with
    | none => rfl
    | some e =>
      have := h e he
      rw [decide_eq_true h5, Bool.true_and] at this
      unfold folB at this
      cases hb : entB e.term e.kind e.body with
      | false => simp [Option.filter, hb]
      | true =>
        rw [hb, Bool.true_and] at this
        simp only [Option.filter, hb, if_true, this]
        rfl
  · rw [if_neg h5]
/-- The state of a reader of a log: the entries acc are read, it stands at p. -/
def LMid (s : ByteArray) (term : Int) (acc : List Ent) (p : Nat) : Prop := ∃ F, Mid s F p ∧ F.length = acc.length ∧ acc.length ≤ 500 ∧ ∀ R, (readF s).1 = F ++ R → logF s term = logE term acc R
theorem LMid.start (s : ByteArray) (term : Int) : LMid s term [] 0 := ⟨[], Mid.start s, rfl, Nat.zero_le _, fun R h => by unfold logF; rw [h]; rfl⟩
theorem LMid.ends {s : ByteArray} {term : Int} {acc : List Ent} {p : Nat} (h : LMid s term acc p) (hp : s.size ≤ p) : logF s term = acc := by
  obtain ⟨F, hm, _, _, hr⟩ := h
  rw [hr [] (by rw [hm.ends hp, List.append_nil])]
  rfl
theorem LMid.code {s : ByteArray} {term : Int} {acc : List Ent} {p : Nat} (h : LMid s term acc p) (hp : ¬ s.size ≤ p) (hc : frC (s.extract p s.size) ≠ 0) : logF s term = acc := by
  obtain ⟨F, hm, hl, h5, hr⟩ := h
  rw [hr [] (by rw [hm.code hp (by omega) hc, List.append_nil])]
  rfl
theorem LMid.le {s : ByteArray} {term : Int} {acc : List Ent} {p : Nat} (h : LMid s term acc p) : p ≤ s.size ∧ acc.length ≤ 500 := by
  obtain ⟨F, hm, hl, h5, hr⟩ := h
  exact ⟨hm.2.1, h5⟩
theorem LMid.stop {s : ByteArray} {term : Int} {acc : List Ent} {p : Nat} (h : LMid s term acc p) (hp : ¬ s.size ≤ p) (hc : frC (s.extract p s.size) = 0) (ha : accE term acc (frm (s.extract p s.size)) = none) : logF s term = acc := by
  obtain ⟨F, hm, hl, h5, hr⟩ := h
  obtain ⟨_, _, hn⟩ := hm.next hp (by omega) hc
  rw [hr _ (by rw [hn, List.append_assoc, List.singleton_append]), logE, ha]
theorem LMid.next {s : ByteArray} {term : Int} {acc : List Ent} {p : Nat} {e : Ent} (h : LMid s term acc p) (hp : ¬ s.size ≤ p) (hc : frC (s.extract p s.size) = 0) (ha : accE term acc (frm (s.extract p s.size)) = some e) : LMid s term (acc ++ [e]) (p + frN (s.extract p s.size)) := by
  obtain ⟨F, hm, hl, h5, hr⟩ := h
  have h6 : acc.length < 500 := by
    unfold accE at ha
    by_cases q : acc.length < 500
    · exact q
    · rw [if_neg q] at ha; cases ha
  refine ⟨_, hm.next hp (by omega) hc, by simp [hl], by simp; omega, fun R hR => ?_⟩
  rw [hr _ (by rw [hR, List.append_assoc, List.singleton_append]), logE, ha]
theorem logE_small (term : Int) : ∀ (l : List (Int × ByteArray)) (acc : List Ent), acc.length ≤ 500 → (logE term acc l).length ≤ 500
  | [], acc, h => h
  | f :: l, acc, h => by
    rw [logE]
    cases ha : accE term acc f with
    | none => exact h
    | some e =>
      have h6 : acc.length < 500 := by
        unfold accE at ha
        by_cases q : acc.length < 500
        · exact q
        · rw [if_neg q] at ha; cases ha
      exact logE_small term l _ (by simp; omega)
/-- The vote in a file's bytes. -/
def votF (s : ByteArray) : Option (Int × Int) := match (readF s).1 with
  | [f] => if (readF s).2.2 = 0 ∧ f.1 = 1 then (match stp f.2 0 with
    | none => none
    | some (t, p) => match stp f.2 p with
      | none => none
      | some (v, q) => if q = f.2.size then some (t, v) else none) else none
  | _ => none
end Plain
end Go.Proofs.YtakalfckhailjaaGreat


/- ReadFrames of the program. -/
namespace Go.Proofs.YtakalfckhailjaaGreat
open Go.RowKit Plain
set_option linter.unusedVariables false

theorem store_any {P : Program} {ops : Array Oper} {rest : List Oper} {o : Oper} {a : Act} {w : World} {Q : Exit → Act → World → Prop} (hgd : o.guard = none) (ty : TypeId) (x y : Operand) (ho : o.op = .store ty x y)
    (g : Nat) (cells : Array Value) (hx : a.eval x = .pointer (some ⟨g, 0, none⟩)) (hy : a.eval y = .agg cells)
    (t : TypeId) (old : Array Value) (hg : w.heap[g]? = some (.cells old t (0, 0))) (hi : (P.info? ty).map (·.size) = some cells.size)
    (hold : old.size = cells.size) (h1 : cells.all (·.oneCell') = true)
    (h : ∀ w', w'.heap[g]? = some (.cells cells t (0, 0)) → w.grownBy w' (some g) → w'.heap.size = w.heap.size → wpList P ops Q rest (a.put o.dst undef) w') : wpList P ops Q (o :: rest) a w :=
  wpList_store_row hgd ty x y ho g cells hx hy t old hg hi hold h1 (h _ (setRow_heap w g _ _ t _ hg) (splice_grown _) (by simp))

namespace Plain
theorem fold_list (off : Nat) : ∀ (l : List Value) (k : Nat) (base : Array Value), off + k + l.length ≤ base.size →
    ((l.zipIdx k).foldl (fun cs x => cs.setIfInBounds (off + x.2) x.1) base).size = base.size ∧
    ∀ j : Nat, ((l.zipIdx k).foldl (fun cs x => cs.setIfInBounds (off + x.2) x.1) base)[j]? = if off + k ≤ j ∧ j < off + k + l.length then l[j - (off + k)]? else base[j]? := by
  intro l
  induction l with
  | nil => intro k base h; simp; intro j h1 h2; omega
  | cons x l ih =>
    intro k base h
    rw [List.zipIdx_cons, List.foldl_cons]
    simp only [List.length_cons] at h
    have := ih (k + 1) (base.setIfInBounds (off + k) x) (by simp; omega)
    refine ⟨by rw [this.1]; simp, fun j => ?_⟩
    rw [this.2 j]
    simp only [List.length_cons]
    by_cases h1 : off + (k + 1) ≤ j ∧ j < off + (k + 1) + l.length
    · rw [if_pos h1, if_pos (by omega), show j - (off + k) = (j - (off + (k + 1))) + 1 from by omega, List.getElem?_cons_succ]
    · rw [if_neg h1, Array.getElem?_setIfInBounds]
      by_cases h2 : off + k = j
      · subst h2
        rw [if_pos rfl, if_pos (by omega), if_pos (by omega)]
        simp
      · rw [if_neg h2, if_neg (by omega)]
noncomputable def bigC (s : ByteArray) (arr : Array Value) : Array Value :=
  Array.foldl (fun cs x => cs.setIfInBounds (2 + x.snd) x.fst) ((Tryz.zeroCells178.setIfInBounds 0 (.string s)).setIfInBounds 1 (.int .i64 0)) arr.zipIdx 0 256
theorem zero75 : Tryz.zeroCells178.size = 258 := by kernel_rfl
theorem bigC_is (s : ByteArray) (arr : Array Value) (h : arr.size = 256) : (bigC s arr).size = 258 ∧ (bigC s arr)[0]? = some (.string s) ∧ (bigC s arr)[1]? = some (.int .i64 0) ∧ ∀ j, j < 256 → (bigC s arr)[2 + j]? = arr[j]? := by
  have hf := fold_list 2 arr.toList 0 ((Tryz.zeroCells178.setIfInBounds 0 (.string s)).setIfInBounds 1 (.int .i64 0)) (by simp [h])
  have e : bigC s arr = (arr.toList.zipIdx 0).foldl (fun cs x => cs.setIfInBounds (2 + x.2) x.1) ((Tryz.zeroCells178.setIfInBounds 0 (.string s)).setIfInBounds 1 (.int .i64 0)) := by
    unfold bigC
    have h2 : arr.zipIdx.size = 256 := by simp [h]
    rw [← h2, ← Array.foldl_toList]
    simp
  rw [← e] at hf
  refine ⟨by rw [hf.1]; simp, ?_, ?_, fun j hj => ?_⟩
  · rw [hf.2 0, if_neg (by omega)]; simp
  · rw [hf.2 1, if_neg (by omega)]; simp
  · rw [hf.2 (2 + j), if_pos (by simp [h]; omega)]; simp
theorem bigC_one (s : ByteArray) (arr : Array Value) (h : arr.size = 256) (h1 : arr.all (·.oneCell') = true) : (bigC s arr).all (·.oneCell') = true := by
  obtain ⟨a, b, c, d⟩ := bigC_is s arr h
  rw [Array.all_eq_true] at h1 ⊢
  intro i hi
  rcases (show i = 0 ∨ i = 1 ∨ 2 ≤ i from by omega) with rfl | rfl | h2
  · rw [Array.getElem?_eq_getElem hi] at b; rw [Option.some.inj b]; rfl
  · rw [Array.getElem?_eq_getElem hi] at c; rw [Option.some.inj c]; rfl
  · have := d (i - 2) (by omega)
    rw [show 2 + (i - 2) = i from by omega, Array.getElem?_eq_getElem hi, Array.getElem?_eq_getElem (by omega)] at this
    rw [Option.some.inj this]
    exact h1 _ (by omega)
end Plain
theorem info75 : (Tryz.prog.info? 178).map (·.size) = some 258 := by kernel_rfl

theorem ownF_form {W : World} {B : Nat} {v : Value} {fs : List (Int × ByteArray)} (h : OwnF W B v fs) : ∃ a c, v = .slice a fs.length c := by
  rcases h.2 with ⟨rfl, h0⟩ | ⟨g, cap, cur, rfl, _⟩
  · rw [h0]; exact ⟨none, 0, rfl⟩
  · exact ⟨_, _, rfl⟩
theorem ownF_mono {W : World} {B B' : Nat} {v : Value} {fs : List (Int × ByteArray)} (h : OwnF W B v fs) (hb : B' ≤ B) : OwnF W B' v fs := by
  rcases h with ⟨hl, h1 | ⟨g, cap, cur, e, hg, hr⟩⟩
  · exact ⟨hl, .inl h1⟩
  · exact ⟨hl, .inr ⟨g, cap, cur, e, Nat.le_trans hb hg, hr⟩⟩
theorem ownF_keep {W W' : World} {B : Nat} {v : Value} {fs : List (Int × ByteArray)} (h : OwnF W B v fs) (hb : ∀ g, B ≤ g → g < W.heap.size → W'.heap[g]? = W.heap[g]?) : OwnF W' B v fs := by
  rcases h with ⟨hl, h1 | ⟨g, cap, cur, rfl, hg, hc, hr⟩⟩
  · exact ⟨hl, .inl h1⟩
  · refine ⟨hl, .inr ⟨g, cap, cur, rfl, hg, ?_, hr⟩⟩
    rw [hb g hg ?_]
    · exact hc
    · rcases Nat.lt_or_ge g W.heap.size with h | h
      · exact h
      · rw [Array.getElem?_eq_none h] at hc; cases hc
theorem ownF_below {W W' : World} {B : Nat} {v : Value} {fs : List (Int × ByteArray)} (h : OwnF W B v fs) (hb : Below W.heap.size W W') : OwnF W' B v fs := ownF_keep h (fun g _ hg => hb.block g hg)
theorem ownF_only {W W' : World} {B R : Nat} {v : Value} {fs : List (Int × ByteArray)} (h : OwnF W B v fs) (ho : OnlyAt ⟨R, 1, none⟩ W W') (hR : R < B) : OwnF W' B v fs := ownF_keep h (fun g hg hl => ho.block g hl (by simp; omega))
theorem empty_rest (s : ByteArray) (p : Nat) (h : s.size ≤ p) : (s.extract p s.size).toList.isEmpty = true := by
  rw [ByteArray.toList_eq, ByteArray.data_extract]
  simp
  omega
theorem full_rest (s : ByteArray) (p : Nat) (h : p < s.size) : (s.extract p s.size).toList.isEmpty = false := by
  rw [ByteArray.toList_eq, ByteArray.data_extract]
  simp
  omega

set_option maxRecDepth 10000 in
set_option maxHeartbeats 2000000 in
theorem implRead_calls (s : ByteArray) (w : World) (hs : s.size ≤ 1000000000) :
    Calls Tryz.prog 90 #[.string s] w fun e w' => ∃ v, e = .returned (.tuple #[v, .int .i64 ((readF s).2.1 : Nat), .int .i64 (readF s).2.2]) ∧ OwnF w' w.heap.size v (readF s).1 ∧ Below w.heap.size w w' := by
  go_enter Tryz.func90, Tryz.ntmps90
  go_wp2_with fail
  refine (newCrcTable_calls _).mono ?_
  rintro e w1 ⟨arr, htab, rfl, hb1⟩
  have HT := hide htab
  have HB1 := hide hb1
  have hsz := htab.1
  have hbc := bigC_is s arr hsz
  have h1c := bigC_one s arr hsz htab.2.1
  have hi75 : (Tryz.prog.info? 178).map (·.size) = some (bigC s arr).size := by rw [hbc.1]; exact info75
  have hold : Tryz.zeroCells178.size = (bigC s arr).size := by rw [hbc.1]; exact zero75
  have HBC := hide hbc
  have HI := hide hi75
  have HOLD := hide hold
  have H1C := hide h1c
  clear htab hb1 hbc hi75 hold h1c
  go_wp2_with (refine store_any rfl 178 (.tmp 5) (.tmp 12) rfl w1.heap.size (bigC s arr) rfl rfl 178 _ (h_new w1 _ rfl) (unhide HI) (unhide HOLD) (unhide H1C) ?_; intro w2 hrow2 hgr2 hsz2)
  have hb2 : Below w1.heap.size w1 w2 := ((Below.refl _ _).alloc (Nat.le_refl _) _).trans ((Below.refl _ _).grown hgr2 (by simp) (fun i hi => by simp at hi; omega))
  have hz2 : w1.heap.size < w2.heap.size := by rw [hsz2]; simp
  have hz1 := (unhide HB1).size
  have HB2 := hide ((unhide HB1).trans (hb2.mono hz1))
  obtain ⟨-, bc0, bc1, bc2⟩ := unhide HBC
  have c0 : w2.cell? ⟨w1.heap.size, 0, none⟩ = some (.string s) := (cell_of_row w2 _ 0 _ _ _ hrow2).trans bc0
  have c1 : w2.cell? ⟨w1.heap.size, 1, none⟩ = some (.int .i64 0) := (cell_of_row w2 _ 1 _ _ _ hrow2).trans bc1
  have cf : w2.frozen? ⟨w1.heap.size, 1, none⟩ = false := frozen_of_row w2 _ 1 _ _ hrow2
  have ct : TabAt w2 w1.heap.size 2 := fun j hj => ((cell_of_row w2 _ (2 + j) _ _ _ hrow2).trans (bc2 j hj)).trans ((unhide HT).2.2 j hj)
  have HC0 := hide c0
  have HC1 := hide c1
  have HCF := hide cf
  have HCT := hide ct
  clear hgr2 hsz2 hrow2 hb2 bc0 bc1 bc2 HBC HI HOLD H1C c0 c1 cf ct HT HB1 hsz
  generalize w1.heap.size = R at *
  go_loopw [6, 7, 8] (fun v _ _ wr => ∃ (F : List (Int × ByteArray)) (p : Nat), Hid (Mid s F p) ∧ Hid (OwnF wr w2.heap.size v F) ∧ Hid (wr.cell? ⟨R, 0, none⟩ = some (.string s) ∧ wr.cell? ⟨R, 1, none⟩ = some (.int .i64 p) ∧ wr.frozen? ⟨R, 1, none⟩ = false ∧ TabAt wr R 2) ∧ Hid (Below w.heap.size w wr) ∧ w2.heap.size ≤ wr.heap.size) (fun _ _ _ wr => match wr.cell? ⟨R, 1, none⟩ with | some (.int _ p) => s.size - p.toNat | _ => 0)
  case atStart => exact ⟨[], 0, Mid.start s, ownF_nil _ _, hide ⟨unhide HC0, unhide HC1, unhide HCF, unhide HCT⟩, HB2, Nat.le_refl _⟩
  case round =>
    clear HC0 HC1 HCF HCT HB2
    obtain ⟨F, p, HM, HO, HC, HB, hzr⟩ := hrel
    obtain ⟨c0, c1, cf, ct⟩ := unhide HC
    obtain ⟨hm1, hm2, -⟩ := unhide HM
    have HT := hide ct
    clear ct HC
    obtain ⟨fa, fc, rfl⟩ := ownF_form (unhide HO)
    by_cases hp : s.size ≤ p
    · have hend := (unhide HM).ends hp
      have hemp := empty_rest s p hp
      have HE := hide hend
      clear hend
      go_wp2_with fail
      refine (rest_ok R 0 s p wr c0 c1 (by omega) (by omega)).mono ?_
      rintro e w3 ⟨rfl, k3, rfl⟩
      go_wp2_with fail
      go_region
      all_goals (try go_wp2_with fail)
      go_ret3
      exact ⟨_, by rw [unhide HE]; rfl, by rw [unhide HE]; exact ownF_mono (ownF_below (unhide HO) (below_drewN (Below.refl _ _) _)) (by omega), below_drewN (unhide HB) _⟩
    · have hne := full_rest s p (by omega)
      go_wp2_with fail
      refine (rest_ok R 0 s p wr c0 c1 (by omega) (by omega)).mono ?_
      rintro e w3 ⟨rfl, k3, rfl⟩
      by_cases hF : F.length = 2000
      · have hend := (unhide HM).many hp hF
        have HE := hide hend
        clear hend
        go_wp2_with fail
        go_region
        all_goals (try go_wp2_with fail)
        go_ret3
        exact ⟨_, by rw [unhide HE]; rfl, by rw [unhide HE]; have h := ownF_mono (ownF_below (unhide HO) (below_drewN (Below.refl _ _) (k3 + 1))) (show w.heap.size ≤ w2.heap.size by omega); rw [hF] at h; exact h, below_drewN (unhide HB) _⟩
      · have hF2 : F.length < 2000 := by omega
        have hnx := (unhide HM).next hp hF
        have hcd := (unhide HM).code hp hF
        obtain ⟨r, hr⟩ : ∃ r, s.extract p s.size = r := ⟨_, rfl⟩
        rw [hr] at hnx hcd
        have HNX := hide hnx
        have HCD := hide hcd
        have HR := hide hr
        clear hnx hcd hr
        go_wp2_with fail
        refine (frame_calls R s p (wr.drewN k3) (show (wr.drewN k3).cell? _ = _ from c0) (show (wr.drewN k3).cell? _ = _ from c1) (show (wr.drewN k3).frozen? _ = _ from cf) (show TabAt (wr.drewN k3) R 2 from unhide HT) (by omega) (by omega)).mono ?_
        rintro e w4 ⟨rfl, ho4, hc4⟩
        rw [unhide HR] at hc4 ⊢
        have hz4 : w2.heap.size ≤ w4.heap.size := Nat.le_trans hzr ho4.size
        have HO4 := hide (ownF_only (show OwnF (wr.drewN k3) w2.heap.size _ F from unhide HO) ho4 hz2)
        have hRl : R < wr.heap.size := lt_of_cell c0
        have a0 := (ho4.cell ⟨R, 0, none⟩ hRl (by simp)).trans (show (wr.drewN k3).cell? _ = _ from c0)
        have af := (ho4.frozen ⟨R, 1, none⟩ hRl).trans (show (wr.drewN k3).frozen? _ = _ from cf)
        have at2 : TabAt w4 R 2 := fun j hj => (ho4.cell ⟨R, 2 + j, none⟩ hRl (by simp)).trans (show (wr.drewN k3).cell? _ = _ from unhide HT j hj)
        have HB4 := hide ((below_drewN (unhide HB) k3).trans (ho4.below hz1 (Nat.le_trans (unhide HB).size (Nat.le_refl _))))
        have HAT := hide at2
        have HCW := hide c1
        clear ho4 at2 c0 c1 cf HT HB HO HR hne
        by_cases hc : frC r = 0
        · have hfv : frV r = .tuple #[.agg #[.int .i64 (bAt r 0 : Nat), .string (frB r)], .int .i64 0] := by unfold frV; rw [if_pos hc]
          have hfp : frP r p = p + frN r := by unfold frP; rw [if_pos hc]
          have HN := hide (unhide HNX hc)
          have hpos := (szI_ok (frC_ok hc)).1
          rw [hfv]
          rw [hfp] at hc4
          have hfm : frm r = ((bAt r 0 : Int), frB r) := rfl
          rw [hfm] at HN
          have hfn : frN r = (szI r).2 := rfl
          rw [← hfn] at hpos
          clear hfv hfp HNX HCD hc hfm hfn
          generalize (bAt r 0 : Int) = kd at HN
          generalize frB r = bd at HN
          generalize frN r = nn at HN hc4 hpos
          have hX : Below w4.heap.size w4 (w4.alloc (.cells #[.int .i64 kd, .string bd] 95)) := (Below.refl _ _).alloc (Nat.le_refl _) _
          have HX := hide hX
          have HOX := hide (ownF_below (unhide HO4) hX)
          have hzX := hX.size
          clear hX
          go_wp2_with (at_builtin; go_must (refine appF rfl _ _ rfl (unhide HOX) rfl _ rfl (by simp) (by omega) (Nat.le_trans hz4 hzX) ?_); intro v' w6 hown6 hb6)
          go_roundw
          case rel =>
            have hball : Below w2.heap.size w4 w6 := ((Below.refl w2.heap.size w4).alloc hz4 _).trans hb6
            exact ⟨F ++ [(kd, bd)], p + nn, HN, hide hown6, hide ⟨(hball.cell (p := ⟨R, 0, none⟩) hz2).trans a0, (hball.cell (p := ⟨R, 1, none⟩) hz2).trans hc4, (hball.frozen (p := ⟨R, 1, none⟩) hz2).trans af, (unhide HAT).below hball hz2⟩, hide ((unhide HB4).trans (hball.mono (by omega))), Nat.le_trans hz4 hball.size⟩
          case measure =>
            have hball : Below w2.heap.size w4 w6 := ((Below.refl w2.heap.size w4).alloc hz4 _).trans hb6
            rw [(hball.cell (p := ⟨R, 1, none⟩) hz2).trans hc4, unhide HCW]
            simp
            omega
        · have hfv : frV r = .tuple #[.agg #[.int .i64 0, .string ⟨#[]⟩], .int .i64 (frC r)] := by unfold frV; rw [if_neg hc]; rfl
          have hfp : frP r p = p := by unfold frP; rw [if_neg hc]
          have HN := hide (unhide HCD hc)
          rw [hfv]
          rw [hfp] at hc4
          clear hfv hfp HNX HCD
          generalize frC r = cd at HN hc
          have hX : Below w4.heap.size w4 (w4.alloc (.cells #[.int .i64 0, .string ⟨#[]⟩] 95)) := (Below.refl _ _).alloc (Nat.le_refl _) _
          have hRX : R < w4.heap.size := lt_of_cell a0
          have HX := hide hX
          have HOX := hide (ownF_below (unhide HO4) hX)
          have hcX := (hX.cell (p := ⟨R, 1, none⟩) hRX).trans hc4
          clear hX
          go_wp2_with fail
          go_region
          all_goals (try go_wp2_with fail)
          go_ret3
          exact ⟨_, by rw [unhide HN]; rfl, by rw [unhide HN]; exact ownF_mono (unhide HOX) (by omega), ((unhide HB4).trans ((unhide HX).mono (by omega))).drew⟩
end Go.Proofs.YtakalfckhailjaaGreat

