/- Journals as plain mathematics; what may stand behind others in a log. -/
import Derived.Test.YtgbcaoomemfofaaEntK
import Derived.Test.YtgbcaoomemfofaaEntR
namespace Go.Proofs.Ytgbcaoomemfofaa
open Go.RowKit Plain
set_option linter.unusedVariables false

namespace Plain
def numB (n : Int) : Bool := decide (0 ≤ n) && decide (n ≤ 1000000000000)
def folB (term p : Int) (e : Ent) : Bool := entB e.term e.kind e.body && (decide (e.term ≤ term) && decide (p ≤ e.term))
def okE (term : Int) : Int → List Ent → Bool
  | _, [] => true
  | p, e :: l => folB term p e && okE term e.term l
def prevT (es : List Ent) : Nat → Int
  | 0 => 0
  | k + 1 => ((es[k]?).map fun e => e.term).getD 0
theorem okE_step (term : Int) (es : List Ent) (k : Nat) (h : k < es.length) : okE term (prevT es k) (es.drop k) = (folB term (prevT es k) es[k] && okE term (prevT es (k + 1)) (es.drop (k + 1))) := by
  rw [List.drop_eq_getElem_cons h, okE]
  congr 2
  rw [prevT, List.getElem?_eq_getElem h]
  rfl
def jouB (t v : Int) (es : List Ent) : Bool := (numB t && numB v) && (decide (es.length ≤ 500) && okE t 0 es)
end Plain

set_option maxRecDepth 10000 in
theorem numberOk_calls (n : Int) (w : World) : Calls Try.prog 123 #[.int .i64 n] w fun e w' => e = .returned (.bool (numB n)) ∧ w = w' := by
  obtain ⟨R, hR⟩ : ∃ R, numB n = R := ⟨_, rfl⟩
  rw [hR]
  unfold numB at hR
  have HR := hide hR
  clear hR
  go_enter Try.func123, Try.ntmps123
  go_wp2
  all_goals go_ret
  all_goals refine ⟨?_, rfl⟩
  all_goals (show Ending.returned (.bool _) = Ending.returned (.bool _); rw [← unhide HR]; congr 2; rw [Bool.eq_iff_iff]; simp; try omega)

set_option maxRecDepth 10000 in
set_option maxHeartbeats 2000000 in
theorem follows_calls (tm kd : Int) (bd : ByteArray) (a : Option Addr) (k c : Nat) (es : List Ent) (term : Int) (w : World) (hk : k ≤ es.length) (hk2 : k ≤ 1000000) (hb : bd.size ≤ 1000000000000) (h : RowAt entE w a es) :
    Calls Try.prog 124 #[.agg #[.int .i64 tm, .int .i64 kd, .string bd], .slice a k c, .int .i64 term] w fun e w' => e = .returned (.bool (decide (k < 500) && folB term (prevT es k) ⟨tm, kd, bd⟩)) ∧ Below w.heap.size w w' := by
  obtain ⟨W0, hW0⟩ : ∃ W0, W0 = w.alloc (.cells #[.int .i64 tm, .int .i64 kd, .string bd] 167) := ⟨_, rfl⟩
  have hb0 : Below w.heap.size w W0 := by rw [hW0]; exact bel1 _ _
  have hlt : w.heap.size < W0.heap.size := by rw [hW0]; simp
  have c0 : W0.cell? ⟨w.heap.size, 0, none⟩ = some (.int .i64 tm) := by rw [hW0]; simp [go_sem]
  have c1 : W0.cell? ⟨w.heap.size, 1, none⟩ = some (.int .i64 kd) := by rw [hW0]; simp [go_sem]
  have c2 : W0.cell? ⟨w.heap.size, 2, none⟩ = some (.string bd) := by rw [hW0]; simp [go_sem]
  have HC := hide (fun (W : World) (hW : Below W0.heap.size W0 W) => And.intro (bcl hW hlt c0) (And.intro (bcl hW hlt c1) (bcl hW hlt c2)))
  have HFIN := hide (fun (W : World) (hW : Below W0.heap.size W0 W) => belOn hb0 hW)
  have HROW := hide (fun (W : World) (hW : Below W0.heap.size W0 W) => h.below (belOn hb0 hW))
  have HW0 := hide hW0.symm
  clear hb0 hlt c0 c1 c2 hW0 h
  by_cases h5 : k < 500
  · rw [decide_eq_true h5, Bool.true_and]
    unfold folB
    simp only
    have g5 : ¬ (500 : Int) ≤ (k : Int) := by omega
    cases he : entB tm kd bd with
    | false =>
      have HE := hide he
      clear he
      go_enter Try.func124, Try.ntmps124
      go_wp2_with fail
      rw [unhide HW0]
      refine (entryOk_calls tm kd bd W0 hb).mono ?_
      rintro e w1 ⟨rfl, hb1⟩
      rw [unhide HE]
      have HB1 := hide (unhide HFIN _ hb1)
      clear hb1
      go_wp2_with fail
      go_ret
      exact ⟨rfl, unhide HB1⟩
    | true =>
      have HE := hide he
      have ht1 := (entB_yes he).1
      clear he
      by_cases ht : tm ≤ term
      · rw [decide_eq_true ht]
        rcases Nat.eq_zero_or_pos k with hk0 | hk0
        · subst hk0
          rw [decide_eq_true (show prevT es 0 ≤ tm from by show (0 : Int) ≤ tm; omega)]
          go_enter Try.func124, Try.ntmps124
          go_wp2_with fail
          rw [unhide HW0]
          refine (entryOk_calls tm kd bd W0 hb).mono ?_
          rintro e w1 ⟨rfl, hb1⟩
          rw [unhide HE]
          have HB1 := hide (unhide HFIN _ hb1)
          obtain ⟨q0, q1, q2⟩ := unhide HC _ hb1
          clear hb1
          go_wp2_with fail
          go_quiet (fail)
          all_goals (try go_wp2_with fail)
          all_goals (try go_ret)
          all_goals exact ⟨rfl, belN (unhide HB1) _⟩
        · obtain ⟨j, hkj⟩ : ∃ j, k = j + 1 := ⟨k - 1, by omega⟩
          have hj : j < es.length := by omega
          have hp : prevT es k = es[j].term := by rw [hkj, prevT, List.getElem?_eq_getElem hj]; rfl
          rw [hp]
          have HCD := hide (fun (W : World) (hW : Below W0.heap.size W0 W) => (unhide HROW _ hW).ex j hj)
          generalize es[j] = p at HCD
          obtain ⟨pt, pk, pb⟩ := p
          simp only at HCD ⊢
          have j0 : (0 : Int) ≤ (j : Int) := by omega
          have j1 : (j : Int) < (k : Int) := by omega
          have jn : ((k : Int) == 0) = false := by simp; omega
          have jw : IntKind.i64.wrap ((k : Int) - 1) = (j : Int) := by rw [IntKind.wrap_i64]; omega
          clear hp hj HROW hk hkj
          go_enter Try.func124, Try.ntmps124
          go_wp2_with fail
          rw [unhide HW0]
          refine (entryOk_calls tm kd bd W0 hb).mono ?_
          rintro e w1 ⟨rfl, hb1⟩
          rw [unhide HE]
          have HB1 := hide (unhide HFIN _ hb1)
          obtain ⟨q0, q1, q2⟩ := unhide HC _ hb1
          obtain ⟨g, e1, l1, p0, p1, p2⟩ := unhide HCD _ hb1
          subst e1
          clear hb1
          go_wp2_with fail
          go_quiet (fail)
          all_goals (try go_wp2_with fail)
          all_goals (try go_ret)
          all_goals exact ⟨rfl, belN (unhide HB1) _⟩
      · rw [decide_eq_false ht]
        go_enter Try.func124, Try.ntmps124
        go_wp2_with fail
        rw [unhide HW0]
        refine (entryOk_calls tm kd bd W0 hb).mono ?_
        rintro e w1 ⟨rfl, hb1⟩
        rw [unhide HE]
        have HB1 := hide (unhide HFIN _ hb1)
        obtain ⟨q0, q1, q2⟩ := unhide HC _ hb1
        clear hb1
        go_wp2_with fail
        go_ret
        exact ⟨rfl, unhide HB1⟩
  · rw [decide_eq_false h5, Bool.false_and]
    have g5 : (500 : Int) ≤ (k : Int) := by omega
    go_enter Try.func124, Try.ntmps124
    go_wp2_with fail
    rw [unhide HW0]
    go_ret
    exact ⟨rfl, unhide HFIN _ (Below.refl _ _)⟩
end Go.Proofs.Ytgbcaoomemfofaa
