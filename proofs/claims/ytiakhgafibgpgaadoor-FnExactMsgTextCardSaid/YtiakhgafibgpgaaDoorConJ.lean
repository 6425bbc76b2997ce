/- Members by the program: when they are right. -/
import Derived.Test.YtiakhgafibgpgaaDoorConI
import Derived.Deep.RegionWith
namespace Go.Proofs.YtiakhgafibgpgaaDoor
open Go.RowKit Plain
set_option linter.unusedVariables false

set_option maxRecDepth 10000 in
set_option maxHeartbeats 1000000 in
theorem tooMany_calls (x y : Nat) (w : World) (hx : x < 18446744073709551616) (hy : y < 18446744073709551616) :
    Calls Tryd.prog 59 #[.agg #[.int .u64 x, .int .u64 y]] w fun e w' => e = .returned (.bool (decide (7 < popN 64 x) || decide (7 < popN 64 y))) ∧ Below w.heap.size w w' := by
  have HX := hide (fun W => size_calls x W hx)
  have HY := hide (fun W => size_calls y W hy)
  generalize popN 64 x = a at HX
  generalize popN 64 y = b at HY
  have HB := hide (bel1 w (.cells #[.int .u64 x, .int .u64 y] 89))
  by_cases h1 : (7 : Int) < (a : Int)
  · rw [decide_eq_true (show 7 < a by omega)]
    go_enter Tryd.func59, Tryd.ntmps59
    go_wp2_with fail
    refine (unhide HX _).mono ?_
    rintro e w1 ⟨rfl, rfl⟩
    go_wp2_with fail
    go_ret
    exact ⟨rfl, unhide HB⟩
  · rw [decide_eq_false (show ¬ 7 < a by omega)]
    by_cases h2 : (7 : Int) < (b : Int)
    · rw [decide_eq_true (show 7 < b by omega)]
      go_enter Tryd.func59, Tryd.ntmps59
      go_wp2_with fail
      refine (unhide HX _).mono ?_
      rintro e w1 ⟨rfl, rfl⟩
      go_wp2_with fail
      refine (unhide HY _).mono ?_
      rintro e w1 ⟨rfl, rfl⟩
      go_wp2_with fail
      go_ret
      exact ⟨rfl, unhide HB⟩
    · rw [decide_eq_false (show ¬ 7 < b by omega)]
      have h3 : decide ((7 : Int) < (b : Int)) = false := decide_eq_false h2
      have h4 : decide ((7 : Int) < (a : Int)) = false := decide_eq_false h1
      go_enter Tryd.func59, Tryd.ntmps59
      go_wp2_with fail
      refine (unhide HX _).mono ?_
      rintro e w1 ⟨rfl, rfl⟩
      go_wp2_with fail
      refine (unhide HY _).mono ?_
      rintro e w1 ⟨rfl, rfl⟩
      go_wp2_with fail
      go_ret
      exact ⟨rfl, unhide HB⟩

namespace Plain
def preB (v l : List Int) : Bool := (okIds 0 v && okIds 0 l) && (decide (1 ≤ v.length) && disjB v l)
def councV (v l : List Int) : Value := if preB v l = true then .tuple #[.agg #[.int .u64 (setN v : Nat), .int .u64 (setN l : Nat)], .bool (decide (v.length ≤ 7) && decide (l.length ≤ 7))] else .tuple #[.agg #[.int .u64 0, .int .u64 0], .bool false]
theorem councV_no {v l : List Int} (h : preB v l = false) : councV v l = .tuple #[.agg #[.int .u64 0, .int .u64 0], .bool false] := by unfold councV; rw [h]; rfl
theorem councV_yes {v l : List Int} (h : preB v l = true) : councV v l = .tuple #[.agg #[.int .u64 (setN v : Nat), .int .u64 (setN l : Nat)], .bool (decide (v.length ≤ 7) && decide (l.length ≤ 7))] := by unfold councV; rw [if_pos h]
theorem confB_pre (v l : List Int) : confB v l = (preB v l && (decide (v.length ≤ 7) && decide (l.length ≤ 7))) := by unfold confB preB; simp only [Bool.and_assoc]
/-- What is told of members: their sets, where they are right. -/
theorem councV_is (v l : List Int) : ∃ V L : Nat, councV v l = .tuple #[.agg #[.int .u64 V, .int .u64 L], .bool (confB v l)] ∧ (confB v l = true → V = setN v ∧ L = setN l) := by
  rw [confB_pre]
  cases h : preB v l with
  | false => exact ⟨0, 0, councV_no h, fun h => by simp at h⟩
  | true => exact ⟨setN v, setN l, councV_yes h, fun _ => ⟨rfl, rfl⟩⟩
/-- Members in memory. -/
structure ConfAt (W : World) (av : Option Addr) (nv : Nat) (v : List Int) (al : Option Addr) (nl : Nat) (l : List Int) : Prop where
  v : IntsAt W av nv v
  l : IntsAt W al nl l
theorem ConfAt.below {W W' : World} {av : Option Addr} {nv : Nat} {v : List Int} {al : Option Addr} {nl : Nat} {l : List Int} (h : ConfAt W av nv v al nl l) (hb : Below W.heap.size W W') : ConfAt W' av nv v al nl l := ⟨h.v.below hb, h.l.below hb⟩
end Plain

set_option maxRecDepth 10000 in
set_option maxHeartbeats 4000000 in
theorem councilOf_calls (av : Option Addr) (nv cv : Nat) (v : List Int) (al : Option Addr) (nl cl : Nat) (l : List Int) (w : World) (h : ConfAt w av nv v al nl l) :
    Calls Tryd.prog 54 #[.agg #[.slice av nv cv, .slice al nl cl]] w fun e w' => e = .returned (councV v l) ∧ Below w.heap.size w w' := by
  obtain ⟨W0, hW0⟩ : ∃ W0, W0 = (w.alloc (.cells #[.slice av nv cv, .slice al nl cl] 31)).alloc (.cells #[.int .u64 0, .int .u64 0] 89) := ⟨_, rfl⟩
  have hb0 : Below w.heap.size w W0 := by rw [hW0]; exact belOn (bel1 _ _) (bel1 _ _)
  have hs0 : W0.heap.size = w.heap.size + 2 := by rw [hW0]; simp
  have c0 : W0.cell? ⟨w.heap.size, 0, none⟩ = some (.slice av nv cv) := by rw [hW0]; simp [go_sem]
  have c1 : W0.cell? ⟨w.heap.size, 1, none⟩ = some (.slice al nl cl) := by rw [hW0]; simp [go_sem]
  have r0 : W0.cell? ⟨w.heap.size + 1, 0, none⟩ = some (.int .u64 0) ∧ W0.frozen? ⟨w.heap.size + 1, 0, none⟩ = false := by rw [hW0, show w.heap.size + 1 = (w.alloc (.cells #[.slice av nv cv, .slice al nl cl] 31)).heap.size from by simp]; simp [go_sem]
  have r1 : W0.cell? ⟨w.heap.size + 1, 1, none⟩ = some (.int .u64 0) ∧ W0.frozen? ⟨w.heap.size + 1, 1, none⟩ = false := by rw [hW0, show w.heap.size + 1 = (w.alloc (.cells #[.slice av nv cv, .slice al nl cl] 31)).heap.size from by simp]; simp [go_sem]
  have HV := hide (risingSet_calls av nv cv v W0 (h.v.below hb0))
  have HL := hide (risingSet_calls al nl cl l W0 (h.l.below hb0))
  have HB0 := hide hb0
  have HW0 := hide hW0.symm
  have HLEN := hide h.v.len
  obtain ⟨r0, f0⟩ := r0
  obtain ⟨r1, f1⟩ := r1
  clear hb0 hW0 h
  have fin : ∀ u0 u1 : Value, Below w.heap.size w ((W0.setCell ⟨w.heap.size + 1, 0, none⟩ u0).setCell ⟨w.heap.size + 1, 1, none⟩ u1) := fun u0 u1 => ((unhide HB0).setCell (show w.heap.size ≤ w.heap.size + 1 by omega) _).setCell (show w.heap.size ≤ w.heap.size + 1 by omega) _
  have FIN := hide fin
  have HS0 := hide hs0
  clear fin hs0
  cases hv : okIds 0 v with
  | false =>
    have HX := hide (show preB v l = false from by unfold preB; rw [hv]; rfl)
    rw [risV_no hv] at HV
    obtain ⟨V, b, hV⟩ : ∃ V b, risV l = .tuple #[.int .u64 V, .bool b] := ⟨_, _, rfl⟩
    rw [hV] at HL
    clear hv hV
    go_enter Tryd.func54, Tryd.ntmps54
    go_wp2_with fail
    rw [unhide HW0]
    refine (unhide HV).mono ?_
    rintro e w1 ⟨rfl, rfl⟩
    go_wp2_with fail
    refine (unhide HL).mono ?_
    rintro e w1 ⟨rfl, rfl⟩
    go_wp2_with fail
    exact bodyPost_ret (v := .tuple #[.agg #[.int .u64 0, .int .u64 0], .bool false]) (by simp [results, Tryd.results54, go_sem, r0, r1]) rfl ⟨by rw [councV_no (unhide HX)], unhide FIN _ _⟩
  | true =>
   cases hl : okIds 0 l with
   | false =>
    have HX := hide (show preB v l = false from by unfold preB; rw [hv, hl]; rfl)
    rw [risV_yes hv] at HV
    rw [risV_no hl] at HL
    clear hv hl
    generalize setN v = V at HV
    go_enter Tryd.func54, Tryd.ntmps54
    go_wp2_with fail
    rw [unhide HW0]
    refine (unhide HV).mono ?_
    rintro e w1 ⟨rfl, rfl⟩
    go_wp2_with fail
    refine (unhide HL).mono ?_
    rintro e w1 ⟨rfl, rfl⟩
    go_wp2_with fail
    exact bodyPost_ret (v := .tuple #[.agg #[.int .u64 0, .int .u64 0], .bool false]) (by simp [results, Tryd.results54, go_sem, r0, r1]) rfl ⟨by rw [councV_no (unhide HX)], unhide FIN _ _⟩
   | true =>
    rw [risV_yes hv] at HV
    rw [risV_yes hl] at HL
    have hz := set_zero v hv
    have hd := set_disj v l hv hl
    have pv := pop_set v hv
    have pl := pop_set l hl
    have bv := setN_lt v
    have bl := setN_lt l
    by_cases h0 : setN v = 0
    · have HX := hide (show preB v l = false from by unfold preB; rw [decide_eq_false (show ¬ 1 ≤ v.length by have := hz.1 h0; omega)]; simp)
      rw [h0] at HV
      clear hv hl hz hd pv pl bv h0
      generalize setN l = L at HL bl
      go_enter Tryd.func54, Tryd.ntmps54
      go_wp2_with fail
      rw [unhide HW0]
      refine (unhide HV).mono ?_
      rintro e w1 ⟨rfl, rfl⟩
      go_wp2_with fail
      refine (unhide HL).mono ?_
      rintro e w1 ⟨rfl, rfl⟩
      go_wp2_with fail
      exact bodyPost_ret (v := .tuple #[.agg #[.int .u64 0, .int .u64 0], .bool false]) (by simp [results, Tryd.results54, go_sem, r0, r1]) rfl ⟨by rw [councV_no (unhide HX)], unhide FIN _ _⟩
    · have hand : bits .and .u64 (setN v : Int) (setN l : Int) = ((setN v &&& setN l : Nat) : Int) := u64_and_nat _ _ (by omega) (by omega)
      have h0z : ((setN v : Int) == 0) = false := by rw [beq_eq_false_iff_ne]; omega
      by_cases h1 : setN v &&& setN l = 0
      · have hdj := hd.1 h1
        have h1v : 1 ≤ v.length := by
          rcases Nat.eq_zero_or_pos v.length with h | h
          · exact absurd (hz.2 h) h0
          · exact h
        have HX := hide (show preB v l = true from by unfold preB; rw [hv, hl, hdj, decide_eq_true h1v]; rfl)
        rw [h1] at hand
        have HT := hide (fun W => tooMany_calls (setN v) (setN l) W (by omega) (by omega))
        rw [pv, pl] at HT
        clear hv hl hz hd pv pl h1 hdj h1v h0
        have hneg : (!(decide (7 < v.length) || decide (7 < l.length))) = (decide (v.length ≤ 7) && decide (l.length ≤ 7)) := by
          by_cases q1 : v.length ≤ 7 <;> by_cases q2 : l.length ≤ 7 <;> simp [q1, q2] <;> omega
        generalize (decide (7 < v.length) || decide (7 < l.length)) = T at HT hneg
        have HY := hide ((councV_yes (unhide HX)).trans (by rw [← hneg]))
        generalize setN v = V at HV hand HT HY bv h0z
        generalize setN l = L at HL hand HT HY bl
        clear hneg HX
        obtain ⟨W1, hW1⟩ : ∃ W1, W1 = W0.alloc (.cells #[.int .u64 V, .int .u64 L] 89) := ⟨_, rfl⟩
        have hb1 : Below W0.heap.size W0 W1 := by rw [hW1]; exact bel1 _ _
        have hs1 : W0.heap.size < W1.heap.size := by rw [hW1]; simp
        have m0 : W1.cell? ⟨W0.heap.size, 0, none⟩ = some (.int .u64 V) := by rw [hW1]; simp [go_sem]
        have m1 : W1.cell? ⟨W0.heap.size, 1, none⟩ = some (.int .u64 L) := by rw [hW1]; simp [go_sem]
        have hz1 : w.heap.size + 1 < W0.heap.size := by have := unhide HS0; omega
        have x0 := bcl hb1 hz1 r0
        have x1 := bcl hb1 hz1 r1
        have y0 := (hb1.frozen (p := ⟨w.heap.size + 1, 0, none⟩) hz1).trans f0
        have y1 := (hb1.frozen (p := ⟨w.heap.size + 1, 1, none⟩) hz1).trans f1
        have hz2 : w.heap.size + 1 < W1.heap.size := by omega
        have HB1 := hide (belOn (unhide HB0) hb1)
        have HW1 := hide hW1.symm
        clear hb1 hW1
        go_enter Tryd.func54, Tryd.ntmps54
        go_wp2_with fail
        rw [unhide HW0]
        refine (unhide HV).mono ?_
        rintro e w1 ⟨rfl, rfl⟩
        go_wp2_with fail
        refine (unhide HL).mono ?_
        rintro e w1 ⟨rfl, rfl⟩
        go_wp2_with fail
        rw [unhide HW1]
        clear r0 r1 f0 f1
        go_region_with (go_at_call 59; refine (unhide HT _).mono ?_; rintro e w2 ⟨rfl, hb2⟩; have s0 := bcl (bOfDrew hb2) hz2 x0; have s1 := bcl (bOfDrew hb2) hz2 x1; have t0 := ((bOfDrew hb2).frozen (p := ⟨w.heap.size + 1, 0, none⟩) hz2).trans y0; have t1 := ((bOfDrew hb2).frozen (p := ⟨w.heap.size + 1, 1, none⟩) hz2).trans y1; have u0 := bcl (bOfDrew hb2) hs1 m0; have u1 := bcl (bOfDrew hb2) hs1 m1)
        all_goals (try go_wp2_with fail)
        all_goals exact bodyPost_ret (v := .tuple #[.agg #[.int .u64 V, .int .u64 L], .bool !T]) (by simp [results, Tryd.results54, go_sem, s0, s1]) rfl ⟨by rw [unhide HY], ((belOn (unhide HB1) (bOfDrew hb2)).setCell (show w.heap.size ≤ w.heap.size + 1 by omega) _).setCell (show w.heap.size ≤ w.heap.size + 1 by omega) _⟩
      · have HX := hide (show preB v l = false from by
          unfold preB
          cases hq : disjB v l with
          | false => simp
          | true => exact absurd (hd.2 hq) h1)
        have h1z : (((setN v &&& setN l : Nat) : Int) != 0) = true := by rw [bne_iff_ne]; omega
        clear hv hl hz hd pv pl h1 h0
        generalize setN v &&& setN l = D at hand h1z
        generalize setN v = V at HV hand bv h0z
        generalize setN l = L at HL hand bl
        go_enter Tryd.func54, Tryd.ntmps54
        go_wp2_with fail
        rw [unhide HW0]
        refine (unhide HV).mono ?_
        rintro e w1 ⟨rfl, rfl⟩
        go_wp2_with fail
        refine (unhide HL).mono ?_
        rintro e w1 ⟨rfl, rfl⟩
        go_wp2_with fail
        exact bodyPost_ret (v := .tuple #[.agg #[.int .u64 0, .int .u64 0], .bool false]) (by simp [results, Tryd.results54, go_sem, r0, r1]) rfl ⟨by rw [councV_no (unhide HX)], unhide FIN _ _⟩
end Go.Proofs.YtiakhgafibgpgaaDoor
