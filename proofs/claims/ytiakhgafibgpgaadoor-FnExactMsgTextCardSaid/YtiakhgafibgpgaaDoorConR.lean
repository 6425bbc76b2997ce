/- Members, as the exact laws copy, measure and compare them. -/
import Derived.Test.YtiakhgafibgpgaaDoorConJ
namespace Go.Proofs.YtiakhgafibgpgaaDoor
open Go.RowKit Plain
set_option linter.unusedVariables false

namespace Plain
/-- Members among the arguments. -/
structure ConfArg (W : World) (av : Option Addr) (nv cv : Nat) (v : List Int) (al : Option Addr) (nl cl : Nat) (l : List Int) : Prop where
  v : ArgRow 1 intL goodI W av nv cv v
  l : ArgRow 1 intL goodI W al nl cl l
theorem ConfArg.below {W W' : World} {av : Option Addr} {nv cv : Nat} {v : List Int} {al : Option Addr} {nl cl : Nat} {l : List Int} (h : ConfArg W av nv cv v al nl cl l) (hb : Below W.heap.size W W') : ConfArg W' av nv cv v al nl cl l :=
  ⟨⟨h.v.len, h.v.le, h.v.good, h.v.row.below hb⟩, ⟨h.l.len, h.l.le, h.l.good, h.l.row.below hb⟩⟩
end Plain
theorem OwnR.oth {α : Type} {e : Elem α} {W W' : World} {B : Nat} {v : Value} {xs : List α} (h : OwnR e W B v xs) (hh : ∀ g, v.ownBlock = some g → W'.heap[g]? = W.heap[g]?) : OwnR e W' B v xs := by
  refine ⟨h.1, ?_⟩
  rcases h.2 with ⟨a, c⟩ | ⟨g, cap, cur, rfl, c, d, r⟩
  · exact .inl ⟨a, c⟩
  · exact .inr ⟨g, cap, cur, rfl, c, (hh g rfl).trans d, r⟩
theorem Plain.own_blkI {g g' n c : Nat} (h : (Value.slice (some ⟨g, 0, none⟩) n c).ownBlock = some g') : g = g' := Option.some.inj h
theorem Plain.heap_setI {W : World} {b i g : Nat} {u : Value} (h : b ≠ g) : (W.setCell ⟨b, i, none⟩ u).heap[g]? = W.heap[g]? := Below.heap_setCell _ _ _ _ (fun e => h (by simp at e; exact e.symm))
/-- What toConf leaves. -/
def ToConf (nv nl : Nat) (v l : List Int) (w : World) (e : Ending) (w' : World) : Prop := ∃ g1 g2, e = .returned (.agg #[.slice (some ⟨g1, 0, none⟩) nv nv, .slice (some ⟨g2, 0, none⟩) nl nl]) ∧ g1 < g2 ∧ OwnR i64E w' w.heap.size (.slice (some ⟨g1, 0, none⟩) nv nv) v ∧ OwnR i64E w' w.heap.size (.slice (some ⟨g2, 0, none⟩) nl nl) l ∧ Below w.heap.size w w'

set_option maxRecDepth 10000 in
set_option maxHeartbeats 2000000 in
theorem toConf_calls (av : Option Addr) (nv cv : Nat) (v : List Int) (al : Option Addr) (nl cl : Nat) (l : List Int) (w : World) (h : ConfArg w av nv cv v al nl cl l) (hv : nv ≤ 1048576) (hl : nl ≤ 1048576) :
    Calls Tryd.prog 17 #[.agg #[.slice av nv cv, .slice al nl cl]] w (ToConf nv nl v l w) := by
  obtain ⟨Wa, hWa⟩ : ∃ Wa, Wa = w.alloc (.cells #[.slice av nv cv, .slice al nl cl] 25) := ⟨_, rfl⟩
  obtain ⟨W3, hW3⟩ : ∃ W3, W3 = (Wa.alloc (.cells #[.slice none 0 0, .slice none 0 0] 31)).alloc (.cells #[.slice none 0 0, .slice none 0 0] 31) := ⟨_, rfl⟩
  have hba : Below w.heap.size w Wa := by rw [hWa]; exact bel1 _ _
  have hsa : Wa.heap.size = w.heap.size + 1 := by rw [hWa]; simp
  have hs3 : W3.heap.size = w.heap.size + 3 := by rw [hW3]; simp [hsa]
  have hb3 : Below Wa.heap.size Wa W3 := by rw [hW3]; exact belOn (bel1 _ _) (bel1 _ _)
  have c0 : Wa.cell? ⟨w.heap.size, 0, none⟩ = some (.slice av nv cv) := by rw [hWa]; simp [go_sem]
  have c1 : Wa.cell? ⟨w.heap.size, 1, none⟩ = some (.slice al nl cl) := by rw [hWa]; simp [go_sem]
  have hr : ∀ i, i < 2 → W3.cell? ⟨w.heap.size + 1, i, none⟩ = some (.slice none 0 0) ∧ W3.frozen? ⟨w.heap.size + 1, i, none⟩ = false := by
    intro i hi
    rw [hW3, ← hsa]
    rcases i with _ | _ | i
    all_goals first | omega | simp [go_sem]
  have hu : ∀ i, i < 2 → W3.cell? ⟨w.heap.size + 2, i, none⟩ = some (.slice none 0 0) ∧ W3.frozen? ⟨w.heap.size + 2, i, none⟩ = false := by
    intro i hi
    rw [hW3, show w.heap.size + 2 = Wa.heap.size + 1 by omega]
    rcases i with _ | _ | i
    all_goals first | omega | simp [go_sem]
  have HW3 := hide (hW3.trans (by rw [hWa])).symm
  have d1 := bcl hb3 (show w.heap.size < Wa.heap.size by omega) c1
  have hbw := belOn hba hb3
  have HBW := hide hbw
  have H := hide h
  have HT := hide (toInt64S_calls av nv cv v W3 h.v.len hv (h.v.row.below hbw))
  have HL := hide (fun (W : World) (hW : Below (w.heap.size + 2) W3 W) => toInt64S_calls al nl cl l W h.l.len hl (h.l.row.below (hbw.trans (hW.mono (show w.heap.size ≤ w.heap.size + 2 by omega)))))
  obtain ⟨r0, r0f⟩ := hr 0 (by decide)
  obtain ⟨r1, r1f⟩ := hr 1 (by decide)
  obtain ⟨u0, u0f⟩ := hu 0 (by decide)
  obtain ⟨u1, u1f⟩ := hu 1 (by decide)
  clear hr hu hba hb3 c0 c1 hWa hW3 hsa h hbw
  have l0 : w.heap.size < W3.heap.size := by omega
  have l1 : w.heap.size + 1 < W3.heap.size := by omega
  have l2 : w.heap.size + 2 < W3.heap.size := by omega
  go_enter Tryd.func17, Tryd.ntmps17
  go_wp2_with fail
  rw [unhide HW3]
  refine (unhide HT).mono ?_
  rintro e w4 ⟨g1, rfl, hO4, hb4⟩
  have x1 := bcl hb4 l0 d1
  have x2 := bcl hb4 l1 r0
  have x3 := bcl hb4 l1 r1
  have x4 := bcl hb4 l2 u0
  have x5 := bcl hb4 l2 u1
  have y2 := (hb4.frozen (p := ⟨w.heap.size + 1, 0, none⟩) l1).trans r0f
  have y3 := (hb4.frozen (p := ⟨w.heap.size + 1, 1, none⟩) l1).trans r1f
  have y4 := (hb4.frozen (p := ⟨w.heap.size + 2, 0, none⟩) l2).trans u0f
  have y5 := (hb4.frozen (p := ⟨w.heap.size + 2, 1, none⟩) l2).trans u1f
  have hg1 := World.ownsRow.lt hO4 g1 rfl
  have hz4 := hb4.size
  obtain ⟨W5, hW5⟩ : ∃ W5, W5 = w4.setCell ⟨w.heap.size + 2, 0, none⟩ (.slice (some ⟨g1, 0, none⟩) nv nv) := ⟨_, rfl⟩
  have hs5 : W5.heap.size = w4.heap.size := by rw [hW5]; simp
  have z1 : W5.cell? ⟨w.heap.size, 1, none⟩ = some (.slice al nl cl) := by rw [hW5]; exact (World.cell?_setCell_other _ _ _ _ (by simp)).trans x1
  have z2 : W5.cell? ⟨w.heap.size + 1, 0, none⟩ = some (.slice none 0 0) := by rw [hW5]; exact (World.cell?_setCell_other _ _ _ _ (by simp)).trans x2
  have z3 : W5.cell? ⟨w.heap.size + 1, 1, none⟩ = some (.slice none 0 0) := by rw [hW5]; exact (World.cell?_setCell_other _ _ _ _ (by simp)).trans x3
  have z4 : W5.cell? ⟨w.heap.size + 2, 0, none⟩ = some (.slice (some ⟨g1, 0, none⟩) nv nv) := by rw [hW5]; exact World.cell?_setCell_same' _ _ _ (by rw [x4]; rfl)
  have z5 : W5.cell? ⟨w.heap.size + 2, 1, none⟩ = some (.slice none 0 0) := by rw [hW5]; exact (World.cell?_setCell_other _ _ _ _ (by simp)).trans x5
  have zf2 : W5.frozen? ⟨w.heap.size + 1, 0, none⟩ = false := by rw [hW5]; simpa using y2
  have zf3 : W5.frozen? ⟨w.heap.size + 1, 1, none⟩ = false := by rw [hW5]; simpa using y3
  have zf5 : W5.frozen? ⟨w.heap.size + 2, 1, none⟩ = false := by rw [hW5]; simpa using y5
  have HO5 := hide (show OwnR i64E W5 W3.heap.size (.slice (some ⟨g1, 0, none⟩) nv nv) v from by rw [hW5]; exact hO4.oth (fun g hg => by obtain rfl := own_blkI hg; exact heap_setI (by omega)))
  have HB5 := hide (show Below (w.heap.size + 2) W3 W5 from by rw [hW5]; exact (hb4.mono (show w.heap.size + 2 ≤ W3.heap.size by omega)).setCell (Nat.le_refl _) _)
  have HW5 := hide hW5.symm
  clear hW5 hO4 hb4 x2 x3
  go_wp2_with fail
  rw [unhide HW5]
  clear x1 x4 x5 y2 y3 y4 y5
  refine (unhide HL W5 (unhide HB5)).mono ?_
  rintro e w6 ⟨g2, rfl, hO6, hb6⟩
  have m0 : w.heap.size + 2 < W5.heap.size := by omega
  have m1 : w.heap.size + 1 < W5.heap.size := by omega
  have a2 := bcl hb6 m1 z2
  have a3 := bcl hb6 m1 z3
  have a4 := bcl hb6 m0 z4
  have a5 := bcl hb6 m0 z5
  have af2 := (hb6.frozen (p := ⟨w.heap.size + 1, 0, none⟩) m1).trans zf2
  have af3 := (hb6.frozen (p := ⟨w.heap.size + 1, 1, none⟩) m1).trans zf3
  have af5 := (hb6.frozen (p := ⟨w.heap.size + 2, 1, none⟩) m0).trans zf5
  have hg2 := World.ownsRow.lt hO6 g2 rfl
  have HO7 := hide ((unhide HO5).keep hb6)
  have HO6 := hide hO6
  have HB6 := hide (((unhide HBW).trans ((unhide HB5).mono (show w.heap.size ≤ w.heap.size + 2 by omega))).trans (hb6.mono (show w.heap.size ≤ W5.heap.size by omega)))
  clear hO6 hb6 z1 z2 z3 z4 z5 zf2 zf3 zf5
  go_wp2_with fail
  refine bodyPost_ret (v := .agg #[.slice (some ⟨g1, 0, none⟩) nv nv, .slice (some ⟨g2, 0, none⟩) nl nl]) (by simp [results, Tryd.results17, go_sem, a2, a3]) rfl ?_
  refine ⟨g1, g2, rfl, by omega, ((unhide HO7).oth ?_).le (by omega), ((unhide HO6).oth ?_).le (by omega), ?_⟩
  · intro g' hg'; obtain rfl := own_blkI hg'; rw [heap_setI (by omega), heap_setI (by omega), heap_setI (by omega)]
  · intro g' hg'; obtain rfl := own_blkI hg'; rw [heap_setI (by omega), heap_setI (by omega), heap_setI (by omega)]
  · exact (((unhide HB6).setCell (show w.heap.size ≤ w.heap.size + 2 by omega) _).setCell (show w.heap.size ≤ w.heap.size + 1 by omega) _).setCell (show w.heap.size ≤ w.heap.size + 1 by omega) _

set_option maxRecDepth 10000 in
set_option maxHeartbeats 1000000 in
theorem szConf_calls (av : Option Addr) (nv cv : Nat) (al : Option Addr) (nl cl : Nat) (left : Nat) (w : World) (hv : nv ≤ 9223372036854775807) (hl2 : nl ≤ 9223372036854775807) (hl : left ≤ 10000000) :
    Calls Tryd.prog 10 #[.agg #[.slice av nv cv, .slice al nl cl], .int .i64 left] w fun e w' => e = .returned (.int .i64 (purse left (nv + nl))) ∧ Below w.heap.size w w' := by
  have HB0 := hide (bel1 w (.cells #[.slice av nv cv, .slice al nl cl] 25))
  have H1 := hide (fun (W : World) => szInt64S_calls av nv cv left W hv hl)
  by_cases h1 : left < nv
  · rw [purse_no (show (left : Int) < (nv : Int) by omega)] at H1
    rw [purse_no (show (left : Int) < ((nv + nl : Nat) : Int) by omega)]
    go_enter Tryd.func10, Tryd.ntmps10
    go_wp2_with fail
    refine (unhide H1 _).mono ?_
    rintro e w1 ⟨rfl, rfl⟩
    go_wp2_with fail
    go_ret
    exact ⟨rfl, unhide HB0⟩
  · obtain ⟨r, hr⟩ : ∃ r : Nat, (left : Int) - (nv : Int) = (r : Int) := ⟨left - nv, by omega⟩
    rw [purse_step (show ¬ (left : Int) < (nv : Int) by omega), hr]
    rw [purse_yes (show ¬ (left : Int) < (nv : Int) by omega), hr] at H1
    have H2 := hide (fun (W : World) => szInt64S_calls al nl cl r W hl2 (by omega))
    by_cases h2 : r < nl
    · rw [purse_no (show (r : Int) < (nl : Int) by omega)] at H2 ⊢
      go_enter Tryd.func10, Tryd.ntmps10
      go_wp2_with fail
      refine (unhide H1 _).mono ?_
      rintro e w1 ⟨rfl, rfl⟩
      go_wp2_with fail
      refine (unhide H2 _).mono ?_
      rintro e w1 ⟨rfl, rfl⟩
      go_wp2_with fail
      go_ret
      exact ⟨rfl, unhide HB0⟩
    · obtain ⟨r2, hr2⟩ : ∃ r2 : Nat, (r : Int) - (nl : Int) = (r2 : Int) := ⟨r - nl, by omega⟩
      rw [purse_yes (show ¬ (r : Int) < (nl : Int) by omega), hr2] at H2 ⊢
      go_enter Tryd.func10, Tryd.ntmps10
      go_wp2_with fail
      refine (unhide H1 _).mono ?_
      rintro e w1 ⟨rfl, rfl⟩
      go_wp2_with fail
      refine (unhide H2 _).mono ?_
      rintro e w1 ⟨rfl, rfl⟩
      go_wp2_with fail
      go_ret
      exact ⟨rfl, unhide HB0⟩

set_option maxRecDepth 10000 in
set_option maxHeartbeats 1000000 in
theorem eqConf_calls (av al bv bl : Option Addr) (nv nl c1 c2 c3 c4 : Nat) (v l : List Int) (w : World) (h1 : ConfAt w av nv v al nl l) (h2 : ConfAt w bv nv v bl nl l) :
    Calls Tryd.prog 29 #[.agg #[.slice av nv c1, .slice al nl c2], .agg #[.slice bv nv c3, .slice bl nl c4]] w fun e w' => e = .returned (.bool true) ∧ Below w.heap.size w w' := by
  obtain ⟨W0, hW0⟩ : ∃ W0, W0 = (w.alloc (.cells #[.slice av nv c1, .slice al nl c2] 31)).alloc (.cells #[.slice bv nv c3, .slice bl nl c4] 31) := ⟨_, rfl⟩
  have hb0 : Below w.heap.size w W0 := by rw [hW0]; exact belOn (bel1 _ _) (bel1 _ _)
  have hs0 : w.heap.size + 1 < W0.heap.size := by rw [hW0]; simp
  have hs1 : w.heap.size < W0.heap.size := by omega
  have c1' : W0.cell? ⟨w.heap.size, 1, none⟩ = some (.slice al nl c2) := by rw [hW0]; simp [go_sem]
  have d1 : W0.cell? ⟨w.heap.size + 1, 1, none⟩ = some (.slice bl nl c4) := by rw [hW0, show w.heap.size + 1 = (w.alloc (.cells #[.slice av nv c1, .slice al nl c2] 31)).heap.size from by simp]; simp [go_sem]
  have HB0 := hide hb0
  have HW0 := hide hW0.symm
  have b1 := h1.v.bn
  have b2 := h1.l.bn
  have H1 := hide (eqInt64S_calls av bv c1 c3 nv v W0 h1.v.len (by omega) (h1.below hb0).v.row (h2.below hb0).v.row)
  have H2 := hide (fun (W : World) (hW : Below W0.heap.size W0 W) => eqInt64S_calls al bl c2 c4 nl l W h1.l.len (by omega) (h1.below (belOn hb0 hW)).l.row (h2.below (belOn hb0 hW)).l.row)
  clear hb0 hW0 h1 h2
  go_enter Tryd.func29, Tryd.ntmps29
  go_wp2_with fail
  rw [unhide HW0]
  refine (unhide H1).mono ?_
  rintro e w1 ⟨rfl, hb1⟩
  have q1 := bcl hb1 hs1 c1'
  have q2 := bcl hb1 hs0 d1
  have HB1 := hide hb1
  clear hb1 c1' d1
  go_wp2_with fail
  refine (unhide H2 _ (unhide HB1)).mono ?_
  rintro e w2 ⟨rfl, hb2⟩
  have HB2 := hide (belOn (unhide HB0) (belOn (unhide HB1) hb2))
  clear hb2
  go_wp2_with fail
  go_ret
  exact ⟨rfl, unhide HB2⟩
end Go.Proofs.YtiakhgafibgpgaaDoor
