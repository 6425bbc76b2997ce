/- Changes of members, by the program: the whole call. -/
import Derived.Test.YtmokpgmehaakgaaGreatDoorChaJ
import Derived.Test.YtmokpgmehaakgaaGreatDoorMrkI
import Derived.Test.YtmokpgmehaakgaaGreatDoorCbx
namespace Go.Proofs.YtmokpgmehaakgaaGreatDoor
open Go.RowKit Plain
set_option linter.unusedVariables false

theorem OwnR.oth2 {α : Type} {e : Elem α} {W : World} {B n c rb : Nat} {a : Option Addr} {xs : List α} {u1 u2 : Value} (h : OwnR e W B (.slice a n c) xs) (hne : ∀ g, (Value.slice a n c).ownBlock = some g → g ≠ rb) : OwnR e ((W.setCell ⟨rb, 0, none⟩ u1).setCell ⟨rb, 1, none⟩ u2) B (.slice a n c) xs :=
  h.oth (fun g hg => by rw [heap_setI (fun q => hne g hg q.symm), heap_setI (fun q => hne g hg q.symm)])
/-- Members that are answered: two lists of the call's own, apart. -/
def CfPost (v l : List Int) (w : World) (a1 : Option Addr) (c1 : Nat) (a2 : Option Addr) (c2 : Nat) (w' : World) : Prop := RowAt i64E w' a1 v ∧ RowAt i64E w' a2 l ∧ (∀ g, inB a1 g → w.heap.size ≤ g ∧ g < w'.heap.size) ∧ (∀ g, inB a2 g → w.heap.size ≤ g ∧ g < w'.heap.size) ∧ (∀ g, inB a1 g → ¬ inB a2 g) ∧ Below w.heap.size w w'

set_option maxRecDepth 10000 in
set_option maxHeartbeats 4000000 in
theorem cconf_calls (v l : List Int) (w : World) (hv : okIds 0 v = true) (hl : okIds 0 l = true) (nv : v.length ≤ 100) (nl : l.length ≤ 100) (hT : TzAt w) :
    Calls Tryz.prog 27 #[.agg #[.int .u64 (setN v : Nat), .int .u64 (setN l : Nat)]] w fun e w' => ∃ a1 c1 a2 c2, e = .returned (.agg #[.slice a1 v.length c1, .slice a2 l.length c2]) ∧ CfPost v l w a1 c1 a2 c2 w' := by
  obtain ⟨W0, hW0⟩ : ∃ W0, W0 = (w.alloc (.cells #[.int .u64 (setN v : Nat), .int .u64 (setN l : Nat)] 50)).alloc (.cells #[.slice none 0 0, .slice none 0 0] 26) := ⟨_, rfl⟩
  have hb0 : Below w.heap.size w W0 := by rw [hW0]; exact belOn (bel1 _ _) (bel1 _ _)
  have hs0 : W0.heap.size = w.heap.size + 2 := by rw [hW0]; simp
  have n0 : W0.cell? ⟨w.heap.size, 0, none⟩ = some (.int .u64 (setN v : Nat)) := by rw [hW0]; simp [go_sem]
  have n1 : W0.cell? ⟨w.heap.size, 1, none⟩ = some (.int .u64 (setN l : Nat)) := by rw [hW0]; simp [go_sem]
  have r0 : W0.cell? ⟨w.heap.size + 1, 0, none⟩ = some (.slice none 0 0) ∧ W0.frozen? ⟨w.heap.size + 1, 0, none⟩ = false := by rw [hW0, show w.heap.size + 1 = (w.alloc (.cells #[.int .u64 (setN v : Nat), .int .u64 (setN l : Nat)] 50)).heap.size from by simp]; simp [go_sem]
  have r1 : W0.cell? ⟨w.heap.size + 1, 1, none⟩ = some (.slice none 0 0) ∧ W0.frozen? ⟨w.heap.size + 1, 1, none⟩ = false := by rw [hW0, show w.heap.size + 1 = (w.alloc (.cells #[.int .u64 (setN v : Nat), .int .u64 (setN l : Nat)] 50)).heap.size from by simp]; simp [go_sem]
  obtain ⟨r0, z0⟩ := r0
  obtain ⟨r1, z1⟩ := r1
  have hT0 := hT.below hb0 hT.2
  have HV := hide (ids_calls v W0.drew hv nv (hT0.below (B := 1) (belDrew (Below.refl _ _)) (by decide)))
  have HL := hide (fun (W : World) (hW : Below W0.heap.size W0 W) => ids_calls l W hl nl (hT0.below hW hT0.2))
  have l0 : w.heap.size < W0.heap.size := by omega
  have l1 : w.heap.size + 1 < W0.heap.size := by omega
  have HB0 := hide hb0
  have HW0 := hide hW0.symm
  clear hb0 hW0 hT0 hT hv hl
  obtain ⟨n, hn⟩ : ∃ n, v.length = n := ⟨_, rfl⟩
  obtain ⟨m, hm⟩ : ∃ m, l.length = m := ⟨_, rfl⟩
  rw [hn] at HV ⊢
  rw [hm] at HL ⊢
  generalize setN v = V at HW0 HV n0
  generalize setN l = L at HW0 HL n1
  clear hn hm nv nl
  go_enter Tryz.func27, Tryz.ntmps27
  go_wp2_with fail
  rw [unhide HW0]
  go_region_with (first
    | (go_at_call_of 49 V; refine (unhide HV).mono ?_; rintro e w1 ⟨a1, c1, rfl, o1, hb1⟩; have s1 := bcl (bOfDrew hb1) l0 n1; have t0 := bcl (bOfDrew hb1) l1 r0; have t1 := bcl (bOfDrew hb1) l1 r1; have y0 := ((bOfDrew hb1).frozen (p := ⟨w.heap.size + 1, 0, none⟩) l1).trans z0; have y1 := ((bOfDrew hb1).frozen (p := ⟨w.heap.size + 1, 1, none⟩) l1).trans z1; have k1 : w.heap.size + 1 < w1.heap.size := Nat.lt_of_lt_of_le l1 (bOfDrew hb1).size; have HB1 := hide (bOfDrew hb1); have HO1 := hide o1; clear hb1 o1)
    | (go_at_call 49; refine (unhide HL _ (unhide HB1)).mono ?_; rintro e w2 ⟨a2, c2, rfl, o2, hb2⟩; have x0 := bcl hb2 k1 t0; have x1 := bcl hb2 k1 t1; have v0 := (hb2.frozen (p := ⟨w.heap.size + 1, 0, none⟩) k1).trans y0; have v1 := (hb2.frozen (p := ⟨w.heap.size + 1, 1, none⟩) k1).trans y1; have k2 : w.heap.size + 1 < w2.heap.size := Nat.lt_of_lt_of_le k1 hb2.size; have HB2 := hide (belOn (belOn (unhide HB0) (unhide HB1)) hb2); have HO2 := hide ((unhide HO1).keep hb2); have HO3 := hide o2; have HG1 := hide (unhide HO1).lt; have hz1 := (unhide HB1).size; have hz2 := hb2.size; clear hb2 o2))
  all_goals (try go_wp2_with fail)
  all_goals refine bodyPost_ret (v := .agg #[.slice a1 n c1, .slice a2 m c2]) (by simp [results, Tryz.results27, go_sem, x0, x1]) rfl ?_
  all_goals (have b1 : ∀ g, (Value.slice a1 n c1).ownBlock = some g → W0.heap.size ≤ g ∧ g < w1.heap.size := fun g hg => ⟨(World.ownsRow.lt (unhide HO2) g hg).1, unhide HG1 g hg⟩)
  all_goals (have b2 : ∀ g, (Value.slice a2 m c2).ownBlock = some g → w1.heap.size ≤ g ∧ g < w2.heap.size := fun g hg => World.ownsRow.lt (unhide HO3) g hg)
  all_goals (have q1 := (unhide HO2).oth2 (rb := w.heap.size + 1) (u1 := .slice a1 n c1) (u2 := .slice a2 m c2) (fun g hg => by have := (b1 g hg).1; omega))
  all_goals (have q2 := (unhide HO3).oth2 (rb := w.heap.size + 1) (u1 := .slice a1 n c1) (u2 := .slice a2 m c2) (fun g hg => by have := (b2 g hg).1; omega))
  all_goals (have g1 : ∀ g, inB a1 g → W0.heap.size ≤ g ∧ g < w1.heap.size := fun g hg => by obtain ⟨o, rfl⟩ := hg; exact b1 g rfl)
  all_goals (have g2 : ∀ g, inB a2 g → w1.heap.size ≤ g ∧ g < w2.heap.size := fun g hg => by obtain ⟨o, rfl⟩ := hg; exact b2 g rfl)
  all_goals exact ⟨a1, c1, a2, c2, rfl, q1.at, q2.at, fun g hg => by have := g1 g hg; simp; omega, fun g hg => by have := g2 g hg; simp; omega, fun g hg hg2 => by have := g1 g hg; have := g2 g hg2; omega, ((unhide HB2).setCell (show w.heap.size ≤ w.heap.size + 1 by omega) _).setCell (show w.heap.size ≤ w.heap.size + 1 by omega) _⟩

namespace Plain
/-- What a change makes of members, and its code. -/
def chgF (kind id : Int) (v l : List Int) : List Int × List Int × Int := if confB v l = true then chgS kind id v l else ([], [], 10)
theorem chgS_ok (kind id : Int) (v l : List Int) (h : confB v l = true) : okIds 0 (chgS kind id v l).1 = true ∧ okIds 0 (chgS kind id v l).2.1 = true ∧ (chgS kind id v l).1.length ≤ 7 ∧ (chgS kind id v l).2.1.length ≤ 7 := by
  have hb := h
  unfold confB at hb
  simp only [Bool.and_eq_true, decide_eq_true_iff] at hb
  have base : okIds 0 v = true ∧ okIds 0 l = true ∧ v.length ≤ 7 ∧ l.length ≤ 7 := ⟨hb.1.1, hb.1.2, hb.2.2.1, hb.2.2.2⟩
  unfold chgS
  split
  · rename_i hf
    have hf2 : (1 ≤ kind ∧ kind ≤ 3) ∧ (1 ≤ id ∧ id ≤ 50) := by simpa using hf
    split
    · split
      · exact base
      · split
        · exact base
        · rename_i h7
          exact ⟨nxtV_ok kind id v hf2.2.1 hf2.2.2 base.1, nxtL_ok kind id l hf2.2.1 hf2.2.2 base.2.1, by show (nxtV kind id v).length ≤ 7; omega, by show (nxtL kind id l).length ≤ 7; omega⟩
    · exact base
  · exact base
end Plain
theorem cf_nil {w W : World} (hb : Below w.heap.size w W) : CfPost [] [] w none 0 none 0 W :=
  And.intro (fun i hi => by simp at hi) (And.intro (fun i hi => by simp at hi) (And.intro (fun g hg => (inB_none hg).elim) (And.intro (fun g hg => (inB_none hg).elim) (And.intro (fun g hg => (inB_none hg).elim) hb))))

set_option maxRecDepth 10000 in
set_option maxHeartbeats 4000000 in
theorem impl_Changed (av : Option Addr) (nv cv : Nat) (v : List Int) (al : Option Addr) (nl cl : Nat) (l : List Int) (kind id : Int) (w : World) (h : ConfAt w av nv v al nl l) (hT : TzAt w) :
    Calls Tryz.prog 7 #[.agg #[.slice av nv cv, .slice al nl cl], .int .i64 kind, .int .i64 id] w fun e w' => ∃ a1 c1 a2 c2, e = .returned (.tuple #[.agg #[.slice a1 (chgF kind id v l).1.length c1, .slice a2 (chgF kind id v l).2.1.length c2], .int .i64 (chgF kind id v l).2.2]) ∧ CfPost (chgF kind id v l).1 (chgF kind id v l).2.1 w a1 c1 a2 c2 w' := by
  obtain ⟨W0, hW0⟩ : ∃ W0, W0 = (w.alloc (.cells #[.slice av nv cv, .slice al nl cl] 26)).alloc (.cells #[.slice none 0 0, .slice none 0 0] 26) := ⟨_, rfl⟩
  have hb0 : Below w.heap.size w W0 := by rw [hW0]; exact belOn (bel1 _ _) (bel1 _ _)
  have hs0 : W0.heap.size = w.heap.size + 2 := by rw [hW0]; simp
  have c0 : W0.cell? ⟨w.heap.size, 0, none⟩ = some (.slice av nv cv) := by rw [hW0]; simp [go_sem]
  have c1 : W0.cell? ⟨w.heap.size, 1, none⟩ = some (.slice al nl cl) := by rw [hW0]; simp [go_sem]
  have r0 : W0.cell? ⟨w.heap.size + 1, 0, none⟩ = some (.slice none 0 0) ∧ W0.frozen? ⟨w.heap.size + 1, 0, none⟩ = false := by rw [hW0, show w.heap.size + 1 = (w.alloc (.cells #[.slice av nv cv, .slice al nl cl] 26)).heap.size from by simp]; simp [go_sem]
  have r1 : W0.cell? ⟨w.heap.size + 1, 1, none⟩ = some (.slice none 0 0) ∧ W0.frozen? ⟨w.heap.size + 1, 1, none⟩ = false := by rw [hW0, show w.heap.size + 1 = (w.alloc (.cells #[.slice av nv cv, .slice al nl cl] 26)).heap.size from by simp]; simp [go_sem]
  have l1 : w.heap.size + 1 < W0.heap.size := by omega
  have HC := hide (councilOf_calls av nv cv v al nl cl l W0 (h.below hb0))
  have HR := hide (fun (W : World) (hW : Below W0.heap.size W0 W) => And.intro (And.intro (bcl hW l1 r0.1) (bcl hW l1 r1.1)) (And.intro ((hW.frozen (p := ⟨w.heap.size + 1, 0, none⟩) l1).trans r0.2) ((hW.frozen (p := ⟨w.heap.size + 1, 1, none⟩) l1).trans r1.2)))
  have HTZ := hide (fun (W : World) (hW : Below W0.heap.size W0 W) => (hT.below hb0 hT.2).below hW (hT.below hb0 hT.2).2)
  obtain ⟨V, L, e1, e2⟩ := councV_is v l
  rw [e1] at HC
  have HB0 := hide hb0
  have HW0 := hide hW0.symm
  clear hb0 hW0 h hT e1 r0 r1 hs0
  cases hc : confB v l with
  | false =>
    have HX := hide (show chgF kind id v l = ([], [], 10) from by unfold chgF; rw [hc]; rfl)
    rw [unhide HX]
    simp only [List.length_nil]
    rw [hc] at HC
    clear hc e2
    go_enter Tryz.func7, Tryz.ntmps7
    go_wp2_with fail
    rw [unhide HW0]
    refine (unhide HC).mono ?_
    rintro e w1 ⟨rfl, hb1⟩
    obtain ⟨W2, hW2⟩ : ∃ W2, W2 = w1.alloc (.cells #[.int .u64 V, .int .u64 L] 50) := ⟨_, rfl⟩
    have hb2 : Below w1.heap.size w1 W2 := by rw [hW2]; exact bel1 _ _
    have HB2 := hide (belOn hb1 hb2)
    obtain ⟨⟨x0, x1⟩, y0, y1⟩ := unhide HR _ (unhide HB2)
    rw [hW2] at x0 x1 y0 y1
    have HW2 := hide hW2.symm
    clear hb1 hb2 hW2 c0 c1
    go_wp2_with fail
    refine bodyPost_ret (v := .tuple #[.agg #[.slice none 0 0, .slice none 0 0], .int .i64 10]) (by simp [results, Tryz.results7, go_sem, x0, x1]) rfl ?_
    exact ⟨none, 0, none, 0, rfl, cf_nil (by rw [unhide HW2]; exact ((belOn (unhide HB0) (unhide HB2)).setCell (show w.heap.size ≤ w.heap.size + 1 by omega) _).setCell (show w.heap.size ≤ w.heap.size + 1 by omega) _)⟩
  | true =>
    obtain ⟨rfl, rfl⟩ := e2 hc
    rw [hc] at HC
    have hcb := hc
    unfold confB at hcb
    simp only [Bool.and_eq_true, decide_eq_true_iff] at hcb
    have HCH := hide (fun W => changed_calls v l kind id W hcb.1.1 hcb.1.2)
    obtain ⟨k1, k2, k3, k4⟩ := chgS_ok kind id v l hc
    have HCF := hide (fun (W : World) (hW : TzAt W) => cconf_calls (chgS kind id v l).1 (chgS kind id v l).2.1 W k1 k2 (by omega) (by omega) hW)
    have HX := hide (show chgF kind id v l = chgS kind id v l from by unfold chgF; rw [hc]; rfl)
    rw [unhide HX]
    generalize chgS kind id v l = R at HCH HCF k1 k2 k3 k4 ⊢
    obtain ⟨v2, l2, cd⟩ := R
    simp only at HCH HCF k3 k4 ⊢
    generalize setN v = V at HC HCH
    generalize setN l = L at HC HCH
    generalize setN v2 = V2 at HCH HCF
    generalize setN l2 = L2 at HCH HCF
    obtain ⟨n2, hn2⟩ : ∃ n2, v2.length = n2 := ⟨_, rfl⟩
    obtain ⟨m2, hm2⟩ : ∃ m2, l2.length = m2 := ⟨_, rfl⟩
    rw [hn2] at HCF ⊢
    rw [hm2] at HCF ⊢
    clear hc hcb e2 HX k1 k2 k3 k4 hn2 hm2
    go_enter Tryz.func7, Tryz.ntmps7
    go_wp2_with fail
    rw [unhide HW0]
    refine (unhide HC).mono ?_
    rintro e w1 ⟨rfl, hb1⟩
    obtain ⟨W2, hW2⟩ : ∃ W2, W2 = w1.alloc (.cells #[.int .u64 V, .int .u64 L] 50) := ⟨_, rfl⟩
    have hb2 : Below w1.heap.size w1 W2 := by rw [hW2]; exact bel1 _ _
    have HB2 := hide (belOn hb1 hb2)
    have HW2 := hide hW2.symm
    clear hb1 hb2 hW2 c0 c1
    go_wp2_with fail
    rw [unhide HW2]
    refine (unhide HCH _).mono ?_
    rintro e w3 ⟨rfl, hb3⟩
    obtain ⟨W4, hW4⟩ : ∃ W4, W4 = w3.alloc (.cells #[.int .u64 V2, .int .u64 L2] 50) := ⟨_, rfl⟩
    have hb4 : Below w3.heap.size w3 W4 := by rw [hW4]; exact bel1 _ _
    have HB4 := hide (belOn (belOn (unhide HB2) hb3) hb4)
    have HW4 := hide hW4.symm
    clear hb3 hb4 hW4
    go_wp2_with fail
    rw [unhide HW4]
    refine (unhide HCF _ (unhide HTZ _ (unhide HB4))).mono ?_
    rintro e w5 ⟨a1, d1, a2, d2, rfl, q1, q2, q3, q4, q5, hb5⟩
    have hb6 := belOn (unhide HB4) hb5
    obtain ⟨⟨x0, x1⟩, y0, y1⟩ := unhide HR _ hb6
    have HB6 := hide hb6
    have hz := (unhide HB4).size
    have hlt5 : w.heap.size + 1 < w5.heap.size := Nat.lt_of_lt_of_le l1 hb6.size
    have HQ := hide (And.intro q1 (And.intro q2 (And.intro q3 (And.intro q4 q5))))
    clear hb5 hb6 q1 q2 q3 q4 q5
    go_wp2_with fail
    refine bodyPost_ret (v := .tuple #[.agg #[.slice a1 n2 d1, .slice a2 m2 d2], .int .i64 cd]) (by simp [results, Tryz.results7, go_sem, x0, x1]) rfl ?_
    obtain ⟨q1, q2, q3, q4, q5⟩ := unhide HQ
    have h0 := (unhide HB0).size
    exact ⟨a1, d1, a2, d2, rfl, q1.set2 (fun g hg => by have := q3 g hg; omega), q2.set2 (fun g hg => by have := q4 g hg; omega), fun g hg => by have := q3 g hg; simp; omega, fun g hg => by have := q4 g hg; simp; omega, q5, ((belOn (unhide HB0) (unhide HB6)).setCell (show w.heap.size ≤ w.heap.size + 1 by omega) _).setCell (show w.heap.size ≤ w.heap.size + 1 by omega) _⟩
end Go.Proofs.YtmokpgmehaakgaaGreatDoor
