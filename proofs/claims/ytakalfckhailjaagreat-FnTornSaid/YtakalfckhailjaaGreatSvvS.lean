/- SaveVote of the specification. -/
import Derived.Test.YtakalfckhailjaaGreatGAN
import Derived.Test.YtakalfckhailjaaGreatGAT
import Derived.Test.YtakalfckhailjaaGreatRecS
import Derived.Test.YtakalfckhailjaaGreatRplS
import Derived.Test.YtakalfckhailjaaGreatGBE
import Derived.Deep.RegionHeld3
import Derived.Deep.DeepCutAuto
namespace Go.Proofs.YtakalfckhailjaaGreat
open Go.RowKit Plain
set_option linter.unusedVariables false

namespace Plain
theorem recT_range {live safe : List Fl} {ops : List Dop} (h : (recT live safe ops).1 = true) : 0 ≤ (recT live safe ops).2.1 := by
  unfold recT at h ⊢
  split
  · rename_i hd
    rw [if_pos hd] at h
    cases hv : votD live with
    | none => rw [hv] at h; cases h
    | some tv =>
      obtain ⟨t, v⟩ := tv
      simp only
      unfold votD at hv
      split at hv
      · cases hv; exact Int.le_refl 0
      · exact (vot_num hv).1.1
  · exact Int.le_refl 0
/-- The specification's test. -/
theorem sv_test {T V t v : Int} (hT : 0 ≤ T) : (numB t && (numB v && mayB T V t v)) = ((decide (T ≤ t) && decide (t ≤ 1000000000000)) && (numB v && !(decide (t = T) && (!decide (V = 0) && !decide (v = V))))) := by
  unfold numB mayB
  rw [Bool.eq_iff_iff]
  by_cases h1 : t = T
  · simp [h1]
    omega
  · simp [h1]
    omega
end Plain

set_option maxRecDepth 10000 in
set_option maxHeartbeats 8000000 in
theorem spec_SaveVoteQ (aL : Option Addr) (nL cL : Nat) (live : List Fl) (aS : Option Addr) (nS cS : Nat) (safe : List Fl) (aO : Option Addr) (nO cO : Nat) (ops : List Dop) (t v : Int) (w : World) (h : DiskAt w aL nL cL live aS nS cS safe aO nO cO ops) :
    Calls Tryz.prog 14 #[.agg #[.slice aL nL cL, .slice aS nS cS, .slice aO nO cO], .int .i64 t, .int .i64 v] w (SpcQ (fun x => .tuple #[x, .int .i64 (svC live safe ops t v)]) (svL live safe ops t v) (svS live safe ops t v) (svO live safe ops t v) w) := by
  obtain ⟨W0, hW0⟩ : ∃ W0, W0 = (w.alloc (.cells #[.slice aL nL cL, .slice aS nS cS, .slice aO nO cO] 27)).alloc (.cells #[.slice none 0 0, .slice none 0 0, .slice none 0 0] 27) := ⟨_, rfl⟩
  have hb0 : Below w.heap.size w W0 := by rw [hW0]; exact belOn (bel1 _ _) (bel1 _ _)
  have hz0 : W0.heap.size = w.heap.size + 2 := by rw [hW0]; simp
  have c0 : W0.cell? ⟨w.heap.size, 0, none⟩ = some (.slice aL nL cL) := by rw [hW0]; simp [go_sem]
  have c1 : W0.cell? ⟨w.heap.size, 1, none⟩ = some (.slice aS nS cS) := by rw [hW0]; simp [go_sem]
  have c2 : W0.cell? ⟨w.heap.size, 2, none⟩ = some (.slice aO nO cO) := by rw [hW0]; simp [go_sem]
  have r0 : W0.cell? ⟨w.heap.size + 1, 0, none⟩ = some (.slice none 0 0) := by rw [hW0]; simp [go_sem]
  have r1 : W0.cell? ⟨w.heap.size + 1, 1, none⟩ = some (.slice none 0 0) := by rw [hW0]; simp [go_sem]
  have r2 : W0.cell? ⟨w.heap.size + 1, 2, none⟩ = some (.slice none 0 0) := by rw [hW0]; simp [go_sem]
  have y0 : W0.frozen? ⟨w.heap.size + 1, 0, none⟩ = false := by rw [hW0]; simp [go_sem]
  have y1 : W0.frozen? ⟨w.heap.size + 1, 1, none⟩ = false := by rw [hW0]; simp [go_sem]
  have y2 : W0.frozen? ⟨w.heap.size + 1, 2, none⟩ = false := by rw [hW0]; simp [go_sem]
  have HD := hide (fun (W : World) (hW : Below W0.heap.size W0 W) => (h.below hb0).below hW)
  have HC := hide (fun (W : World) (hW : Below W0.heap.size W0 W) => And.intro (bcl hW (by omega) c0) (And.intro (bcl hW (by omega) c1) (bcl hW (by omega) c2)))
  have HR := hide (fun (W : World) (hW : Below W0.heap.size W0 W) => And.intro (And.intro (bcl hW (by omega) r0) (And.intro (bcl hW (by omega) r1) (bcl hW (by omega) r2))) (And.intro ((hW.frozen (p := ⟨w.heap.size + 1, 0, none⟩) (by show w.heap.size + 1 < _; omega)).trans y0) (And.intro ((hW.frozen (p := ⟨w.heap.size + 1, 1, none⟩) (by show w.heap.size + 1 < _; omega)).trans y1) ((hW.frozen (p := ⟨w.heap.size + 1, 2, none⟩) (by show w.heap.size + 1 < _; omega)).trans y2))))
  have HFIN := hide (fun (W : World) (hW : Below W0.heap.size W0 W) => belOn hb0 hW)
  have HZ0 := hide hz0
  have HW0 := hide hW0.symm
  have HLN := hide (And.intro h.ll (And.intro h.ls h.lo))
  have HBO := hide (And.intro h.fs (And.intro h.fo (And.intro h.bs h.bo)))
  clear h hb0 c0 c1 c2 r0 r1 r2 y0 y1 y2 hW0 hz0
  unfold svC svL svS svO
  cases hd : diskB live safe ops with
  | false =>
    simp only [Bool.false_eq_true, if_false]
    have HX := hide hd
    clear hd
    go_enter Tryz.func14, Tryz.ntmps14
    go_wp2_with fail
    rw [unhide HW0]
    refine (spec_DiskOk _ nL cL live _ nS cS safe _ nO cO ops W0 (unhide HD _ (Below.refl _ _))).mono ?_
    rintro e w1 ⟨rfl, hb1⟩
    rw [unhide HX]
    have HB1 := hide (unhide HFIN _ hb1)
    obtain ⟨⟨r0, r1, r2⟩, y0, y1, y2⟩ := unhide HR _ hb1
    clear hb1
    go_wp2_with fail
    refine bodyPost_ret (v := .tuple #[.agg #[.slice none 0 0, .slice none 0 0, .slice none 0 0], .int .i64 1]) (by simp [results, Tryz.results14, go_sem, r0, r1, r2]) rfl ?_
    exact spcRetQ (fun i hi => absurd hi (by simp)) (fun i hi => absurd hi (by simp)) (fun i hi => absurd hi (by simp)) ⟨.inl ⟨rfl, rfl⟩, .inl ⟨rfl, rfl⟩, .inl ⟨rfl, rfl⟩⟩ (fun k hk => by obtain ⟨o, e⟩ := hk; cases e) (fun k hk => by obtain ⟨o, e⟩ := hk; cases e) (fun k hk => by obtain ⟨o, e⟩ := hk; cases e) (Nat.le_succ _) (unhide HB1)
  | true =>
    simp only [if_true]
    have HX := hide hd
    have HRC := hide (fun (W : World) (hW : Below W0.heap.size W0 W) => l5Disk_calls _ nL cL live _ nS cS safe _ nO cO ops W (unhide HD W hW) hd)
    have hsv : svB live safe ops t v = ((recT live safe ops).1 && (numB t && (numB v && mayB (recT live safe ops).2.1 (recT live safe ops).2.2.1 t v))) := rfl
    have hrg := recT_range (live := live) (safe := safe) (ops := ops)
    obtain ⟨SV, hSV⟩ : ∃ SV, svB live safe ops t v = SV := ⟨_, rfl⟩
    rw [hSV] at hsv ⊢
    generalize recT live safe ops = RR at HRC hsv hrg
    obtain ⟨ok, T, V, es⟩ := RR
    simp only [] at HRC hsv hrg
    cases SV with
    | false =>
      simp only [Bool.false_eq_true, if_false]
      have HCP := hide (fun (W : World) (hW : Below W0.heap.size W0 W) => l4Copy_calls _ nL cL live _ nS cS safe _ nO cO ops W (unhide HD W hW))
      unfold CpPost at HCP
      have h4 : ok = false ∨ (ok = true ∧ (decide (T ≤ t) && decide (t ≤ 1000000000000)) = false) ∨ (ok = true ∧ (decide (T ≤ t) && decide (t ≤ 1000000000000)) = true ∧ numB v = false) ∨ (ok = true ∧ (decide (T ≤ t) && decide (t ≤ 1000000000000)) = true ∧ numB v = true ∧ (t == T) = true ∧ (V == 0) = false ∧ (v == V) = false) := by
        cases ok with
        | false => exact .inl rfl
        | true =>
          rw [sv_test (hrg rfl)] at hsv
          cases h1 : (decide (T ≤ t) && decide (t ≤ 1000000000000)) with
          | false => exact .inr (.inl ⟨rfl, rfl⟩)
          | true =>
            cases h2 : numB v with
            | false => exact .inr (.inr (.inl ⟨rfl, rfl, rfl⟩))
            | true =>
              rw [h1, h2] at hsv
              have q : t = T ∧ V ≠ 0 ∧ v ≠ V := by simpa using hsv
              exact .inr (.inr (.inr ⟨rfl, rfl, rfl, beq_iff_eq.2 q.1, beq_eq_false_iff_ne.2 q.2.1, beq_eq_false_iff_ne.2 q.2.2⟩))
      clear hsv hSV hd hrg
      rcases h4 with rfl | h4
      case inl =>
        go_enter Tryz.func14, Tryz.ntmps14
        go_wp2_with fail
        rw [unhide HW0]
        refine (spec_DiskOk _ nL cL live _ nS cS safe _ nO cO ops W0 (unhide HD _ (Below.refl _ _))).mono ?_
        rintro e w1 ⟨rfl, hb1⟩
        rw [unhide HX]
        obtain ⟨q0, q1, q2⟩ := unhide HC _ hb1
        have HB1 := hide hb1
        clear hb1
        go_wp2_with fail
        refine (unhide HRC _ (unhide HB1)).mono ?_
        rintro e w2 ⟨sl, rfl, ho, hb2⟩
        obtain ⟨a5, c5, rfl⟩ := ho.form
        have HB3 := hide (show Below W0.heap.size W0 (w2.alloc (.cells #[.int .i64 T, .int .i64 V, .slice a5 es.length c5] 34)) from belOn (belOn (unhide HB1) hb2) (bel1 _ _))
        clear hb2 ho q0 q1 q2
        obtain ⟨q0, q1, q2⟩ := unhide HC _ (unhide HB3)
        go_wp2_with fail
        refine (unhide HCP _ (unhide HB3)).mono ?_
        rintro e s5 ⟨xL, kL, xS, kS, xO, kO, B3, rfl, r1', r2', r3', ad', -, -, -, -, q1', q2', q3', hb5⟩
        have HB5 := hide (belOn (unhide HB3) hb5)
        have hz3 := (unhide HB3).size
        have hz := unhide HZ0
        have HO := hide (show RowAt fileE s5 xL live ∧ RowAt fileE s5 xS safe ∧ RowAt dopE s5 xO ops ∧ (∀ k, inB xL k → w.heap.size ≤ k ∧ k ≠ w.heap.size + 1) ∧ (∀ k, inB xS k → w.heap.size ≤ k ∧ k ≠ w.heap.size + 1) ∧ (∀ k, inB xO k → w.heap.size ≤ k ∧ k ≠ w.heap.size + 1) from ⟨r1', r2', r3', fun k hk => by have := q1' k hk; omega, fun k hk => by have := q2' k hk; omega, fun k hk => by have := q3' k hk; omega⟩)
        have HADQ := hide ad'
        obtain ⟨⟨r0, r1, r2⟩, y0, y1, y2⟩ := unhide HR _ (unhide HB5)
        clear r1' r2' r3' q1' q2' q3' hb5 hz
        go_wp2_with fail
        refine bodyPost_ret (v := .tuple #[.agg #[.slice xL live.length kL, .slice xS safe.length kS, .slice xO ops.length kO], .int .i64 10]) (by simp [results, Tryz.results14, go_sem, r0, r1, r2]) rfl ?_
        obtain ⟨o1, o2, o3, n1, n2, n3⟩ := unhide HO
        exact spcRetQ o1 o2 o3 (unhide HADQ) n1 n2 n3 (Nat.le_succ _) (unhide HFIN _ (unhide HB5))
      rcases h4 with ⟨rfl, h1⟩ | ⟨rfl, h1, h2⟩ | ⟨rfl, h1, h2, hTT, hV, hvV⟩
      case' inr.inr => have hVn : (V != 0) = true := by simp [bne, hV]
      case' inr.inr => have hvn : (v != V) = true := by simp [bne, hvV]
      all_goals
        try unfold numB at h2
        go_enter Tryz.func14, Tryz.ntmps14
        go_wp2_with fail
        rw [unhide HW0]
        refine (spec_DiskOk _ nL cL live _ nS cS safe _ nO cO ops W0 (unhide HD _ (Below.refl _ _))).mono ?_
        rintro e w1 ⟨rfl, hb1⟩
        rw [unhide HX]
        obtain ⟨q0, q1, q2⟩ := unhide HC _ hb1
        have HB1 := hide hb1
        clear hb1
        go_wp2_with fail
        refine (unhide HRC _ (unhide HB1)).mono ?_
        rintro e w2 ⟨sl, rfl, ho, hb2⟩
        obtain ⟨a5, c5, rfl⟩ := ho.form
        obtain ⟨W3, hW3⟩ : ∃ W3, W3 = (w2.alloc (.cells #[.int .i64 T, .int .i64 V, .slice a5 es.length c5] 34)) := ⟨_, rfl⟩
        have HB3 := hide (show Below W0.heap.size W0 W3 from by rw [hW3]; exact belOn (belOn (unhide HB1) hb2) (bel1 _ _))
        have j0 : W3.cell? ⟨w2.heap.size, 0, none⟩ = some (.int .i64 T) := by rw [hW3]; simp [go_sem]
        have j1 : W3.cell? ⟨w2.heap.size, 1, none⟩ = some (.int .i64 V) := by rw [hW3]; simp [go_sem]
        have HW3 := hide hW3.symm
        clear hb2 ho hW3 q0 q1 q2
        obtain ⟨q0, q1, q2⟩ := unhide HC _ (unhide HB3)
        go_wp2_with fail
        rw [unhide HW3]
        go_wp2_with (first
          | (go_at_call_of 28 t; refine (l1In_calls t T 1000000000000 _).mono ?_; rintro e w4 ⟨rfl, hw4⟩; rw [← hw4]; clear hw4; rw [h1])
          | (go_at_call_of 28 v; refine (l1In_calls v 0 1000000000000 _).mono ?_; rintro e w4 ⟨rfl, hw4⟩; rw [← hw4]; clear hw4; rw [h2]))
        refine (unhide HCP _ (unhide HB3)).mono ?_
        rintro e s5 ⟨xL, kL, xS, kS, xO, kO, B3, rfl, r1', r2', r3', ad', -, -, -, -, q1', q2', q3', hb5⟩
        have HB5 := hide (belOn (unhide HB3) hb5)
        have hz3 := (unhide HB3).size
        have hz := unhide HZ0
        have HO := hide (show RowAt fileE s5 xL live ∧ RowAt fileE s5 xS safe ∧ RowAt dopE s5 xO ops ∧ (∀ k, inB xL k → w.heap.size ≤ k ∧ k ≠ w.heap.size + 1) ∧ (∀ k, inB xS k → w.heap.size ≤ k ∧ k ≠ w.heap.size + 1) ∧ (∀ k, inB xO k → w.heap.size ≤ k ∧ k ≠ w.heap.size + 1) from ⟨r1', r2', r3', fun k hk => by have := q1' k hk; omega, fun k hk => by have := q2' k hk; omega, fun k hk => by have := q3' k hk; omega⟩)
        have HADQ := hide ad'
        obtain ⟨⟨r0, r1, r2⟩, y0, y1, y2⟩ := unhide HR _ (unhide HB5)
        clear r1' r2' r3' q1' q2' q3' hb5 hz
        go_wp2_with fail
        refine bodyPost_ret (v := .tuple #[.agg #[.slice xL live.length kL, .slice xS safe.length kS, .slice xO ops.length kO], .int .i64 10]) (by simp [results, Tryz.results14, go_sem, r0, r1, r2]) rfl ?_
        obtain ⟨o1, o2, o3, n1, n2, n3⟩ := unhide HO
        exact spcRetQ o1 o2 o3 (unhide HADQ) n1 n2 n3 (Nat.le_succ _) (unhide HFIN _ (unhide HB5))
    | true =>
      simp only [if_true]
      obtain ⟨rfl, h12⟩ : ok = true ∧ (numB t && (numB v && mayB T V t v)) = true := by
        have h := hsv.symm
        rw [Bool.and_eq_true] at h
        exact h
      rw [sv_test (hrg rfl)] at h12
      obtain ⟨h1, h2, h3⟩ : (decide (T ≤ t) && decide (t ≤ 1000000000000)) = true ∧ (decide (0 ≤ v) && decide (v ≤ 1000000000000)) = true ∧ ((t == T) = false ∨ ((t == T) = true ∧ (V == 0) = true ∧ (V != 0) = false) ∨ ((t == T) = true ∧ ((V == 0) = false ∧ (V != 0) = true) ∧ ((v == V) = true ∧ (v != V) = false))) := by
        obtain ⟨ha, hb⟩ := Bool.and_eq_true_iff.1 h12
        obtain ⟨hb1, h⟩ := Bool.and_eq_true_iff.1 hb
        refine ⟨ha, hb1, ?_⟩
        by_cases q1 : t = T
        · by_cases q2 : V = 0
          · exact .inr (.inl ⟨beq_iff_eq.2 q1, beq_iff_eq.2 q2, by simp [q2]⟩)
          · have q3 : v = V := by simpa [q1, q2] using h
            exact .inr (.inr ⟨beq_iff_eq.2 q1, ⟨beq_eq_false_iff_ne.2 q2, by simp [bne_iff_ne, q2]⟩, beq_iff_eq.2 q3, by simp [q3]⟩)
        · exact .inl (beq_eq_false_iff_ne.2 q1)
      have hvz := voteB_small t v
      obtain ⟨hx, hxl⟩ := repX_small live safe ops (fr := voteNew) (nm := voteN) (dt := voteB t v) (by decide) (by decide) (by omega)
      have hfit := sv_fit (xs := svX live safe ops t v) hd (unhide HBO).2.1 hx hxl
      have HRP := hide (fun (W : World) (hW : Below W0.heap.size W0 W) => spec_Replace aL nL cL live aS nS cS safe aO nO cO ops voteN (voteB t v) voteNew W (unhide HD W hW) (by decide) (by omega) vote_new)
      change Hid (∀ (W : World) (hW : Below W0.heap.size W0 W), Calls Tryz.prog 32 _ W (SpcQ (fun x => .tuple #[x, .int .i64 (actC live safe ops (svX live safe ops t v))]) (actL live safe ops (svX live safe ops t v)) (actS live safe ops) (actO live safe ops (svX live safe ops t v)) W)) at HRP
      have HVT := hide (fun W => l5Vote_calls t v W)
      generalize voteB t v = VT at HRP HVT hvz
      generalize actC live safe ops (svX live safe ops t v) = PC at HRP ⊢
      generalize actL live safe ops (svX live safe ops t v) = L1 at HRP hfit ⊢
      generalize actS live safe ops = S1 at HRP hfit ⊢
      generalize actO live safe ops (svX live safe ops t v) = O1 at HRP hfit ⊢
      clear hx hxl hsv hSV hd hvz hrg h12
      unfold SpcQ at HRP
      obtain ⟨f1, f2, f3, f4, f5, f6⟩ := hfit
      obtain ⟨m1, hm1⟩ : ∃ m, L1.length = m := ⟨_, rfl⟩
      obtain ⟨m2, hm2⟩ : ∃ m, S1.length = m := ⟨_, rfl⟩
      obtain ⟨m3, hm3⟩ : ∃ m, O1.length = m := ⟨_, rfl⟩
      have HSY := hide (fun (W : World) (yL : Option Addr) (kL : Nat) (yS : Option Addr) (kS : Nat) (yO : Option Addr) (kO : Nat) (o : RowAt fileE W yL L1 ∧ RowAt fileE W yS S1 ∧ RowAt dopE W yO O1) (ad : AdOk yL kL ∧ AdOk yS kS ∧ AdOk yO kO) => spec_SyncA yL m1 kL L1 yS m2 kS S1 yO m3 kO O1 W ⟨o.1, o.2.1, o.2.2.toO, hm1, hm2, hm3, ad.1, ad.2.1, f1, f2, f3, by omega, by omega, by omega⟩)
      rw [hm1, hm2, hm3] at HRP
      have HM := hide (And.intro hm1 (And.intro hm2 hm3))
      clear f1 f2 f3 f4 f5 f6 hm1 hm2 hm3
      by_cases hpc : PC = 0
      · subst hpc
        simp only [if_true]
        unfold SpcQ at HSY
        generalize synL L1 S1 O1 = L2 at HSY ⊢
        obtain ⟨m4, hm4⟩ : ∃ m, L2.length = m := ⟨_, rfl⟩
        rw [hm4] at HSY
        have HM4 := hide hm4
        clear hm4
        rcases h3 with h3 | ⟨h3, h4, h5⟩ | ⟨h3, ⟨h4, h5⟩, h6, h7⟩
        all_goals
          go_enter Tryz.func14, Tryz.ntmps14
          go_wp2_with fail
          rw [unhide HW0]
          refine (spec_DiskOk _ nL cL live _ nS cS safe _ nO cO ops W0 (unhide HD _ (Below.refl _ _))).mono ?_
          rintro e w1 ⟨rfl, hb1⟩
          rw [unhide HX]
          obtain ⟨q0, q1, q2⟩ := unhide HC _ hb1
          have HB1 := hide hb1
          clear hb1
          go_wp2_with fail
          refine (unhide HRC _ (unhide HB1)).mono ?_
          rintro e w2 ⟨sl, rfl, ho, hb2⟩
          obtain ⟨a5, c5, rfl⟩ := ho.form
          obtain ⟨W3, hW3⟩ : ∃ W3, W3 = (w2.alloc (.cells #[.int .i64 T, .int .i64 V, .slice a5 es.length c5] 34)) := ⟨_, rfl⟩
          have HB3 := hide (show Below W0.heap.size W0 W3 from by rw [hW3]; exact belOn (belOn (unhide HB1) hb2) (bel1 _ _))
          have j0 : W3.cell? ⟨w2.heap.size, 0, none⟩ = some (.int .i64 T) := by rw [hW3]; simp [go_sem]
          have j1 : W3.cell? ⟨w2.heap.size, 1, none⟩ = some (.int .i64 V) := by rw [hW3]; simp [go_sem]
          have HW3 := hide hW3.symm
          clear hb2 ho hW3 q0 q1 q2
          obtain ⟨q0, q1, q2⟩ := unhide HC _ (unhide HB3)
          go_wp2_with fail
          rw [unhide HW3]
          go_wp2_with (first
            | (go_at_call_of 28 t; refine (l1In_calls t T 1000000000000 _).mono ?_; rintro e w4 ⟨rfl, hw4⟩; rw [← hw4]; clear hw4; rw [h1])
            | (go_at_call_of 28 v; refine (l1In_calls v 0 1000000000000 _).mono ?_; rintro e w4 ⟨rfl, hw4⟩; rw [← hw4]; clear hw4; rw [h2]))
          have HW4 := hide (Below.refl W3.heap.size W3)
          go_cut [11, 12] (fun s11 s12 wx => ∃ (bw : Nat) (xL : Option Addr) (kL : Nat) (xS : Option Addr) (kS : Nat) (xO : Option Addr) (kO : Nat), s11 = .pointer (some ⟨bw, 0, none⟩) ∧ s12 = .int .i64 0 ∧ Hid (DC bw (.slice xL m1 kL) (.slice xS m2 kS) (.slice xO m3 kO) wx) ∧ Hid (RowAt fileE wx xL L1 ∧ RowAt fileE wx xS S1 ∧ RowAt dopE wx xO O1) ∧ Hid (AdOk xL kL ∧ AdOk xS kS ∧ AdOk xO kO) ∧ Hid ((∀ k, inB xL k → W0.heap.size ≤ k) ∧ (∀ k, inB xS k → W0.heap.size ≤ k) ∧ (∀ k, inB xO k → W0.heap.size ≤ k)) ∧ Hid (Below W0.heap.size W0 wx))
          case first =>
            have X0 := fun (W : World) (hW : Below W0.heap.size W0 W) => (unhide HC W hW).1
            have X1 := fun (W : World) (hW : Below W0.heap.size W0 W) => (unhide HC W hW).2.1
            have X2 := fun (W : World) (hW : Below W0.heap.size W0 W) => (unhide HC W hW).2.2
            go_region_held3 (fun w' => Below W0.heap.size W0 w') (first | exact keepD (by assumption) (Nat.le_refl _) | exact keepE (by assumption) (Nat.le_refl _) | exact BB3 | exact BB1 | exact belDrew (unhide HB3) | exact ((BB3.setCell hbw _).setCell hbw _).setCell hbw _) (first
              | (go_at_call 51; refine (unhide HVT _).mono ?_; rintro e V1 ⟨rfl, hb1⟩; have KK1 : Below W3.heap.size W3 V1 := belOn (belDrew (bel1 _ _)) hb1; have BB1 : Below W0.heap.size W0 V1 := belOn (unhide HB3) KK1; have hbw : W0.heap.size ≤ W3.heap.size := (unhide HB3).size; have NZb := (NZ.newD W3).below hb1)
              | (go_at_call 51; refine (unhide HVT _).mono ?_; rintro e V1 ⟨rfl, hb1⟩; have KK1 : Below W3.heap.size W3 V1 := bOfDrew hb1; have BB1 : Below W0.heap.size W0 V1 := belOn (unhide HB3) KK1)
              | (go_at_call 32; refine (unhide HRP _ (belOn BB1 (bel1 _ _))).mono ?_; rintro e V3 ⟨xL, kL, xS, kS, xO, kO, rfl, r1, r2, r3, ad, q1, q2, q3, hb3⟩; have hzv := BB1.size; have KK3 : Below V1.heap.size V1 V3 := belOn (bel1 _ _) hb3; have BB3 : Below W0.heap.size W0 V3 := belOn BB1 KK3; have hbw : W0.heap.size ≤ V1.heap.size := BB1.size; have NZb := (NZ.new V1).below hb3; have nbl : V1.heap.size < (V1.alloc (.cells #[.slice none 0 0, .slice none 0 0, .slice none 0 0] 27)).heap.size := (by simp); obtain ⟨nlt, n0, n1, n2, y0, y1, y2⟩ := NZb)
              | (go_at_call 32; refine (unhide HRP V1 BB1).mono ?_; rintro e V3 ⟨xL, kL, xS, kS, xO, kO, rfl, r1, r2, r3, ad, q1, q2, q3, hb3⟩; have hzv := BB1.size; have nbl := NZb.lt; have NZb := NZb.below hb3; have KK3 : Below V1.heap.size V1 V3 := hb3; have BB3 : Below W0.heap.size W0 V3 := belOn BB1 KK3; obtain ⟨nlt, n0, n1, n2, y0, y1, y2⟩ := NZb)
              | (go_at_call 32; refine (unhide HRP V1 BB1).mono ?_; rintro e V3 ⟨xL, kL, xS, kS, xO, kO, rfl, r1, r2, r3, ad, q1, q2, q3, hb3⟩; have hzv := BB1.size; have KK3 : Below V1.heap.size V1 V3 := hb3; have BB3 : Below W0.heap.size W0 V3 := belOn BB1 KK3))
            all_goals (try go_wp2_with fail)
            all_goals go_meet
            all_goals first
              | exact ⟨V3.heap.size, xL, kL, xS, kS, xO, kO, rfl, rfl, hide (DC.new _ _ _ _ _ _ _ _ _ _), hide ⟨r1.below (bel1 _ _), r2.below (bel1 _ _), r3.below (bel1 _ _)⟩, hide ad, hide ⟨fun k hk => by have := q1 k hk; omega, fun k hk => by have := q2 k hk; omega, fun k hk => by have := q3 k hk; omega⟩, hide (belOn BB3 (bel1 _ _))⟩
              | exact ⟨_, xL, kL, xS, kS, xO, kO, rfl, rfl, hide (DC.set ⟨nlt, n0, n1, n2, y0, y1, y2⟩ _ _ _), hide ⟨r1.set3 (fun k hk => by have := q1 k hk; omega), r2.set3 (fun k hk => by have := q2 k hk; omega), r3.set3 (fun k hk => by have := q3 k hk; omega)⟩, hide ad, hide ⟨fun k hk => by have := q1 k hk; omega, fun k hk => by have := q2 k hk; omega, fun k hk => by have := q3 k hk; omega⟩, hide (((BB3.setCell hbw _).setCell hbw _).setCell hbw _)⟩
          case rest =>
          obtain ⟨w3, rfl⟩ : ∃ w3, w3 = wc := ⟨_, rfl⟩
          obtain ⟨bw, xL, kL, xS, kS, xO, kO, rfl, rfl, DW, HRW, HAD, HLO, HB4⟩ := hcut
          obtain ⟨-, e0, e1, e2⟩ := unhide DW
          go_wp2_with fail
          refine (unhide HSY w3 xL kL xS kS xO kO (unhide HRW) (unhide HAD)).mono ?_
          rintro e w7 ⟨yL, iL, yS, iS, yO, iO, rfl, p1, p2, p3, adq, n1, n2, n3, hb7⟩
          have hz4 := (unhide HB4).size
          have hz := unhide HZ0
          have HB7 := hide (belOn (unhide HB4) hb7)
          obtain ⟨⟨r0, r1, r2⟩, y0, y1, y2⟩ := unhide HR _ (unhide HB7)
          have HP := hide (show RowAt fileE w7 yL L2 ∧ RowAt fileE w7 yS L2 ∧ RowAt dopE w7 yO [] ∧ (∀ k, inB yL k → w.heap.size ≤ k ∧ k ≠ w.heap.size + 1) ∧ (∀ k, inB yS k → w.heap.size ≤ k ∧ k ≠ w.heap.size + 1) ∧ (∀ k, inB yO k → w.heap.size ≤ k ∧ k ≠ w.heap.size + 1) from ⟨p1, p2, p3, fun k hk => by have := n1 k hk; omega, fun k hk => by have := n2 k hk; omega, fun k hk => by have := n3 k hk; omega⟩)
          have HADQ := hide adq
          clear p1 p2 p3 n1 n2 n3 hb7 hz
          go_wp2_with fail
          refine bodyPost_ret (v := .tuple #[.agg #[.slice yL m4 iL, .slice yS m4 iS, .slice yO 0 iO], .int .i64 0]) (by simp [results, Tryz.results14, go_sem, r0, r1, r2]) rfl ?_
          obtain ⟨o1, o2, o3, n1, n2, n3⟩ := unhide HP
          have hm4 := unhide HM4
          subst hm4
          exact spcRetQ o1 o2 o3 (unhide HADQ) n1 n2 n3 (Nat.le_succ _) (unhide HFIN _ (unhide HB7))
      · simp only [if_neg hpc]
        clear HSY
        rcases h3 with h3 | ⟨h3, h4, h5⟩ | ⟨h3, ⟨h4, h5⟩, h6, h7⟩
        all_goals
          go_enter Tryz.func14, Tryz.ntmps14
          go_wp2_with fail
          rw [unhide HW0]
          refine (spec_DiskOk _ nL cL live _ nS cS safe _ nO cO ops W0 (unhide HD _ (Below.refl _ _))).mono ?_
          rintro e w1 ⟨rfl, hb1⟩
          rw [unhide HX]
          obtain ⟨q0, q1, q2⟩ := unhide HC _ hb1
          have HB1 := hide hb1
          clear hb1
          go_wp2_with fail
          refine (unhide HRC _ (unhide HB1)).mono ?_
          rintro e w2 ⟨sl, rfl, ho, hb2⟩
          obtain ⟨a5, c5, rfl⟩ := ho.form
          obtain ⟨W3, hW3⟩ : ∃ W3, W3 = (w2.alloc (.cells #[.int .i64 T, .int .i64 V, .slice a5 es.length c5] 34)) := ⟨_, rfl⟩
          have HB3 := hide (show Below W0.heap.size W0 W3 from by rw [hW3]; exact belOn (belOn (unhide HB1) hb2) (bel1 _ _))
          have j0 : W3.cell? ⟨w2.heap.size, 0, none⟩ = some (.int .i64 T) := by rw [hW3]; simp [go_sem]
          have j1 : W3.cell? ⟨w2.heap.size, 1, none⟩ = some (.int .i64 V) := by rw [hW3]; simp [go_sem]
          have HW3 := hide hW3.symm
          clear hb2 ho hW3 q0 q1 q2
          obtain ⟨q0, q1, q2⟩ := unhide HC _ (unhide HB3)
          go_wp2_with fail
          rw [unhide HW3]
          go_wp2_with (first
            | (go_at_call_of 28 t; refine (l1In_calls t T 1000000000000 _).mono ?_; rintro e w4 ⟨rfl, hw4⟩; rw [← hw4]; clear hw4; rw [h1])
            | (go_at_call_of 28 v; refine (l1In_calls v 0 1000000000000 _).mono ?_; rintro e w4 ⟨rfl, hw4⟩; rw [← hw4]; clear hw4; rw [h2]))
          have HW4 := hide (Below.refl W3.heap.size W3)
          go_cut [11, 12] (fun s11 s12 wx => ∃ (bw : Nat) (xL : Option Addr) (kL : Nat) (xS : Option Addr) (kS : Nat) (xO : Option Addr) (kO : Nat), s11 = .pointer (some ⟨bw, 0, none⟩) ∧ s12 = .int .i64 PC ∧ Hid (DC bw (.slice xL m1 kL) (.slice xS m2 kS) (.slice xO m3 kO) wx) ∧ Hid (RowAt fileE wx xL L1 ∧ RowAt fileE wx xS S1 ∧ RowAt dopE wx xO O1) ∧ Hid (AdOk xL kL ∧ AdOk xS kS ∧ AdOk xO kO) ∧ Hid ((∀ k, inB xL k → W0.heap.size ≤ k) ∧ (∀ k, inB xS k → W0.heap.size ≤ k) ∧ (∀ k, inB xO k → W0.heap.size ≤ k)) ∧ Hid (Below W0.heap.size W0 wx))
          case first =>
            have X0 := fun (W : World) (hW : Below W0.heap.size W0 W) => (unhide HC W hW).1
            have X1 := fun (W : World) (hW : Below W0.heap.size W0 W) => (unhide HC W hW).2.1
            have X2 := fun (W : World) (hW : Below W0.heap.size W0 W) => (unhide HC W hW).2.2
            go_region_held3 (fun w' => Below W0.heap.size W0 w') (first | exact keepD (by assumption) (Nat.le_refl _) | exact keepE (by assumption) (Nat.le_refl _) | exact BB3 | exact BB1 | exact belDrew (unhide HB3) | exact ((BB3.setCell hbw _).setCell hbw _).setCell hbw _) (first
              | (go_at_call 51; refine (unhide HVT _).mono ?_; rintro e V1 ⟨rfl, hb1⟩; have KK1 : Below W3.heap.size W3 V1 := belOn (belDrew (bel1 _ _)) hb1; have BB1 : Below W0.heap.size W0 V1 := belOn (unhide HB3) KK1; have hbw : W0.heap.size ≤ W3.heap.size := (unhide HB3).size; have NZb := (NZ.newD W3).below hb1)
              | (go_at_call 51; refine (unhide HVT _).mono ?_; rintro e V1 ⟨rfl, hb1⟩; have KK1 : Below W3.heap.size W3 V1 := bOfDrew hb1; have BB1 : Below W0.heap.size W0 V1 := belOn (unhide HB3) KK1)
              | (go_at_call 32; refine (unhide HRP _ (belOn BB1 (bel1 _ _))).mono ?_; rintro e V3 ⟨xL, kL, xS, kS, xO, kO, rfl, r1, r2, r3, ad, q1, q2, q3, hb3⟩; have hzv := BB1.size; have KK3 : Below V1.heap.size V1 V3 := belOn (bel1 _ _) hb3; have BB3 : Below W0.heap.size W0 V3 := belOn BB1 KK3; have hbw : W0.heap.size ≤ V1.heap.size := BB1.size; have NZb := (NZ.new V1).below hb3; have nbl : V1.heap.size < (V1.alloc (.cells #[.slice none 0 0, .slice none 0 0, .slice none 0 0] 27)).heap.size := (by simp); obtain ⟨nlt, n0, n1, n2, y0, y1, y2⟩ := NZb)
              | (go_at_call 32; refine (unhide HRP V1 BB1).mono ?_; rintro e V3 ⟨xL, kL, xS, kS, xO, kO, rfl, r1, r2, r3, ad, q1, q2, q3, hb3⟩; have hzv := BB1.size; have nbl := NZb.lt; have NZb := NZb.below hb3; have KK3 : Below V1.heap.size V1 V3 := hb3; have BB3 : Below W0.heap.size W0 V3 := belOn BB1 KK3; obtain ⟨nlt, n0, n1, n2, y0, y1, y2⟩ := NZb)
              | (go_at_call 32; refine (unhide HRP V1 BB1).mono ?_; rintro e V3 ⟨xL, kL, xS, kS, xO, kO, rfl, r1, r2, r3, ad, q1, q2, q3, hb3⟩; have hzv := BB1.size; have KK3 : Below V1.heap.size V1 V3 := hb3; have BB3 : Below W0.heap.size W0 V3 := belOn BB1 KK3))
            all_goals (try go_wp2_with fail)
            all_goals go_meet
            all_goals first
              | exact ⟨V3.heap.size, xL, kL, xS, kS, xO, kO, rfl, rfl, hide (DC.new _ _ _ _ _ _ _ _ _ _), hide ⟨r1.below (bel1 _ _), r2.below (bel1 _ _), r3.below (bel1 _ _)⟩, hide ad, hide ⟨fun k hk => by have := q1 k hk; omega, fun k hk => by have := q2 k hk; omega, fun k hk => by have := q3 k hk; omega⟩, hide (belOn BB3 (bel1 _ _))⟩
              | exact ⟨_, xL, kL, xS, kS, xO, kO, rfl, rfl, hide (DC.set ⟨nlt, n0, n1, n2, y0, y1, y2⟩ _ _ _), hide ⟨r1.set3 (fun k hk => by have := q1 k hk; omega), r2.set3 (fun k hk => by have := q2 k hk; omega), r3.set3 (fun k hk => by have := q3 k hk; omega)⟩, hide ad, hide ⟨fun k hk => by have := q1 k hk; omega, fun k hk => by have := q2 k hk; omega, fun k hk => by have := q3 k hk; omega⟩, hide (((BB3.setCell hbw _).setCell hbw _).setCell hbw _)⟩
          case rest =>
          obtain ⟨w3, rfl⟩ : ∃ w3, w3 = wc := ⟨_, rfl⟩
          obtain ⟨bw, xL, kL, xS, kS, xO, kO, rfl, rfl, DW, HRW, HAD, HLO, HB4⟩ := hcut
          obtain ⟨-, e0, e1, e2⟩ := unhide DW
          obtain ⟨⟨r0, r1, r2⟩, y0, y1, y2⟩ := unhide HR _ (unhide HB4)
          go_wp2_with fail
          refine bodyPost_ret (v := .tuple #[.agg #[.slice xL m1 kL, .slice xS m2 kS, .slice xO m3 kO], .int .i64 PC]) (by simp [results, Tryz.results14, go_sem, r0, r1, r2]) rfl ?_
          obtain ⟨o1, o2, o3⟩ := unhide HRW
          obtain ⟨n1, n2, n3⟩ := unhide HLO
          obtain ⟨hm1, hm2, hm3⟩ := unhide HM
          have hz := unhide HZ0
          subst hm1 hm2 hm3
          exact spcRetQ o1 o2 o3 (unhide HAD) (fun k hk => by have := n1 k hk; omega) (fun k hk => by have := n2 k hk; omega) (fun k hk => by have := n3 k hk; omega) (Nat.le_succ _) (unhide HFIN _ (unhide HB4))
end Go.Proofs.YtakalfckhailjaaGreat
