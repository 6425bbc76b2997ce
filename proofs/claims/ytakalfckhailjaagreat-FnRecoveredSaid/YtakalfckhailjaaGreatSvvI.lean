/- SaveVote of the program. -/
import Derived.Test.YtakalfckhailjaaGreatGAN
import Derived.Test.YtakalfckhailjaaGreatGBB
import Derived.Test.YtakalfckhailjaaGreatRecI
import Derived.Test.YtakalfckhailjaaGreatGAV
import Derived.Test.YtakalfckhailjaaGreatGBE
import Derived.Test.YtakalfckhailjaaGreatGAT
import Derived.Deep.RegionHeld3
namespace Go.Proofs.YtakalfckhailjaaGreat
open Go.RowKit Plain
set_option linter.unusedVariables false

set_option maxRecDepth 10000 in
set_option maxHeartbeats 8000000 in
theorem impl_SaveVote (q1L : Option Addr) (nL cL : Nat) (live : List Fl) (q2S : Option Addr) (nS cS : Nat) (safe : List Fl) (q3O : Option Addr) (nO cO : Nat) (ops : List Dop) (t v : Int) (w : World) (h : DiskAt w q1L nL cL live q2S nS cS safe q3O nO cO ops) :
    Calls Tryz.prog 15 #[.agg #[.slice q1L nL cL, .slice q2S nS cS, .slice q3O nO cO], .int .i64 t, .int .i64 v] w (DskPost (fun x => .tuple #[x, .int .i64 (svC live safe ops t v)]) (svL live safe ops t v) (svS live safe ops t v) (svO live safe ops t v) w) := by
  obtain ⟨W0, hW0⟩ : ∃ W0, W0 = (w.alloc (.cells #[.slice q1L nL cL, .slice q2S nS cS, .slice q3O nO cO] 27)).alloc (.cells #[.slice none 0 0, .slice none 0 0, .slice none 0 0] 27) := ⟨_, rfl⟩
  have hb0 : Below w.heap.size w W0 := by rw [hW0]; exact belOn (bel1 _ _) (bel1 _ _)
  have hz0 : W0.heap.size = w.heap.size + 2 := by rw [hW0]; simp
  have c0 : W0.cell? ⟨w.heap.size, 0, none⟩ = some (.slice q1L nL cL) := by rw [hW0]; simp [go_sem]
  have c1 : W0.cell? ⟨w.heap.size, 1, none⟩ = some (.slice q2S nS cS) := by rw [hW0]; simp [go_sem]
  have c2 : W0.cell? ⟨w.heap.size, 2, none⟩ = some (.slice q3O nO cO) := by rw [hW0]; simp [go_sem]
  have r0 : W0.cell? ⟨w.heap.size + 1, 0, none⟩ = some (.slice none 0 0) := by rw [hW0]; simp [go_sem]
  have r1 : W0.cell? ⟨w.heap.size + 1, 1, none⟩ = some (.slice none 0 0) := by rw [hW0]; simp [go_sem]
  have r2 : W0.cell? ⟨w.heap.size + 1, 2, none⟩ = some (.slice none 0 0) := by rw [hW0]; simp [go_sem]
  have y0 : W0.frozen? ⟨w.heap.size + 1, 0, none⟩ = false := by rw [hW0]; simp [go_sem]
  have y1 : W0.frozen? ⟨w.heap.size + 1, 1, none⟩ = false := by rw [hW0]; simp [go_sem]
  have y2 : W0.frozen? ⟨w.heap.size + 1, 2, none⟩ = false := by rw [hW0]; simp [go_sem]
  have HD := hide (fun (W : World) (hW : Below W0.heap.size W0 W) => (h.below hb0).below hW)
  have HC := hide (fun (W : World) (hW : Below W0.heap.size W0 W) => And.intro (bcl hW (by omega) c0) (And.intro (bcl hW (by omega) c1) (bcl hW (by omega) c2)))
  have HR := hide (fun (W : World) (hW : Below W0.heap.size W0 W) => And.intro (And.intro (bcl hW (by omega) r0) (And.intro (bcl hW (by omega) r1) (bcl hW (by omega) r2))) (And.intro ((hW.frozen (p := ⟨w.heap.size + 1, 0, none⟩) (by show w.heap.size + 1 < _; omega)).trans y0) (And.intro ((hW.frozen (p := ⟨w.heap.size + 1, 1, none⟩) (by show w.heap.size + 1 < _; omega)).trans y1) ((hW.frozen (p := ⟨w.heap.size + 1, 2, none⟩) (by show w.heap.size + 1 < _; omega)).trans y2))))
  have HFIN := hide (fun (W : World) (hW : Below W0.heap.size W0 W) => belOn hb0 hW)
  have HZ0 := hide hz0
  have HW0 := hide hW0.symm
  have HLN := hide (And.intro h.ll (And.intro h.ls h.lo))
  have HBO := hide (And.intro h.fs (And.intro h.fo (And.intro h.bs h.bo)))
  clear h hb0 c0 c1 c2 r0 r1 r2 y0 y1 y2 hW0 hz0
  have hz := unhide HZ0
  unfold svC svL svS svO
  cases hd : diskB live safe ops with
  | false =>
    simp only [Bool.false_eq_true, if_false]
    have HX := hide hd
    clear hd
    go_enter Tryz.func15, Tryz.ntmps15
    go_wp2_with fail
    rw [unhide HW0]
    refine (impl_DiskOk _ nL cL live _ nS cS safe _ nO cO ops W0 (unhide HD _ (Below.refl _ _))).mono ?_
    rintro e w1 ⟨rfl, hb1⟩
    rw [unhide HX]
    have HB1 := hide (unhide HFIN _ hb1)
    obtain ⟨⟨r0, r1, r2⟩, y0, y1, y2⟩ := unhide HR _ hb1
    clear hb1
    go_wp2_with fail
    refine bodyPost_ret (v := .tuple #[.agg #[.slice none 0 0, .slice none 0 0, .slice none 0 0], .int .i64 1]) (by simp [results, Tryz.results15, go_sem, r0, r1, r2]) rfl ?_
    exact ⟨none, 0, none, 0, none, 0, rfl, ownR_nil _ _ _, ownR_nil _ _ _, ownR_nil _ _ _, apartNil, below3 (unhide HB1) (Nat.le_succ _)⟩
  | true =>
    simp only [if_true]
    have HX := hide hd
    have HRC := hide (fun (W : World) (hW : Below W0.heap.size W0 W) => impl_Recover _ nL cL live _ nS cS safe _ nO cO ops W (unhide HD W hW))
    have hsv : svB live safe ops t v = ((recT live safe ops).1 && (numB t && (numB v && mayB (recT live safe ops).2.1 (recT live safe ops).2.2.1 t v))) := rfl
    obtain ⟨SV, hSV⟩ : ∃ SV, svB live safe ops t v = SV := ⟨_, rfl⟩
    rw [hSV] at hsv ⊢
    generalize recT live safe ops = RR at HRC hsv
    obtain ⟨ok, T, V, es⟩ := RR
    simp only [] at HRC hsv
    cases SV with
    | false =>
      simp only [Bool.false_eq_true, if_false]
      have HCP := hide (fun (W : World) (hW : Below W0.heap.size W0 W) => copyOfDiskA_calls q1L nL cL live q2S nS cS safe q3O nO cO ops W (unhide HD W hW))
      have h4 : ok = false ∨ (ok = true ∧ numB t = false) ∨ (ok = true ∧ numB t = true ∧ numB v = false) ∨ (ok = true ∧ numB t = true ∧ numB v = true ∧ mayB T V t v = false) := by
        cases ok with
        | false => exact .inl rfl
        | true =>
          cases h1 : numB t with
          | false => exact .inr (.inl ⟨rfl, rfl⟩)
          | true =>
            cases h2 : numB v with
            | false => exact .inr (.inr (.inl ⟨rfl, rfl, rfl⟩))
            | true => rw [h1, h2] at hsv; exact .inr (.inr (.inr ⟨rfl, rfl, rfl, by simpa using hsv.symm⟩))
      clear hsv hSV hd
      unfold DskPost at HCP
      rcases h4 with rfl | h4
      case inl =>
        go_enter Tryz.func15, Tryz.ntmps15
        go_wp2_with fail
        rw [unhide HW0]
        refine (impl_DiskOk _ nL cL live _ nS cS safe _ nO cO ops W0 (unhide HD _ (Below.refl _ _))).mono ?_
        rintro e w1 ⟨rfl, hb1⟩
        rw [unhide HX]
        obtain ⟨q0, q1, q2⟩ := unhide HC _ hb1
        have HB1 := hide hb1
        clear hb1
        go_wp2_with fail
        refine (unhide HRC _ (unhide HB1)).mono ?_
        rintro e w2 ⟨sl, rfl, ho, hb2⟩
        obtain ⟨a5, c5, rfl⟩ := ho.form
        have HB3 := hide (show Below W0.heap.size W0 (w2.alloc (.cells #[.int .i64 T, .int .i64 V, .slice a5 es.length c5] 34)) from belOn (belOn (unhide HB1) hb2) (bel1 _ _))
        clear hb2 ho q0 q1 q2
        obtain ⟨q0, q1, q2⟩ := unhide HC _ (unhide HB3)
        go_wp2_with fail
        refine (unhide HCP _ (unhide HB3)).mono ?_
        rintro e s5 ⟨xL, kL, xS, kS, xO, kO, rfl, o1, o2, o3, ap, hb5⟩
        have HB5 := hide (show Below W0.heap.size W0 s5 from belOn (unhide HB3) hb5)
        have HO := hide (show OwnR fileE s5 W0.heap.size (.slice xL live.length kL) live ∧ OwnR fileE s5 W0.heap.size (.slice xS safe.length kS) safe ∧ OwnR dopE s5 W0.heap.size (.slice xO ops.length kO) ops ∧ Apart xL xS xO from ⟨o1.le (unhide HB3).size, o2.le (unhide HB3).size, o3.le (unhide HB3).size, ap⟩)
        obtain ⟨⟨r0, r1, r2⟩, y0, y1, y2⟩ := unhide HR _ (unhide HB5)
        clear o1 o2 o3 ap hb5
        go_wp2_with fail
        refine bodyPost_ret (v := .tuple #[.agg #[.slice xL live.length kL, .slice xS safe.length kS, .slice xO ops.length kO], .int .i64 10]) (by simp [results, Tryz.results15, go_sem, r0, r1, r2]) rfl ?_
        obtain ⟨o1, o2, o3, ap⟩ := unhide HO
        have hsz := (unhide HFIN _ (Below.refl _ _)).size
        have kk : ∀ g, W0.heap.size ≤ g → (((s5.setCell ⟨w.heap.size + 1, 0, none⟩ (.slice xL live.length kL)).setCell ⟨w.heap.size + 1, 1, none⟩ (.slice xS safe.length kS)).setCell ⟨w.heap.size + 1, 2, none⟩ (.slice xO ops.length kO)).heap[g]? = s5.heap[g]? := fun g hg => by rw [heap_set (by omega), heap_set (by omega), heap_set (by omega)]
        exact ⟨xL, kL, xS, kS, xO, kO, rfl, (o1.other (fun g hg => kk g (own_from o1 hg))).le hsz, (o2.other (fun g hg => kk g (own_from o2 hg))).le hsz, (o3.other (fun g hg => kk g (own_from o3 hg))).le hsz, ap, below3 (unhide HFIN _ (unhide HB5)) (Nat.le_succ _)⟩
      rcases h4 with ⟨rfl, h1⟩ | ⟨rfl, h1, h2⟩ | ⟨rfl, h1, h2, h3⟩
      all_goals
        go_enter Tryz.func15, Tryz.ntmps15
        go_wp2_with fail
        rw [unhide HW0]
        refine (impl_DiskOk _ nL cL live _ nS cS safe _ nO cO ops W0 (unhide HD _ (Below.refl _ _))).mono ?_
        rintro e w1 ⟨rfl, hb1⟩
        rw [unhide HX]
        obtain ⟨q0, q1, q2⟩ := unhide HC _ hb1
        have HB1 := hide hb1
        clear hb1
        go_wp2_with fail
        refine (unhide HRC _ (unhide HB1)).mono ?_
        rintro e w2 ⟨sl, rfl, ho, hb2⟩
        obtain ⟨a5, c5, rfl⟩ := ho.form
        obtain ⟨W3, hW3⟩ : ∃ W3, W3 = w2.alloc (.cells #[.int .i64 T, .int .i64 V, .slice a5 es.length c5] 34) := ⟨_, rfl⟩
        have HB3 := hide (show Below W0.heap.size W0 W3 from by rw [hW3]; exact belOn (belOn (unhide HB1) hb2) (bel1 _ _))
        have j0 : W3.cell? ⟨w2.heap.size, 0, none⟩ = some (.int .i64 T) := by rw [hW3]; simp [go_sem]
        have j1 : W3.cell? ⟨w2.heap.size, 1, none⟩ = some (.int .i64 V) := by rw [hW3]; simp [go_sem]
        have j2 : W3.cell? ⟨w2.heap.size, 2, none⟩ = some (.slice a5 es.length c5) := by rw [hW3]; simp [go_sem]
        have HW3 := hide hW3.symm
        clear hb2 ho hW3 q0 q1 q2
        obtain ⟨q0, q1, q2⟩ := unhide HC _ (unhide HB3)
        go_wp2_with fail
        rw [unhide HW3]
        go_wp2_with (first
          | (go_at_call_of 52 t; refine (numberOk_calls t _).mono ?_; rintro e w4 ⟨rfl, rfl⟩; rw [h1])
          | (go_at_call_of 52 v; refine (numberOk_calls v _).mono ?_; rintro e w4 ⟨rfl, rfl⟩; rw [h2])
          | (go_at_call 53; refine (mayVote_calls T V t v (.bool true) a5 es.length c5 _).mono ?_; rintro e w4 ⟨rfl, hb4⟩; rw [h3]; obtain ⟨q0, q1, q2⟩ := unhide HC _ (belOn (unhide HB3) hb4)))
        first
          | refine (unhide HCP _ (unhide HB3)).mono ?_
          | refine (unhide HCP _ (belOn (unhide HB3) hb4)).mono ?_
        rintro e s5 ⟨xL, kL, xS, kS, xO, kO, rfl, o1, o2, o3, ap, hb5⟩
        have HB5 := hide (show Below W0.heap.size W0 s5 from by first | exact belOn (unhide HB3) hb5 | exact belOn (belOn (unhide HB3) hb4) hb5)
        have hlow : ∀ g, W3.heap.size ≤ g → w.heap.size + 1 < g := fun g hg => by have := (unhide HB3).size; omega
        have HO := hide (show OwnR fileE s5 W0.heap.size (.slice xL live.length kL) live ∧ OwnR fileE s5 W0.heap.size (.slice xS safe.length kS) safe ∧ OwnR dopE s5 W0.heap.size (.slice xO ops.length kO) ops ∧ Apart xL xS xO from by
          have hz3 := (unhide HB3).size
          first
            | exact ⟨o1.le hz3, o2.le hz3, o3.le hz3, ap⟩
            | exact ⟨o1.le (Nat.le_trans hz3 hb4.size), o2.le (Nat.le_trans hz3 hb4.size), o3.le (Nat.le_trans hz3 hb4.size), ap⟩)
        obtain ⟨⟨r0, r1, r2⟩, y0, y1, y2⟩ := unhide HR _ (unhide HB5)
        clear o1 o2 o3 ap hb5
        go_wp2_with fail
        refine bodyPost_ret (v := .tuple #[.agg #[.slice xL live.length kL, .slice xS safe.length kS, .slice xO ops.length kO], .int .i64 10]) (by simp [results, Tryz.results15, go_sem, r0, r1, r2]) rfl ?_
        obtain ⟨o1, o2, o3, ap⟩ := unhide HO
        have hsz := (unhide HFIN _ (Below.refl _ _)).size
        have kk : ∀ g, W0.heap.size ≤ g → (((s5.setCell ⟨w.heap.size + 1, 0, none⟩ (.slice xL live.length kL)).setCell ⟨w.heap.size + 1, 1, none⟩ (.slice xS safe.length kS)).setCell ⟨w.heap.size + 1, 2, none⟩ (.slice xO ops.length kO)).heap[g]? = s5.heap[g]? := fun g hg => by rw [heap_set (by omega), heap_set (by omega), heap_set (by omega)]
        exact ⟨xL, kL, xS, kS, xO, kO, rfl, (o1.other (fun g hg => kk g (own_from o1 hg))).le hsz, (o2.other (fun g hg => kk g (own_from o2 hg))).le hsz, (o3.other (fun g hg => kk g (own_from o3 hg))).le hsz, ap, below3 (unhide HFIN _ (unhide HB5)) (Nat.le_succ _)⟩
    | true =>
      simp only [if_true]
      obtain ⟨rfl, h1, h2, h3⟩ : ok = true ∧ numB t = true ∧ numB v = true ∧ mayB T V t v = true := by
        have h := hsv.symm
        simp only [Bool.and_eq_true] at h
        exact ⟨h.1, h.2.1, h.2.2.1, h.2.2.2⟩
      have hvz := voteB_small t v
      obtain ⟨hx, hxl⟩ := repX_small live safe ops (fr := voteNew) (nm := voteN) (dt := voteB t v) (by decide) (by decide) (by omega)
      have hfit := sv_fit (xs := svX live safe ops t v) hd (unhide HBO).2.1 hx hxl
      have HRP := hide (fun (W : World) (hW : Below W0.heap.size W0 W) => impl_ReplaceA q1L nL cL live q2S nS cS safe q3O nO cO ops voteN (voteB t v) voteNew W (unhide HD W hW) (by decide) (by omega) vote_new)
      change Hid (∀ (W : World) (hW : Below W0.heap.size W0 W), Calls Tryz.prog 43 _ W (DskPost (fun x => .tuple #[x, .int .i64 (actC live safe ops (svX live safe ops t v))]) (actL live safe ops (svX live safe ops t v)) (actS live safe ops) (actO live safe ops (svX live safe ops t v)) W)) at HRP
      have HVT := hide (fun W => voteText_calls t v W)
      generalize voteB t v = VT at HRP HVT hvz
      generalize actC live safe ops (svX live safe ops t v) = PC at HRP ⊢
      generalize actL live safe ops (svX live safe ops t v) = L1 at HRP hfit ⊢
      generalize actS live safe ops = S1 at HRP hfit ⊢
      generalize actO live safe ops (svX live safe ops t v) = O1 at HRP hfit ⊢
      clear hx hxl hsv hSV hd hvz
      unfold DskPost at HRP
      obtain ⟨f1, f2, f3, f4, f5, f6⟩ := hfit
      obtain ⟨m1, hm1⟩ : ∃ m, L1.length = m := ⟨_, rfl⟩
      obtain ⟨m2, hm2⟩ : ∃ m, S1.length = m := ⟨_, rfl⟩
      obtain ⟨m3, hm3⟩ : ∃ m, O1.length = m := ⟨_, rfl⟩
      have HSY := hide (fun (W : World) (B : Nat) (yL : Option Addr) (kL : Nat) (yS : Option Addr) (kS : Nat) (yO : Option Addr) (kO : Nat) (o1 : OwnR fileE W B (.slice yL m1 kL) L1) (o2 : OwnR fileE W B (.slice yS m2 kS) S1) (o3 : OwnR dopE W B (.slice yO m3 kO) O1) => syncedYes_calls yL m1 kL L1 yS m2 kS S1 yO m3 kO O1 W ⟨o1.at, o2.at, o3.at.toO, hm1, hm2, hm3, o1.ad, o2.ad, f1, f2, f3, by omega, by omega, by omega⟩)
      rw [hm1, hm2, hm3] at HRP
      have HM := hide (And.intro hm1 (And.intro hm2 hm3))
      clear f1 f2 f3 f4 f5 f6 hm1 hm2 hm3
      by_cases hpc : PC = 0
      · subst hpc
        simp only [if_true]
        unfold DskPost at HSY
        generalize synL L1 S1 O1 = L2 at HSY ⊢
        obtain ⟨m4, hm4⟩ : ∃ m, L2.length = m := ⟨_, rfl⟩
        rw [hm4] at HSY
        have HM4 := hide hm4
        clear hm4
        go_enter Tryz.func15, Tryz.ntmps15
        go_wp2_with fail
        rw [unhide HW0]
        refine (impl_DiskOk _ nL cL live _ nS cS safe _ nO cO ops W0 (unhide HD _ (Below.refl _ _))).mono ?_
        rintro e w1 ⟨rfl, hb1⟩
        rw [unhide HX]
        obtain ⟨q0, q1, q2⟩ := unhide HC _ hb1
        have HB1 := hide hb1
        clear hb1
        go_wp2_with fail
        refine (unhide HRC _ (unhide HB1)).mono ?_
        rintro e w2 ⟨sl, rfl, ho, hb2⟩
        obtain ⟨a5, c5, rfl⟩ := ho.form
        obtain ⟨W3, hW3⟩ : ∃ W3, W3 = w2.alloc (.cells #[.int .i64 T, .int .i64 V, .slice a5 es.length c5] 34) := ⟨_, rfl⟩
        have HB3 := hide (show Below W0.heap.size W0 W3 from by rw [hW3]; exact belOn (belOn (unhide HB1) hb2) (bel1 _ _))
        have j0 : W3.cell? ⟨w2.heap.size, 0, none⟩ = some (.int .i64 T) := by rw [hW3]; simp [go_sem]
        have j1 : W3.cell? ⟨w2.heap.size, 1, none⟩ = some (.int .i64 V) := by rw [hW3]; simp [go_sem]
        have j2 : W3.cell? ⟨w2.heap.size, 2, none⟩ = some (.slice a5 es.length c5) := by rw [hW3]; simp [go_sem]
        have HW3 := hide hW3.symm
        clear hb2 ho hW3 q0 q1 q2
        obtain ⟨q0, q1, q2⟩ := unhide HC _ (unhide HB3)
        go_wp2_with fail
        rw [unhide HW3]
        go_wp2_with (first
          | (go_at_call_of 52 t; refine (numberOk_calls t _).mono ?_; rintro e w4 ⟨rfl, rfl⟩; rw [h1])
          | (go_at_call_of 52 v; refine (numberOk_calls v _).mono ?_; rintro e w4 ⟨rfl, rfl⟩; rw [h2])
          | (go_at_call 53; refine (mayVote_calls T V t v (.bool true) a5 es.length c5 _).mono ?_; rintro e w4 ⟨rfl, hb4⟩; rw [h3]; have HB4 := hide (belOn (unhide HB3) hb4)))
        clear q0 q1 q2 j0 j1 j2 hb4
        obtain ⟨q0, q1, q2⟩ := unhide HC _ (unhide HB4)
        have l4 := lt_of_cell q0
        simp only at l4
        go_region_held3 (fun w' => w'.cell? ⟨w.heap.size, 0, none⟩ = some (.slice q1L nL cL) ∧ w'.cell? ⟨w.heap.size, 1, none⟩ = some (.slice q2S nS cS) ∧ w'.cell? ⟨w.heap.size, 2, none⟩ = some (.slice q3O nO cO)) (go_keep) (first
          | (go_at_call 54; refine (unhide HVT _).mono ?_; rintro e w5 ⟨rfl, hb5⟩; have HB5 := hide (belOn (unhide HB4) (bOfDrew hb5)); obtain ⟨s0, s1, s2⟩ := unhide HC _ (unhide HB5))
          | (go_at_call 43; refine (unhide HRP w5 (unhide HB5)).mono ?_; rintro e w6 ⟨xL, kL, xS, kS, xO, kO, rfl, o1, o2, o3, ap, hb6⟩; have HB6 := hide (belOn (unhide HB5) hb6); obtain ⟨t0, t1, t2⟩ := unhide HC _ (unhide HB6))
          | (go_at_call 40; refine (unhide HSY w6 _ _ _ _ _ _ _ o1 o2 o3).mono ?_; rintro e w7 ⟨yL, iL, yS, iS, yO, iO, rfl, p1, p2, p3, ap7, hb7⟩; have HB7 := hide (belOn (unhide HB6) hb7); obtain ⟨u0, u1, u2⟩ := unhide HC _ (unhide HB7); obtain ⟨⟨r0, r1, r2⟩, y0, y1, y2⟩ := unhide HR _ (unhide HB7)))
        all_goals (try go_wp2_with fail)
        all_goals
          refine bodyPost_ret (v := .tuple #[.agg #[.slice yL m4 iL, .slice yS m4 iS, .slice yO 0 iO], .int .i64 0]) (by simp [results, Tryz.results15, go_sem, r0, r1, r2]) rfl ?_
          have hz6 := (unhide HB6).size
          have hsz := (unhide HFIN _ (Below.refl _ _)).size
          have kk : ∀ g, w6.heap.size ≤ g → (((w7.setCell ⟨w.heap.size + 1, 0, none⟩ (.slice yL m4 iL)).setCell ⟨w.heap.size + 1, 1, none⟩ (.slice yS m4 iS)).setCell ⟨w.heap.size + 1, 2, none⟩ (.slice yO 0 iO)).heap[g]? = w7.heap[g]? := fun g hg => by rw [heap_set (by omega), heap_set (by omega), heap_set (by omega)]
          have hm4 := unhide HM4
          subst hm4
          exact ⟨yL, iL, yS, iS, yO, iO, rfl, (p1.other (fun g hg => kk g (own_from p1 hg))).le (by omega), (p2.other (fun g hg => kk g (own_from p2 hg))).le (by omega), (p3.other (fun g hg => kk g (own_from p3 hg))).le (by omega), ap7, below3 (unhide HFIN _ (unhide HB7)) (Nat.le_succ _)⟩
      · simp only [if_neg hpc]
        have HSN := hide (fun (W : World) (aL : Option Addr) (nL cL : Nat) (aS : Option Addr) (nS cS : Nat) (aO : Option Addr) (nO cO : Nat) => syncedNo_calls aL nL cL aS nS cS aO nO cO PC W hpc)
        clear HSY
        go_enter Tryz.func15, Tryz.ntmps15
        go_wp2_with fail
        rw [unhide HW0]
        refine (impl_DiskOk _ nL cL live _ nS cS safe _ nO cO ops W0 (unhide HD _ (Below.refl _ _))).mono ?_
        rintro e w1 ⟨rfl, hb1⟩
        rw [unhide HX]
        obtain ⟨q0, q1, q2⟩ := unhide HC _ hb1
        have HB1 := hide hb1
        clear hb1
        go_wp2_with fail
        refine (unhide HRC _ (unhide HB1)).mono ?_
        rintro e w2 ⟨sl, rfl, ho, hb2⟩
        obtain ⟨a5, c5, rfl⟩ := ho.form
        obtain ⟨W3, hW3⟩ : ∃ W3, W3 = w2.alloc (.cells #[.int .i64 T, .int .i64 V, .slice a5 es.length c5] 34) := ⟨_, rfl⟩
        have HB3 := hide (show Below W0.heap.size W0 W3 from by rw [hW3]; exact belOn (belOn (unhide HB1) hb2) (bel1 _ _))
        have j0 : W3.cell? ⟨w2.heap.size, 0, none⟩ = some (.int .i64 T) := by rw [hW3]; simp [go_sem]
        have j1 : W3.cell? ⟨w2.heap.size, 1, none⟩ = some (.int .i64 V) := by rw [hW3]; simp [go_sem]
        have j2 : W3.cell? ⟨w2.heap.size, 2, none⟩ = some (.slice a5 es.length c5) := by rw [hW3]; simp [go_sem]
        have HW3 := hide hW3.symm
        clear hb2 ho hW3 q0 q1 q2
        obtain ⟨q0, q1, q2⟩ := unhide HC _ (unhide HB3)
        go_wp2_with fail
        rw [unhide HW3]
        go_wp2_with (first
          | (go_at_call_of 52 t; refine (numberOk_calls t _).mono ?_; rintro e w4 ⟨rfl, rfl⟩; rw [h1])
          | (go_at_call_of 52 v; refine (numberOk_calls v _).mono ?_; rintro e w4 ⟨rfl, rfl⟩; rw [h2])
          | (go_at_call 53; refine (mayVote_calls T V t v (.bool true) a5 es.length c5 _).mono ?_; rintro e w4 ⟨rfl, hb4⟩; rw [h3]; have HB4 := hide (belOn (unhide HB3) hb4)))
        clear q0 q1 q2 j0 j1 j2 hb4
        obtain ⟨q0, q1, q2⟩ := unhide HC _ (unhide HB4)
        have l4 := lt_of_cell q0
        simp only at l4
        go_region_held3 (fun w' => w'.cell? ⟨w.heap.size, 0, none⟩ = some (.slice q1L nL cL) ∧ w'.cell? ⟨w.heap.size, 1, none⟩ = some (.slice q2S nS cS) ∧ w'.cell? ⟨w.heap.size, 2, none⟩ = some (.slice q3O nO cO)) (go_keep) (first
          | (go_at_call 54; refine (unhide HVT _).mono ?_; rintro e w5 ⟨rfl, hb5⟩; have HB5 := hide (belOn (unhide HB4) (bOfDrew hb5)); obtain ⟨s0, s1, s2⟩ := unhide HC _ (unhide HB5))
          | (go_at_call 43; refine (unhide HRP w5 (unhide HB5)).mono ?_; rintro e w6 ⟨xL, kL, xS, kS, xO, kO, rfl, o1, o2, o3, ap, hb6⟩; have HB6 := hide (belOn (unhide HB5) hb6); obtain ⟨t0, t1, t2⟩ := unhide HC _ (unhide HB6))
          | (go_at_call 40; refine (unhide HSN w6 _ _ _ _ _ _ _ _ _).mono ?_; rintro e w7 ⟨rfl, hb7⟩; have HB7 := hide (belOn (unhide HB6) hb7); obtain ⟨u0, u1, u2⟩ := unhide HC _ (unhide HB7); obtain ⟨⟨r0, r1, r2⟩, y0, y1, y2⟩ := unhide HR _ (unhide HB7); have p1 := own_below' o1 hb7; have p2 := own_below' o2 hb7; have p3 := own_below' o3 hb7))
        all_goals (try go_wp2_with fail)
        all_goals
          refine bodyPost_ret (v := .tuple #[.agg #[.slice xL m1 kL, .slice xS m2 kS, .slice xO m3 kO], .int .i64 PC]) (by simp [results, Tryz.results15, go_sem, r0, r1, r2]) rfl ?_
          have hz6 := (unhide HB5).size
          have hsz := (unhide HFIN _ (Below.refl _ _)).size
          have kk : ∀ g, w5.heap.size ≤ g → (((w7.setCell ⟨w.heap.size + 1, 0, none⟩ (.slice xL m1 kL)).setCell ⟨w.heap.size + 1, 1, none⟩ (.slice xS m2 kS)).setCell ⟨w.heap.size + 1, 2, none⟩ (.slice xO m3 kO)).heap[g]? = w7.heap[g]? := fun g hg => by rw [heap_set (by omega), heap_set (by omega), heap_set (by omega)]
          obtain ⟨hm1, hm2, hm3⟩ := unhide HM
          subst hm1 hm2 hm3
          exact ⟨xL, kL, xS, kS, xO, kO, rfl, (p1.other (fun g hg => kk g (own_from p1 hg))).le (by omega), (p2.other (fun g hg => kk g (own_from p2 hg))).le (by omega), (p3.other (fun g hg => kk g (own_from p3 hg))).le (by omega), ap, below3 (unhide HFIN _ (unhide HB7)) (Nat.le_succ _)⟩
end Go.Proofs.YtakalfckhailjaaGreat
