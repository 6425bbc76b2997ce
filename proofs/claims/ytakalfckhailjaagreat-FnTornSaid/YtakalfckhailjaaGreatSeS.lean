/- SaveEntries of the specification, where nothing is saved. -/
import Derived.Test.YtakalfckhailjaaGreatSeJ
import Derived.Test.YtakalfckhailjaaGreatGAX
import Derived.Test.YtakalfckhailjaaGreatRecS
import Derived.Test.YtakalfckhailjaaGreatRplS
import Derived.Test.YtakalfckhailjaaGreatGBE
import Derived.Deep.RegionHeld3
import Derived.Deep.DeepCutAuto
namespace Go.Proofs.YtakalfckhailjaaGreat
open Go.RowKit Plain
set_option linter.unusedVariables false

set_option maxRecDepth 10000 in
set_option maxHeartbeats 8000000 in
theorem spec_SaveNo (aL : Option Addr) (nL cL : Nat) (live : List Fl) (aS : Option Addr) (nS cS : Nat) (safe : List Fl) (aO : Option Addr) (nO cO : Nat) (ops : List Dop) (fm : Int) (a5 : Option Addr) (n5 c5 : Nat) (xs : List Ent) (w : World) (h : DiskAt w aL nL cL live aS nS cS safe aO nO cO ops) (hx : RowAt entE w a5 xs) (hxn : xs.length = n5) (hxb : n5 ≤ 1048576) (hxf : ∀ e ∈ xs, e.body.size ≤ 1000000000) (hxa : AdG a5 c5) (hd : diskB live safe ops = true) (hno : seB live safe ops fm xs = false) :
    Calls Tryz.prog 7 #[.agg #[.slice aL nL cL, .slice aS nS cS, .slice aO nO cO], .int .i64 fm, .slice a5 n5 c5] w (SpcQ (fun x => .tuple #[x, .int .i64 11]) live safe ops w) := by
  obtain ⟨W0, hW0⟩ : ∃ W0, W0 = (w.alloc (.cells #[.slice aL nL cL, .slice aS nS cS, .slice aO nO cO] 27)).alloc (.cells #[.slice none 0 0, .slice none 0 0, .slice none 0 0] 27) := ⟨_, rfl⟩
  have hb0 : Below w.heap.size w W0 := by rw [hW0]; exact belOn (bel1 _ _) (bel1 _ _)
  have hz0 : W0.heap.size = w.heap.size + 2 := by rw [hW0]; simp
  have c0 : W0.cell? ⟨w.heap.size, 0, none⟩ = some (.slice aL nL cL) := by rw [hW0]; simp [go_sem]
  have c1 : W0.cell? ⟨w.heap.size, 1, none⟩ = some (.slice aS nS cS) := by rw [hW0]; simp [go_sem]
  have c2 : W0.cell? ⟨w.heap.size, 2, none⟩ = some (.slice aO nO cO) := by rw [hW0]; simp [go_sem]
  have r0 : W0.cell? ⟨w.heap.size + 1, 0, none⟩ = some (.slice none 0 0) := by rw [hW0]; simp [go_sem]
  have r1 : W0.cell? ⟨w.heap.size + 1, 1, none⟩ = some (.slice none 0 0) := by rw [hW0]; simp [go_sem]
  have r2 : W0.cell? ⟨w.heap.size + 1, 2, none⟩ = some (.slice none 0 0) := by rw [hW0]; simp [go_sem]
  have y0 : W0.frozen? ⟨w.heap.size + 1, 0, none⟩ = false := by rw [hW0]; simp [go_sem]
  have y1 : W0.frozen? ⟨w.heap.size + 1, 1, none⟩ = false := by rw [hW0]; simp [go_sem]
  have y2 : W0.frozen? ⟨w.heap.size + 1, 2, none⟩ = false := by rw [hW0]; simp [go_sem]
  have HD := hide (fun (W : World) (hW : Below W0.heap.size W0 W) => (h.below hb0).below hW)
  have HE := hide (fun (W : World) (hW : Below W0.heap.size W0 W) => hx.below (belOn hb0 hW))
  have HC := hide (fun (W : World) (hW : Below W0.heap.size W0 W) => And.intro (bcl hW (by omega) c0) (And.intro (bcl hW (by omega) c1) (bcl hW (by omega) c2)))
  have HR := hide (fun (W : World) (hW : Below W0.heap.size W0 W) => And.intro (And.intro (bcl hW (by omega) r0) (And.intro (bcl hW (by omega) r1) (bcl hW (by omega) r2))) (And.intro ((hW.frozen (p := ⟨w.heap.size + 1, 0, none⟩) (by show w.heap.size + 1 < _; omega)).trans y0) (And.intro ((hW.frozen (p := ⟨w.heap.size + 1, 1, none⟩) (by show w.heap.size + 1 < _; omega)).trans y1) ((hW.frozen (p := ⟨w.heap.size + 1, 2, none⟩) (by show w.heap.size + 1 < _; omega)).trans y2))))
  have HFIN := hide (fun (W : World) (hW : Below W0.heap.size W0 W) => belOn hb0 hW)
  have HZ0 := hide hz0
  have HW0 := hide hW0.symm
  have HLN := hide (And.intro h.ll (And.intro h.ls h.lo))
  have HH := hide h
  have HXN := hide hxn
  have HXF := hide hxf
  have HXA := hide hxa
  clear h hb0 c0 c1 c2 r0 r1 r2 y0 y1 y2 hW0 hz0 hx hxn hxf hxa
  have HX := hide hd
  have HRC := hide (fun (W : World) (hW : Below W0.heap.size W0 W) => l5Disk_calls _ nL cL live _ nS cS safe _ nO cO ops W (unhide HD W hW) hd)
  have HCP := hide (fun (W : World) (hW : Below W0.heap.size W0 W) => l4Copy_calls _ nL cL live _ nS cS safe _ nO cO ops W (unhide HD W hW))
  unfold CpPost at HCP
  have hsm := rec_small live safe ops
  unfold seB seE at hno
  generalize recT live safe ops = RR at HRC hno hsm
  obtain ⟨ok, T, V, es⟩ := RR
  simp only [] at HRC hno hsm
  have h4 : ok = false ∨ (ok = true ∧ (decide (0 ≤ fm) && decide (fm ≤ (es.length : Int))) = false) ∨ (ok = true ∧ (decide (0 ≤ fm) && decide (fm ≤ (es.length : Int))) = true ∧ (500 : Int) < (n5 : Int)) ∨ (ok = true ∧ ∃ k : Nat, fm = (k : Int) ∧ k ≤ es.length ∧ n5 ≤ 500 ∧ jouB T V (es.take k ++ xs) = false) := by
    cases ok with
    | false => exact .inl rfl
    | true =>
      cases h1 : (decide (0 ≤ fm) && decide (fm ≤ (es.length : Int))) with
      | false => exact .inr (.inl ⟨rfl, rfl⟩)
      | true =>
        by_cases h5 : 500 < n5
        · exact .inr (.inr (.inl ⟨rfl, rfl, by omega⟩))
        · rw [h1] at hno
          simp only [Bool.and_eq_true, decide_eq_true_eq] at h1
          exact .inr (.inr (.inr ⟨rfl, fm.toNat, by omega, by omega, by omega, by simpa using hno⟩))
  clear hno hd
  have HSM := hide hsm.2
  have hs5 := hsm.1
  clear hsm
  rcases h4 with rfl | ⟨rfl, h1⟩ | ⟨rfl, h1, h2⟩ | ⟨rfl, k, rfl, hk, h2, h3⟩
  case inl =>
    go_enter Tryz.func7, Tryz.ntmps7
    go_wp2_with fail
    rw [unhide HW0]
    refine (spec_DiskOk _ nL cL live _ nS cS safe _ nO cO ops W0 (unhide HD _ (Below.refl _ _))).mono ?_
    rintro e w1 ⟨rfl, hb1⟩
    rw [unhide HX]
    obtain ⟨q0, q1, q2⟩ := unhide HC _ hb1
    have HB1 := hide hb1
    clear hb1
    go_wp2_with fail
    refine (unhide HRC _ (unhide HB1)).mono ?_
    rintro e w2 ⟨sl, rfl, ho, hb2⟩
    obtain ⟨aj, cj, rfl⟩ := ho.form
    have HB3 := hide (show Below W0.heap.size W0 (w2.alloc (.cells #[.int .i64 T, .int .i64 V, .slice aj es.length cj] 34)) from belOn (belOn (unhide HB1) hb2) (bel1 _ _))
    clear hb2 ho q0 q1 q2
    obtain ⟨q0, q1, q2⟩ := unhide HC _ (unhide HB3)
    go_wp2_with fail
    refine (unhide HCP _ (unhide HB3)).mono ?_
    rintro e s5 ⟨xL, kL, xS, kS, xO, kO, B3, rfl, r1', r2', r3', ad', -, -, -, -, q1', q2', q3', hb5⟩
    have HB5 := hide (belOn (unhide HB3) hb5)
    have hz3 := (unhide HB3).size
    have hz := unhide HZ0
    have HO := hide (show RowAt fileE s5 xL live ∧ RowAt fileE s5 xS safe ∧ RowAt dopE s5 xO ops ∧ (∀ k, inB xL k → w.heap.size ≤ k ∧ k ≠ w.heap.size + 1) ∧ (∀ k, inB xS k → w.heap.size ≤ k ∧ k ≠ w.heap.size + 1) ∧ (∀ k, inB xO k → w.heap.size ≤ k ∧ k ≠ w.heap.size + 1) from ⟨r1', r2', r3', fun k hk => by have := q1' k hk; omega, fun k hk => by have := q2' k hk; omega, fun k hk => by have := q3' k hk; omega⟩)
    have HADQ := hide ad'
    obtain ⟨⟨r0, r1, r2⟩, y0, y1, y2⟩ := unhide HR _ (unhide HB5)
    clear r1' r2' r3' q1' q2' q3' hb5 hz hz3
    go_wp2_with fail
    refine bodyPost_ret (v := .tuple #[.agg #[.slice xL live.length kL, .slice xS safe.length kS, .slice xO ops.length kO], .int .i64 11]) (by simp [results, Tryz.results7, go_sem, r0, r1, r2]) rfl ?_
    obtain ⟨o1, o2, o3, n1, n2, n3⟩ := unhide HO
    exact spcRetQ o1 o2 o3 (unhide HADQ) n1 n2 n3 (Nat.le_succ _) (unhide HFIN _ (unhide HB5))
  case inr.inl =>
    go_enter Tryz.func7, Tryz.ntmps7
    go_wp2_with fail
    rw [unhide HW0]
    refine (spec_DiskOk _ nL cL live _ nS cS safe _ nO cO ops W0 (unhide HD _ (Below.refl _ _))).mono ?_
    rintro e w1 ⟨rfl, hb1⟩
    rw [unhide HX]
    obtain ⟨q0, q1, q2⟩ := unhide HC _ hb1
    have HB1 := hide hb1
    clear hb1
    go_wp2_with fail
    refine (unhide HRC _ (unhide HB1)).mono ?_
    rintro e w2 ⟨sl, rfl, ho, hb2⟩
    obtain ⟨aj, cj, rfl⟩ := ho.form
    obtain ⟨W3, hW3⟩ : ∃ W3, W3 = w2.alloc (.cells #[.int .i64 T, .int .i64 V, .slice aj es.length cj] 34) := ⟨_, rfl⟩
    have HB3 := hide (show Below W0.heap.size W0 W3 from by rw [hW3]; exact belOn (belOn (unhide HB1) hb2) (bel1 _ _))
    have HK := hide (show ∀ W, Below W3.heap.size W3 W → W.cell? ⟨w2.heap.size, 0, none⟩ = some (.int .i64 T) ∧ W.cell? ⟨w2.heap.size, 1, none⟩ = some (.int .i64 V) ∧ W.cell? ⟨w2.heap.size, 2, none⟩ = some (.slice aj es.length cj) from fun W hW => ⟨bcl hW (by rw [hW3]; simp) (by rw [hW3]; simp [go_sem]), bcl hW (by rw [hW3]; simp) (by rw [hW3]; simp [go_sem]), bcl hW (by rw [hW3]; simp) (by rw [hW3]; simp [go_sem])⟩)
    have HJ := hide (show ∀ W, Below W3.heap.size W3 W → RowAt entE W aj es from fun W hW => ho.at.below (belOn (by rw [hW3]; exact bel1 _ _) hW))
    have had := ho.adG
    have hcap := own_cap ho
    have hne3 : ¬ w2.heap.size = W3.heap.size := by rw [hW3]; simp
    have HW3 := hide hW3.symm
    clear hb2 ho hW3 q0 q1 q2
    obtain ⟨q0, q1, q2⟩ := unhide HC _ (unhide HB3)
    obtain ⟨j0, j1, j2⟩ := unhide HK _ (Below.refl _ _)
    go_wp2_with fail
    rw [unhide HW3]
    go_wp2_with (first
      | (go_at_call 28; refine (l1In_calls fm 0 (es.length : Int) _).mono ?_; rintro e w4 ⟨rfl, hw4⟩; rw [← hw4]; clear hw4; rw [h1]))
    refine (unhide HCP _ (unhide HB3)).mono ?_
    rintro e s5 ⟨xL, kL, xS, kS, xO, kO, B3, rfl, r1', r2', r3', ad', -, -, -, -, q1', q2', q3', hb5⟩
    have HB5 := hide (belOn (unhide HB3) hb5)
    have hz3 := (unhide HB3).size
    have hz := unhide HZ0
    have HO := hide (show RowAt fileE s5 xL live ∧ RowAt fileE s5 xS safe ∧ RowAt dopE s5 xO ops ∧ (∀ k, inB xL k → w.heap.size ≤ k ∧ k ≠ w.heap.size + 1) ∧ (∀ k, inB xS k → w.heap.size ≤ k ∧ k ≠ w.heap.size + 1) ∧ (∀ k, inB xO k → w.heap.size ≤ k ∧ k ≠ w.heap.size + 1) from ⟨r1', r2', r3', fun k hk => by have := q1' k hk; omega, fun k hk => by have := q2' k hk; omega, fun k hk => by have := q3' k hk; omega⟩)
    have HADQ := hide ad'
    obtain ⟨⟨r0, r1, r2⟩, y0, y1, y2⟩ := unhide HR _ (unhide HB5)
    clear r1' r2' r3' q1' q2' q3' hb5 hz hz3
    go_wp2_with fail
    refine bodyPost_ret (v := .tuple #[.agg #[.slice xL live.length kL, .slice xS safe.length kS, .slice xO ops.length kO], .int .i64 11]) (by simp [results, Tryz.results7, go_sem, r0, r1, r2]) rfl ?_
    obtain ⟨o1, o2, o3, n1, n2, n3⟩ := unhide HO
    exact spcRetQ o1 o2 o3 (unhide HADQ) n1 n2 n3 (Nat.le_succ _) (unhide HFIN _ (unhide HB5))
  case inr.inr.inl =>
    go_enter Tryz.func7, Tryz.ntmps7
    go_wp2_with fail
    rw [unhide HW0]
    refine (spec_DiskOk _ nL cL live _ nS cS safe _ nO cO ops W0 (unhide HD _ (Below.refl _ _))).mono ?_
    rintro e w1 ⟨rfl, hb1⟩
    rw [unhide HX]
    obtain ⟨q0, q1, q2⟩ := unhide HC _ hb1
    have HB1 := hide hb1
    clear hb1
    go_wp2_with fail
    refine (unhide HRC _ (unhide HB1)).mono ?_
    rintro e w2 ⟨sl, rfl, ho, hb2⟩
    obtain ⟨aj, cj, rfl⟩ := ho.form
    obtain ⟨W3, hW3⟩ : ∃ W3, W3 = w2.alloc (.cells #[.int .i64 T, .int .i64 V, .slice aj es.length cj] 34) := ⟨_, rfl⟩
    have HB3 := hide (show Below W0.heap.size W0 W3 from by rw [hW3]; exact belOn (belOn (unhide HB1) hb2) (bel1 _ _))
    have HK := hide (show ∀ W, Below W3.heap.size W3 W → W.cell? ⟨w2.heap.size, 0, none⟩ = some (.int .i64 T) ∧ W.cell? ⟨w2.heap.size, 1, none⟩ = some (.int .i64 V) ∧ W.cell? ⟨w2.heap.size, 2, none⟩ = some (.slice aj es.length cj) from fun W hW => ⟨bcl hW (by rw [hW3]; simp) (by rw [hW3]; simp [go_sem]), bcl hW (by rw [hW3]; simp) (by rw [hW3]; simp [go_sem]), bcl hW (by rw [hW3]; simp) (by rw [hW3]; simp [go_sem])⟩)
    have HJ := hide (show ∀ W, Below W3.heap.size W3 W → RowAt entE W aj es from fun W hW => ho.at.below (belOn (by rw [hW3]; exact bel1 _ _) hW))
    have had := ho.adG
    have hcap := own_cap ho
    have hne3 : ¬ w2.heap.size = W3.heap.size := by rw [hW3]; simp
    have HW3 := hide hW3.symm
    clear hb2 ho hW3 q0 q1 q2
    obtain ⟨q0, q1, q2⟩ := unhide HC _ (unhide HB3)
    obtain ⟨j0, j1, j2⟩ := unhide HK _ (Below.refl _ _)
    go_wp2_with fail
    rw [unhide HW3]
    go_wp2_with (first
      | (go_at_call 28; refine (l1In_calls fm 0 (es.length : Int) _).mono ?_; rintro e w4 ⟨rfl, hw4⟩; rw [← hw4]; clear hw4; rw [h1]))
    refine (unhide HCP _ (unhide HB3)).mono ?_
    rintro e s5 ⟨xL, kL, xS, kS, xO, kO, B3, rfl, r1', r2', r3', ad', -, -, -, -, q1', q2', q3', hb5⟩
    have HB5 := hide (belOn (unhide HB3) hb5)
    have hz3 := (unhide HB3).size
    have hz := unhide HZ0
    have HO := hide (show RowAt fileE s5 xL live ∧ RowAt fileE s5 xS safe ∧ RowAt dopE s5 xO ops ∧ (∀ k, inB xL k → w.heap.size ≤ k ∧ k ≠ w.heap.size + 1) ∧ (∀ k, inB xS k → w.heap.size ≤ k ∧ k ≠ w.heap.size + 1) ∧ (∀ k, inB xO k → w.heap.size ≤ k ∧ k ≠ w.heap.size + 1) from ⟨r1', r2', r3', fun k hk => by have := q1' k hk; omega, fun k hk => by have := q2' k hk; omega, fun k hk => by have := q3' k hk; omega⟩)
    have HADQ := hide ad'
    obtain ⟨⟨r0, r1, r2⟩, y0, y1, y2⟩ := unhide HR _ (unhide HB5)
    clear r1' r2' r3' q1' q2' q3' hb5 hz hz3
    go_wp2_with fail
    refine bodyPost_ret (v := .tuple #[.agg #[.slice xL live.length kL, .slice xS safe.length kS, .slice xO ops.length kO], .int .i64 11]) (by simp [results, Tryz.results7, go_sem, r0, r1, r2]) rfl ?_
    obtain ⟨o1, o2, o3, n1, n2, n3⟩ := unhide HO
    exact spcRetQ o1 o2 o3 (unhide HADQ) n1 n2 n3 (Nat.le_succ _) (unhide HFIN _ (unhide HB5))
  case inr.inr.inr =>
    have h1 : (decide (0 ≤ (k : Int)) && decide ((k : Int) ≤ (es.length : Int))) = true := by simp; omega
    have h5 : decide ((500 : Int) < (n5 : Int)) = false := by simp; omega
    have k0 : (0 : Int) ≤ (k : Int) := by omega
    obtain ⟨m6, hm6⟩ : ∃ m, (es.take k ++ xs).length = m := ⟨_, rfl⟩
    have HM6 := hide hm6
    clear hm6
    go_enter Tryz.func7, Tryz.ntmps7
    go_wp2_with fail
    rw [unhide HW0]
    refine (spec_DiskOk _ nL cL live _ nS cS safe _ nO cO ops W0 (unhide HD _ (Below.refl _ _))).mono ?_
    rintro e w1 ⟨rfl, hb1⟩
    rw [unhide HX]
    obtain ⟨q0, q1, q2⟩ := unhide HC _ hb1
    have HB1 := hide hb1
    clear hb1
    go_wp2_with fail
    refine (unhide HRC _ (unhide HB1)).mono ?_
    rintro e w2 ⟨sl, rfl, ho, hb2⟩
    obtain ⟨aj, cj, rfl⟩ := ho.form
    obtain ⟨W3, hW3⟩ : ∃ W3, W3 = w2.alloc (.cells #[.int .i64 T, .int .i64 V, .slice aj es.length cj] 34) := ⟨_, rfl⟩
    have HB3 := hide (show Below W0.heap.size W0 W3 from by rw [hW3]; exact belOn (belOn (unhide HB1) hb2) (bel1 _ _))
    have HK := hide (show ∀ W, Below W3.heap.size W3 W → W.cell? ⟨w2.heap.size, 0, none⟩ = some (.int .i64 T) ∧ W.cell? ⟨w2.heap.size, 1, none⟩ = some (.int .i64 V) ∧ W.cell? ⟨w2.heap.size, 2, none⟩ = some (.slice aj es.length cj) from fun W hW => ⟨bcl hW (by rw [hW3]; simp) (by rw [hW3]; simp [go_sem]), bcl hW (by rw [hW3]; simp) (by rw [hW3]; simp [go_sem]), bcl hW (by rw [hW3]; simp) (by rw [hW3]; simp [go_sem])⟩)
    have HJ := hide (show ∀ W, Below W3.heap.size W3 W → RowAt entE W aj es from fun W hW => ho.at.below (belOn (by rw [hW3]; exact bel1 _ _) hW))
    have had := ho.adG
    have hcap := own_cap ho
    have hne3 : ¬ w2.heap.size = W3.heap.size := by rw [hW3]; simp
    have HW3 := hide hW3.symm
    clear hb2 ho hW3 q0 q1 q2
    obtain ⟨q0, q1, q2⟩ := unhide HC _ (unhide HB3)
    obtain ⟨j0, j1, j2⟩ := unhide HK _ (Below.refl _ _)
    have HAD := hide had
    have j2x := (unhide HK _ (bel1 W3 (.cells #[] 45))).2.2
    have k1 : (k : Int) ≤ (cj : Int) := by omega
    have HO0 := hide (ownR_empty entE W3 W3.heap.size (Nat.le_refl _))
    have HR1 := hide (show RowAt entE (W3.alloc (.cells #[] 45)) aj (es.take k) from fun i hi => (unhide HJ _ (bel1 _ _)).pre k i hi)
    go_wp2_with fail
    rw [unhide HW3]
    go_wp2_with (first
      | (go_at_call 28; refine (l1In_calls (k : Int) 0 (es.length : Int) _).mono ?_; rintro e w4 ⟨rfl, hw4⟩; rw [← hw4]; clear hw4; rw [h1])
      | (at_builtin; refine appGG rfl _ _ rfl (unhide HO0) rfl aj k cj rfl (by rw [List.length_take]; omega) (unhide HR1) (unhide HAD) (by simp; omega) (Nat.le_of_lt (by simp)) ?_; intro v5 w5 hO5 hb5; have HO5 := hide hO5; have HB35 := hide (show Below W3.heap.size W3 w5 from (bel1 W3 _).trans hb5); clear hO5 hb5)
      | (at_builtin; refine appGG rfl _ _ rfl (unhide HO5) rfl a5 n5 c5 rfl (unhide HXN) (unhide HE w5 (belOn (unhide HB3) (unhide HB35))) (unhide HXA) (by rw [List.nil_append, List.length_take]; omega) (unhide HB35).size ?_; intro v6 w6 hO6 hb6; have HB36 := hide (show Below W3.heap.size W3 w6 from (unhide HB35).trans hb6); obtain ⟨a6, c6, hv6⟩ := hO6.form; rw [List.nil_append] at hO6 hv6; rw [unhide HM6] at hv6; subst hv6; have HO6 := hide hO6; obtain ⟨j0, j1, j2⟩ := unhide HK _ (unhide HB36); clear hO6 hb6)
      | (go_at_call 16; refine (spec_JournalOk T V a6 m6 c6 (es.take k ++ xs) w6 ⟨(unhide HO6).at, unhide HM6, by have := unhide HM6; rw [List.length_append, List.length_take, unhide HXN] at this; omega, fun e he => (List.mem_append.1 he).elim (fun q => Nat.le_trans (unhide HSM _ (List.mem_of_mem_take q)) (by decide)) (fun q => unhide HXF e q)⟩ (own_cap (unhide HO6))).mono ?_; rintro e w7 ⟨rfl, hb7⟩; rw [h3]; have HB37 := hide (belOn (unhide HB36) hb7); have HB7 := hide (belOn (unhide HB3) (unhide HB37)); have HO7 := hide ((unhide HO6).keep hb7); obtain ⟨q0, q1, q2⟩ := unhide HC _ (unhide HB7); obtain ⟨j0, j1, j2⟩ := unhide HK _ (unhide HB37); clear hb7))
    refine (unhide HCP _ (unhide HB7)).mono ?_
    rintro e s5 ⟨xL, kL, xS, kS, xO, kO, B3, rfl, r1', r2', r3', ad', -, -, -, -, q1', q2', q3', hb5⟩
    have HB5 := hide (belOn (unhide HB7) hb5)
    have hz3 := (unhide HB7).size
    have hz := unhide HZ0
    have HO := hide (show RowAt fileE s5 xL live ∧ RowAt fileE s5 xS safe ∧ RowAt dopE s5 xO ops ∧ (∀ k, inB xL k → w.heap.size ≤ k ∧ k ≠ w.heap.size + 1) ∧ (∀ k, inB xS k → w.heap.size ≤ k ∧ k ≠ w.heap.size + 1) ∧ (∀ k, inB xO k → w.heap.size ≤ k ∧ k ≠ w.heap.size + 1) from ⟨r1', r2', r3', fun k hk => by have := q1' k hk; omega, fun k hk => by have := q2' k hk; omega, fun k hk => by have := q3' k hk; omega⟩)
    have HADQ := hide ad'
    obtain ⟨⟨r0, r1, r2⟩, y0, y1, y2⟩ := unhide HR _ (unhide HB5)
    clear r1' r2' r3' q1' q2' q3' hb5 hz hz3
    go_wp2_with fail
    refine bodyPost_ret (v := .tuple #[.agg #[.slice xL live.length kL, .slice xS safe.length kS, .slice xO ops.length kO], .int .i64 11]) (by simp [results, Tryz.results7, go_sem, r0, r1, r2]) rfl ?_
    obtain ⟨o1, o2, o3, n1, n2, n3⟩ := unhide HO
    exact spcRetQ o1 o2 o3 (unhide HADQ) n1 n2 n3 (Nat.le_succ _) (unhide HFIN _ (unhide HB5))

set_option maxRecDepth 10000 in
set_option maxHeartbeats 8000000 in
theorem spec_SaveBad (aL : Option Addr) (nL cL : Nat) (live : List Fl) (aS : Option Addr) (nS cS : Nat) (safe : List Fl) (aO : Option Addr) (nO cO : Nat) (ops : List Dop) (fm : Int) (a5 : Option Addr) (n5 c5 : Nat) (xs : List Ent) (w : World) (h : DiskAt w aL nL cL live aS nS cS safe aO nO cO ops) (hx : RowAt entE w a5 xs) (hxn : xs.length = n5) (hxb : n5 ≤ 1048576) (hxf : ∀ e ∈ xs, e.body.size ≤ 1000000000) (hxa : AdG a5 c5) (hd : diskB live safe ops = false) :
    Calls Tryz.prog 7 #[.agg #[.slice aL nL cL, .slice aS nS cS, .slice aO nO cO], .int .i64 fm, .slice a5 n5 c5] w (SpcQ (fun x => .tuple #[x, .int .i64 1]) [] [] [] w) := by
  obtain ⟨W0, hW0⟩ : ∃ W0, W0 = (w.alloc (.cells #[.slice aL nL cL, .slice aS nS cS, .slice aO nO cO] 27)).alloc (.cells #[.slice none 0 0, .slice none 0 0, .slice none 0 0] 27) := ⟨_, rfl⟩
  have hb0 : Below w.heap.size w W0 := by rw [hW0]; exact belOn (bel1 _ _) (bel1 _ _)
  have hz0 : W0.heap.size = w.heap.size + 2 := by rw [hW0]; simp
  have c0 : W0.cell? ⟨w.heap.size, 0, none⟩ = some (.slice aL nL cL) := by rw [hW0]; simp [go_sem]
  have c1 : W0.cell? ⟨w.heap.size, 1, none⟩ = some (.slice aS nS cS) := by rw [hW0]; simp [go_sem]
  have c2 : W0.cell? ⟨w.heap.size, 2, none⟩ = some (.slice aO nO cO) := by rw [hW0]; simp [go_sem]
  have r0 : W0.cell? ⟨w.heap.size + 1, 0, none⟩ = some (.slice none 0 0) := by rw [hW0]; simp [go_sem]
  have r1 : W0.cell? ⟨w.heap.size + 1, 1, none⟩ = some (.slice none 0 0) := by rw [hW0]; simp [go_sem]
  have r2 : W0.cell? ⟨w.heap.size + 1, 2, none⟩ = some (.slice none 0 0) := by rw [hW0]; simp [go_sem]
  have y0 : W0.frozen? ⟨w.heap.size + 1, 0, none⟩ = false := by rw [hW0]; simp [go_sem]
  have y1 : W0.frozen? ⟨w.heap.size + 1, 1, none⟩ = false := by rw [hW0]; simp [go_sem]
  have y2 : W0.frozen? ⟨w.heap.size + 1, 2, none⟩ = false := by rw [hW0]; simp [go_sem]
  have HD := hide (fun (W : World) (hW : Below W0.heap.size W0 W) => (h.below hb0).below hW)
  have HE := hide (fun (W : World) (hW : Below W0.heap.size W0 W) => hx.below (belOn hb0 hW))
  have HC := hide (fun (W : World) (hW : Below W0.heap.size W0 W) => And.intro (bcl hW (by omega) c0) (And.intro (bcl hW (by omega) c1) (bcl hW (by omega) c2)))
  have HR := hide (fun (W : World) (hW : Below W0.heap.size W0 W) => And.intro (And.intro (bcl hW (by omega) r0) (And.intro (bcl hW (by omega) r1) (bcl hW (by omega) r2))) (And.intro ((hW.frozen (p := ⟨w.heap.size + 1, 0, none⟩) (by show w.heap.size + 1 < _; omega)).trans y0) (And.intro ((hW.frozen (p := ⟨w.heap.size + 1, 1, none⟩) (by show w.heap.size + 1 < _; omega)).trans y1) ((hW.frozen (p := ⟨w.heap.size + 1, 2, none⟩) (by show w.heap.size + 1 < _; omega)).trans y2))))
  have HFIN := hide (fun (W : World) (hW : Below W0.heap.size W0 W) => belOn hb0 hW)
  have HZ0 := hide hz0
  have HW0 := hide hW0.symm
  have HLN := hide (And.intro h.ll (And.intro h.ls h.lo))
  have HH := hide h
  have HXN := hide hxn
  have HXF := hide hxf
  have HXA := hide hxa
  clear h hb0 c0 c1 c2 r0 r1 r2 y0 y1 y2 hW0 hz0 hx hxn hxf hxa
  have HX := hide hd
  go_enter Tryz.func7, Tryz.ntmps7
  go_wp2_with fail
  rw [unhide HW0]
  refine (spec_DiskOk _ nL cL live _ nS cS safe _ nO cO ops W0 (unhide HD _ (Below.refl _ _))).mono ?_
  rintro e w1 ⟨rfl, hb1⟩
  rw [unhide HX]
  have HB1 := hide (unhide HFIN _ hb1)
  obtain ⟨⟨r0, r1, r2⟩, y0, y1, y2⟩ := unhide HR _ hb1
  clear hb1
  go_wp2_with fail
  refine bodyPost_ret (v := .tuple #[.agg #[.slice none 0 0, .slice none 0 0, .slice none 0 0], .int .i64 1]) (by simp [results, Tryz.results7, go_sem, r0, r1, r2]) rfl ?_
  exact spcRetQ (fun i hi => absurd hi (by simp)) (fun i hi => absurd hi (by simp)) (fun i hi => absurd hi (by simp)) ⟨.inl ⟨rfl, rfl⟩, .inl ⟨rfl, rfl⟩, .inl ⟨rfl, rfl⟩⟩ (fun k hk => by obtain ⟨o, e⟩ := hk; cases e) (fun k hk => by obtain ⟨o, e⟩ := hk; cases e) (fun k hk => by obtain ⟨o, e⟩ := hk; cases e) (Nat.le_succ _) (unhide HB1)
end Go.Proofs.YtakalfckhailjaaGreat
