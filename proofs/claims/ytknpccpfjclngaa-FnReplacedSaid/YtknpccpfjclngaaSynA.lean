/- Disks that are synced, by the specification, wherever their slices lie. -/
import Derived.Test.YtknpccpfjclngaaActA
import Derived.Test.YtknpccpfjclngaaSynI
import Derived.Deep.RegionHeld3
namespace Go.Proofs.Ytknpccpfjclngaa
open Go.RowKit Plain
set_option linter.unusedVariables false

theorem apartN {α : Type} {e : Elem α} {g1 g2 : Nat} {w1 w2 Wb w3 : World} {a1 a2 : Option Addr} {c1 c2 : Nat} {ys : List α} (K : Below w2.heap.size w2 Wb) (ap1 : AppN e g1 w1 w2 a1 c1 ys) (ap2 : AppN e g2 Wb w3 a2 c2 ys) : ys = [] ∨ ∀ k, inB a1 k → ¬ inB a2 k := by
  rcases ap1.own with q1 | q1
  · rcases ap2.own with q2 | q2
    · refine .inr fun k h1 h2 => ?_
      have := (q1.bl k h1).2
      have := (q2.bl k h2).1
      have := K.size
      omega
    · exact .inl q2.1
  · exact .inl q1.1
theorem ownN {g B0 : Nat} {w1 w2 w3 : World} {a : Option Addr} {c : Nat} {ys : List Fl} (ap : AppN fileE g w1 w2 a c ys) (K : Below w2.heap.size w2 w3) (hB : B0 ≤ w1.heap.size) : ∃ B, B0 ≤ B ∧ B ≤ w3.heap.size ∧ OwnOr fileE w3 B a c ys := by
  have h1 := ap.below.size
  have h2 := K.size
  rcases ap.own with q | ⟨q1, q2, q3⟩
  · exact ⟨w1.heap.size, hB, by omega, .inl (q.keep K)⟩
  · exact ⟨w3.heap.size, by omega, Nat.le_refl _, .inr ⟨q1, q2, g, q3, Nat.lt_of_lt_of_le (ap.bl g ⟨0, q3⟩).2 h2⟩⟩
set_option maxRecDepth 10000 in
set_option maxHeartbeats 4000000 in
theorem spec_SyncO (aL : Option Addr) (nL cL : Nat) (live : List Fl) (aS : Option Addr) (nS cS : Nat) (safe : List Fl) (aO : Option Addr) (nO cO : Nat) (ops : List Dop) (w : World) (h : DiskO w aL nL cL live aS nS cS safe aO nO cO ops) :
    Calls Try.prog 46 #[.agg #[.slice aL nL cL, .slice aS nS cS, .slice aO nO cO]] w (SpcO (fun v => v) (synL live safe ops) (synL live safe ops) [] (if diskB live safe ops = true then 0 else 1) w) := by
  obtain ⟨Wa, hWa⟩ : ∃ Wa, Wa = w.alloc (.cells #[.slice aL nL cL, .slice aS nS cS, .slice aO nO cO] 27) := ⟨_, rfl⟩
  obtain ⟨W0, hW0⟩ : ∃ W0, W0 = Wa.alloc (.cells #[.slice none 0 0, .slice none 0 0, .slice none 0 0] 27) := ⟨_, rfl⟩
  have hba : Below w.heap.size w Wa := by rw [hWa]; exact bel1 _ _
  have hsa : Wa.heap.size = w.heap.size + 1 := by rw [hWa]; simp
  have hs0 : W0.heap.size = w.heap.size + 2 := by rw [hW0]; simp [hsa]
  have hb0 : Below Wa.heap.size Wa W0 := by rw [hW0]; exact bel1 _ _
  have c0 : W0.cell? ⟨w.heap.size, 0, none⟩ = some (.slice aL nL cL) := bcl hb0 (by omega) (by rw [hWa]; simp [go_sem])
  have c1 : W0.cell? ⟨w.heap.size, 1, none⟩ = some (.slice aS nS cS) := bcl hb0 (by omega) (by rw [hWa]; simp [go_sem])
  have c2 : W0.cell? ⟨w.heap.size, 2, none⟩ = some (.slice aO nO cO) := bcl hb0 (by omega) (by rw [hWa]; simp [go_sem])
  have hr : ∀ i, i < 3 → W0.cell? ⟨w.heap.size + 1, i, none⟩ = some (.slice none 0 0) ∧ W0.frozen? ⟨w.heap.size + 1, i, none⟩ = false := by
    intro i hi
    rw [hW0, ← hsa]
    rcases i with _ | _ | _ | i
    all_goals first | omega | simp [go_sem]
  have HC := hide (fun (W : World) (hW : Below W0.heap.size W0 W) => And.intro (bcl hW (show w.heap.size < W0.heap.size by omega) c0) (And.intro (bcl hW (show w.heap.size < W0.heap.size by omega) c1) (bcl hW (show w.heap.size < W0.heap.size by omega) c2)))
  have HR := hide (fun (W : World) (hW : Below W0.heap.size W0 W) (i : Nat) (hi : i < 3) => And.intro (bcl hW (show w.heap.size + 1 < W0.heap.size by omega) (hr i hi).1) ((hW.frozen (p := ⟨w.heap.size + 1, i, none⟩) (show w.heap.size + 1 < W0.heap.size by omega)).trans (hr i hi).2))
  have HFIN := hide (fun (W : World) (hW : Below W0.heap.size W0 W) => belOn (belOn hba hb0) hW)
  have HD := hide (fun (W : World) (hW : Below W0.heap.size W0 W) => (h.below (belOn hba hb0)).below hW)
  have HW0 := hide (show (w.alloc (.cells #[.slice aL nL cL, .slice aS nS cS, .slice aO nO cO] 27)).alloc (.cells #[.slice none 0 0, .slice none 0 0, .slice none 0 0] 27) = W0 from by rw [hW0, hWa])
  have HLL := hide h.ll
  have HD1 := hide h.adl
  have HRW := hide h.rl
  have hbl := h.bl
  have HOK := hide (spec_DiskOkO aL nL cL live aS nS cS safe aO nO cO ops W0 (unhide HD _ (Below.refl _ _)))
  have HS0 := hide hs0
  clear hba hb0 hWa hW0 hr h hsa hs0
  obtain ⟨L, hL⟩ : ∃ L, synL live safe ops = L := ⟨_, rfl⟩
  rw [hL]
  unfold synL at hL
  cases hd : diskB live safe ops with
  | false =>
    rw [hd] at HOK hL
    have HL := hide hL
    clear hd hL
    go_enter Try.func46, Try.ntmps46
    go_wp2_with fail
    rw [unhide HW0]
    refine (unhide HOK).mono ?_
    rintro e w1 ⟨rfl, hb1⟩
    have HB1 := hide hb1
    obtain ⟨r0, z0⟩ := unhide HR _ hb1 0 (by decide)
    obtain ⟨r1, z1⟩ := unhide HR _ hb1 1 (by decide)
    obtain ⟨r2, z2⟩ := unhide HR _ hb1 2 (by decide)
    clear hb1 c0 c1 c2
    go_wp2_with fail
    refine bodyPost_ret (v := .agg #[.slice none 0 0, .slice none 0 0, .slice none 0 0]) (by simp [results, Try.results46, go_sem, r0, r1, r2]) rfl ?_
    have hL : L = [] := by rw [← unhide HL]; rfl
    subst hL
    exact SpcQ.toO (spcRetQ (rb := w.heap.size + 1) (rowNil2 _ _ _) (rowNil2 _ _ _) (rowNil2 _ _ _) ⟨.inl ⟨rfl, rfl⟩, .inl ⟨rfl, rfl⟩, .inl ⟨rfl, rfl⟩⟩ (fun k ⟨o, e⟩ => by cases e) (fun k ⟨o, e⟩ => by cases e) (fun k ⟨o, e⟩ => by cases e) (by omega) (unhide HFIN _ (unhide HB1))) (by decide)
  | true =>
    rw [hd] at HOK hL
    have HL := hide hL
    clear hd hL
    go_enter Try.func46, Try.ntmps46
    go_wp2_with fail
    rw [unhide HW0]
    refine (unhide HOK).mono ?_
    rintro e w1 ⟨rfl, hb1⟩
    have HB1 := hide hb1
    obtain ⟨q0, q1, q2⟩ := unhide HC _ hb1
    obtain ⟨r0, z0⟩ := unhide HR _ hb1 0 (by decide)
    obtain ⟨r1, z1⟩ := unhide HR _ hb1 1 (by decide)
    obtain ⟨r2, z2⟩ := unhide HR _ hb1 2 (by decide)
    have l0 : w.heap.size < w1.heap.size := lt_of_cell q0
    have l1 : w.heap.size + 1 < w1.heap.size := lt_of_cell r0
    have hn1 : w.heap.size + 1 ≤ w1.heap.size := by omega
    have X0 := fun (W : World) (hW : SX w.heap.size w1 W) => bcl hW.1 (show w.heap.size < w.heap.size + 1 by omega) q0
    have HRL := hide (fun (W : World) (hW : SX w.heap.size w1 W) => (unhide HRW).below ((unhide HFIN _ (unhide HB1)).trans (hW.1.mono (by omega))))
    have Q0 : SX w.heap.size w1 w1.drew := ⟨belDrew (Below.refl _ _), l1, ⟨_, r0⟩, ⟨_, r1⟩, ⟨_, r2⟩, z0, z1, z2⟩
    clear hb1 c0 c1 c2
    go_wp2_with fail
    go_region_held3 (fun w' => SX w.heap.size w1 w') (first | exact SX.ald (by assumption) hn1 | exact SX.al (by assumption) hn1 | exact Q2 | exact Q1 | exact Q0 | exact SX.set Q2) (first
      | (refine stepNA (e := fileE) rfl (.tmp 7) (.tmp 9) rfl _ rfl (by first | omega | (simp <;> omega)) aL nL cL rfl (unhide HLL) (unhide HRL _ (by assumption)) (unhide HD1) hbl ?_; intro y1 k1 w2 ap1; have Q1 : SX w.heap.size w1 w2 := SX.step (by assumption) ap1.below hn1; have Z2 := ap1.below.size; (try simp at Z2))
      | (refine stepNA (e := fileE) rfl (.tmp 11) (.tmp 13) rfl _ rfl (by first | omega | (simp <;> omega)) aL nL cL rfl (unhide HLL) (unhide HRL _ (by assumption)) (unhide HD1) hbl ?_; intro y2 k2 w3 ap2; have Q2 : SX w.heap.size w1 w3 := SX.step (by assumption) ap2.below hn1; obtain ⟨-, nlt, ⟨u0, t0⟩, ⟨u1, t1⟩, ⟨u2, t2⟩, v0, v1, v2⟩ := Q2; have Q2 : SX w.heap.size w1 w3 := SX.step (by assumption) ap2.below hn1))
    all_goals (have B2 : Below w1.heap.size w1 _ := belOn (by first | exact belDrew (bel1 _ _) | exact belDrew (belOn (bel1 _ _) (bel1 _ _))) ap1.below)
    all_goals (have K23 : Below w2.heap.size w2 w3 := belOn (by first | exact Below.refl _ _ | exact bel1 _ _ | exact belOn (bel1 _ _) (bel1 _ _)) ap2.below)
    all_goals (have B3 := belOn B2 K23)
    all_goals (have HY1 := hide (ap1.row.below K23))
    all_goals (have HY2 := hide ap2.row)
    all_goals (have HM1 := hide (show ∀ k, inB y1 k → w1.heap.size ≤ k from fun k hk => by rcases (ap1.bl k hk).1 with q | q; all_goals (first | omega | (simp at q; omega))))
    all_goals (have HM2 := hide (show ∀ k, inB y2 k → w1.heap.size ≤ k from fun k hk => by have h2 := (ap2.bl k hk).2; rcases (ap2.bl k hk).1 with q | q; all_goals (first | omega | (simp at q; omega))))
    all_goals (have HAP := hide (show live = [] ∨ ∀ k, inB y1 k → ¬ inB y2 k from apartN (by first | exact Below.refl _ _ | exact bel1 _ _ | exact belOn (bel1 _ _) (bel1 _ _)) ap1 ap2))
    all_goals (have HOO := hide (ownN (B0 := w.heap.size + 2) ap1 K23 (by first | omega | (simp <;> omega))))
    all_goals (have HZ3 := hide (show w.heap.size + 1 < w3.heap.size from by have := B3.size; omega))
    all_goals (have HAD := hide (And.intro (adN ap1) (adN ap2)))
    all_goals (have HB3 := hide B3)
    all_goals clear ap1 ap2 B2 B3 K23 Z2 r0 r1 r2 z0 z1 z2 q0 q1 q2 Q0 Q1 Q2 X0
    all_goals (try go_wp2_with fail)
    all_goals refine bodyPost_ret (v := .agg #[.slice y1 nL k1, .slice y2 nL k2, .slice none 0 0]) (by simp [results, Try.results46, go_sem, t0, t1, t2]) rfl ?_
    all_goals (have hL : L = live := by rw [← unhide HL]; rfl)
    all_goals (subst hL)
    all_goals (have hn := unhide HLL)
    all_goals (subst hn)
    all_goals exact spcRetO (rb := w.heap.size + 1) (unhide HY1) (unhide HY2) (rowNil2 _ _ none) ⟨(unhide HAD).1, (unhide HAD).2, .inl ⟨rfl, rfl⟩⟩ (fun k hk => by have := unhide HM1 k hk; omega) (fun k hk => by have := unhide HM2 k hk; omega) (fun k ⟨o, e⟩ => by cases e) (by omega) (belOn (unhide HFIN _ (unhide HB1)) (unhide HB3)) (fun _ => ⟨unhide HZ3, by
      obtain ⟨B, b1, b2, b3⟩ := unhide HOO
      exact ⟨B, b1, b2, b3, unhide HAP, .inl rfl, Nat.zero_le _⟩⟩)
end Go.Proofs.Ytknpccpfjclngaa
