/- Disks that are synced, by the specification. -/
import Derived.Test.YtbcklkdhminofaaSynI
import Derived.Test.YtbcklkdhminofaaStpE
namespace Go.Proofs.Ytbcklkdhminofaa
open Go.RowKit Plain
set_option linter.unusedVariables false

theorem rowNil {α : Type} (e : Elem α) (W : World) (a : Option Addr) : RowAt e W a [] := fun i hi => by simp at hi
set_option maxRecDepth 10000 in
set_option maxHeartbeats 4000000 in
theorem spec_Sync (g1 nL cL : Nat) (live : List Fl) (g2 nS cS : Nat) (safe : List Fl) (g3 nO cO : Nat) (ops : List Dop) (w : World) (h : DiskAt w (some ⟨g1, 0, none⟩) nL cL live (some ⟨g2, 0, none⟩) nS cS safe (some ⟨g3, 0, none⟩) nO cO ops) :
    Calls Try.prog 31 #[.agg #[.slice (some ⟨g1, 0, none⟩) nL cL, .slice (some ⟨g2, 0, none⟩) nS cS, .slice (some ⟨g3, 0, none⟩) nO cO]] w (SpcPost (fun v => v) (synL live safe ops) (synL live safe ops) [] w) := by
  obtain ⟨Wa, hWa⟩ : ∃ Wa, Wa = w.alloc (.cells #[.slice (some ⟨g1, 0, none⟩) nL cL, .slice (some ⟨g2, 0, none⟩) nS cS, .slice (some ⟨g3, 0, none⟩) nO cO] 27) := ⟨_, rfl⟩
  obtain ⟨W0, hW0⟩ : ∃ W0, W0 = Wa.alloc (.cells #[.slice none 0 0, .slice none 0 0, .slice none 0 0] 27) := ⟨_, rfl⟩
  have hba : Below w.heap.size w Wa := by rw [hWa]; exact bel1 _ _
  have hsa : Wa.heap.size = w.heap.size + 1 := by rw [hWa]; simp
  have hs0 : W0.heap.size = w.heap.size + 2 := by rw [hW0]; simp [hsa]
  have hb0 : Below Wa.heap.size Wa W0 := by rw [hW0]; exact bel1 _ _
  have c0 : W0.cell? ⟨w.heap.size, 0, none⟩ = some (.slice (some ⟨g1, 0, none⟩) nL cL) := bcl hb0 (by omega) (by rw [hWa]; simp [go_sem])
  have c1 : W0.cell? ⟨w.heap.size, 1, none⟩ = some (.slice (some ⟨g2, 0, none⟩) nS cS) := bcl hb0 (by omega) (by rw [hWa]; simp [go_sem])
  have c2 : W0.cell? ⟨w.heap.size, 2, none⟩ = some (.slice (some ⟨g3, 0, none⟩) nO cO) := bcl hb0 (by omega) (by rw [hWa]; simp [go_sem])
  have hr : ∀ i, i < 3 → W0.cell? ⟨w.heap.size + 1, i, none⟩ = some (.slice none 0 0) ∧ W0.frozen? ⟨w.heap.size + 1, i, none⟩ = false := by
    intro i hi
    rw [hW0, ← hsa]
    rcases i with _ | _ | _ | i
    all_goals first | omega | simp [go_sem]
  have HC := hide (fun (W : World) (hW : Below W0.heap.size W0 W) => And.intro (bcl hW (show w.heap.size < W0.heap.size by omega) c0) (And.intro (bcl hW (show w.heap.size < W0.heap.size by omega) c1) (bcl hW (show w.heap.size < W0.heap.size by omega) c2)))
  have HR := hide (fun (W : World) (hW : Below W0.heap.size W0 W) (i : Nat) (hi : i < 3) => And.intro (bcl hW (show w.heap.size + 1 < W0.heap.size by omega) (hr i hi).1) ((hW.frozen (p := ⟨w.heap.size + 1, i, none⟩) (show w.heap.size + 1 < W0.heap.size by omega)).trans (hr i hi).2))
  have HFIN := hide (fun (W : World) (hW : Below W0.heap.size W0 W) => belOn (belOn hba hb0) hW)
  have HD := hide (fun (W : World) (hW : Below W0.heap.size W0 W) => (h.below (belOn hba hb0)).below hW)
  have HW0 := hide (show (w.alloc (.cells #[.slice (some ⟨g1, 0, none⟩) nL cL, .slice (some ⟨g2, 0, none⟩) nS cS, .slice (some ⟨g3, 0, none⟩) nO cO] 27)).alloc (.cells #[.slice none 0 0, .slice none 0 0, .slice none 0 0] 27) = W0 from by rw [hW0, hWa])
  have HLL := hide h.ll
  have hbl := h.bl
  have HOK := hide (spec_DiskOk (some ⟨g1, 0, none⟩) nL cL live (some ⟨g2, 0, none⟩) nS cS safe (some ⟨g3, 0, none⟩) nO cO ops W0 (unhide HD _ (Below.refl _ _)))
  have HS0 := hide hs0
  clear hba hb0 hWa hW0 hr h hsa hs0
  obtain ⟨L, hL⟩ : ∃ L, synL live safe ops = L := ⟨_, rfl⟩
  rw [hL]
  unfold synL at hL
  cases hd : diskB live safe ops with
  | false =>
    rw [hd] at HOK hL
    have HL := hide hL
    clear hd hL
    go_enter Try.func31, Try.ntmps31
    go_wp2_with fail
    rw [unhide HW0]
    refine (unhide HOK).mono ?_
    rintro e w1 ⟨rfl, hb1⟩
    have HB1 := hide hb1
    obtain ⟨r0, z0⟩ := unhide HR _ hb1 0 (by decide)
    obtain ⟨r1, z1⟩ := unhide HR _ hb1 1 (by decide)
    obtain ⟨r2, z2⟩ := unhide HR _ hb1 2 (by decide)
    clear hb1 c0 c1 c2
    go_wp2_with fail
    refine bodyPost_ret (v := .agg #[.slice none 0 0, .slice none 0 0, .slice none 0 0]) (by simp [results, Try.results31, go_sem, r0, r1, r2]) rfl ?_
    have hL : L = [] := by rw [← unhide HL]; rfl
    subst hL
    exact ⟨none, 0, none, 0, none, 0, rfl, rowNil _ _ _, rowNil _ _ _, rowNil _ _ _, (((unhide HFIN _ (unhide HB1)).setCell (show w.heap.size ≤ w.heap.size + 1 by omega) _).setCell (show w.heap.size ≤ w.heap.size + 1 by omega) _).setCell (show w.heap.size ≤ w.heap.size + 1 by omega) _⟩
  | true =>
    rw [hd] at HOK hL
    have HL := hide hL
    clear hd hL
    go_enter Try.func31, Try.ntmps31
    go_wp2_with fail
    rw [unhide HW0]
    refine (unhide HOK).mono ?_
    rintro e w1 ⟨rfl, hb1⟩
    have HB1 := hide hb1
    obtain ⟨q0, q1, q2⟩ := unhide HC _ hb1
    obtain ⟨r0, z0⟩ := unhide HR _ hb1 0 (by decide)
    obtain ⟨r1, z1⟩ := unhide HR _ hb1 1 (by decide)
    obtain ⟨r2, z2⟩ := unhide HR _ hb1 2 (by decide)
    have l0 : w.heap.size < w1.heap.size := lt_of_cell q0
    have l1 : w.heap.size + 1 < w1.heap.size := lt_of_cell r0
    have R0 := (unhide HD _ (unhide HB1)).rl
    clear hb1 c0 c1 c2
    go_wp2_with fail
    go_region_held3 (fun w' => w'.cell? ⟨w.heap.size, 0, none⟩ = some (.slice (some ⟨g1, 0, none⟩) nL cL)) (go_keep) (first
      | (refine stepE (e := fileE) rfl (.tmp 7) (.tmp 9) rfl _ rfl (by first | exact lit0 _ _ | exact lit0a _ _ _ | exact lit1a _ _ _) g1 nL cL rfl (unhide HLL) (by first | exact R0.below (belDrew (bel1 _ _)) | exact R0.below (belDrew (belOn (bel1 _ _) (bel1 _ _)))) hbl ?_; intro y1 k1 w2 ap1; have B2 : Below w1.heap.size w1 w2 := (by first | exact (belDrew (bel1 _ _)).trans (below_gr1 ap1.gr (by simp <;> omega) (by simp <;> omega)) | exact (belDrew (belOn (bel1 _ _) (bel1 _ _))).trans (below_gr1 ap1.gr (by simp <;> omega) (by simp <;> omega))); have s0 := bcl B2 l0 q0; have Z2 := ap1.gr.size; have R2 := R0.below B2; have N1 : live = [] ∨ ∀ k, inB y1 k → k ≠ w.heap.size + 1 := ap1.far (by first | omega | (simp <;> omega)) (by first | omega | (simp <;> omega)))
      | (refine stepE (e := fileE) rfl (.tmp 11) (.tmp 13) rfl _ rfl (by first | exact litN _ _ | exact (ap1.gr.block _ (by simp <;> omega) (by simp <;> omega)).trans (lit1a _ _ _) | exact (ap1.gr.block _ (by simp <;> omega) (by simp <;> omega)).trans (lit0a _ _ _)) g1 nL cL rfl (unhide HLL) (by first | exact R2 | exact R2.below (bel1 _ _)) hbl ?_; intro y2 k2 w3 ap2; have Y1 : RowAt fileE w3 y1 live := (by first | exact ap1.keep2 ap2.gr (by simp <;> omega) (by simp <;> omega) | exact ap1.row.keepNew (bel1 _ _) ap2.gr (Nat.le_refl _)); have B3 : Below w1.heap.size w1 w3 := (by first | exact (belOn B2 (bel1 _ _)).trans (below_gr1 ap2.gr B2.size (by have := B2.size; simp <;> omega)) | exact B2.trans (below_gr1 ap2.gr (by simp <;> omega) B2.size)); have t0 := bcl B3 l1 r0; have t1 := bcl B3 l1 r1; have t2 := bcl B3 l1 r2; have v0 := (B3.frozen (p := ⟨w.heap.size + 1, 0, none⟩) l1).trans z0; have v1 := (B3.frozen (p := ⟨w.heap.size + 1, 1, none⟩) l1).trans z1; have v2 := (B3.frozen (p := ⟨w.heap.size + 1, 2, none⟩) l1).trans z2; have s3 := bcl B3 l0 q0; have N2 : live = [] ∨ ∀ k, inB y2 k → k ≠ w.heap.size + 1 := ap2.far (by have := B2.size; first | omega | (simp <;> omega)) (by have := B2.size; first | omega | (simp <;> omega))))
    all_goals (have HY1 := hide Y1)
    all_goals (have HY2 := hide ap2.row)
    all_goals (have HB3 := hide B3)
    all_goals (have HN1 := hide N1)
    all_goals (have HN2 := hide N2)
    all_goals clear Y1 ap1 ap2 B2 B3 s0 s3 r0 r1 r2 z0 z1 z2 q0 q1 q2 R0 R2 Z2 N1 N2
    all_goals (try go_wp2_with fail)
    all_goals refine bodyPost_ret (v := .agg #[.slice y1 nL k1, .slice y2 nL k2, .slice none 0 0]) (by simp [results, Try.results31, go_sem, t0, t1, t2]) rfl ?_
    all_goals (have hL : L = live := by rw [← unhide HL]; rfl)
    all_goals (subst hL)
    all_goals (have hn := unhide HLL)
    all_goals (subst hn)
    all_goals exact ⟨y1, k1, y2, k2, none, 0, rfl, (((unhide HY1).setO (unhide HN1)).setO (unhide HN1)).setO (unhide HN1), (((unhide HY2).setO (unhide HN2)).setO (unhide HN2)).setO (unhide HN2), rowNil _ _ _, (((belOn (unhide HFIN _ (unhide HB1)) (unhide HB3)).setCell (show w.heap.size ≤ w.heap.size + 1 by omega) _).setCell (show w.heap.size ≤ w.heap.size + 1 by omega) _).setCell (show w.heap.size ≤ w.heap.size + 1 by omega) _⟩
end Go.Proofs.Ytbcklkdhminofaa
