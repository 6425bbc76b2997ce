/- Disks copied, by the program. -/
import Derived.Test.YtiligddjilcdhaaClnF
import Derived.Deep.RegionHeld3
namespace Go.Proofs.Ytiligddjilcdhaa
open Go.RowKit Plain
set_option linter.unusedVariables false

set_option maxRecDepth 10000 in
set_option maxHeartbeats 4000000 in
theorem copyOfDisk_calls (g1 nL cL : Nat) (live : List Fl) (g2 nS cS : Nat) (safe : List Fl) (g3 nO cO : Nat) (ops : List Dop) (w : World) (h : DiskAt w (some ⟨g1, 0, none⟩) nL cL live (some ⟨g2, 0, none⟩) nS cS safe (some ⟨g3, 0, none⟩) nO cO ops) :
    Calls Try.prog 65 #[.agg #[.slice (some ⟨g1, 0, none⟩) nL cL, .slice (some ⟨g2, 0, none⟩) nS cS, .slice (some ⟨g3, 0, none⟩) nO cO]] w (DskPost (fun v => v) live safe ops w) := by
  obtain ⟨Wa, hWa⟩ : ∃ Wa, Wa = w.alloc (.cells #[.slice (some ⟨g1, 0, none⟩) nL cL, .slice (some ⟨g2, 0, none⟩) nS cS, .slice (some ⟨g3, 0, none⟩) nO cO] 31) := ⟨_, rfl⟩
  obtain ⟨W0, hW0⟩ : ∃ W0, W0 = Wa.alloc (.cells #[.slice none 0 0, .slice none 0 0, .slice none 0 0] 31) := ⟨_, rfl⟩
  have hba : Below w.heap.size w Wa := by rw [hWa]; exact bel1 _ _
  have hsa : Wa.heap.size = w.heap.size + 1 := by rw [hWa]; simp
  have hs0 : W0.heap.size = w.heap.size + 2 := by rw [hW0]; simp [hsa]
  have hb0 : Below Wa.heap.size Wa W0 := by rw [hW0]; exact bel1 _ _
  have c0 : W0.cell? ⟨w.heap.size, 0, none⟩ = some (.slice (some ⟨g1, 0, none⟩) nL cL) := bcl hb0 (by omega) (by rw [hWa]; simp [go_sem])
  have c1 : W0.cell? ⟨w.heap.size, 1, none⟩ = some (.slice (some ⟨g2, 0, none⟩) nS cS) := bcl hb0 (by omega) (by rw [hWa]; simp [go_sem])
  have c2 : W0.cell? ⟨w.heap.size, 2, none⟩ = some (.slice (some ⟨g3, 0, none⟩) nO cO) := bcl hb0 (by omega) (by rw [hWa]; simp [go_sem])
  have hr : ∀ i, i < 3 → W0.cell? ⟨w.heap.size + 1, i, none⟩ = some (.slice none 0 0) ∧ W0.frozen? ⟨w.heap.size + 1, i, none⟩ = false := by
    intro i hi
    rw [hW0, ← hsa]
    rcases i with _ | _ | _ | i
    all_goals first | omega | simp [go_sem]
  have HC := hide (fun (W : World) (hW : Below W0.heap.size W0 W) => And.intro (bcl hW (show w.heap.size < W0.heap.size by omega) c0) (And.intro (bcl hW (show w.heap.size < W0.heap.size by omega) c1) (bcl hW (show w.heap.size < W0.heap.size by omega) c2)))
  have HR := hide (fun (W : World) (hW : Below W0.heap.size W0 W) (i : Nat) (hi : i < 3) => And.intro (bcl hW (show w.heap.size + 1 < W0.heap.size by omega) (hr i hi).1) ((hW.frozen (p := ⟨w.heap.size + 1, i, none⟩) (show w.heap.size + 1 < W0.heap.size by omega)).trans (hr i hi).2))
  have HFIN := hide (fun (W : World) (hW : Below W0.heap.size W0 W) => belOn (belOn hba hb0) hW)
  have HD := hide (fun (W : World) (hW : Below W0.heap.size W0 W) => (h.below (belOn hba hb0)).below hW)
  have HW0 := hide (show (w.alloc (.cells #[.slice (some ⟨g1, 0, none⟩) nL cL, .slice (some ⟨g2, 0, none⟩) nS cS, .slice (some ⟨g3, 0, none⟩) nO cO] 31)).alloc (.cells #[.slice none 0 0, .slice none 0 0, .slice none 0 0] 31) = W0 from by rw [hW0, hWa])
  have HLL := hide h.ll
  have HLS := hide h.ls
  have HLO := hide h.lo
  have hbl := h.bl
  have hbs := h.bs
  have hbo := h.bo
  have HS0 := hide hs0
  have l0 : w.heap.size < W0.heap.size := by omega
  have l1 : w.heap.size + 1 < W0.heap.size := by omega
  obtain ⟨r0, z0⟩ := hr 0 (by decide)
  obtain ⟨r1, z1⟩ := hr 1 (by decide)
  obtain ⟨r2, z2⟩ := hr 2 (by decide)
  have HC1 := hide (fun (W : World) (hW : Below W0.heap.size W0 W) => cloneFile_calls g1 nL cL live W (unhide HLL) hbl (unhide HD _ hW).rl)
  have HC2 := hide (fun (W : World) (hW : Below W0.heap.size W0 W) => cloneFile_calls g2 nS cS safe W (unhide HLS) hbs (unhide HD _ hW).rs)
  have HC3 := hide (fun (W : World) (hW : Below W0.heap.size W0 W) => cloneDOp_calls g3 nO cO ops W (unhide HLO) hbo (unhide HD _ hW).ro)
  clear hba hb0 hWa hW0 hr h hsa hs0 HC HR
  go_enter Try.func65, Try.ntmps65
  go_wp2_with fail
  rw [unhide HW0]
  go_region_held3 (fun w' => w'.cell? ⟨w.heap.size, 0, none⟩ = some (.slice (some ⟨g1, 0, none⟩) nL cL) ∧ w'.cell? ⟨w.heap.size, 1, none⟩ = some (.slice (some ⟨g2, 0, none⟩) nS cS) ∧ w'.cell? ⟨w.heap.size, 2, none⟩ = some (.slice (some ⟨g3, 0, none⟩) nO cO)) (go_keep) (first
    | (go_at_call 72; refine (unhide HC3 _ B3).mono ?_; rintro e w4 ⟨y3, k3, rfl, o3, hb4⟩; have B4 := belOn B3 hb4; have d0 := bcl B4 l0 c0; have d1 := bcl B4 l0 c1; have d2 := bcl B4 l0 c2; have t0 := bcl B4 l1 r0; have t1 := bcl B4 l1 r1; have t2 := bcl B4 l1 r2; have v0 := (B4.frozen (p := ⟨w.heap.size + 1, 0, none⟩) l1).trans z0; have v1 := (B4.frozen (p := ⟨w.heap.size + 1, 1, none⟩) l1).trans z1; have v2 := (B4.frozen (p := ⟨w.heap.size + 1, 2, none⟩) l1).trans z2)
    | (go_at_call 71; refine (unhide HC2 _ B2).mono ?_; rintro e w3 ⟨y2, k2, rfl, o2, hb3⟩; have B3 := belOn B2 hb3; have s0 := bcl B3 l0 c0; have s1 := bcl B3 l0 c1; have s2 := bcl B3 l0 c2)
    | (go_at_call 71; refine (unhide HC1 _ (belDrew (Below.refl _ _))).mono ?_; rintro e w2 ⟨y1, k1, rfl, o1, hb2⟩; have B2 := bOfDrew hb2; have q0 := bcl B2 l0 c0; have q1 := bcl B2 l0 c1; have q2 := bcl B2 l0 c2))
  all_goals (have HO1 := hide (o1.keep (belOn hb3 hb4)))
  all_goals (have HO2 := hide (o2.keep hb4))
  all_goals (have HO3 := hide o3)
  all_goals (have HY1 := hide o1.bl)
  all_goals (have HY2 := hide o2.bl)
  all_goals (have HB4 := hide B4)
  all_goals (have m2 := B2.size)
  all_goals (have m3 := hb3.size)
  all_goals clear o1 o2 o3 hb2 B2 B3 B4 hb3 hb4 s0 s1 s2 q0 q1 q2 d0 d1 d2 r0 r1 r2 z0 z1 z2 c0 c1 c2
  all_goals (try go_wp2_with fail)
  all_goals refine bodyPost_ret (v := .agg #[.slice y1 nL k1, .slice y2 nS k2, .slice y3 nO k3]) (by simp [results, Try.results65, go_sem, t0, t1, t2]) rfl ?_
  all_goals (have hn1 := unhide HLL)
  all_goals (have hn2 := unhide HLS)
  all_goals (have hn3 := unhide HLO)
  all_goals (subst hn1 hn2 hn3)
  all_goals (have hs0 := unhide HS0)
  all_goals (have hzd : W0.drew.heap.size = W0.heap.size := rfl)
  all_goals refine ⟨y1, k1, y2, k2, y3, k3, rfl, ((unhide HO1).other ?_).le (show w.heap.size ≤ W0.heap.size by omega), ((unhide HO2).other ?_).le (show w.heap.size ≤ w2.heap.size by omega), ((unhide HO3).other ?_).le (show w.heap.size ≤ w3.heap.size by omega), ⟨fun g h1 h2 => by have := (unhide HY1 g h1).2; have := ((unhide HO2).bl g h2).1; omega, fun g h1 h2 => by have := (unhide HY1 g h1).2; have := ((unhide HO3).bl g h2).1; omega, fun g h1 h2 => by have := (unhide HY2 g h1).2; have := ((unhide HO3).bl g h2).1; omega⟩, (((unhide HFIN _ (unhide HB4)).setCell (show w.heap.size ≤ w.heap.size + 1 by omega) _).setCell (show w.heap.size ≤ w.heap.size + 1 by omega) _).setCell (show w.heap.size ≤ w.heap.size + 1 by omega) _⟩
  all_goals intro g hg
  · have hgl := World.ownsRow.lt (unhide HO1) g hg
    have hg2 : w.heap.size + 1 ≠ g := by have := hgl.1; omega
    rw [heap_set hg2, heap_set hg2, heap_set hg2]
  · have hgl := World.ownsRow.lt (unhide HO2) g hg
    have hg2 : w.heap.size + 1 ≠ g := by have := hgl.1; omega
    rw [heap_set hg2, heap_set hg2, heap_set hg2]
  · have hgl := World.ownsRow.lt (unhide HO3) g hg
    have hg2 : w.heap.size + 1 ≠ g := by have := hgl.1; omega
    rw [heap_set hg2, heap_set hg2, heap_set hg2]
end Go.Proofs.Ytiligddjilcdhaa
