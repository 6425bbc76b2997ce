/- Disks that are synced, by the program: rows cloned. -/
import Derived.Test.YtknpccpfjclngaaDskI
import Derived.Test.YtknpccpfjclngaaGAH
import Derived.Test.YtknpccpfjclngaaGAF
import Derived.Deep.RegionHeld3
namespace Go.Proofs.Ytknpccpfjclngaa
open Go.RowKit Plain
set_option linter.unusedVariables false

namespace Plain
/-- The files behind a sync. -/
def synL (live safe : List Fl) (ops : List Dop) : List Fl := if diskB live safe ops then live else []
theorem apartNil : Apart none none none := by refine ⟨?_, ?_, ?_⟩ <;> (rintro g ⟨o, e⟩; cases e)
theorem apart2 {a b : Option Addr} (h : ∀ g, inB a g → inB b g → False) : Apart a b none := by
  refine ⟨fun g h1 h2 => h g h1 h2, ?_, ?_⟩ <;> (rintro g - ⟨o, e⟩; cases e)
end Plain

set_option maxRecDepth 10000 in
set_option maxHeartbeats 4000000 in
theorem impl_SyncO (aL : Option Addr) (nL cL : Nat) (live : List Fl) (aS : Option Addr) (nS cS : Nat) (safe : List Fl) (aO : Option Addr) (nO cO : Nat) (ops : List Dop) (w : World) (h : DiskO w aL nL cL live aS nS cS safe aO nO cO ops) :
    Calls Try.prog 11 #[.agg #[.slice aL nL cL, .slice aS nS cS, .slice aO nO cO]] w (DskPost (fun v => v) (synL live safe ops) (synL live safe ops) [] w) := by
  obtain ⟨Wa, hWa⟩ : ∃ Wa, Wa = w.alloc (.cells #[.slice aL nL cL, .slice aS nS cS, .slice aO nO cO] 27) := ⟨_, rfl⟩
  obtain ⟨W0, hW0⟩ : ∃ W0, W0 = Wa.alloc (.cells #[.slice none 0 0, .slice none 0 0, .slice none 0 0] 27) := ⟨_, rfl⟩
  have hba : Below w.heap.size w Wa := by rw [hWa]; exact bel1 _ _
  have hsa : Wa.heap.size = w.heap.size + 1 := by rw [hWa]; simp
  have hs0 : W0.heap.size = w.heap.size + 2 := by rw [hW0]; simp [hsa]
  have hb0 : Below Wa.heap.size Wa W0 := by rw [hW0]; exact bel1 _ _
  have c0 : W0.cell? ⟨w.heap.size, 0, none⟩ = some (.slice aL nL cL) := bcl hb0 (by omega) (by rw [hWa]; simp [go_sem])
  have c1 : W0.cell? ⟨w.heap.size, 1, none⟩ = some (.slice aS nS cS) := bcl hb0 (by omega) (by rw [hWa]; simp [go_sem])
  have c2 : W0.cell? ⟨w.heap.size, 2, none⟩ = some (.slice aO nO cO) := bcl hb0 (by omega) (by rw [hWa]; simp [go_sem])
  have hr : ∀ i, i < 3 → W0.cell? ⟨w.heap.size + 1, i, none⟩ = some (.slice none 0 0) ∧ W0.frozen? ⟨w.heap.size + 1, i, none⟩ = false := by
    intro i hi
    rw [hW0, ← hsa]
    rcases i with _ | _ | _ | i
    all_goals first | omega | simp [go_sem]
  have HC := hide (fun (W : World) (hW : Below W0.heap.size W0 W) => And.intro (bcl hW (show w.heap.size < W0.heap.size by omega) c0) (And.intro (bcl hW (show w.heap.size < W0.heap.size by omega) c1) (bcl hW (show w.heap.size < W0.heap.size by omega) c2)))
  have HR := hide (fun (W : World) (hW : Below W0.heap.size W0 W) (i : Nat) (hi : i < 3) => And.intro (bcl hW (show w.heap.size + 1 < W0.heap.size by omega) (hr i hi).1) ((hW.frozen (p := ⟨w.heap.size + 1, i, none⟩) (show w.heap.size + 1 < W0.heap.size by omega)).trans (hr i hi).2))
  have HFIN := hide (fun (W : World) (hW : Below W0.heap.size W0 W) => belOn (belOn hba hb0) hW)
  have HD := hide (fun (W : World) (hW : Below W0.heap.size W0 W) => (h.below (belOn hba hb0)).below hW)
  have HW0 := hide (show (w.alloc (.cells #[.slice aL nL cL, .slice aS nS cS, .slice aO nO cO] 27)).alloc (.cells #[.slice none 0 0, .slice none 0 0, .slice none 0 0] 27) = W0 from by rw [hW0, hWa])
  have HLL := hide h.ll
  have hbl := h.bl
  have HOK := hide (impl_DiskOkO aL nL cL live aS nS cS safe aO nO cO ops W0 (unhide HD _ (Below.refl _ _)))
  have HS0 := hide hs0
  clear hba hb0 hWa hW0 hr h hsa hs0
  obtain ⟨L, hL⟩ : ∃ L, synL live safe ops = L := ⟨_, rfl⟩
  rw [hL]
  unfold synL at hL
  cases hd : diskB live safe ops with
  | false =>
    rw [hd] at HOK hL
    have HL := hide hL
    clear hd hL
    go_enter Try.func11, Try.ntmps11
    go_wp2_with fail
    rw [unhide HW0]
    refine (unhide HOK).mono ?_
    rintro e w1 ⟨rfl, hb1⟩
    have HB1 := hide hb1
    obtain ⟨r0, z0⟩ := unhide HR _ hb1 0 (by decide)
    obtain ⟨r1, z1⟩ := unhide HR _ hb1 1 (by decide)
    obtain ⟨r2, z2⟩ := unhide HR _ hb1 2 (by decide)
    clear hb1 c0 c1 c2
    go_wp2_with fail
    refine bodyPost_ret (v := .agg #[.slice none 0 0, .slice none 0 0, .slice none 0 0]) (by simp [results, Try.results11, go_sem, r0, r1, r2]) rfl ?_
    have hL : L = [] := by rw [← unhide HL]; rfl
    subst hL
    exact ⟨none, 0, none, 0, none, 0, rfl, ownR_nil _ _ _, ownR_nil _ _ _, ownR_nil _ _ _, apartNil, (((unhide HFIN _ (unhide HB1)).setCell (show w.heap.size ≤ w.heap.size + 1 by omega) _).setCell (show w.heap.size ≤ w.heap.size + 1 by omega) _).setCell (show w.heap.size ≤ w.heap.size + 1 by omega) _⟩
  | true =>
    rw [hd] at HOK hL
    have HL := hide hL
    clear hd hL
    go_enter Try.func11, Try.ntmps11
    go_wp2_with fail
    rw [unhide HW0]
    refine (unhide HOK).mono ?_
    rintro e w1 ⟨rfl, hb1⟩
    have HB1 := hide hb1
    obtain ⟨q0, q1, q2⟩ := unhide HC _ hb1
    obtain ⟨r0, z0⟩ := unhide HR _ hb1 0 (by decide)
    obtain ⟨r1, z1⟩ := unhide HR _ hb1 1 (by decide)
    obtain ⟨r2, z2⟩ := unhide HR _ hb1 2 (by decide)
    have l0 : w.heap.size < w1.heap.size := lt_of_cell q0
    have l1 : w.heap.size + 1 < w1.heap.size := lt_of_cell r0
    have HCL := hide (fun (W : World) (hW : Below w1.heap.size w1 W) => cloneFileO_calls aL nL cL live W (unhide HLL) hbl (unhide HD _ (belOn (unhide HB1) hW)).rl (unhide HD _ (belOn (unhide HB1) hW)).adl)
    clear hb1 c0 c1 c2
    go_wp2_with fail
    go_region_with (first
      | (go_at_call 33; refine (unhide HCL _ HB2).mono ?_; rintro e w3 ⟨y2, k2, rfl, o2, hb3⟩; have t0 := bcl (belOn HB2 hb3) l1 r0; have t1 := bcl (belOn HB2 hb3) l1 r1; have t2 := bcl (belOn HB2 hb3) l1 r2; have v0 := ((belOn HB2 hb3).frozen (p := ⟨w.heap.size + 1, 0, none⟩) l1).trans z0; have v1 := ((belOn HB2 hb3).frozen (p := ⟨w.heap.size + 1, 1, none⟩) l1).trans z1; have v2 := ((belOn HB2 hb3).frozen (p := ⟨w.heap.size + 1, 2, none⟩) l1).trans z2)
      | (go_at_call 33; refine (unhide HCL _ (belDrew (Below.refl _ _))).mono ?_; rintro e w2 ⟨y1, k1, rfl, o1, hb2⟩; have HB2 := bOfDrew hb2; have s0 := bcl HB2 l0 q0))
    all_goals (have HO1 := hide (o1.keep hb3))
    all_goals (have HO2 := hide o2)
    all_goals (have HY1 := hide o1.bl)
    all_goals (have HB3 := hide (belOn HB2 hb3))
    all_goals (have m2 := HB2.size)
    all_goals clear o1 o2 hb2 HB2 hb3 s0 r0 r1 r2 z0 z1 z2 q0 q1 q2
    all_goals (try go_wp2_with fail)
    all_goals refine bodyPost_ret (v := .agg #[.slice y1 nL k1, .slice y2 nL k2, .slice none 0 0]) (by simp [results, Try.results11, go_sem, t0, t1, t2]) rfl ?_
    all_goals (have hL : L = live := by rw [← unhide HL]; rfl)
    all_goals (subst hL)
    all_goals (have hn := unhide HLL)
    all_goals (subst hn)
    all_goals (have hs0 := unhide HS0)
    all_goals (have hz1 := (unhide HB1).size)
    all_goals refine ⟨y1, k1, y2, k2, none, 0, rfl, ((unhide HO1).other ?_).le (show w.heap.size ≤ w1.heap.size by omega), ((unhide HO2).other ?_).le (show w.heap.size ≤ w2.heap.size by omega), ownR_nil _ _ _, apart2 (fun g h1 h2 => by have := (unhide HY1 g h1).2; have := ((unhide HO2).bl g h2).1; omega), (((belOn (unhide HFIN _ (unhide HB1)) (unhide HB3)).setCell (show w.heap.size ≤ w.heap.size + 1 by omega) _).setCell (show w.heap.size ≤ w.heap.size + 1 by omega) _).setCell (show w.heap.size ≤ w.heap.size + 1 by omega) _⟩
    all_goals intro g hg
    all_goals (have hgl := World.ownsRow.lt (by first | exact unhide HO1 | exact unhide HO2) g hg)
    all_goals (have hzd : w1.drew.heap.size = w1.heap.size := rfl)
    all_goals (have hg2 : w.heap.size + 1 ≠ g := by have := hgl.1; omega)
    all_goals rw [heap_set hg2, heap_set hg2, heap_set hg2]

end Go.Proofs.Ytknpccpfjclngaa
