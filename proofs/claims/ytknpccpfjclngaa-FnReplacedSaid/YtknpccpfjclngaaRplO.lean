/- Replace of the program, wherever the disk lies. -/
import Derived.Test.YtknpccpfjclngaaGAK
import Derived.Test.YtknpccpfjclngaaDoH
import Derived.Deep.RegionHeld3
namespace Go.Proofs.Ytknpccpfjclngaa
open Go.RowKit Go.Maps Plain
set_option linter.unusedVariables false

set_option maxRecDepth 10000 in
set_option maxHeartbeats 4000000 in
theorem impl_ReplaceN (q1L : Option Addr) (nL cL : Nat) (live : List Fl) (q2S : Option Addr) (nS cS : Nat) (safe : List Fl) (q3O : Option Addr) (nO cO : Nat) (ops : List Dop) (nm dt fr : ByteArray) (w : World) (h : DiskN w q1L nL cL live q2S nS cS safe q3O nO cO ops) (hnm : nm.size ≤ 100000000) (hdt : dt.size ≤ 100000000) (hfr : nm ++ ⟨#[46, 110, 101, 119]⟩ = fr) :
    Calls Try.prog 15 #[.agg #[.slice q1L nL cL, .slice q2S nS cS, .slice q3O nO cO], .string nm, .string dt] w (DskPost (fun v => .tuple #[v, .int .i64 (actC live safe ops (repX live safe ops fr nm dt))]) (actL live safe ops (repX live safe ops fr nm dt)) (actS live safe ops) (actO live safe ops (repX live safe ops fr nm dt)) w) := by
  have hfz : fr.size ≤ 100000004 := by rw [← hfr, ByteArray.size_append]; show nm.size + 4 ≤ _; omega
  obtain ⟨Wa, hWa⟩ : ∃ Wa, Wa = w.alloc (.cells #[.slice q1L nL cL, .slice q2S nS cS, .slice q3O nO cO] 27) := ⟨_, rfl⟩
  obtain ⟨W0, hW0⟩ : ∃ W0, W0 = Wa.alloc (.cells #[.slice none 0 0, .slice none 0 0, .slice none 0 0] 27) := ⟨_, rfl⟩
  have hba : Below w.heap.size w Wa := by rw [hWa]; exact bel1 _ _
  have hsa : Wa.heap.size = w.heap.size + 1 := by rw [hWa]; simp
  have hs0 : W0.heap.size = w.heap.size + 2 := by rw [hW0]; simp [hsa]
  have hb0 : Below Wa.heap.size Wa W0 := by rw [hW0]; exact bel1 _ _
  have c0 : W0.cell? ⟨w.heap.size, 0, none⟩ = some (.slice q1L nL cL) := bcl hb0 (by omega) (by rw [hWa]; simp [go_sem])
  have c1 : W0.cell? ⟨w.heap.size, 1, none⟩ = some (.slice q2S nS cS) := bcl hb0 (by omega) (by rw [hWa]; simp [go_sem])
  have c2 : W0.cell? ⟨w.heap.size, 2, none⟩ = some (.slice q3O nO cO) := bcl hb0 (by omega) (by rw [hWa]; simp [go_sem])
  have hr : ∀ i, i < 3 → W0.cell? ⟨w.heap.size + 1, i, none⟩ = some (.slice none 0 0) ∧ W0.frozen? ⟨w.heap.size + 1, i, none⟩ = false := by
    intro i hi
    rw [hW0, ← hsa]
    rcases i with _ | _ | _ | i
    all_goals first | omega | simp [go_sem]
  have HC := hide (fun (W : World) (hW : Below W0.heap.size W0 W) => And.intro (bcl hW (show w.heap.size < W0.heap.size by omega) c0) (And.intro (bcl hW (show w.heap.size < W0.heap.size by omega) c1) (bcl hW (show w.heap.size < W0.heap.size by omega) c2)))
  have HR := hide (fun (W : World) (hW : Below W0.heap.size W0 W) (i : Nat) (hi : i < 3) => And.intro (bcl hW (show w.heap.size + 1 < W0.heap.size by omega) (hr i hi).1) ((hW.frozen (p := ⟨w.heap.size + 1, i, none⟩) (show w.heap.size + 1 < W0.heap.size by omega)).trans (hr i hi).2))
  have HFIN := hide (fun (W : World) (hW : Below W0.heap.size W0 W) => belOn (belOn hba hb0) hW)
  have HD := hide (fun (W : World) (hW : Below W0.heap.size W0 W) => (h.below (belOn hba hb0)).below hW)
  obtain ⟨W1, hW1⟩ : ∃ W1, W1 = W0.alloc (.cells #[.int .i64 1, .string fr, .string ⟨#[]⟩, .string dt, .int .i64 2, .string fr, .string nm, .string ⟨#[]⟩] 50) := ⟨_, rfl⟩
  have hb1 : Below W0.heap.size W0 W1 := by rw [hW1]; exact bel1 _ _
  have hg1 : W1.heap[W0.heap.size]? = some (.cells ([(⟨1, fr, ⟨#[]⟩, dt⟩ : Dop), ⟨2, fr, nm, ⟨#[]⟩⟩].flatMap dopE.enc ++ []).toArray 50 (0, 0)) := by rw [hW1]; exact litN _ _
  have HR1 := hide (show RowAt dopE W1 (some ⟨w.heap.size + 2, 0, none⟩) [⟨1, fr, ⟨#[]⟩, dt⟩, ⟨2, fr, nm, ⟨#[]⟩⟩] from by rw [← hs0]; exact rowOf hg1 (by rw [hW1]; simp))
  have HW1 := hide (show ((w.alloc (.cells #[.slice q1L nL cL, .slice q2S nS cS, .slice q3O nO cO] 27)).alloc (.cells #[.slice none 0 0, .slice none 0 0, .slice none 0 0] 27)).alloc (.cells #[.int .i64 1, .string fr, .string ⟨#[]⟩, .string dt, .int .i64 2, .string fr, .string nm, .string ⟨#[]⟩] 50) = W1 from by rw [hW1, hW0, hWa])
  have HRF := hide (impl_ReadFileO _ nL cL live _ nS cS safe _ nO cO ops fr W1 (unhide HD _ hb1).toDiskO (by omega))
  have sm1 : SmO ⟨1, fr, ⟨#[]⟩, dt⟩ := ⟨by show fr.size ≤ _; omega, by show (0 : Nat) ≤ _; omega, by show dt.size ≤ _; omega⟩
  have sm2 : SmO ⟨2, fr, nm, ⟨#[]⟩⟩ := ⟨by show fr.size ≤ _; omega, by show nm.size ≤ _; omega, by show (0 : Nat) ≤ _; omega⟩
  have sm3 : SmO ⟨3, fr, ⟨#[]⟩, ⟨#[]⟩⟩ := ⟨by show fr.size ≤ _; omega, by show (0 : Nat) ≤ _; omega, by show (0 : Nat) ≤ _; omega⟩
  have HDA := hide (fun (W : World) (hW : Below W0.heap.size W0 W) (g4 nX cX : Nat) (xs : List Dop) (hx : RowAt dopE W (some ⟨g4, 0, none⟩) xs) (hn : xs.length = nX) (hn2 : nX ≤ 100) (hs : ∀ o ∈ xs, SmO o) => impl_doAllN q1L nL cL live q2S nS cS safe q3O nO cO ops (some ⟨g4, 0, none⟩) nX cX xs W (unhide HD _ hW) hx hn (Nat.le_trans hn2 (by decide)) hs)
  have HB1 := hide hb1
  have HS0 := hide hs0
  unfold repX
  obtain ⟨RV, hRV⟩ : ∃ R, fileF live safe ops fr = R := ⟨_, rfl⟩
  rw [hRV] at HRF ⊢

  clear hba hb0 hWa hW0 hr h hsa hs0 hW1 hb1 hg1 hRV c0 c1 c2
  unfold readV at HRF
  cases RV with
  | none =>
    have hxs : (if (none : Option ByteArray).isSome then [(⟨3, fr, ⟨#[]⟩, ⟨#[]⟩⟩ : Dop), ⟨1, fr, ⟨#[]⟩, dt⟩, ⟨2, fr, nm, ⟨#[]⟩⟩] else [⟨1, fr, ⟨#[]⟩, dt⟩, ⟨2, fr, nm, ⟨#[]⟩⟩]) = [⟨1, fr, ⟨#[]⟩, dt⟩, ⟨2, fr, nm, ⟨#[]⟩⟩] := rfl
    rw [hxs]
    obtain ⟨PC, hPC⟩ : ∃ x, actC live safe ops [⟨1, fr, ⟨#[]⟩, dt⟩, ⟨2, fr, nm, ⟨#[]⟩⟩] = x := ⟨_, rfl⟩
    obtain ⟨PL, hPL⟩ : ∃ x, actL live safe ops [⟨1, fr, ⟨#[]⟩, dt⟩, ⟨2, fr, nm, ⟨#[]⟩⟩] = x := ⟨_, rfl⟩
    obtain ⟨PS, hPS⟩ : ∃ x, actS live safe ops = x := ⟨_, rfl⟩
    obtain ⟨PO, hPO⟩ : ∃ x, actO live safe ops [⟨1, fr, ⟨#[]⟩, dt⟩, ⟨2, fr, nm, ⟨#[]⟩⟩] = x := ⟨_, rfl⟩
    rw [hPC, hPL, hPS, hPO]
    have HP := hide (And.intro hPC (And.intro hPL (And.intro hPS hPO)))
    clear hPC hPL hPS hPO
    simp only [Option.getD_none, Option.isSome_none] at HRF
    go_enter Try.func15, Try.ntmps15
    go_wp2_with fail
    rw [unhide HW1]
    refine (unhide HRF).mono ?_
    rintro e w2 ⟨rfl, hb2⟩
    have HBX := hide (belOn (unhide HB1) hb2)
    have HR2 := hide ((unhide HR1).below hb2)
    obtain ⟨q0, q1, q2⟩ := unhide HC _ (unhide HBX)
    clear hb2
    go_wp2_with fail
    clear q0 q1 q2
    refine (unhide HDA _ (unhide HBX) (w.heap.size + 2) 2 2 [⟨1, fr, ⟨#[]⟩, dt⟩, ⟨2, fr, nm, ⟨#[]⟩⟩] (unhide HR2) rfl (by decide) (fun o ho => by simp at ho; rcases ho with rfl | rfl; exact sm1; exact sm2)).mono ?_
    rintro e wf ⟨aL, iL, aS, iS, aO, iO, rfl, o1, o2, o3, apf, hbf⟩
    obtain ⟨e1, e2, e3, e4⟩ := unhide HP
    rw [e2] at o1 ⊢
    rw [e3] at o2 ⊢
    rw [e4] at o3 ⊢
    rw [e1]
    have HBf := hide (belOn (unhide HBX) hbf)
    have HOf := hide (And.intro o1 (And.intro o2 (And.intro o3 apf)))
    obtain ⟨r0, z0⟩ := unhide HR _ (unhide HBf) 0 (by decide)
    obtain ⟨r1, z1⟩ := unhide HR _ (unhide HBf) 1 (by decide)
    obtain ⟨r2, z2⟩ := unhide HR _ (unhide HBf) 2 (by decide)
    have hzx := (unhide HBX).size
    clear o1 o2 o3 apf hbf e1 e2 e3 e4
    go_wp2_with fail
    refine bodyPost_ret (v := .tuple #[.agg #[.slice aL PL.length iL, .slice aS PS.length iS, .slice aO PO.length iO], .int .i64 PC]) (by simp [results, Try.results15, go_sem, r0, r1, r2]) rfl ?_
    obtain ⟨o1, o2, o3, apf⟩ := unhide HOf
    have hs0 := unhide HS0
    exact dskRet (rb := w.heap.size + 1) o1 o2 o3 apf (by omega) (by omega) (unhide HFIN _ (unhide HBf))
  | some dd =>
    have hxs : (if (some dd : Option ByteArray).isSome then [(⟨3, fr, ⟨#[]⟩, ⟨#[]⟩⟩ : Dop), ⟨1, fr, ⟨#[]⟩, dt⟩, ⟨2, fr, nm, ⟨#[]⟩⟩] else [⟨1, fr, ⟨#[]⟩, dt⟩, ⟨2, fr, nm, ⟨#[]⟩⟩]) = [⟨3, fr, ⟨#[]⟩, ⟨#[]⟩⟩, ⟨1, fr, ⟨#[]⟩, dt⟩, ⟨2, fr, nm, ⟨#[]⟩⟩] := rfl
    rw [hxs]
    obtain ⟨PC, hPC⟩ : ∃ x, actC live safe ops [⟨3, fr, ⟨#[]⟩, ⟨#[]⟩⟩, ⟨1, fr, ⟨#[]⟩, dt⟩, ⟨2, fr, nm, ⟨#[]⟩⟩] = x := ⟨_, rfl⟩
    obtain ⟨PL, hPL⟩ : ∃ x, actL live safe ops [⟨3, fr, ⟨#[]⟩, ⟨#[]⟩⟩, ⟨1, fr, ⟨#[]⟩, dt⟩, ⟨2, fr, nm, ⟨#[]⟩⟩] = x := ⟨_, rfl⟩
    obtain ⟨PS, hPS⟩ : ∃ x, actS live safe ops = x := ⟨_, rfl⟩
    obtain ⟨PO, hPO⟩ : ∃ x, actO live safe ops [⟨3, fr, ⟨#[]⟩, ⟨#[]⟩⟩, ⟨1, fr, ⟨#[]⟩, dt⟩, ⟨2, fr, nm, ⟨#[]⟩⟩] = x := ⟨_, rfl⟩
    rw [hPC, hPL, hPS, hPO]
    have HP := hide (And.intro hPC (And.intro hPL (And.intro hPS hPO)))
    clear hPC hPL hPS hPO
    simp only [Option.getD_some, Option.isSome_some] at HRF
    go_enter Try.func15, Try.ntmps15
    go_wp2_with fail
    rw [unhide HW1]
    refine (unhide HRF).mono ?_
    rintro e w2 ⟨rfl, hb2⟩
    have HB2 := hide (belOn (unhide HB1) hb2)
    have HIN := hide (insert_calls (w.heap.size + 2) w2.heap.size ⟨1, fr, ⟨#[]⟩, dt⟩ ⟨2, fr, nm, ⟨#[]⟩⟩ ⟨3, fr, ⟨#[]⟩, ⟨#[]⟩⟩ (w2.alloc (.cells #[.int .i64 3, .string fr, .string ⟨#[]⟩, .string ⟨#[]⟩] 50)) (((unhide HR1).below hb2).below (bel1 _ _)) (dopLit w2 ⟨3, fr, ⟨#[]⟩, ⟨#[]⟩⟩).at)
    clear hb2
    go_wp2_with fail
    refine (unhide HIN).mono ?_
    rintro e w4 ⟨g', c', rfl, hrow, hb4⟩
    have HBX := hide (belOn (belOn (unhide HB2) (bel1 _ _)) hb4)
    have HRW := hide hrow
    obtain ⟨q0, q1, q2⟩ := unhide HC _ (unhide HBX)
    clear hb4 hrow
    go_wp2_with fail
    clear q0 q1 q2
    refine (unhide HDA _ (unhide HBX) g' 3 c' [⟨3, fr, ⟨#[]⟩, ⟨#[]⟩⟩, ⟨1, fr, ⟨#[]⟩, dt⟩, ⟨2, fr, nm, ⟨#[]⟩⟩] (unhide HRW) rfl (by decide) (fun o ho => by simp at ho; rcases ho with rfl | rfl | rfl; exact sm3; exact sm1; exact sm2)).mono ?_
    rintro e wf ⟨aL, iL, aS, iS, aO, iO, rfl, o1, o2, o3, apf, hbf⟩
    obtain ⟨e1, e2, e3, e4⟩ := unhide HP
    rw [e2] at o1 ⊢
    rw [e3] at o2 ⊢
    rw [e4] at o3 ⊢
    rw [e1]
    have HBf := hide (belOn (unhide HBX) hbf)
    have HOf := hide (And.intro o1 (And.intro o2 (And.intro o3 apf)))
    obtain ⟨r0, z0⟩ := unhide HR _ (unhide HBf) 0 (by decide)
    obtain ⟨r1, z1⟩ := unhide HR _ (unhide HBf) 1 (by decide)
    obtain ⟨r2, z2⟩ := unhide HR _ (unhide HBf) 2 (by decide)
    have hzx := (unhide HBX).size
    clear o1 o2 o3 apf hbf e1 e2 e3 e4
    go_wp2_with fail
    refine bodyPost_ret (v := .tuple #[.agg #[.slice aL PL.length iL, .slice aS PS.length iS, .slice aO PO.length iO], .int .i64 PC]) (by simp [results, Try.results15, go_sem, r0, r1, r2]) rfl ?_
    obtain ⟨o1, o2, o3, apf⟩ := unhide HOf
    have hs0 := unhide HS0
    exact dskRet (rb := w.heap.size + 1) o1 o2 o3 apf (by omega) (by omega) (unhide HFIN _ (unhide HBf))
end Go.Proofs.Ytknpccpfjclngaa
