/- Texts of one kind, put together. -/
import Derived.Test.YtakalfckhailjaaGreatGBA
import Derived.Test.YtakalfckhailjaaGreatDoH
import Derived.Deep.RegionHeld3
import Derived.Test.YtakalfckhailjaaGreatActA
import Derived.Test.YtakalfckhailjaaGreatGAW
import Derived.Test.YtakalfckhailjaaGreatCrsE
import Derived.Test.YtakalfckhailjaaGreatDskW
import Derived.Test.YtakalfckhailjaaGreatGAG

/- Replace of the program, wherever the disk lies. -/
namespace Go.Proofs.YtakalfckhailjaaGreat
open Go.RowKit Go.Maps Plain
set_option linter.unusedVariables false

set_option maxRecDepth 10000 in
set_option maxHeartbeats 4000000 in
theorem impl_ReplaceA (q1L : Option Addr) (nL cL : Nat) (live : List Fl) (q2S : Option Addr) (nS cS : Nat) (safe : List Fl) (q3O : Option Addr) (nO cO : Nat) (ops : List Dop) (nm dt fr : ByteArray) (w : World) (h : DiskAt w q1L nL cL live q2S nS cS safe q3O nO cO ops) (hnm : nm.size ≤ 100000000) (hdt : dt.size ≤ 100000000) (hfr : nm ++ ⟨#[46, 110, 101, 119]⟩ = fr) :
    Calls Tryz.prog 43 #[.agg #[.slice q1L nL cL, .slice q2S nS cS, .slice q3O nO cO], .string nm, .string dt] w (DskPost (fun v => .tuple #[v, .int .i64 (actC live safe ops (repX live safe ops fr nm dt))]) (actL live safe ops (repX live safe ops fr nm dt)) (actS live safe ops) (actO live safe ops (repX live safe ops fr nm dt)) w) := by
  have hfz : fr.size ≤ 100000004 := by rw [← hfr, ByteArray.size_append]; show nm.size + 4 ≤ _; omega
  obtain ⟨Wa, hWa⟩ : ∃ Wa, Wa = w.alloc (.cells #[.slice q1L nL cL, .slice q2S nS cS, .slice q3O nO cO] 27) := ⟨_, rfl⟩
  obtain ⟨W0, hW0⟩ : ∃ W0, W0 = Wa.alloc (.cells #[.slice none 0 0, .slice none 0 0, .slice none 0 0] 27) := ⟨_, rfl⟩
  have hba : Below w.heap.size w Wa := by rw [hWa]; exact bel1 _ _
  have hsa : Wa.heap.size = w.heap.size + 1 := by rw [hWa]; simp
  have hs0 : W0.heap.size = w.heap.size + 2 := by rw [hW0]; simp [hsa]
  have hb0 : Below Wa.heap.size Wa W0 := by rw [hW0]; exact bel1 _ _
  have c0 : W0.cell? ⟨w.heap.size, 0, none⟩ = some (.slice q1L nL cL) := bcl hb0 (by omega) (by rw [hWa]; simp [go_sem])
  have c1 : W0.cell? ⟨w.heap.size, 1, none⟩ = some (.slice q2S nS cS) := bcl hb0 (by omega) (by rw [hWa]; simp [go_sem])
  have c2 : W0.cell? ⟨w.heap.size, 2, none⟩ = some (.slice q3O nO cO) := bcl hb0 (by omega) (by rw [hWa]; simp [go_sem])
  have hr : ∀ i, i < 3 → W0.cell? ⟨w.heap.size + 1, i, none⟩ = some (.slice none 0 0) ∧ W0.frozen? ⟨w.heap.size + 1, i, none⟩ = false := by
    intro i hi
    rw [hW0, ← hsa]
    rcases i with _ | _ | _ | i
    all_goals first | omega | simp [go_sem]
  have HC := hide (fun (W : World) (hW : Below W0.heap.size W0 W) => And.intro (bcl hW (show w.heap.size < W0.heap.size by omega) c0) (And.intro (bcl hW (show w.heap.size < W0.heap.size by omega) c1) (bcl hW (show w.heap.size < W0.heap.size by omega) c2)))
  have HR := hide (fun (W : World) (hW : Below W0.heap.size W0 W) (i : Nat) (hi : i < 3) => And.intro (bcl hW (show w.heap.size + 1 < W0.heap.size by omega) (hr i hi).1) ((hW.frozen (p := ⟨w.heap.size + 1, i, none⟩) (show w.heap.size + 1 < W0.heap.size by omega)).trans (hr i hi).2))
  have HFIN := hide (fun (W : World) (hW : Below W0.heap.size W0 W) => belOn (belOn hba hb0) hW)
  have HD := hide (fun (W : World) (hW : Below W0.heap.size W0 W) => (h.below (belOn hba hb0)).below hW)
  obtain ⟨W1, hW1⟩ : ∃ W1, W1 = W0.alloc (.cells #[.int .i64 1, .string fr, .string ⟨#[]⟩, .string dt, .int .i64 2, .string fr, .string nm, .string ⟨#[]⟩] 50) := ⟨_, rfl⟩
  have hb1 : Below W0.heap.size W0 W1 := by rw [hW1]; exact bel1 _ _
  have hg1 : W1.heap[W0.heap.size]? = some (.cells ([(⟨1, fr, ⟨#[]⟩, dt⟩ : Dop), ⟨2, fr, nm, ⟨#[]⟩⟩].flatMap dopE.enc ++ []).toArray 50 (0, 0)) := by rw [hW1]; exact litN _ _
  have HR1 := hide (show RowAt dopE W1 (some ⟨w.heap.size + 2, 0, none⟩) [⟨1, fr, ⟨#[]⟩, dt⟩, ⟨2, fr, nm, ⟨#[]⟩⟩] from by rw [← hs0]; exact rowOf hg1 (by rw [hW1]; simp))
  have HW1 := hide (show ((w.alloc (.cells #[.slice q1L nL cL, .slice q2S nS cS, .slice q3O nO cO] 27)).alloc (.cells #[.slice none 0 0, .slice none 0 0, .slice none 0 0] 27)).alloc (.cells #[.int .i64 1, .string fr, .string ⟨#[]⟩, .string dt, .int .i64 2, .string fr, .string nm, .string ⟨#[]⟩] 50) = W1 from by rw [hW1, hW0, hWa])
  have HRF := hide (impl_ReadFile _ nL cL live _ nS cS safe _ nO cO ops fr W1 (unhide HD _ hb1) (by omega))
  have sm1 : SmO ⟨1, fr, ⟨#[]⟩, dt⟩ := ⟨by show fr.size ≤ _; omega, by show (0 : Nat) ≤ _; omega, by show dt.size ≤ _; omega⟩
  have sm2 : SmO ⟨2, fr, nm, ⟨#[]⟩⟩ := ⟨by show fr.size ≤ _; omega, by show nm.size ≤ _; omega, by show (0 : Nat) ≤ _; omega⟩
  have sm3 : SmO ⟨3, fr, ⟨#[]⟩, ⟨#[]⟩⟩ := ⟨by show fr.size ≤ _; omega, by show (0 : Nat) ≤ _; omega, by show (0 : Nat) ≤ _; omega⟩
  have HDA := hide (fun (W : World) (hW : Below W0.heap.size W0 W) (g4 nX cX : Nat) (xs : List Dop) (hx : RowAt dopE W (some ⟨g4, 0, none⟩) xs) (hn : xs.length = nX) (hn2 : nX ≤ 100) (hs : ∀ o ∈ xs, SmO o) => impl_doAllA q1L nL cL live q2S nS cS safe q3O nO cO ops (some ⟨g4, 0, none⟩) nX cX xs W (unhide HD _ hW) hx hn (Nat.le_trans hn2 (by decide)) hs)
  have HB1 := hide hb1
  have HS0 := hide hs0
  unfold repX
  obtain ⟨RV, hRV⟩ : ∃ R, fileF live safe ops fr = R := ⟨_, rfl⟩
  rw [hRV] at HRF ⊢

  clear hba hb0 hWa hW0 hr h hsa hs0 hW1 hb1 hg1 hRV c0 c1 c2
  unfold readV at HRF
  cases RV with
  | none =>
    have hxs : (if (none : Option ByteArray).isSome then [(⟨3, fr, ⟨#[]⟩, ⟨#[]⟩⟩ : Dop), ⟨1, fr, ⟨#[]⟩, dt⟩, ⟨2, fr, nm, ⟨#[]⟩⟩] else [⟨1, fr, ⟨#[]⟩, dt⟩, ⟨2, fr, nm, ⟨#[]⟩⟩]) = [⟨1, fr, ⟨#[]⟩, dt⟩, ⟨2, fr, nm, ⟨#[]⟩⟩] := rfl
    rw [hxs]
    obtain ⟨PC, hPC⟩ : ∃ x, actC live safe ops [⟨1, fr, ⟨#[]⟩, dt⟩, ⟨2, fr, nm, ⟨#[]⟩⟩] = x := ⟨_, rfl⟩
    obtain ⟨PL, hPL⟩ : ∃ x, actL live safe ops [⟨1, fr, ⟨#[]⟩, dt⟩, ⟨2, fr, nm, ⟨#[]⟩⟩] = x := ⟨_, rfl⟩
    obtain ⟨PS, hPS⟩ : ∃ x, actS live safe ops = x := ⟨_, rfl⟩
    obtain ⟨PO, hPO⟩ : ∃ x, actO live safe ops [⟨1, fr, ⟨#[]⟩, dt⟩, ⟨2, fr, nm, ⟨#[]⟩⟩] = x := ⟨_, rfl⟩
    rw [hPC, hPL, hPS, hPO]
    have HP := hide (And.intro hPC (And.intro hPL (And.intro hPS hPO)))
    clear hPC hPL hPS hPO
    simp only [Option.getD_none, Option.isSome_none] at HRF
    go_enter Tryz.func43, Tryz.ntmps43
    go_wp2_with fail
    rw [unhide HW1]
    refine (unhide HRF).mono ?_
    rintro e w2 ⟨rfl, hb2⟩
    have HBX := hide (belOn (unhide HB1) hb2)
    have HR2 := hide ((unhide HR1).below hb2)
    obtain ⟨q0, q1, q2⟩ := unhide HC _ (unhide HBX)
    clear hb2
    go_wp2_with fail
    clear q0 q1 q2
    refine (unhide HDA _ (unhide HBX) (w.heap.size + 2) 2 2 [⟨1, fr, ⟨#[]⟩, dt⟩, ⟨2, fr, nm, ⟨#[]⟩⟩] (unhide HR2) rfl (by decide) (fun o ho => by simp at ho; rcases ho with rfl | rfl; exact sm1; exact sm2)).mono ?_
    rintro e wf ⟨aL, iL, aS, iS, aO, iO, rfl, o1, o2, o3, apf, hbf⟩
    obtain ⟨e1, e2, e3, e4⟩ := unhide HP
    rw [e2] at o1 ⊢
    rw [e3] at o2 ⊢
    rw [e4] at o3 ⊢
    rw [e1]
    have HBf := hide (belOn (unhide HBX) hbf)
    have HOf := hide (And.intro o1 (And.intro o2 (And.intro o3 apf)))
    obtain ⟨r0, z0⟩ := unhide HR _ (unhide HBf) 0 (by decide)
    obtain ⟨r1, z1⟩ := unhide HR _ (unhide HBf) 1 (by decide)
    obtain ⟨r2, z2⟩ := unhide HR _ (unhide HBf) 2 (by decide)
    have hzx := (unhide HBX).size
    clear o1 o2 o3 apf hbf e1 e2 e3 e4
    go_wp2_with fail
    refine bodyPost_ret (v := .tuple #[.agg #[.slice aL PL.length iL, .slice aS PS.length iS, .slice aO PO.length iO], .int .i64 PC]) (by simp [results, Tryz.results43, go_sem, r0, r1, r2]) rfl ?_
    obtain ⟨o1, o2, o3, apf⟩ := unhide HOf
    have hs0 := unhide HS0
    exact dskRet (rb := w.heap.size + 1) o1 o2 o3 apf (by omega) (by omega) (unhide HFIN _ (unhide HBf))
  | some dd =>
    have hxs : (if (some dd : Option ByteArray).isSome then [(⟨3, fr, ⟨#[]⟩, ⟨#[]⟩⟩ : Dop), ⟨1, fr, ⟨#[]⟩, dt⟩, ⟨2, fr, nm, ⟨#[]⟩⟩] else [⟨1, fr, ⟨#[]⟩, dt⟩, ⟨2, fr, nm, ⟨#[]⟩⟩]) = [⟨3, fr, ⟨#[]⟩, ⟨#[]⟩⟩, ⟨1, fr, ⟨#[]⟩, dt⟩, ⟨2, fr, nm, ⟨#[]⟩⟩] := rfl
    rw [hxs]
    obtain ⟨PC, hPC⟩ : ∃ x, actC live safe ops [⟨3, fr, ⟨#[]⟩, ⟨#[]⟩⟩, ⟨1, fr, ⟨#[]⟩, dt⟩, ⟨2, fr, nm, ⟨#[]⟩⟩] = x := ⟨_, rfl⟩
    obtain ⟨PL, hPL⟩ : ∃ x, actL live safe ops [⟨3, fr, ⟨#[]⟩, ⟨#[]⟩⟩, ⟨1, fr, ⟨#[]⟩, dt⟩, ⟨2, fr, nm, ⟨#[]⟩⟩] = x := ⟨_, rfl⟩
    obtain ⟨PS, hPS⟩ : ∃ x, actS live safe ops = x := ⟨_, rfl⟩
    obtain ⟨PO, hPO⟩ : ∃ x, actO live safe ops [⟨3, fr, ⟨#[]⟩, ⟨#[]⟩⟩, ⟨1, fr, ⟨#[]⟩, dt⟩, ⟨2, fr, nm, ⟨#[]⟩⟩] = x := ⟨_, rfl⟩
    rw [hPC, hPL, hPS, hPO]
    have HP := hide (And.intro hPC (And.intro hPL (And.intro hPS hPO)))
    clear hPC hPL hPS hPO
    simp only [Option.getD_some, Option.isSome_some] at HRF
    go_enter Tryz.func43, Tryz.ntmps43
    go_wp2_with fail
    rw [unhide HW1]
    refine (unhide HRF).mono ?_
    rintro e w2 ⟨rfl, hb2⟩
    have HB2 := hide (belOn (unhide HB1) hb2)
    have HIN := hide (insert_calls (w.heap.size + 2) w2.heap.size ⟨1, fr, ⟨#[]⟩, dt⟩ ⟨2, fr, nm, ⟨#[]⟩⟩ ⟨3, fr, ⟨#[]⟩, ⟨#[]⟩⟩ (w2.alloc (.cells #[.int .i64 3, .string fr, .string ⟨#[]⟩, .string ⟨#[]⟩] 50)) (((unhide HR1).below hb2).below (bel1 _ _)) (dopLit w2 ⟨3, fr, ⟨#[]⟩, ⟨#[]⟩⟩).at)
    clear hb2
    go_wp2_with fail
    refine (unhide HIN).mono ?_
    rintro e w4 ⟨g', c', rfl, hrow, hb4⟩
    have HBX := hide (belOn (belOn (unhide HB2) (bel1 _ _)) hb4)
    have HRW := hide hrow
    obtain ⟨q0, q1, q2⟩ := unhide HC _ (unhide HBX)
    clear hb4 hrow
    go_wp2_with fail
    clear q0 q1 q2
    refine (unhide HDA _ (unhide HBX) g' 3 c' [⟨3, fr, ⟨#[]⟩, ⟨#[]⟩⟩, ⟨1, fr, ⟨#[]⟩, dt⟩, ⟨2, fr, nm, ⟨#[]⟩⟩] (unhide HRW) rfl (by decide) (fun o ho => by simp at ho; rcases ho with rfl | rfl | rfl; exact sm3; exact sm1; exact sm2)).mono ?_
    rintro e wf ⟨aL, iL, aS, iS, aO, iO, rfl, o1, o2, o3, apf, hbf⟩
    obtain ⟨e1, e2, e3, e4⟩ := unhide HP
    rw [e2] at o1 ⊢
    rw [e3] at o2 ⊢
    rw [e4] at o3 ⊢
    rw [e1]
    have HBf := hide (belOn (unhide HBX) hbf)
    have HOf := hide (And.intro o1 (And.intro o2 (And.intro o3 apf)))
    obtain ⟨r0, z0⟩ := unhide HR _ (unhide HBf) 0 (by decide)
    obtain ⟨r1, z1⟩ := unhide HR _ (unhide HBf) 1 (by decide)
    obtain ⟨r2, z2⟩ := unhide HR _ (unhide HBf) 2 (by decide)
    have hzx := (unhide HBX).size
    clear o1 o2 o3 apf hbf e1 e2 e3 e4
    go_wp2_with fail
    refine bodyPost_ret (v := .tuple #[.agg #[.slice aL PL.length iL, .slice aS PS.length iS, .slice aO PO.length iO], .int .i64 PC]) (by simp [results, Tryz.results43, go_sem, r0, r1, r2]) rfl ?_
    obtain ⟨o1, o2, o3, apf⟩ := unhide HOf
    have hs0 := unhide HS0
    exact dskRet (rb := w.heap.size + 1) o1 o2 o3 apf (by omega) (by omega) (unhide HFIN _ (unhide HBf))
end Go.Proofs.YtakalfckhailjaaGreat


/- Disks that are synced, by the specification, wherever their slices lie. -/
namespace Go.Proofs.YtakalfckhailjaaGreat
open Go.RowKit Plain
set_option linter.unusedVariables false

set_option maxRecDepth 10000 in
set_option maxHeartbeats 4000000 in
theorem spec_SyncA (aL : Option Addr) (nL cL : Nat) (live : List Fl) (aS : Option Addr) (nS cS : Nat) (safe : List Fl) (aO : Option Addr) (nO cO : Nat) (ops : List Dop) (w : World) (h : DiskO w aL nL cL live aS nS cS safe aO nO cO ops) :
    Calls Tryz.prog 33 #[.agg #[.slice aL nL cL, .slice aS nS cS, .slice aO nO cO]] w (SpcQ (fun v => v) (synL live safe ops) (synL live safe ops) [] w) := by
  obtain ⟨Wa, hWa⟩ : ∃ Wa, Wa = w.alloc (.cells #[.slice aL nL cL, .slice aS nS cS, .slice aO nO cO] 27) := ⟨_, rfl⟩
  obtain ⟨W0, hW0⟩ : ∃ W0, W0 = Wa.alloc (.cells #[.slice none 0 0, .slice none 0 0, .slice none 0 0] 27) := ⟨_, rfl⟩
  have hba : Below w.heap.size w Wa := by rw [hWa]; exact bel1 _ _
  have hsa : Wa.heap.size = w.heap.size + 1 := by rw [hWa]; simp
  have hs0 : W0.heap.size = w.heap.size + 2 := by rw [hW0]; simp [hsa]
  have hb0 : Below Wa.heap.size Wa W0 := by rw [hW0]; exact bel1 _ _
  have c0 : W0.cell? ⟨w.heap.size, 0, none⟩ = some (.slice aL nL cL) := bcl hb0 (by omega) (by rw [hWa]; simp [go_sem])
  have c1 : W0.cell? ⟨w.heap.size, 1, none⟩ = some (.slice aS nS cS) := bcl hb0 (by omega) (by rw [hWa]; simp [go_sem])
  have c2 : W0.cell? ⟨w.heap.size, 2, none⟩ = some (.slice aO nO cO) := bcl hb0 (by omega) (by rw [hWa]; simp [go_sem])
  have hr : ∀ i, i < 3 → W0.cell? ⟨w.heap.size + 1, i, none⟩ = some (.slice none 0 0) ∧ W0.frozen? ⟨w.heap.size + 1, i, none⟩ = false := by
    intro i hi
    rw [hW0, ← hsa]
    rcases i with _ | _ | _ | i
    all_goals first | omega | simp [go_sem]
  have HC := hide (fun (W : World) (hW : Below W0.heap.size W0 W) => And.intro (bcl hW (show w.heap.size < W0.heap.size by omega) c0) (And.intro (bcl hW (show w.heap.size < W0.heap.size by omega) c1) (bcl hW (show w.heap.size < W0.heap.size by omega) c2)))
  have HR := hide (fun (W : World) (hW : Below W0.heap.size W0 W) (i : Nat) (hi : i < 3) => And.intro (bcl hW (show w.heap.size + 1 < W0.heap.size by omega) (hr i hi).1) ((hW.frozen (p := ⟨w.heap.size + 1, i, none⟩) (show w.heap.size + 1 < W0.heap.size by omega)).trans (hr i hi).2))
  have HFIN := hide (fun (W : World) (hW : Below W0.heap.size W0 W) => belOn (belOn hba hb0) hW)
  have HD := hide (fun (W : World) (hW : Below W0.heap.size W0 W) => (h.below (belOn hba hb0)).below hW)
  have HW0 := hide (show (w.alloc (.cells #[.slice aL nL cL, .slice aS nS cS, .slice aO nO cO] 27)).alloc (.cells #[.slice none 0 0, .slice none 0 0, .slice none 0 0] 27) = W0 from by rw [hW0, hWa])
  have HLL := hide h.ll
  have HD1 := hide h.adl
  have HRW := hide h.rl
  have hbl := h.bl
  have HOK := hide (spec_DiskOkO aL nL cL live aS nS cS safe aO nO cO ops W0 (unhide HD _ (Below.refl _ _)))
  have HS0 := hide hs0
  clear hba hb0 hWa hW0 hr h hsa hs0
  obtain ⟨L, hL⟩ : ∃ L, synL live safe ops = L := ⟨_, rfl⟩
  rw [hL]
  unfold synL at hL
  cases hd : diskB live safe ops with
  | false =>
    rw [hd] at HOK hL
    have HL := hide hL
    clear hd hL
    go_enter Tryz.func33, Tryz.ntmps33
    go_wp2_with fail
    rw [unhide HW0]
    refine (unhide HOK).mono ?_
    rintro e w1 ⟨rfl, hb1⟩
    have HB1 := hide hb1
    obtain ⟨r0, z0⟩ := unhide HR _ hb1 0 (by decide)
    obtain ⟨r1, z1⟩ := unhide HR _ hb1 1 (by decide)
    obtain ⟨r2, z2⟩ := unhide HR _ hb1 2 (by decide)
    clear hb1 c0 c1 c2
    go_wp2_with fail
    refine bodyPost_ret (v := .agg #[.slice none 0 0, .slice none 0 0, .slice none 0 0]) (by simp [results, Tryz.results33, go_sem, r0, r1, r2]) rfl ?_
    have hL : L = [] := by rw [← unhide HL]; rfl
    subst hL
    exact spcRetQ (rb := w.heap.size + 1) (rowNil2 _ _ _) (rowNil2 _ _ _) (rowNil2 _ _ _) ⟨.inl ⟨rfl, rfl⟩, .inl ⟨rfl, rfl⟩, .inl ⟨rfl, rfl⟩⟩ (fun k ⟨o, e⟩ => by cases e) (fun k ⟨o, e⟩ => by cases e) (fun k ⟨o, e⟩ => by cases e) (by omega) (unhide HFIN _ (unhide HB1))
  | true =>
    rw [hd] at HOK hL
    have HL := hide hL
    clear hd hL
    go_enter Tryz.func33, Tryz.ntmps33
    go_wp2_with fail
    rw [unhide HW0]
    refine (unhide HOK).mono ?_
    rintro e w1 ⟨rfl, hb1⟩
    have HB1 := hide hb1
    obtain ⟨q0, q1, q2⟩ := unhide HC _ hb1
    obtain ⟨r0, z0⟩ := unhide HR _ hb1 0 (by decide)
    obtain ⟨r1, z1⟩ := unhide HR _ hb1 1 (by decide)
    obtain ⟨r2, z2⟩ := unhide HR _ hb1 2 (by decide)
    have l0 : w.heap.size < w1.heap.size := lt_of_cell q0
    have l1 : w.heap.size + 1 < w1.heap.size := lt_of_cell r0
    have hn1 : w.heap.size + 1 ≤ w1.heap.size := by omega
    have X0 := fun (W : World) (hW : SX w.heap.size w1 W) => bcl hW.1 (show w.heap.size < w.heap.size + 1 by omega) q0
    have HRL := hide (fun (W : World) (hW : SX w.heap.size w1 W) => (unhide HRW).below ((unhide HFIN _ (unhide HB1)).trans (hW.1.mono (by omega))))
    have Q0 : SX w.heap.size w1 w1.drew := ⟨belDrew (Below.refl _ _), l1, ⟨_, r0⟩, ⟨_, r1⟩, ⟨_, r2⟩, z0, z1, z2⟩
    clear hb1 c0 c1 c2
    go_wp2_with fail
    go_region_held3 (fun w' => SX w.heap.size w1 w') (first | exact SX.ald (by assumption) hn1 | exact SX.al (by assumption) hn1 | exact Q2 | exact Q1 | exact Q0 | exact SX.set Q2) (first
      | (refine stepNA (e := fileE) rfl (.tmp 7) (.tmp 9) rfl _ rfl (by first | omega | (simp <;> omega)) aL nL cL rfl (unhide HLL) (unhide HRL _ (by assumption)) (unhide HD1) hbl ?_; intro y1 k1 w2 ap1; have Q1 : SX w.heap.size w1 w2 := SX.step (by assumption) ap1.below hn1; have Z2 := ap1.below.size; (try simp at Z2))
      | (refine stepNA (e := fileE) rfl (.tmp 11) (.tmp 13) rfl _ rfl (by first | omega | (simp <;> omega)) aL nL cL rfl (unhide HLL) (unhide HRL _ (by assumption)) (unhide HD1) hbl ?_; intro y2 k2 w3 ap2; have Q2 : SX w.heap.size w1 w3 := SX.step (by assumption) ap2.below hn1; obtain ⟨-, nlt, ⟨u0, t0⟩, ⟨u1, t1⟩, ⟨u2, t2⟩, v0, v1, v2⟩ := Q2; have Q2 : SX w.heap.size w1 w3 := SX.step (by assumption) ap2.below hn1))
    all_goals (have B2 : Below w1.heap.size w1 _ := belOn (by first | exact belDrew (bel1 _ _) | exact belDrew (belOn (bel1 _ _) (bel1 _ _))) ap1.below)
    all_goals (have K23 : Below w2.heap.size w2 w3 := belOn (by first | exact Below.refl _ _ | exact bel1 _ _ | exact belOn (bel1 _ _) (bel1 _ _)) ap2.below)
    all_goals (have B3 := belOn B2 K23)
    all_goals (have HY1 := hide (ap1.row.below K23))
    all_goals (have HY2 := hide ap2.row)
    all_goals (have HM1 := hide (show ∀ k, inB y1 k → w1.heap.size ≤ k from fun k hk => by rcases (ap1.bl k hk).1 with q | q; all_goals (first | omega | (simp at q; omega))))
    all_goals (have HM2 := hide (show ∀ k, inB y2 k → w1.heap.size ≤ k from fun k hk => by have h2 := (ap2.bl k hk).2; rcases (ap2.bl k hk).1 with q | q; all_goals (first | omega | (simp at q; omega))))
    all_goals (have HAD := hide (And.intro (adN ap1) (adN ap2)))
    all_goals (have HB3 := hide B3)
    all_goals clear ap1 ap2 B2 B3 K23 Z2 r0 r1 r2 z0 z1 z2 q0 q1 q2 Q0 Q1 Q2 X0
    all_goals (try go_wp2_with fail)
    all_goals refine bodyPost_ret (v := .agg #[.slice y1 nL k1, .slice y2 nL k2, .slice none 0 0]) (by simp [results, Tryz.results33, go_sem, t0, t1, t2]) rfl ?_
    all_goals (have hL : L = live := by rw [← unhide HL]; rfl)
    all_goals (subst hL)
    all_goals (have hn := unhide HLL)
    all_goals (subst hn)
    all_goals exact spcRetQ (rb := w.heap.size + 1) (unhide HY1) (unhide HY2) (rowNil2 _ _ none) ⟨(unhide HAD).1, (unhide HAD).2, .inl ⟨rfl, rfl⟩⟩ (fun k hk => by have := unhide HM1 k hk; omega) (fun k hk => by have := unhide HM2 k hk; omega) (fun k ⟨o, e⟩ => by cases e) (by omega) (belOn (unhide HFIN _ (unhide HB1)) (unhide HB3))
end Go.Proofs.YtakalfckhailjaaGreat


/- What a loss of power leaves when all ops are kept, when none is, and behind a file's replacing: the mathematics of the drawn laws. -/
namespace Go.Proofs.YtakalfckhailjaaGreat
open Go.RowKit Go.Maps Plain
set_option linter.unusedVariables false

namespace Plain
/-- All places. -/
def allK (n : Nat) : List Int := (List.range n).map fun (i : Nat) => (i : Int)
theorem allK_len (n : Nat) : (allK n).length = n := by simp [allK]
theorem allK_at (n k : Nat) (h : k < n) : (allK n).getD k 0 = (k : Int) := by
  rw [getD_at _ k (by rw [allK_len]; exact h)]
  simp [allK]
theorem allK_succ (n : Nat) : allK (n + 1) = allK n ++ [(n : Int)] := by simp [allK, List.range_succ]
theorem none_ok (n : Int) : PlOk n [] := fun k hk => absurd hk (by simp)
theorem kcs_none (ops : List Dop) (t : Int) : kcs ops [] t = [] := by simp [kcs, kc0]
theorem crF_run : ∀ (ops : List Dop) (fs r : List Fl), runF fs ops = some r → crF fs (ops.map Chg.op) = r := by
  intro ops
  induction ops with
  | nil => intro fs r h; rw [runF] at h; cases h; rfl
  | cons a t ih =>
    intro fs r h
    rw [runF] at h
    split at h
    · exact ih _ _ h
    · cases h
theorem disk_run {live safe : List Fl} {ops : List Dop} (h : diskB live safe ops = true) : filesB live = true ∧ runF safe ops = some live := by
  unfold diskB at h
  simp only [Bool.and_eq_true, decide_eq_true_eq] at h
  obtain ⟨h1, h2, h3, h4⟩ := h
  refine ⟨h1, ?_⟩
  split at h4
  · cases h4
  · rename_i now hr
    rw [hr, (sameF_iff now live).1 h4]
theorem same_self (fs : List Fl) : sameF fs fs = true := (sameF_iff fs fs).2 rfl
theorem disk_synced {fs : List Fl} (h : filesB fs = true) : diskB fs fs [] = true := by
  unfold diskB
  rw [h, runF]
  show (true && (true && (true && sameF fs fs))) = true
  rw [same_self]
  rfl
theorem crash_none {live safe : List Fl} {ops : List Dop} {t : Int} (h : diskB live safe ops = true) (h0 : 0 ≤ t) : crOk live safe ops [] t = true ∧ crL live safe ops [] t = safe := by
  have e : crF safe (kcs ops [] t) = safe := by rw [kcs_none]; rfl
  have hc : crOk live safe ops [] t = true := by
    unfold crOk
    rw [h, plB_yes (none_ok _), decide_eq_true h0, e, (disk_parts h).1]
    rfl
  exact ⟨hc, by unfold crL; rw [hc, if_pos rfl, e]⟩
theorem crash_disk {live safe : List Fl} {ops : List Dop} {ks : List Int} {t : Int} (h : crOk live safe ops ks t = true) : diskB (crL live safe ops ks t) (crL live safe ops ks t) [] = true := by
  refine disk_synced ?_
  unfold crL
  rw [h, if_pos rfl]
  unfold crOk at h
  rw [Bool.and_eq_true] at h
  exact h.2
end Plain
end Go.Proofs.YtakalfckhailjaaGreat


/- Two rows of the same entries held against each other, as the drawn laws do. -/
namespace Go.Proofs.YtakalfckhailjaaGreat
open Go.RowKit Plain
set_option linter.unusedVariables false

set_option maxHeartbeats 4000000 in
theorem sameEnts_calls (a1 a2 : Option Addr) (n c1 c2 : Nat) (s : List Ent) (w : World) (hs : s.length = n) (hn : n ≤ 100000000) (h1 : RowO entE w a1 s) (h2 : RowO entE w a2 s) :
    Calls Tryz.prog 12 #[.slice a1 n c1, .slice a2 n c2] w fun e w' => e = .returned (.bool true) ∧ Below w.heap.size w w' := by
  have H1 := hide h1
  have H2 := hide h2
  have HS := hide hs
  clear h1 h2 hs
  go_enter Tryz.func12, Tryz.ntmps12
  go_wp2_with fail
  go_loopw [5] (fun i wr => ∃ k : Nat, i = .int .i64 k ∧ k ≤ n ∧ Hid (Below w.heap.size w wr)) (fun i _ => n - (intOf i).toNat)
  case atStart => exact ⟨0, rfl, by omega, hide (Below.refl _ _)⟩
  case round =>
    obtain ⟨k, rfl, hk, HB⟩ := hrel
    by_cases hkn : k < n
    · have k1 : k < s.length := by rw [unhide HS]; exact hkn
      obtain ⟨g, o, e1, l1, p⟩ := ((unhide H1).below (unhide HB)) k k1
      obtain ⟨g2, o2, e2, l2, q⟩ := ((unhide H2).below (unhide HB)) k k1
      have p0 : wr.cell? ⟨g, o + k * 3, none⟩ = some (.int .i64 s[k].term) := (p 0 (by decide)).1
      have p1 : wr.cell? ⟨g, o + k * 3 + 1, none⟩ = some (.int .i64 s[k].kind) := (p 1 (by decide)).1
      have p2 : wr.cell? ⟨g, o + k * 3 + 2, none⟩ = some (.string s[k].body) := (p 2 (by decide)).1
      have q0 : wr.cell? ⟨g2, o2 + k * 3, none⟩ = some (.int .i64 s[k].term) := (q 0 (by decide)).1
      have q1 : wr.cell? ⟨g2, o2 + k * 3 + 1, none⟩ = some (.int .i64 s[k].kind) := (q 1 (by decide)).1
      have q2 : wr.cell? ⟨g2, o2 + k * 3 + 2, none⟩ = some (.string s[k].body) := (q 2 (by decide)).1
      clear p q
      generalize s[k] = f at p0 p1 p2 q0 q1 q2
      obtain ⟨ft, fk, fb⟩ := f
      simp only at p0 p1 p2 q0 q1 q2
      subst e1 e2
      have i0 : (0 : Int) ≤ (k : Int) := by omega
      have i1 : (k : Int) < (n : Int) := by omega
      go_wp2_with fail
      go_quiet (fail)
      all_goals (try go_wp2_with fail)
      all_goals exact ⟨⟨k + 1, by go_num, by omega, hide (belN (unhide HB) _)⟩, by simp [intOf]; omega⟩
    · go_wp2_with fail
      go_ret
      exact ⟨rfl, unhide HB⟩
end Go.Proofs.YtakalfckhailjaaGreat

