/- One op done on a disk, wherever it lies, by the program. -/
import Derived.Test.YtakalfckhailjaaGreatDoH
namespace Go.Proofs.YtakalfckhailjaaGreat
open Go.RowKit Go.Maps Plain
set_option linter.unusedVariables false

set_option maxRecDepth 10000 in
set_option maxHeartbeats 4000000 in
theorem impl_DoA (q1 : Option Addr) (nL cL : Nat) (live : List Fl) (q2 : Option Addr) (nS cS : Nat) (safe : List Fl) (q3 : Option Addr) (nO cO : Nat) (ops : List Dop) (kd : Int) (nm to dt : ByteArray) (w : World) (h : DiskAt w q1 nL cL live q2 nS cS safe q3 nO cO ops) (hsm : SmO ⟨kd, nm, to, dt⟩) :
    Calls Tryz.prog 17 #[.agg #[.slice q1 nL cL, .slice q2 nS cS, .slice q3 nO cO], .agg #[.int .i64 kd, .string nm, .string to, .string dt]] w (DskPost (fun v => .tuple #[v, .int .i64 (actC live safe ops [⟨kd, nm, to, dt⟩])]) (actL live safe ops [⟨kd, nm, to, dt⟩]) (actS live safe ops) (actO live safe ops [⟨kd, nm, to, dt⟩]) w) := by
  obtain ⟨Wa, hWa⟩ : ∃ Wa, Wa = w.alloc (.cells #[.slice q1 nL cL, .slice q2 nS cS, .slice q3 nO cO] 27) := ⟨_, rfl⟩
  obtain ⟨Wb, hWb⟩ : ∃ Wb, Wb = Wa.alloc (.cells #[.int .i64 kd, .string nm, .string to, .string dt] 50) := ⟨_, rfl⟩
  obtain ⟨W0, hW0⟩ : ∃ W0, W0 = Wb.alloc (.cells #[.slice none 0 0, .slice none 0 0, .slice none 0 0] 27) := ⟨_, rfl⟩
  have hba : Below w.heap.size w Wa := by rw [hWa]; exact bel1 _ _
  have hsa : Wa.heap.size = w.heap.size + 1 := by rw [hWa]; simp
  have hbb : Below Wa.heap.size Wa Wb := by rw [hWb]; exact bel1 _ _
  have hsb : Wb.heap.size = w.heap.size + 2 := by rw [hWb]; simp [hsa]
  have hs0 : W0.heap.size = w.heap.size + 3 := by rw [hW0]; simp [hsb]
  have hb0 : Below Wb.heap.size Wb W0 := by rw [hW0]; exact bel1 _ _
  have hbab := belOn hbb hb0
  have c0 : W0.cell? ⟨w.heap.size, 0, none⟩ = some (.slice q1 nL cL) := bcl hbab (by omega) (by rw [hWa]; simp [go_sem])
  have c1 : W0.cell? ⟨w.heap.size, 1, none⟩ = some (.slice q2 nS cS) := bcl hbab (by omega) (by rw [hWa]; simp [go_sem])
  have c2 : W0.cell? ⟨w.heap.size, 2, none⟩ = some (.slice q3 nO cO) := bcl hbab (by omega) (by rw [hWa]; simp [go_sem])
  have hop : ∀ i, i < 4 → W0.cell? ⟨w.heap.size + 1, i, none⟩ = (#[.int .i64 kd, .string nm, .string to, .string dt] : Array Value)[i]? := by
    intro i hi
    refine (hb0.cell (p := ⟨w.heap.size + 1, i, none⟩) (show w.heap.size + 1 < Wb.heap.size by omega)).trans ?_
    rw [hWb, ← hsa]
    rcases i with _ | _ | _ | _ | i
    all_goals first | omega | simp [go_sem]
  have hr : ∀ i, i < 3 → W0.cell? ⟨w.heap.size + 2, i, none⟩ = some (.slice none 0 0) ∧ W0.frozen? ⟨w.heap.size + 2, i, none⟩ = false := by
    intro i hi
    rw [hW0, ← hsb]
    rcases i with _ | _ | _ | i
    all_goals first | omega | simp [go_sem]
  have HC := hide (fun (W : World) (hW : Below W0.heap.size W0 W) => And.intro (bcl hW (show w.heap.size < W0.heap.size by omega) c0) (And.intro (bcl hW (show w.heap.size < W0.heap.size by omega) c1) (bcl hW (show w.heap.size < W0.heap.size by omega) c2)))
  have HP4 := hide (fun (W : World) (hW : Below W0.heap.size W0 W) => And.intro (bcl hW (show w.heap.size + 1 < W0.heap.size by omega) (hop 0 (by decide))) (And.intro (bcl hW (show w.heap.size + 1 < W0.heap.size by omega) (hop 1 (by decide))) (And.intro (bcl hW (show w.heap.size + 1 < W0.heap.size by omega) (hop 2 (by decide))) (bcl hW (show w.heap.size + 1 < W0.heap.size by omega) (hop 3 (by decide))))))
  have HR := hide (fun (W : World) (hW : Below W0.heap.size W0 W) (i : Nat) (hi : i < 3) => And.intro (bcl hW (show w.heap.size + 2 < W0.heap.size by omega) (hr i hi).1) ((hW.frozen (p := ⟨w.heap.size + 2, i, none⟩) (show w.heap.size + 2 < W0.heap.size by omega)).trans (hr i hi).2))
  have HFIN := hide (fun (W : World) (hW : Below W0.heap.size W0 W) => belOn (belOn hba hbab) hW)
  have HD := hide (fun (W : World) (hW : Below W0.heap.size W0 W) => (h.below (belOn hba hbab)).below hW)
  have HW0 := hide (show ((w.alloc (.cells #[.slice q1 nL cL, .slice q2 nS cS, .slice q3 nO cO] 27)).alloc (.cells #[.int .i64 kd, .string nm, .string to, .string dt] 50)).alloc (.cells #[.slice none 0 0, .slice none 0 0, .slice none 0 0] 27) = W0 from by rw [hW0, hWb, hWa])
  have HS0 := hide hs0
  obtain ⟨Wl, hWl⟩ : ∃ Wl, Wl = W0.alloc (.cells #[.int .i64 kd, .string nm, .string to, .string dt] 50) := ⟨_, rfl⟩
  have hbl : Below W0.heap.size W0 Wl := by rw [hWl]; exact bel1 _ _
  have hsl : Wl.heap.size = w.heap.size + 4 := by rw [hWl]; simp [hs0]
  have HDA := hide (impl_doAllA q1 nL cL live q2 nS cS safe q3 nO cO ops (some ⟨w.heap.size + 3, 0, none⟩) 1 1 [⟨kd, nm, to, dt⟩] Wl (unhide HD _ hbl) (by have := (dopLit W0 ⟨kd, nm, to, dt⟩).at; rw [hs0] at this; rw [hWl]; exact this) rfl (by decide) (fun o ho => by simp at ho; rw [ho]; exact hsm))
  obtain ⟨PC, hPC⟩ : ∃ x, actC live safe ops [⟨kd, nm, to, dt⟩] = x := ⟨_, rfl⟩
  obtain ⟨PL, hPL⟩ : ∃ x, actL live safe ops [⟨kd, nm, to, dt⟩] = x := ⟨_, rfl⟩
  obtain ⟨PS, hPS⟩ : ∃ x, actS live safe ops = x := ⟨_, rfl⟩
  obtain ⟨PO, hPO⟩ : ∃ x, actO live safe ops [⟨kd, nm, to, dt⟩] = x := ⟨_, rfl⟩
  rw [hPC, hPL, hPS, hPO] at HDA
  rw [hPC, hPL, hPS, hPO]
  unfold DskPost at HDA
  have HBL := hide hbl
  have HSL := hide hsl
  have HWl := hide (show (((w.alloc (.cells #[.slice q1 nL cL, .slice q2 nS cS, .slice q3 nO cO] 27)).alloc (.cells #[.int .i64 kd, .string nm, .string to, .string dt] 50)).alloc (.cells #[.slice none 0 0, .slice none 0 0, .slice none 0 0] 27)).alloc (.cells #[.int .i64 kd, .string nm, .string to, .string dt] 50) = Wl from by rw [unhide HW0, hWl])
  clear hba hbb hb0 hbab hWa hWb hW0 hr h hsa hsb hs0 hop hPC hPL hPS hPO hWl hbl hsl c0 c1 c2
  go_enter Tryz.func17, Tryz.ntmps17
  go_wp2_with fail
  rw [unhide HWl]
  refine (unhide HDA).mono ?_
  rintro e wf ⟨aL, iL, aS, iS, aO, iO, rfl, o1, o2, o3, apf, hbf⟩
  have HBf := hide (belOn (unhide HBL) hbf)
  have HOf := hide (And.intro o1 (And.intro o2 (And.intro o3 apf)))
  obtain ⟨r0, z0⟩ := unhide HR _ (unhide HBf) 0 (by decide)
  obtain ⟨r1, z1⟩ := unhide HR _ (unhide HBf) 1 (by decide)
  obtain ⟨r2, z2⟩ := unhide HR _ (unhide HBf) 2 (by decide)
  clear o1 o2 o3 apf hbf
  go_wp2_with fail
  refine bodyPost_ret (v := .tuple #[.agg #[.slice aL PL.length iL, .slice aS PS.length iS, .slice aO PO.length iO], .int .i64 PC]) (by simp [results, Tryz.results17, go_sem, r0, r1, r2]) rfl ?_
  obtain ⟨o1, o2, o3, apf⟩ := unhide HOf
  have hsl := unhide HSL
  exact dskRet (rb := w.heap.size + 2) o1 o2 o3 apf (by omega) (by omega) (unhide HFIN _ (unhide HBf))
end Go.Proofs.YtakalfckhailjaaGreat
