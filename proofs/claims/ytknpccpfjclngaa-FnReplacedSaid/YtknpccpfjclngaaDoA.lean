/- An op done by the specification, wherever the disk's slices lie. -/
import Derived.Test.YtknpccpfjclngaaActA
namespace Go.Proofs.Ytknpccpfjclngaa
open Go.RowKit Plain
set_option linter.unusedVariables false

set_option maxRecDepth 10000 in
set_option maxHeartbeats 4000000 in
theorem spec_DoO (a1 : Option Addr) (nL cL : Nat) (live : List Fl) (a2 : Option Addr) (nS cS : Nat) (safe : List Fl) (a3 : Option Addr) (nO cO : Nat) (ops : List Dop) (kd : Int) (nm to dt : ByteArray) (w : World) (h : DiskAt w a1 nL cL live a2 nS cS safe a3 nO cO ops) (hsm : SmO ⟨kd, nm, to, dt⟩) :
    Calls Try.prog 47 #[.agg #[.slice a1 nL cL, .slice a2 nS cS, .slice a3 nO cO], .agg #[.int .i64 kd, .string nm, .string to, .string dt]] w (SpcO (fun v => .tuple #[v, .int .i64 (actC live safe ops [⟨kd, nm, to, dt⟩])]) (actL live safe ops [⟨kd, nm, to, dt⟩]) (actS live safe ops) (actO live safe ops [⟨kd, nm, to, dt⟩]) (actC live safe ops [⟨kd, nm, to, dt⟩]) w) := by
  obtain ⟨Wa, hWa⟩ : ∃ Wa, Wa = w.alloc (.cells #[.slice a1 nL cL, .slice a2 nS cS, .slice a3 nO cO] 27) := ⟨_, rfl⟩
  obtain ⟨Wb, hWb⟩ : ∃ Wb, Wb = Wa.alloc (.cells #[.int .i64 kd, .string nm, .string to, .string dt] 50) := ⟨_, rfl⟩
  obtain ⟨W0, hW0⟩ : ∃ W0, W0 = Wb.alloc (.cells #[.slice none 0 0, .slice none 0 0, .slice none 0 0] 27) := ⟨_, rfl⟩
  have hba : Below w.heap.size w Wa := by rw [hWa]; exact bel1 _ _
  have hsa : Wa.heap.size = w.heap.size + 1 := by rw [hWa]; simp
  have hbb : Below Wa.heap.size Wa Wb := by rw [hWb]; exact bel1 _ _
  have hsb : Wb.heap.size = w.heap.size + 2 := by rw [hWb]; simp [hsa]
  have hs0 : W0.heap.size = w.heap.size + 3 := by rw [hW0]; simp [hsb]
  have hb0 : Below Wb.heap.size Wb W0 := by rw [hW0]; exact bel1 _ _
  have hbab := belOn hbb hb0
  have c0 : W0.cell? ⟨w.heap.size, 0, none⟩ = some (.slice a1 nL cL) := bcl hbab (by omega) (by rw [hWa]; simp [go_sem])
  have c1 : W0.cell? ⟨w.heap.size, 1, none⟩ = some (.slice a2 nS cS) := bcl hbab (by omega) (by rw [hWa]; simp [go_sem])
  have c2 : W0.cell? ⟨w.heap.size, 2, none⟩ = some (.slice a3 nO cO) := bcl hbab (by omega) (by rw [hWa]; simp [go_sem])
  have hop : ∀ i, i < 4 → W0.cell? ⟨w.heap.size + 1, i, none⟩ = (#[.int .i64 kd, .string nm, .string to, .string dt] : Array Value)[i]? := by
    intro i hi
    refine (hb0.cell (p := ⟨w.heap.size + 1, i, none⟩) (show w.heap.size + 1 < Wb.heap.size by omega)).trans ?_
    rw [hWb, ← hsa]
    rcases i with _ | _ | _ | _ | i
    all_goals first | omega | simp [go_sem]
  have hr : ∀ i, i < 3 → W0.cell? ⟨w.heap.size + 2, i, none⟩ = some (.slice none 0 0) ∧ W0.frozen? ⟨w.heap.size + 2, i, none⟩ = false := by
    intro i hi
    rw [hW0, ← hsb]
    rcases i with _ | _ | _ | i
    all_goals first | omega | simp [go_sem]
  have HC := hide (fun (W : World) (hW : Below W0.heap.size W0 W) => And.intro (bcl hW (show w.heap.size < W0.heap.size by omega) c0) (And.intro (bcl hW (show w.heap.size < W0.heap.size by omega) c1) (bcl hW (show w.heap.size < W0.heap.size by omega) c2)))
  have HP4 := hide (fun (W : World) (hW : Below W0.heap.size W0 W) => And.intro (bcl hW (show w.heap.size + 1 < W0.heap.size by omega) (hop 0 (by decide))) (And.intro (bcl hW (show w.heap.size + 1 < W0.heap.size by omega) (hop 1 (by decide))) (And.intro (bcl hW (show w.heap.size + 1 < W0.heap.size by omega) (hop 2 (by decide))) (bcl hW (show w.heap.size + 1 < W0.heap.size by omega) (hop 3 (by decide))))))
  have HR := hide (fun (W : World) (hW : Below W0.heap.size W0 W) (i : Nat) (hi : i < 3) => And.intro (bcl hW (show w.heap.size + 2 < W0.heap.size by omega) (hr i hi).1) ((hW.frozen (p := ⟨w.heap.size + 2, i, none⟩) (show w.heap.size + 2 < W0.heap.size by omega)).trans (hr i hi).2))
  have HFIN := hide (fun (W : World) (hW : Below W0.heap.size W0 W) => belOn (belOn hba hbab) hW)
  have HD := hide (fun (W : World) (hW : Below W0.heap.size W0 W) => (h.below (belOn hba hbab)).below hW)
  have HW0 := hide (show ((w.alloc (.cells #[.slice a1 nL cL, .slice a2 nS cS, .slice a3 nO cO] 27)).alloc (.cells #[.int .i64 kd, .string nm, .string to, .string dt] 50)).alloc (.cells #[.slice none 0 0, .slice none 0 0, .slice none 0 0] 27) = W0 from by rw [hW0, hWb, hWa])
  have HS0 := hide hs0
  have HOK := hide (spec_DiskOk a1 nL cL live a2 nS cS safe a3 nO cO ops W0 (unhide HD _ (Below.refl _ _)))
  have hlo := h.lo
  obtain ⟨PC, hPC⟩ : ∃ x, actC live safe ops [⟨kd, nm, to, dt⟩] = x := ⟨_, rfl⟩
  obtain ⟨PL, hPL⟩ : ∃ x, actL live safe ops [⟨kd, nm, to, dt⟩] = x := ⟨_, rfl⟩
  obtain ⟨PS, hPS⟩ : ∃ x, actS live safe ops = x := ⟨_, rfl⟩
  obtain ⟨PO, hPO⟩ : ∃ x, actO live safe ops [⟨kd, nm, to, dt⟩] = x := ⟨_, rfl⟩
  rw [hPC, hPL, hPS, hPO]
  unfold actC at hPC
  unfold actL at hPL
  unfold actS at hPS
  unfold actO at hPO
  cases hd : diskB live safe ops with
  | false =>
    rw [hd] at HOK hPC hPL hPS hPO
    have HP := hide (And.intro hPC (And.intro hPL (And.intro hPS hPO)))
    clear hba hbb hb0 hbab hWa hWb hW0 hr h hsa hsb hs0 hop hd hPC hPL hPS hPO hlo
    go_enter Try.func47, Try.ntmps47
    go_wp2_with fail
    rw [unhide HW0]
    refine (unhide HOK).mono ?_
    rintro e w1 ⟨rfl, hb1⟩
    have HB1 := hide hb1
    obtain ⟨r0, z0⟩ := unhide HR _ hb1 0 (by decide)
    obtain ⟨r1, z1⟩ := unhide HR _ hb1 1 (by decide)
    obtain ⟨r2, z2⟩ := unhide HR _ hb1 2 (by decide)
    clear hb1 c0 c1 c2
    go_wp2_with fail
    refine bodyPost_ret (v := .tuple #[.agg #[.slice none 0 0, .slice none 0 0, .slice none 0 0], .int .i64 1]) (by simp [results, Try.results47, go_sem, r0, r1, r2]) rfl ?_
    obtain ⟨p1, p2, p3, p4⟩ := unhide HP
    have p1' : PC = 1 := p1.symm
    have p2' : PL = [] := p2.symm
    have p3' : PS = [] := p3.symm
    have p4' : PO = [] := p4.symm
    subst p1' p2' p3' p4'
    exact SpcQ.toO (spcRetQ (rb := w.heap.size + 2) (rowNil2 _ _ _) (rowNil2 _ _ _) (rowNil2 _ _ _) ⟨.inl ⟨rfl, rfl⟩, .inl ⟨rfl, rfl⟩, .inl ⟨rfl, rfl⟩⟩ (fun k ⟨o, e⟩ => by cases e) (fun k ⟨o, e⟩ => by cases e) (fun k ⟨o, e⟩ => by cases e) (by omega) (unhide HFIN _ (unhide HB1))) (by decide)
  | true =>
    have hfs := disk_liv2 hd
    have hO2 : nO ≤ 200 := by
      have hd2 := hd
      unfold diskB at hd2
      simp only [Bool.and_eq_true, decide_eq_true_eq] at hd2
      omega
    rw [hd] at HOK hPC hPL hPS hPO
    have HAC := hide (fun (W : World) (hW : Below W0.heap.size W0 W) => l4Act_callsO a1 nL cL live a2 nS cS safe a3 nO cO ops kd nm to dt W (unhide HD _ hW) hfs hO2 hsm)
    rw [hlo] at hPC hPL hPO
    have hPC' : (goA live nO [⟨kd, nm, to, dt⟩]).1 = PC := hPC
    have hPL' : (if (goA live nO [⟨kd, nm, to, dt⟩]).1 = 0 then (goA live nO [⟨kd, nm, to, dt⟩]).2 else live) = PL := hPL
    have hPS' : safe = PS := hPS
    have hPO' : (if (goA live nO [⟨kd, nm, to, dt⟩]).1 = 0 then ops ++ [⟨kd, nm, to, dt⟩] else ops) = PO := hPO
    rw [hPL', hPO', hPC', hPS'] at HAC
    unfold SpcO at HAC
    clear hba hbb hb0 hbab hWa hWb hW0 hr h hsa hsb hs0 hop hd hPC hPL hPS hPO hlo hfs hPC' hPL' hPS' hPO'
    go_enter Try.func47, Try.ntmps47
    go_wp2_with fail
    rw [unhide HW0]
    refine (unhide HOK).mono ?_
    rintro e w1 ⟨rfl, hb1⟩
    have HB1 := hide hb1
    obtain ⟨q0, q1, q2⟩ := unhide HC _ hb1
    obtain ⟨p0, p1, p2, p3⟩ := unhide HP4 _ hb1
    clear hb1 c0 c1 c2
    go_wp2_with fail
    refine (unhide HAC _ (unhide HB1)).mono ?_
    rintro e wf ⟨aL, iL, aS, iS, aO, iO, rfl, o1, o2, o3, ad, m1, m2, m3, hbf, hlv⟩
    have HLV := hide hlv
    clear hlv
    have hz2 := hbf.size
    have HBf := hide (belOn (unhide HB1) hbf)
    have HOf := hide (And.intro o1 (And.intro o2 (And.intro o3 (And.intro ad (And.intro m1 (And.intro m2 m3))))))
    obtain ⟨r0, z0⟩ := unhide HR _ (unhide HBf) 0 (by decide)
    obtain ⟨r1, z1⟩ := unhide HR _ (unhide HBf) 1 (by decide)
    obtain ⟨r2, z2⟩ := unhide HR _ (unhide HBf) 2 (by decide)
    clear o1 o2 o3 m1 m2 m3 hbf q0 q1 q2 p0 p1 p2 p3
    go_wp2_with fail
    refine bodyPost_ret (v := .tuple #[.agg #[.slice aL PL.length iL, .slice aS PS.length iS, .slice aO PO.length iO], .int .i64 PC]) (by simp [results, Try.results47, go_sem, r0, r1, r2]) rfl ?_
    obtain ⟨o1, o2, o3, ad, m1, m2, m3⟩ := unhide HOf
    have hs0 := unhide HS0
    have hz1 := (unhide HB1).size
    exact spcRetO (rb := w.heap.size + 2) o1 o2 o3 ad (fun k hk => by have := m1 k hk; omega) (fun k hk => by have := m2 k hk; omega) (fun k hk => by have := m3 k hk; omega) (by omega) (unhide HFIN _ (unhide HBf)) (fun q => ⟨by omega, by
      obtain ⟨B, b1, b2⟩ := unhide HLV q
      exact ⟨B, by omega, b2⟩⟩)
end Go.Proofs.Ytknpccpfjclngaa
