/- A file replaced, by the specification. -/
import Derived.Test.YtknpccpfjclngaaGAK
import Derived.Test.YtknpccpfjclngaaActA
import Derived.Test.YtknpccpfjclngaaGAJ
namespace Go.Proofs.Ytknpccpfjclngaa
open Go.RowKit Plain
set_option linter.unusedVariables false

namespace Plain
theorem goA_cons (fs : List Fl) (n : Nat) (o : Dop) (l : List Dop) : goA fs n (o :: l) = if (goA fs n [o]).1 = 0 then goA (goA fs n [o]).2 (n + 1) l else ((goA fs n [o]).1, []) := by
  simp only [goA]
  split
  · split
    · split
      · simp
      · simp
    · simp
  · simp
theorem goA_oneS {fs : List Fl} {n : Nat} {o : Dop} (h : (goA fs n [o]).1 = 0) : n < 200 ∧ filesB (goA fs n [o]).2 = true := by
  simp only [goA] at h ⊢
  split at h
  · split at h
    · split at h
      · rename_i h1 h2 h3
        simp only [Bool.and_eq_true, decide_eq_true_eq] at h3
        rw [if_pos h1, if_pos h2, if_pos (by simp [h3.1, h3.2])]
        exact h3
      · simp at h
    · simp at h
  · simp at h
/-- The block nb holds a disk that is being made. -/
structure NowAt (W : World) (nb : Nat) (aL : Option Addr) (cL : Nat) (live : List Fl) (aS : Option Addr) (cS : Nat) (safe : List Fl) (aO : Option Addr) (cO : Nat) (ops : List Dop) : Prop where
  dk : DiskN W aL live.length cL live aS safe.length cS safe aO ops.length cO ops
  lt : nb < W.heap.size
  c0 : W.cell? ⟨nb, 0, none⟩ = some (.slice aL live.length cL)
  c1 : W.cell? ⟨nb, 1, none⟩ = some (.slice aS safe.length cS)
  c2 : W.cell? ⟨nb, 2, none⟩ = some (.slice aO ops.length cO)
  z0 : W.frozen? ⟨nb, 0, none⟩ = false
  z1 : W.frozen? ⟨nb, 1, none⟩ = false
  z2 : W.frozen? ⟨nb, 2, none⟩ = false
theorem NowAt.next {W w' : World} {nb : Nat} {aL aS aO aL' aS' aO' : Option Addr} {cL cS cO cL' cS' cO' : Nat} {live safe live' : List Fl} {ops ops' : List Dop} (h : NowAt W nb aL cL live aS cS safe aO cO ops) (hb : Below W.heap.size W w')
    (r1 : RowAt fileE w' aL' live') (r2 : RowAt fileE w' aS' safe) (r3 : RowAt dopE w' aO' ops') (ad : AdOk aL' cL' ∧ AdOk aS' cS' ∧ AdOk aO' cO') (m1 : ∀ k, inB aL' k → W.heap.size ≤ k) (m2 : ∀ k, inB aS' k → W.heap.size ≤ k) (m3 : ∀ k, inB aO' k → W.heap.size ≤ k)
    (f1 : FitF live') (fo : ∀ o ∈ ops', SmO o) (l1 : live'.length ≤ 1048576) (l3 : ops'.length ≤ 1048576) :
    NowAt (((w'.setCell ⟨nb, 0, none⟩ (.slice aL' live'.length cL')).setCell ⟨nb, 1, none⟩ (.slice aS' safe.length cS')).setCell ⟨nb, 2, none⟩ (.slice aO' ops'.length cO')) nb aL' cL' live' aS' cS' safe aO' cO' ops' := by
  have hl := h.lt
  have h0 := bcl hb hl h.c0
  have h1 := bcl hb hl h.c1
  have h2 := bcl hb hl h.c2
  have k0 : (w'.setCell ⟨nb, 0, none⟩ (.slice aL' live'.length cL')).cell? ⟨nb, 0, none⟩ = some (.slice aL' live'.length cL') := cell_set h0
  have k1 : ((w'.setCell ⟨nb, 0, none⟩ (.slice aL' live'.length cL')).setCell ⟨nb, 1, none⟩ (.slice aS' safe.length cS')).cell? ⟨nb, 1, none⟩ = some (.slice aS' safe.length cS') := cell_set ((cell_off (.inr (by decide))).trans h1)
  have e1 : ∀ k, inB aL' k → k ≠ nb := fun k hk => by have := m1 k hk; omega
  have e2 : ∀ k, inB aS' k → k ≠ nb := fun k hk => by have := m2 k hk; omega
  have e3 : ∀ k, inB aO' k → k ≠ nb := fun k hk => by have := m3 k hk; omega
  refine ⟨DiskAt.toN ⟨r1.set3 e1, r2.set3 e2, r3.set3 e3, rfl, rfl, rfl, ad.1, ad.2.1, ad.2.2, f1, h.dk.fs, fo, l1, h.dk.bs, l3⟩, by simpa using Nat.lt_of_lt_of_le hl hb.size, (cell_off (.inr (by decide))).trans ((cell_off (.inr (by decide))).trans k0), (cell_off (.inr (by decide))).trans k1, cell_set ((cell_off (.inr (by decide))).trans ((cell_off (.inr (by decide))).trans h2)), ?_, ?_, ?_⟩
  · simp only [World.frozen?_setCell]; exact (hb.frozen (p := ⟨nb, 0, none⟩) hl).trans h.z0
  · simp only [World.frozen?_setCell]; exact (hb.frozen (p := ⟨nb, 1, none⟩) hl).trans h.z1
  · simp only [World.frozen?_setCell]; exact (hb.frozen (p := ⟨nb, 2, none⟩) hl).trans h.z2
theorem bel3 {B nb : Nat} {w w' : World} {v0 v1 v2 : Value} (h : Below B w w') (hn : B ≤ nb) : Below B w (((w'.setCell ⟨nb, 0, none⟩ v0).setCell ⟨nb, 1, none⟩ v1).setCell ⟨nb, 2, none⟩ v2) := ((h.setCell hn _).setCell hn _).setCell hn _
theorem spcRet0 {f : Value → Value} {w w7 : World} {rb : Nat} {y1 y2 y3 : Option Addr} {k1 k2 k3 : Nat} {live safe : List Fl} {ops : List Dop} (h1 : RowAt fileE w7 y1 live) (h2 : RowAt fileE w7 y2 safe) (h3 : RowAt dopE w7 y3 ops) (had : AdOk y1 k1 ∧ AdOk y2 k2 ∧ AdOk y3 k3) (m1 : ∀ k, inB y1 k → rb < k) (m2 : ∀ k, inB y2 k → rb < k) (m3 : ∀ k, inB y3 k → rb < k)
    (hrb : w.heap.size ≤ rb) (hb : Below w.heap.size w w7) : SpcQ f live safe ops w (.returned (f (.agg #[.slice y1 live.length k1, .slice y2 safe.length k2, .slice y3 ops.length k3]))) (((w7.setCell ⟨rb, 0, none⟩ (.slice y1 live.length k1)).setCell ⟨rb, 1, none⟩ (.slice y2 safe.length k2)).setCell ⟨rb, 2, none⟩ (.slice y3 ops.length k3)) :=
  spcRetQ h1 h2 h3 had (fun k hk => by have := m1 k hk; omega) (fun k hk => by have := m2 k hk; omega) (fun k hk => by have := m3 k hk; omega) hrb hb
end Plain

theorem Plain.strAddR {a b : ByteArray} (W : World) (h : a.size + b.size ≤ 1000000000000) : (Op.stringOp .add a b).run Try.prog W = .ok (.string (a ++ b)) W := by
  have h1 : ¬ ((a.size + b.size : Nat) : Int) > IntKind.i64.max := by rw [show IntKind.i64.max = 9223372036854775807 from rfl]; omega
  unfold Op.stringOp
  simp only [if_neg h1]
  rfl

set_option maxRecDepth 10000 in
set_option maxHeartbeats 16000000 in
theorem spec_ReplaceN (a1 : Option Addr) (nL cL : Nat) (live : List Fl) (a2 : Option Addr) (nS cS : Nat) (safe : List Fl) (a3 : Option Addr) (nO cO : Nat) (ops : List Dop) (nm dt fr : ByteArray) (w : World) (h : DiskN w a1 nL cL live a2 nS cS safe a3 nO cO ops) (hnm : nm.size ≤ 100000000) (hdt : dt.size ≤ 100000000) (hfr : nm ++ ⟨#[46, 110, 101, 119]⟩ = fr) :
    Calls Try.prog 14 #[.agg #[.slice a1 nL cL, .slice a2 nS cS, .slice a3 nO cO], .string nm, .string dt] w (SpcQ (fun v => .tuple #[v, .int .i64 (actC live safe ops (repX live safe ops fr nm dt))]) (actL live safe ops (repX live safe ops fr nm dt)) (actS live safe ops) (actO live safe ops (repX live safe ops fr nm dt)) w) := by
  have hfz : fr.size ≤ 100000004 := by rw [← hfr, ByteArray.size_append]; show nm.size + 4 ≤ _; omega
  have hll := h.ll
  have hls := h.ls
  have hlo := h.lo
  subst hll hls hlo
  obtain ⟨Wa, hWa⟩ : ∃ Wa, Wa = w.alloc (.cells #[.slice a1 live.length cL, .slice a2 safe.length cS, .slice a3 ops.length cO] 27) := ⟨_, rfl⟩
  obtain ⟨W0, hW0⟩ : ∃ W0, W0 = Wa.alloc (.cells #[.slice none 0 0, .slice none 0 0, .slice none 0 0] 27) := ⟨_, rfl⟩
  have hba : Below w.heap.size w Wa := by rw [hWa]; exact bel1 _ _
  have hsa : Wa.heap.size = w.heap.size + 1 := by rw [hWa]; simp
  have hs0 : W0.heap.size = w.heap.size + 2 := by rw [hW0]; simp [hsa]
  have hb0 : Below Wa.heap.size Wa W0 := by rw [hW0]; exact bel1 _ _
  have c0 : W0.cell? ⟨w.heap.size, 0, none⟩ = some (.slice a1 live.length cL) := bcl hb0 (by omega) (by rw [hWa]; simp [go_sem])
  have c1 : W0.cell? ⟨w.heap.size, 1, none⟩ = some (.slice a2 safe.length cS) := bcl hb0 (by omega) (by rw [hWa]; simp [go_sem])
  have c2 : W0.cell? ⟨w.heap.size, 2, none⟩ = some (.slice a3 ops.length cO) := bcl hb0 (by omega) (by rw [hWa]; simp [go_sem])
  have hr : ∀ i, i < 3 → W0.cell? ⟨w.heap.size + 1, i, none⟩ = some (.slice none 0 0) ∧ W0.frozen? ⟨w.heap.size + 1, i, none⟩ = false := by
    intro i hi
    rw [hW0, ← hsa]
    rcases i with _ | _ | _ | i
    all_goals first | omega | simp [go_sem]
  have HC := hide (fun (W : World) (hW : Below W0.heap.size W0 W) => And.intro (bcl hW (show w.heap.size < W0.heap.size by omega) c0) (And.intro (bcl hW (show w.heap.size < W0.heap.size by omega) c1) (bcl hW (show w.heap.size < W0.heap.size by omega) c2)))
  have HR := hide (fun (W : World) (hW : Below W0.heap.size W0 W) (i : Nat) (hi : i < 3) => And.intro (bcl hW (show w.heap.size + 1 < W0.heap.size by omega) (hr i hi).1) ((hW.frozen (p := ⟨w.heap.size + 1, i, none⟩) (show w.heap.size + 1 < W0.heap.size by omega)).trans (hr i hi).2))
  have HFIN := hide (fun (W : World) (hW : Below W0.heap.size W0 W) => belOn (belOn hba hb0) hW)
  have HD := hide (fun (W : World) (hW : Below W0.heap.size W0 W) => (h.below (belOn hba hb0)).below hW)
  have HW0 := hide (show (w.alloc (.cells #[.slice a1 live.length cL, .slice a2 safe.length cS, .slice a3 ops.length cO] 27)).alloc (.cells #[.slice none 0 0, .slice none 0 0, .slice none 0 0] 27) = W0 from by rw [hW0, hWa])
  have HS0 := hide hs0
  have HOK := hide (spec_DiskOkO a1 live.length cL live a2 safe.length cS safe a3 ops.length cO ops W0 (unhide HD _ (Below.refl _ _)).toDiskO)
  have HCP := hide (fun (W : World) (hW : Below W0.heap.size W0 W) => l4Copy_callsN a1 live.length cL live a2 safe.length cS safe a3 ops.length cO ops W (unhide HD _ hW))
  have sm_x : SmO ⟨1, fr, ⟨#[]⟩, dt⟩ := ⟨by show fr.size ≤ _; omega, by show (0 : Nat) ≤ _; omega, by show dt.size ≤ _; omega⟩
  have sm_y : SmO ⟨2, fr, nm, ⟨#[]⟩⟩ := ⟨by show fr.size ≤ _; omega, by show nm.size ≤ _; omega, by show (0 : Nat) ≤ _; omega⟩
  have sm_r : SmO ⟨3, fr, ⟨#[]⟩, ⟨#[]⟩⟩ := ⟨by show fr.size ≤ _; omega, by show (0 : Nat) ≤ _; omega, by show (0 : Nat) ≤ _; omega⟩
  have hadd := fun W => strAddR (a := nm) (b := ⟨#[46, 110, 101, 119]⟩) W (by show nm.size + 4 ≤ _; omega)
  rw [hfr] at hadd
  have HFO := hide h.fo
  have hbo := h.bo
  have hbl := h.bl
  unfold repX fileF actC actL actS actO
  cases hd : diskB live safe ops with
  | false =>
    rw [hd] at HOK
    simp only [Bool.false_eq_true, if_false]
    clear hba hb0 hWa hW0 hr h hsa hs0 hd hadd
    go_enter Try.func14, Try.ntmps14
    go_wp2_with fail
    rw [unhide HW0]
    refine (unhide HOK).mono ?_
    rintro e w1 ⟨rfl, hb1⟩
    have HB1 := hide hb1
    obtain ⟨r0, z0⟩ := unhide HR _ hb1 0 (by decide)
    obtain ⟨r1, z1⟩ := unhide HR _ hb1 1 (by decide)
    obtain ⟨r2, z2⟩ := unhide HR _ hb1 2 (by decide)
    clear hb1 c0 c1 c2
    go_wp2_with fail
    refine bodyPost_ret (v := .tuple #[.agg #[.slice none 0 0, .slice none 0 0, .slice none 0 0], .int .i64 1]) (by simp [results, Try.results14, go_sem, r0, r1, r2]) rfl ?_
    exact spcRet0 (live := []) (safe := []) (ops := []) (rb := w.heap.size + 1) (rowNil2 _ _ _) (rowNil2 _ _ _) (rowNil2 _ _ _) ⟨.inl ⟨rfl, rfl⟩, .inl ⟨rfl, rfl⟩, .inl ⟨rfl, rfl⟩⟩ (fun k ⟨o, e⟩ => by cases e) (fun k ⟨o, e⟩ => by cases e) (fun k ⟨o, e⟩ => by cases e) (by omega) (unhide HFIN _ (unhide HB1))
  | true =>
    have hfs := disk_liv2 hd
    have hO2 : ops.length ≤ 200 := by
      have hd2 := hd
      unfold diskB at hd2
      simp only [Bool.and_eq_true, decide_eq_true_eq] at hd2
      omega
    rw [hd] at HOK
    have HRI := hide (files_ok hfs).2
    have hln := (files_small hfs).1
    have HA := hide (fun (W : World) (hW : Below W0.heap.size W0 W) => l4At_calls a1 live.length cL live fr W rfl (by omega) (unhide HD _ hW).rl)
    simp only [if_true]
    have NB := fun (V : World) (hV : Below W0.heap.size W0 V) => (show NowAt (V.alloc (.cells #[.slice a1 live.length cL, .slice a2 safe.length cS, .slice a3 ops.length cO] 27)) V.heap.size a1 cL live a2 cS safe a3 cO ops from ⟨(unhide HD V hV).below (bel1 _ _), by simp, by simp [go_sem], by simp [go_sem], by simp [go_sem], by simp [go_sem], by simp [go_sem], by simp [go_sem]⟩)
    have HNB := hide NB
    clear NB
    cases ha : atF fr live with
    | none =>
      have hxs : (if (tabF live fr).isSome = true then [(⟨3, fr, ⟨#[]⟩, ⟨#[]⟩⟩ : Dop), ⟨1, fr, ⟨#[]⟩, dt⟩, ⟨2, fr, nm, ⟨#[]⟩⟩] else [⟨1, fr, ⟨#[]⟩, dt⟩, ⟨2, fr, nm, ⟨#[]⟩⟩]) = [⟨1, fr, ⟨#[]⟩, dt⟩, ⟨2, fr, nm, ⟨#[]⟩⟩] := by rw [tab_at_none (unhide HRI) ha]; rfl
      rw [ha] at HA
      have HAV : atV none = -1 := rfl
      rw [HAV] at HA
      rw [hxs]
      obtain ⟨G, hG⟩ : ∃ G, goA live ops.length [⟨1, fr, ⟨#[]⟩, dt⟩, ⟨2, fr, nm, ⟨#[]⟩⟩] = G := ⟨_, rfl⟩
      rw [hG]
      obtain ⟨PC, hPC⟩ : ∃ x, G.1 = x := ⟨_, rfl⟩
      obtain ⟨PL, hPL⟩ : ∃ x, (if G.1 = 0 then G.2 else live) = x := ⟨_, rfl⟩
      obtain ⟨PO, hPO⟩ : ∃ x, (if G.1 = 0 then ops ++ [⟨1, fr, ⟨#[]⟩, dt⟩, ⟨2, fr, nm, ⟨#[]⟩⟩] else ops) = x := ⟨_, rfl⟩
      rw [hPL, hPO, hPC]
      have HP := hide (And.intro hPC (And.intro hPL hPO))
      clear hPC hPL hPO
      have HG0 := hide hG.symm
      have HF0 := hide hfs
      have HO0 := hide hO2
      clear hba hb0 hWa hW0 hr h hsa hs0 hd ha hxs hfs hO2 hln hG
      go_enter Try.func14, Try.ntmps14
      go_wp2_with fail
      rw [unhide HW0]
      refine (unhide HOK).mono ?_
      rintro e w1 ⟨rfl, hb1⟩
      obtain ⟨V0, hV0⟩ : ∃ V, V = w1.alloc (.cells #[.slice a1 live.length cL, .slice a2 safe.length cS, .slice a3 ops.length cO] 27) := ⟨_, rfl⟩
      have HB0 := hide (show Below W0.heap.size W0 V0 from by rw [hV0]; exact belOn hb1 (bel1 _ _))
      have HN0 := hide (show NowAt V0 w1.heap.size a1 cL live a2 cS safe a3 cO ops from by rw [hV0]; exact unhide HNB w1 hb1)
      have HNW := hide (show W0.heap.size ≤ w1.heap.size from hb1.size)
      have hne : ¬ w1.heap.size = w.heap.size := by have := hb1.size; have := unhide HS0; omega
      obtain ⟨q0, q1, q2⟩ := unhide HC _ hb1
      have lq := lt_of_cell q0
      have s0 := bcl (bel1 w1 (.cells #[.slice a1 live.length cL, .slice a2 safe.length cS, .slice a3 ops.length cO] 27)) lq q0
      have HV0 := hide hV0.symm
      clear hb1 hV0
      go_wp2_with fail
      rw [unhide HV0]
      refine (unhide HA _ (unhide HB0)).mono ?_
      rintro e w2 ⟨rfl, rfl⟩
      clear q0 q1 q2 s0
      have k0 := (unhide HN0).c0
      have k1 := (unhide HN0).c1
      have k2 := (unhide HN0).c2
      go_wp2_with fail
      clear k0 k1 k2
      have HAC := hide (l4Act_callsNQ _ _ _ live _ _ _ safe _ _ _ ops 1 fr ⟨#[]⟩ dt V0 (unhide HN0).dk (unhide HF0) (unhide HO0) sm_x)
      have hG1 := (unhide HG0).trans (goA_cons live (ops).length ⟨1, fr, ⟨#[]⟩, dt⟩ [⟨2, fr, nm, ⟨#[]⟩⟩])
      by_cases hc : (goA live (ops).length [⟨1, fr, ⟨#[]⟩, dt⟩]).1 = 0
      · obtain ⟨-, hf1⟩ := goA_oneS hc
        have hn1 := (goA_oneS hc).1
        obtain ⟨L1, hL1⟩ : ∃ x, (goA live (ops).length [⟨1, fr, ⟨#[]⟩, dt⟩]).2 = x := ⟨_, rfl⟩
        rw [if_pos hc, hL1] at hG1
        rw [hL1] at hf1
        rw [hc, hL1, if_pos rfl, if_pos rfl] at HAC
        obtain ⟨P1, hP1⟩ : ∃ x, (ops ++ [(⟨1, fr, ⟨#[]⟩, dt⟩ : Dop)]) = x := ⟨_, rfl⟩
        rw [hP1] at HAC
        have hlP : P1.length = (ops).length + 1 := by rw [← hP1, List.length_append]; rfl
        have HG1 := hide (show G = goA L1 P1.length [⟨2, fr, nm, ⟨#[]⟩⟩] from by rw [hlP]; exact hG1)
        have HF1 := hide hf1
        have HO1 := hide (show P1.length ≤ 200 from by rw [hlP]; exact hn1)
        have HE1 := hide hP1
        have HLP := hide hlP
        clear hlP
        refine (unhide HAC).mono ?_
        rintro e v1 ⟨aL1, cL1, aS1, cS1, aO1, cO1, rfl, o1, o2, o3, ad, m1, m2, m3, hb⟩
        have y0 := bcl hb (unhide HN0).lt (unhide HN0).c0
        have y1 := bcl hb (unhide HN0).lt (unhide HN0).c1
        have y2 := bcl hb (unhide HN0).lt (unhide HN0).c2
        have x0 := (hb.frozen (p := ⟨w1.heap.size, 0, none⟩) (unhide HN0).lt).trans (unhide HN0).z0
        have x1 := (hb.frozen (p := ⟨w1.heap.size, 1, none⟩) (unhide HN0).lt).trans (unhide HN0).z1
        have x2 := (hb.frozen (p := ⟨w1.heap.size, 2, none⟩) (unhide HN0).lt).trans (unhide HN0).z2
        obtain ⟨q0, q1, q2⟩ := unhide HC _ (belOn (unhide HB0) hb)
        obtain ⟨V1, hV1⟩ : ∃ V, V = ((v1.setCell ⟨w1.heap.size, 0, none⟩ (.slice aL1 (L1).length cL1)).setCell ⟨w1.heap.size, 1, none⟩ (.slice aS1 safe.length cS1)).setCell ⟨w1.heap.size, 2, none⟩ (.slice aO1 (P1).length cO1) := ⟨_, rfl⟩
        have HB1 := hide (show Below W0.heap.size W0 V1 from by rw [hV1]; exact bel3 (belOn (unhide HB0) hb) (unhide HNW))
        have HN1 := hide (show NowAt V1 w1.heap.size aL1 cL1 L1 aS1 cS1 safe aO1 cO1 P1 from by
          rw [hV1]
          exact (unhide HN0).next hb o1 o2 o3 ad m1 m2 m3 (small_fit hf1) (fun x hx => by
            rw [← unhide HE1] at hx
            rcases List.mem_append.1 hx with hx | hx
            · exact (unhide HN0).dk.fo x hx
            · obtain rfl := List.mem_singleton.1 hx; exact sm_x) (by have := (files_small hf1).1; omega) (by have := unhide HLP; omega))
        have HV1 := hide hV1.symm
        clear hV1 o1 o2 o3 ad m1 m2 m3 hb hL1 hf1 hn1 hG1 hc HAC hP1 HLP
        go_wp2_with fail
        rw [unhide HV1]
        clear y0 y1 y2 x0 x1 x2 q0 q1 q2
        have HAC := hide (l4Act_callsNQ _ _ _ L1 _ _ _ safe _ _ _ P1 2 fr nm ⟨#[]⟩ V1 (unhide HN1).dk (unhide HF1) (unhide HO1) sm_y)
        have hG2 := (unhide HG1).trans (goA_cons L1 (P1).length ⟨2, fr, nm, ⟨#[]⟩⟩ [])
        by_cases hc : (goA L1 (P1).length [⟨2, fr, nm, ⟨#[]⟩⟩]).1 = 0
        · obtain ⟨-, hf2⟩ := goA_oneS hc
          have hn2 := (goA_oneS hc).1
          obtain ⟨L2, hL2⟩ : ∃ x, (goA L1 (P1).length [⟨2, fr, nm, ⟨#[]⟩⟩]).2 = x := ⟨_, rfl⟩
          rw [if_pos hc, hL2] at hG2
          rw [hL2] at hf2
          rw [hc, hL2, if_pos rfl, if_pos rfl] at HAC
          obtain ⟨P2, hP2⟩ : ∃ x, (P1 ++ [(⟨2, fr, nm, ⟨#[]⟩⟩ : Dop)]) = x := ⟨_, rfl⟩
          rw [hP2] at HAC
          have hlP : P2.length = (P1).length + 1 := by rw [← hP2, List.length_append]; rfl
          have HG2 := hide (show G = goA L2 P2.length [] from by rw [hlP]; exact hG2)
          have HF2 := hide hf2
          have HO2 := hide (show P2.length ≤ 200 from by rw [hlP]; exact hn2)
          have HE2 := hide hP2
          have HLP := hide hlP
          clear hlP
          refine (unhide HAC).mono ?_
          rintro e v2 ⟨aL2, cL2, aS2, cS2, aO2, cO2, rfl, o1, o2, o3, ad, m1, m2, m3, hb⟩
          have y0 := bcl hb (unhide HN1).lt (unhide HN1).c0
          have y1 := bcl hb (unhide HN1).lt (unhide HN1).c1
          have y2 := bcl hb (unhide HN1).lt (unhide HN1).c2
          have x0 := (hb.frozen (p := ⟨w1.heap.size, 0, none⟩) (unhide HN1).lt).trans (unhide HN1).z0
          have x1 := (hb.frozen (p := ⟨w1.heap.size, 1, none⟩) (unhide HN1).lt).trans (unhide HN1).z1
          have x2 := (hb.frozen (p := ⟨w1.heap.size, 2, none⟩) (unhide HN1).lt).trans (unhide HN1).z2
          obtain ⟨q0, q1, q2⟩ := unhide HC _ (belOn (unhide HB1) hb)
          obtain ⟨V2, hV2⟩ : ∃ V, V = ((v2.setCell ⟨w1.heap.size, 0, none⟩ (.slice aL2 (L2).length cL2)).setCell ⟨w1.heap.size, 1, none⟩ (.slice aS2 safe.length cS2)).setCell ⟨w1.heap.size, 2, none⟩ (.slice aO2 (P2).length cO2) := ⟨_, rfl⟩
          have HB2 := hide (show Below W0.heap.size W0 V2 from by rw [hV2]; exact bel3 (belOn (unhide HB1) hb) (unhide HNW))
          have HN2 := hide (show NowAt V2 w1.heap.size aL2 cL2 L2 aS2 cS2 safe aO2 cO2 P2 from by
            rw [hV2]
            exact (unhide HN1).next hb o1 o2 o3 ad m1 m2 m3 (small_fit hf2) (fun x hx => by
              rw [← unhide HE2] at hx
              rcases List.mem_append.1 hx with hx | hx
              · exact (unhide HN1).dk.fo x hx
              · obtain rfl := List.mem_singleton.1 hx; exact sm_y) (by have := (files_small hf2).1; omega) (by have := unhide HLP; omega))
          have HV2 := hide hV2.symm
          clear hV2 o1 o2 o3 ad m1 m2 m3 hb hL2 hf2 hn2 hG2 hc HAC hP2 HLP
          go_wp2_with fail
          rw [unhide HV2]
          clear y0 y1 y2 x0 x1 x2 q0 q1 q2
          refine (l4Copy_callsN _ _ _ _ _ _ _ _ _ _ _ _ V2 (unhide HN2).dk).mono ?_
          rintro e wf ⟨xL, iL, xS, iS, xO, iO, B3, rfl, o1, o2, o3, ad, -, -, -, -, m1, m2, m3, hbf⟩
          have HBf := hide (belOn (unhide HB2) hbf)
          have HOf := hide (And.intro o1 (And.intro o2 (And.intro o3 (And.intro ad (And.intro m1 (And.intro m2 m3))))))
          obtain ⟨r0, z0⟩ := unhide HR _ (unhide HBf) 0 (by decide)
          obtain ⟨r1, z1⟩ := unhide HR _ (unhide HBf) 1 (by decide)
          obtain ⟨r2, z2⟩ := unhide HR _ (unhide HBf) 2 (by decide)
          have hzk := (unhide HB2).size
          clear o1 o2 o3 ad m1 m2 m3 hbf
          go_wp2_with fail
          refine bodyPost_ret (v := .tuple #[.agg #[.slice xL (L2).length iL, .slice xS safe.length iS, .slice xO (P2).length iO], .int .i64 0]) (by simp [results, Try.results14, go_sem, r0, r1, r2]) rfl ?_
          obtain ⟨o1, o2, o3, ad, m1, m2, m3⟩ := unhide HOf
          have hs0 := unhide HS0
          have hG : G = (0, L2) := unhide HG2
          obtain ⟨e1, e2, e3⟩ := unhide HP
          rw [hG] at e1 e2 e3
          have e1' : PC = 0 := e1.symm
          have e2' : PL = L2 := e2.symm
          have e3' : PO = P2 := e3.symm.trans (by rw [← unhide HE2, ← unhide HE1]; simp)
          subst e1' e2' e3'
          exact spcRet0 (rb := w.heap.size + 1) o1 o2 o3 ad (fun k hk => by have := m1 k hk; omega) (fun k hk => by have := (m2 k hk).1; omega) (fun k hk => by have := (m3 k hk).1; omega) (by omega) (unhide HFIN _ (unhide HBf))
        · obtain ⟨C, hC⟩ : ∃ x, (goA L1 (P1).length [⟨2, fr, nm, ⟨#[]⟩⟩]).1 = x := ⟨_, rfl⟩
          rw [if_neg hc, hC] at hG2
          rw [hC] at hc HAC
          rw [if_neg hc, if_neg hc] at HAC
          have HG2 := hide (show G = (C, []) from hG2)
          have HNZ := hide hc
          have hcb : (C == (0 : Int)) = false := by rw [beq_eq_false_iff_ne]; exact hc
          refine (unhide HAC).mono ?_
          rintro e v2 ⟨aL2, cL2, aS2, cS2, aO2, cO2, rfl, o1, o2, o3, ad, m1, m2, m3, hb⟩
          have y0 := bcl hb (unhide HN1).lt (unhide HN1).c0
          have y1 := bcl hb (unhide HN1).lt (unhide HN1).c1
          have y2 := bcl hb (unhide HN1).lt (unhide HN1).c2
          have x0 := (hb.frozen (p := ⟨w1.heap.size, 0, none⟩) (unhide HN1).lt).trans (unhide HN1).z0
          have x1 := (hb.frozen (p := ⟨w1.heap.size, 1, none⟩) (unhide HN1).lt).trans (unhide HN1).z1
          have x2 := (hb.frozen (p := ⟨w1.heap.size, 2, none⟩) (unhide HN1).lt).trans (unhide HN1).z2
          obtain ⟨q0, q1, q2⟩ := unhide HC _ (belOn (unhide HB1) hb)
          obtain ⟨V2, hV2⟩ : ∃ V, V = ((v2.setCell ⟨w1.heap.size, 0, none⟩ (.slice aL2 (L1).length cL2)).setCell ⟨w1.heap.size, 1, none⟩ (.slice aS2 safe.length cS2)).setCell ⟨w1.heap.size, 2, none⟩ (.slice aO2 (P1).length cO2) := ⟨_, rfl⟩
          have HB2 := hide (show Below W0.heap.size W0 V2 from by rw [hV2]; exact bel3 (belOn (unhide HB1) hb) (unhide HNW))
          have HV2 := hide hV2.symm
          clear hV2 o1 o2 o3 ad m1 m2 m3 hb hG2 hC HAC
          go_wp2_with fail
          rw [unhide HV2]
          clear y0 y1 y2 x0 x1 x2 q0 q1 q2
          refine (unhide HCP _ (unhide HB2)).mono ?_
          rintro e wf ⟨xL, iL, xS, iS, xO, iO, B3, rfl, o1, o2, o3, ad, -, -, -, -, m1, m2, m3, hbf⟩
          have HBf := hide (belOn (unhide HB2) hbf)
          have HOf := hide (And.intro o1 (And.intro o2 (And.intro o3 (And.intro ad (And.intro m1 (And.intro m2 m3))))))
          obtain ⟨r0, z0⟩ := unhide HR _ (unhide HBf) 0 (by decide)
          obtain ⟨r1, z1⟩ := unhide HR _ (unhide HBf) 1 (by decide)
          obtain ⟨r2, z2⟩ := unhide HR _ (unhide HBf) 2 (by decide)
          have hzk := (unhide HB2).size
          clear o1 o2 o3 ad m1 m2 m3 hbf
          go_wp2_with fail
          refine bodyPost_ret (v := .tuple #[.agg #[.slice xL (live).length iL, .slice xS safe.length iS, .slice xO (ops).length iO], .int .i64 C]) (by simp [results, Try.results14, go_sem, r0, r1, r2]) rfl ?_
          obtain ⟨o1, o2, o3, ad, m1, m2, m3⟩ := unhide HOf
          have hs0 := unhide HS0
          have hG := unhide HG2
          obtain ⟨e1, e2, e3⟩ := unhide HP
          rw [hG] at e1 e2 e3
          have e1' : PC = C := e1.symm
          have e2' : PL = live := e2.symm.trans (if_neg (unhide HNZ))
          have e3' : PO = ops := e3.symm.trans (if_neg (unhide HNZ))
          subst e1' e2' e3'
          exact spcRet0 (rb := w.heap.size + 1) o1 o2 o3 ad (fun k hk => by have := m1 k hk; omega) (fun k hk => by have := (m2 k hk).1; omega) (fun k hk => by have := (m3 k hk).1; omega) (by omega) (unhide HFIN _ (unhide HBf))
      · obtain ⟨C, hC⟩ : ∃ x, (goA live (ops).length [⟨1, fr, ⟨#[]⟩, dt⟩]).1 = x := ⟨_, rfl⟩
        rw [if_neg hc, hC] at hG1
        rw [hC] at hc HAC
        rw [if_neg hc, if_neg hc] at HAC
        have HG1 := hide (show G = (C, []) from hG1)
        have HNZ := hide hc
        have hcb : (C == (0 : Int)) = false := by rw [beq_eq_false_iff_ne]; exact hc
        refine (unhide HAC).mono ?_
        rintro e v1 ⟨aL1, cL1, aS1, cS1, aO1, cO1, rfl, o1, o2, o3, ad, m1, m2, m3, hb⟩
        have y0 := bcl hb (unhide HN0).lt (unhide HN0).c0
        have y1 := bcl hb (unhide HN0).lt (unhide HN0).c1
        have y2 := bcl hb (unhide HN0).lt (unhide HN0).c2
        have x0 := (hb.frozen (p := ⟨w1.heap.size, 0, none⟩) (unhide HN0).lt).trans (unhide HN0).z0
        have x1 := (hb.frozen (p := ⟨w1.heap.size, 1, none⟩) (unhide HN0).lt).trans (unhide HN0).z1
        have x2 := (hb.frozen (p := ⟨w1.heap.size, 2, none⟩) (unhide HN0).lt).trans (unhide HN0).z2
        obtain ⟨q0, q1, q2⟩ := unhide HC _ (belOn (unhide HB0) hb)
        obtain ⟨V1, hV1⟩ : ∃ V, V = ((v1.setCell ⟨w1.heap.size, 0, none⟩ (.slice aL1 (live).length cL1)).setCell ⟨w1.heap.size, 1, none⟩ (.slice aS1 safe.length cS1)).setCell ⟨w1.heap.size, 2, none⟩ (.slice aO1 (ops).length cO1) := ⟨_, rfl⟩
        have HB1 := hide (show Below W0.heap.size W0 V1 from by rw [hV1]; exact bel3 (belOn (unhide HB0) hb) (unhide HNW))
        have HV1 := hide hV1.symm
        clear hV1 o1 o2 o3 ad m1 m2 m3 hb hG1 hC HAC
        go_wp2_with fail
        rw [unhide HV1]
        clear y0 y1 y2 x0 x1 x2 q0 q1 q2
        refine (unhide HCP _ (unhide HB1)).mono ?_
        rintro e wf ⟨xL, iL, xS, iS, xO, iO, B3, rfl, o1, o2, o3, ad, -, -, -, -, m1, m2, m3, hbf⟩
        have HBf := hide (belOn (unhide HB1) hbf)
        have HOf := hide (And.intro o1 (And.intro o2 (And.intro o3 (And.intro ad (And.intro m1 (And.intro m2 m3))))))
        obtain ⟨r0, z0⟩ := unhide HR _ (unhide HBf) 0 (by decide)
        obtain ⟨r1, z1⟩ := unhide HR _ (unhide HBf) 1 (by decide)
        obtain ⟨r2, z2⟩ := unhide HR _ (unhide HBf) 2 (by decide)
        have hzk := (unhide HB1).size
        clear o1 o2 o3 ad m1 m2 m3 hbf
        go_wp2_with fail
        refine bodyPost_ret (v := .tuple #[.agg #[.slice xL (live).length iL, .slice xS safe.length iS, .slice xO (ops).length iO], .int .i64 C]) (by simp [results, Try.results14, go_sem, r0, r1, r2]) rfl ?_
        obtain ⟨o1, o2, o3, ad, m1, m2, m3⟩ := unhide HOf
        have hs0 := unhide HS0
        have hG := unhide HG1
        obtain ⟨e1, e2, e3⟩ := unhide HP
        rw [hG] at e1 e2 e3
        have e1' : PC = C := e1.symm
        have e2' : PL = live := e2.symm.trans (if_neg (unhide HNZ))
        have e3' : PO = ops := e3.symm.trans (if_neg (unhide HNZ))
        subst e1' e2' e3'
        exact spcRet0 (rb := w.heap.size + 1) o1 o2 o3 ad (fun k hk => by have := m1 k hk; omega) (fun k hk => by have := (m2 k hk).1; omega) (fun k hk => by have := (m3 k hk).1; omega) (by omega) (unhide HFIN _ (unhide HBf))
    | some j =>
      have hxs : (if (tabF live fr).isSome = true then [(⟨3, fr, ⟨#[]⟩, ⟨#[]⟩⟩ : Dop), ⟨1, fr, ⟨#[]⟩, dt⟩, ⟨2, fr, nm, ⟨#[]⟩⟩] else [⟨1, fr, ⟨#[]⟩, dt⟩, ⟨2, fr, nm, ⟨#[]⟩⟩]) = [⟨3, fr, ⟨#[]⟩, ⟨#[]⟩⟩, ⟨1, fr, ⟨#[]⟩, dt⟩, ⟨2, fr, nm, ⟨#[]⟩⟩] := by rw [tab_at_some (unhide HRI) ha]; rfl
      rw [ha] at HA
      have HAV : atV (some j) = (j : Int) := rfl
      rw [HAV] at HA
      have hj0 : (0 : Int) ≤ (j : Int) := by omega
      rw [hxs]
      obtain ⟨G, hG⟩ : ∃ G, goA live ops.length [⟨3, fr, ⟨#[]⟩, ⟨#[]⟩⟩, ⟨1, fr, ⟨#[]⟩, dt⟩, ⟨2, fr, nm, ⟨#[]⟩⟩] = G := ⟨_, rfl⟩
      rw [hG]
      obtain ⟨PC, hPC⟩ : ∃ x, G.1 = x := ⟨_, rfl⟩
      obtain ⟨PL, hPL⟩ : ∃ x, (if G.1 = 0 then G.2 else live) = x := ⟨_, rfl⟩
      obtain ⟨PO, hPO⟩ : ∃ x, (if G.1 = 0 then ops ++ [⟨3, fr, ⟨#[]⟩, ⟨#[]⟩⟩, ⟨1, fr, ⟨#[]⟩, dt⟩, ⟨2, fr, nm, ⟨#[]⟩⟩] else ops) = x := ⟨_, rfl⟩
      rw [hPL, hPO, hPC]
      have HP := hide (And.intro hPC (And.intro hPL hPO))
      clear hPC hPL hPO
      have HG0 := hide hG.symm
      have HF0 := hide hfs
      have HO0 := hide hO2
      clear hba hb0 hWa hW0 hr h hsa hs0 hd ha hxs hfs hO2 hln hG
      go_enter Try.func14, Try.ntmps14
      go_wp2_with fail
      rw [unhide HW0]
      refine (unhide HOK).mono ?_
      rintro e w1 ⟨rfl, hb1⟩
      obtain ⟨V0, hV0⟩ : ∃ V, V = w1.alloc (.cells #[.slice a1 live.length cL, .slice a2 safe.length cS, .slice a3 ops.length cO] 27) := ⟨_, rfl⟩
      have HB0 := hide (show Below W0.heap.size W0 V0 from by rw [hV0]; exact belOn hb1 (bel1 _ _))
      have HN0 := hide (show NowAt V0 w1.heap.size a1 cL live a2 cS safe a3 cO ops from by rw [hV0]; exact unhide HNB w1 hb1)
      have HNW := hide (show W0.heap.size ≤ w1.heap.size from hb1.size)
      have hne : ¬ w1.heap.size = w.heap.size := by have := hb1.size; have := unhide HS0; omega
      obtain ⟨q0, q1, q2⟩ := unhide HC _ hb1
      have lq := lt_of_cell q0
      have s0 := bcl (bel1 w1 (.cells #[.slice a1 live.length cL, .slice a2 safe.length cS, .slice a3 ops.length cO] 27)) lq q0
      have HV0 := hide hV0.symm
      clear hb1 hV0
      go_wp2_with fail
      rw [unhide HV0]
      refine (unhide HA _ (unhide HB0)).mono ?_
      rintro e w2 ⟨rfl, rfl⟩
      clear q0 q1 q2 s0
      have k0 := (unhide HN0).c0
      have k1 := (unhide HN0).c1
      have k2 := (unhide HN0).c2
      go_wp2_with fail
      clear k0 k1 k2
      have HAC := hide (l4Act_callsNQ _ _ _ live _ _ _ safe _ _ _ ops 3 fr ⟨#[]⟩ ⟨#[]⟩ V0 (unhide HN0).dk (unhide HF0) (unhide HO0) sm_r)
      have hG1 := (unhide HG0).trans (goA_cons live (ops).length ⟨3, fr, ⟨#[]⟩, ⟨#[]⟩⟩ [⟨1, fr, ⟨#[]⟩, dt⟩, ⟨2, fr, nm, ⟨#[]⟩⟩])
      by_cases hc : (goA live (ops).length [⟨3, fr, ⟨#[]⟩, ⟨#[]⟩⟩]).1 = 0
      · obtain ⟨-, hf1⟩ := goA_oneS hc
        have hn1 := (goA_oneS hc).1
        obtain ⟨L1, hL1⟩ : ∃ x, (goA live (ops).length [⟨3, fr, ⟨#[]⟩, ⟨#[]⟩⟩]).2 = x := ⟨_, rfl⟩
        rw [if_pos hc, hL1] at hG1
        rw [hL1] at hf1
        rw [hc, hL1, if_pos rfl, if_pos rfl] at HAC
        obtain ⟨P1, hP1⟩ : ∃ x, (ops ++ [(⟨3, fr, ⟨#[]⟩, ⟨#[]⟩⟩ : Dop)]) = x := ⟨_, rfl⟩
        rw [hP1] at HAC
        have hlP : P1.length = (ops).length + 1 := by rw [← hP1, List.length_append]; rfl
        have HG1 := hide (show G = goA L1 P1.length [⟨1, fr, ⟨#[]⟩, dt⟩, ⟨2, fr, nm, ⟨#[]⟩⟩] from by rw [hlP]; exact hG1)
        have HF1 := hide hf1
        have HO1 := hide (show P1.length ≤ 200 from by rw [hlP]; exact hn1)
        have HE1 := hide hP1
        have HLP := hide hlP
        clear hlP
        refine (unhide HAC).mono ?_
        rintro e v1 ⟨aL1, cL1, aS1, cS1, aO1, cO1, rfl, o1, o2, o3, ad, m1, m2, m3, hb⟩
        have y0 := bcl hb (unhide HN0).lt (unhide HN0).c0
        have y1 := bcl hb (unhide HN0).lt (unhide HN0).c1
        have y2 := bcl hb (unhide HN0).lt (unhide HN0).c2
        have x0 := (hb.frozen (p := ⟨w1.heap.size, 0, none⟩) (unhide HN0).lt).trans (unhide HN0).z0
        have x1 := (hb.frozen (p := ⟨w1.heap.size, 1, none⟩) (unhide HN0).lt).trans (unhide HN0).z1
        have x2 := (hb.frozen (p := ⟨w1.heap.size, 2, none⟩) (unhide HN0).lt).trans (unhide HN0).z2
        obtain ⟨q0, q1, q2⟩ := unhide HC _ (belOn (unhide HB0) hb)
        obtain ⟨V1, hV1⟩ : ∃ V, V = ((v1.setCell ⟨w1.heap.size, 0, none⟩ (.slice aL1 (L1).length cL1)).setCell ⟨w1.heap.size, 1, none⟩ (.slice aS1 safe.length cS1)).setCell ⟨w1.heap.size, 2, none⟩ (.slice aO1 (P1).length cO1) := ⟨_, rfl⟩
        have HB1 := hide (show Below W0.heap.size W0 V1 from by rw [hV1]; exact bel3 (belOn (unhide HB0) hb) (unhide HNW))
        have HN1 := hide (show NowAt V1 w1.heap.size aL1 cL1 L1 aS1 cS1 safe aO1 cO1 P1 from by
          rw [hV1]
          exact (unhide HN0).next hb o1 o2 o3 ad m1 m2 m3 (small_fit hf1) (fun x hx => by
            rw [← unhide HE1] at hx
            rcases List.mem_append.1 hx with hx | hx
            · exact (unhide HN0).dk.fo x hx
            · obtain rfl := List.mem_singleton.1 hx; exact sm_r) (by have := (files_small hf1).1; omega) (by have := unhide HLP; omega))
        have HV1 := hide hV1.symm
        clear hV1 o1 o2 o3 ad m1 m2 m3 hb hL1 hf1 hn1 hG1 hc HAC hP1 HLP
        go_wp2_with fail
        rw [unhide HV1]
        clear y0 y1 y2 x0 x1 x2 q0 q1 q2
        have HAC := hide (l4Act_callsNQ _ _ _ L1 _ _ _ safe _ _ _ P1 1 fr ⟨#[]⟩ dt V1 (unhide HN1).dk (unhide HF1) (unhide HO1) sm_x)
        have hG2 := (unhide HG1).trans (goA_cons L1 (P1).length ⟨1, fr, ⟨#[]⟩, dt⟩ [⟨2, fr, nm, ⟨#[]⟩⟩])
        by_cases hc : (goA L1 (P1).length [⟨1, fr, ⟨#[]⟩, dt⟩]).1 = 0
        · obtain ⟨-, hf2⟩ := goA_oneS hc
          have hn2 := (goA_oneS hc).1
          obtain ⟨L2, hL2⟩ : ∃ x, (goA L1 (P1).length [⟨1, fr, ⟨#[]⟩, dt⟩]).2 = x := ⟨_, rfl⟩
          rw [if_pos hc, hL2] at hG2
          rw [hL2] at hf2
          rw [hc, hL2, if_pos rfl, if_pos rfl] at HAC
          obtain ⟨P2, hP2⟩ : ∃ x, (P1 ++ [(⟨1, fr, ⟨#[]⟩, dt⟩ : Dop)]) = x := ⟨_, rfl⟩
          rw [hP2] at HAC
          have hlP : P2.length = (P1).length + 1 := by rw [← hP2, List.length_append]; rfl
          have HG2 := hide (show G = goA L2 P2.length [⟨2, fr, nm, ⟨#[]⟩⟩] from by rw [hlP]; exact hG2)
          have HF2 := hide hf2
          have HO2 := hide (show P2.length ≤ 200 from by rw [hlP]; exact hn2)
          have HE2 := hide hP2
          have HLP := hide hlP
          clear hlP
          refine (unhide HAC).mono ?_
          rintro e v2 ⟨aL2, cL2, aS2, cS2, aO2, cO2, rfl, o1, o2, o3, ad, m1, m2, m3, hb⟩
          have y0 := bcl hb (unhide HN1).lt (unhide HN1).c0
          have y1 := bcl hb (unhide HN1).lt (unhide HN1).c1
          have y2 := bcl hb (unhide HN1).lt (unhide HN1).c2
          have x0 := (hb.frozen (p := ⟨w1.heap.size, 0, none⟩) (unhide HN1).lt).trans (unhide HN1).z0
          have x1 := (hb.frozen (p := ⟨w1.heap.size, 1, none⟩) (unhide HN1).lt).trans (unhide HN1).z1
          have x2 := (hb.frozen (p := ⟨w1.heap.size, 2, none⟩) (unhide HN1).lt).trans (unhide HN1).z2
          obtain ⟨q0, q1, q2⟩ := unhide HC _ (belOn (unhide HB1) hb)
          obtain ⟨V2, hV2⟩ : ∃ V, V = ((v2.setCell ⟨w1.heap.size, 0, none⟩ (.slice aL2 (L2).length cL2)).setCell ⟨w1.heap.size, 1, none⟩ (.slice aS2 safe.length cS2)).setCell ⟨w1.heap.size, 2, none⟩ (.slice aO2 (P2).length cO2) := ⟨_, rfl⟩
          have HB2 := hide (show Below W0.heap.size W0 V2 from by rw [hV2]; exact bel3 (belOn (unhide HB1) hb) (unhide HNW))
          have HN2 := hide (show NowAt V2 w1.heap.size aL2 cL2 L2 aS2 cS2 safe aO2 cO2 P2 from by
            rw [hV2]
            exact (unhide HN1).next hb o1 o2 o3 ad m1 m2 m3 (small_fit hf2) (fun x hx => by
              rw [← unhide HE2] at hx
              rcases List.mem_append.1 hx with hx | hx
              · exact (unhide HN1).dk.fo x hx
              · obtain rfl := List.mem_singleton.1 hx; exact sm_x) (by have := (files_small hf2).1; omega) (by have := unhide HLP; omega))
          have HV2 := hide hV2.symm
          clear hV2 o1 o2 o3 ad m1 m2 m3 hb hL2 hf2 hn2 hG2 hc HAC hP2 HLP
          go_wp2_with fail
          rw [unhide HV2]
          clear y0 y1 y2 x0 x1 x2 q0 q1 q2
          have HAC := hide (l4Act_callsNQ _ _ _ L2 _ _ _ safe _ _ _ P2 2 fr nm ⟨#[]⟩ V2 (unhide HN2).dk (unhide HF2) (unhide HO2) sm_y)
          have hG3 := (unhide HG2).trans (goA_cons L2 (P2).length ⟨2, fr, nm, ⟨#[]⟩⟩ [])
          by_cases hc : (goA L2 (P2).length [⟨2, fr, nm, ⟨#[]⟩⟩]).1 = 0
          · obtain ⟨-, hf3⟩ := goA_oneS hc
            have hn3 := (goA_oneS hc).1
            obtain ⟨L3, hL3⟩ : ∃ x, (goA L2 (P2).length [⟨2, fr, nm, ⟨#[]⟩⟩]).2 = x := ⟨_, rfl⟩
            rw [if_pos hc, hL3] at hG3
            rw [hL3] at hf3
            rw [hc, hL3, if_pos rfl, if_pos rfl] at HAC
            obtain ⟨P3, hP3⟩ : ∃ x, (P2 ++ [(⟨2, fr, nm, ⟨#[]⟩⟩ : Dop)]) = x := ⟨_, rfl⟩
            rw [hP3] at HAC
            have hlP : P3.length = (P2).length + 1 := by rw [← hP3, List.length_append]; rfl
            have HG3 := hide (show G = goA L3 P3.length [] from by rw [hlP]; exact hG3)
            have HF3 := hide hf3
            have HO3 := hide (show P3.length ≤ 200 from by rw [hlP]; exact hn3)
            have HE3 := hide hP3
            have HLP := hide hlP
            clear hlP
            refine (unhide HAC).mono ?_
            rintro e v3 ⟨aL3, cL3, aS3, cS3, aO3, cO3, rfl, o1, o2, o3, ad, m1, m2, m3, hb⟩
            have y0 := bcl hb (unhide HN2).lt (unhide HN2).c0
            have y1 := bcl hb (unhide HN2).lt (unhide HN2).c1
            have y2 := bcl hb (unhide HN2).lt (unhide HN2).c2
            have x0 := (hb.frozen (p := ⟨w1.heap.size, 0, none⟩) (unhide HN2).lt).trans (unhide HN2).z0
            have x1 := (hb.frozen (p := ⟨w1.heap.size, 1, none⟩) (unhide HN2).lt).trans (unhide HN2).z1
            have x2 := (hb.frozen (p := ⟨w1.heap.size, 2, none⟩) (unhide HN2).lt).trans (unhide HN2).z2
            obtain ⟨q0, q1, q2⟩ := unhide HC _ (belOn (unhide HB2) hb)
            obtain ⟨V3, hV3⟩ : ∃ V, V = ((v3.setCell ⟨w1.heap.size, 0, none⟩ (.slice aL3 (L3).length cL3)).setCell ⟨w1.heap.size, 1, none⟩ (.slice aS3 safe.length cS3)).setCell ⟨w1.heap.size, 2, none⟩ (.slice aO3 (P3).length cO3) := ⟨_, rfl⟩
            have HB3 := hide (show Below W0.heap.size W0 V3 from by rw [hV3]; exact bel3 (belOn (unhide HB2) hb) (unhide HNW))
            have HN3 := hide (show NowAt V3 w1.heap.size aL3 cL3 L3 aS3 cS3 safe aO3 cO3 P3 from by
              rw [hV3]
              exact (unhide HN2).next hb o1 o2 o3 ad m1 m2 m3 (small_fit hf3) (fun x hx => by
                rw [← unhide HE3] at hx
                rcases List.mem_append.1 hx with hx | hx
                · exact (unhide HN2).dk.fo x hx
                · obtain rfl := List.mem_singleton.1 hx; exact sm_y) (by have := (files_small hf3).1; omega) (by have := unhide HLP; omega))
            have HV3 := hide hV3.symm
            clear hV3 o1 o2 o3 ad m1 m2 m3 hb hL3 hf3 hn3 hG3 hc HAC hP3 HLP
            go_wp2_with fail
            rw [unhide HV3]
            clear y0 y1 y2 x0 x1 x2 q0 q1 q2
            refine (l4Copy_callsN _ _ _ _ _ _ _ _ _ _ _ _ V3 (unhide HN3).dk).mono ?_
            rintro e wf ⟨xL, iL, xS, iS, xO, iO, B3, rfl, o1, o2, o3, ad, -, -, -, -, m1, m2, m3, hbf⟩
            have HBf := hide (belOn (unhide HB3) hbf)
            have HOf := hide (And.intro o1 (And.intro o2 (And.intro o3 (And.intro ad (And.intro m1 (And.intro m2 m3))))))
            obtain ⟨r0, z0⟩ := unhide HR _ (unhide HBf) 0 (by decide)
            obtain ⟨r1, z1⟩ := unhide HR _ (unhide HBf) 1 (by decide)
            obtain ⟨r2, z2⟩ := unhide HR _ (unhide HBf) 2 (by decide)
            have hzk := (unhide HB3).size
            clear o1 o2 o3 ad m1 m2 m3 hbf
            go_wp2_with fail
            refine bodyPost_ret (v := .tuple #[.agg #[.slice xL (L3).length iL, .slice xS safe.length iS, .slice xO (P3).length iO], .int .i64 0]) (by simp [results, Try.results14, go_sem, r0, r1, r2]) rfl ?_
            obtain ⟨o1, o2, o3, ad, m1, m2, m3⟩ := unhide HOf
            have hs0 := unhide HS0
            have hG : G = (0, L3) := unhide HG3
            obtain ⟨e1, e2, e3⟩ := unhide HP
            rw [hG] at e1 e2 e3
            have e1' : PC = 0 := e1.symm
            have e2' : PL = L3 := e2.symm
            have e3' : PO = P3 := e3.symm.trans (by rw [← unhide HE3, ← unhide HE2, ← unhide HE1]; simp)
            subst e1' e2' e3'
            exact spcRet0 (rb := w.heap.size + 1) o1 o2 o3 ad (fun k hk => by have := m1 k hk; omega) (fun k hk => by have := (m2 k hk).1; omega) (fun k hk => by have := (m3 k hk).1; omega) (by omega) (unhide HFIN _ (unhide HBf))
          · obtain ⟨C, hC⟩ : ∃ x, (goA L2 (P2).length [⟨2, fr, nm, ⟨#[]⟩⟩]).1 = x := ⟨_, rfl⟩
            rw [if_neg hc, hC] at hG3
            rw [hC] at hc HAC
            rw [if_neg hc, if_neg hc] at HAC
            have HG3 := hide (show G = (C, []) from hG3)
            have HNZ := hide hc
            have hcb : (C == (0 : Int)) = false := by rw [beq_eq_false_iff_ne]; exact hc
            refine (unhide HAC).mono ?_
            rintro e v3 ⟨aL3, cL3, aS3, cS3, aO3, cO3, rfl, o1, o2, o3, ad, m1, m2, m3, hb⟩
            have y0 := bcl hb (unhide HN2).lt (unhide HN2).c0
            have y1 := bcl hb (unhide HN2).lt (unhide HN2).c1
            have y2 := bcl hb (unhide HN2).lt (unhide HN2).c2
            have x0 := (hb.frozen (p := ⟨w1.heap.size, 0, none⟩) (unhide HN2).lt).trans (unhide HN2).z0
            have x1 := (hb.frozen (p := ⟨w1.heap.size, 1, none⟩) (unhide HN2).lt).trans (unhide HN2).z1
            have x2 := (hb.frozen (p := ⟨w1.heap.size, 2, none⟩) (unhide HN2).lt).trans (unhide HN2).z2
            obtain ⟨q0, q1, q2⟩ := unhide HC _ (belOn (unhide HB2) hb)
            obtain ⟨V3, hV3⟩ : ∃ V, V = ((v3.setCell ⟨w1.heap.size, 0, none⟩ (.slice aL3 (L2).length cL3)).setCell ⟨w1.heap.size, 1, none⟩ (.slice aS3 safe.length cS3)).setCell ⟨w1.heap.size, 2, none⟩ (.slice aO3 (P2).length cO3) := ⟨_, rfl⟩
            have HB3 := hide (show Below W0.heap.size W0 V3 from by rw [hV3]; exact bel3 (belOn (unhide HB2) hb) (unhide HNW))
            have HV3 := hide hV3.symm
            clear hV3 o1 o2 o3 ad m1 m2 m3 hb hG3 hC HAC
            go_wp2_with fail
            rw [unhide HV3]
            clear y0 y1 y2 x0 x1 x2 q0 q1 q2
            refine (unhide HCP _ (unhide HB3)).mono ?_
            rintro e wf ⟨xL, iL, xS, iS, xO, iO, B3, rfl, o1, o2, o3, ad, -, -, -, -, m1, m2, m3, hbf⟩
            have HBf := hide (belOn (unhide HB3) hbf)
            have HOf := hide (And.intro o1 (And.intro o2 (And.intro o3 (And.intro ad (And.intro m1 (And.intro m2 m3))))))
            obtain ⟨r0, z0⟩ := unhide HR _ (unhide HBf) 0 (by decide)
            obtain ⟨r1, z1⟩ := unhide HR _ (unhide HBf) 1 (by decide)
            obtain ⟨r2, z2⟩ := unhide HR _ (unhide HBf) 2 (by decide)
            have hzk := (unhide HB3).size
            clear o1 o2 o3 ad m1 m2 m3 hbf
            go_wp2_with fail
            refine bodyPost_ret (v := .tuple #[.agg #[.slice xL (live).length iL, .slice xS safe.length iS, .slice xO (ops).length iO], .int .i64 C]) (by simp [results, Try.results14, go_sem, r0, r1, r2]) rfl ?_
            obtain ⟨o1, o2, o3, ad, m1, m2, m3⟩ := unhide HOf
            have hs0 := unhide HS0
            have hG := unhide HG3
            obtain ⟨e1, e2, e3⟩ := unhide HP
            rw [hG] at e1 e2 e3
            have e1' : PC = C := e1.symm
            have e2' : PL = live := e2.symm.trans (if_neg (unhide HNZ))
            have e3' : PO = ops := e3.symm.trans (if_neg (unhide HNZ))
            subst e1' e2' e3'
            exact spcRet0 (rb := w.heap.size + 1) o1 o2 o3 ad (fun k hk => by have := m1 k hk; omega) (fun k hk => by have := (m2 k hk).1; omega) (fun k hk => by have := (m3 k hk).1; omega) (by omega) (unhide HFIN _ (unhide HBf))
        · obtain ⟨C, hC⟩ : ∃ x, (goA L1 (P1).length [⟨1, fr, ⟨#[]⟩, dt⟩]).1 = x := ⟨_, rfl⟩
          rw [if_neg hc, hC] at hG2
          rw [hC] at hc HAC
          rw [if_neg hc, if_neg hc] at HAC
          have HG2 := hide (show G = (C, []) from hG2)
          have HNZ := hide hc
          have hcb : (C == (0 : Int)) = false := by rw [beq_eq_false_iff_ne]; exact hc
          refine (unhide HAC).mono ?_
          rintro e v2 ⟨aL2, cL2, aS2, cS2, aO2, cO2, rfl, o1, o2, o3, ad, m1, m2, m3, hb⟩
          have y0 := bcl hb (unhide HN1).lt (unhide HN1).c0
          have y1 := bcl hb (unhide HN1).lt (unhide HN1).c1
          have y2 := bcl hb (unhide HN1).lt (unhide HN1).c2
          have x0 := (hb.frozen (p := ⟨w1.heap.size, 0, none⟩) (unhide HN1).lt).trans (unhide HN1).z0
          have x1 := (hb.frozen (p := ⟨w1.heap.size, 1, none⟩) (unhide HN1).lt).trans (unhide HN1).z1
          have x2 := (hb.frozen (p := ⟨w1.heap.size, 2, none⟩) (unhide HN1).lt).trans (unhide HN1).z2
          obtain ⟨q0, q1, q2⟩ := unhide HC _ (belOn (unhide HB1) hb)
          obtain ⟨V2, hV2⟩ : ∃ V, V = ((v2.setCell ⟨w1.heap.size, 0, none⟩ (.slice aL2 (L1).length cL2)).setCell ⟨w1.heap.size, 1, none⟩ (.slice aS2 safe.length cS2)).setCell ⟨w1.heap.size, 2, none⟩ (.slice aO2 (P1).length cO2) := ⟨_, rfl⟩
          have HB2 := hide (show Below W0.heap.size W0 V2 from by rw [hV2]; exact bel3 (belOn (unhide HB1) hb) (unhide HNW))
          have HV2 := hide hV2.symm
          clear hV2 o1 o2 o3 ad m1 m2 m3 hb hG2 hC HAC
          go_wp2_with fail
          rw [unhide HV2]
          clear y0 y1 y2 x0 x1 x2 q0 q1 q2
          refine (unhide HCP _ (unhide HB2)).mono ?_
          rintro e wf ⟨xL, iL, xS, iS, xO, iO, B3, rfl, o1, o2, o3, ad, -, -, -, -, m1, m2, m3, hbf⟩
          have HBf := hide (belOn (unhide HB2) hbf)
          have HOf := hide (And.intro o1 (And.intro o2 (And.intro o3 (And.intro ad (And.intro m1 (And.intro m2 m3))))))
          obtain ⟨r0, z0⟩ := unhide HR _ (unhide HBf) 0 (by decide)
          obtain ⟨r1, z1⟩ := unhide HR _ (unhide HBf) 1 (by decide)
          obtain ⟨r2, z2⟩ := unhide HR _ (unhide HBf) 2 (by decide)
          have hzk := (unhide HB2).size
          clear o1 o2 o3 ad m1 m2 m3 hbf
          go_wp2_with fail
          refine bodyPost_ret (v := .tuple #[.agg #[.slice xL (live).length iL, .slice xS safe.length iS, .slice xO (ops).length iO], .int .i64 C]) (by simp [results, Try.results14, go_sem, r0, r1, r2]) rfl ?_
          obtain ⟨o1, o2, o3, ad, m1, m2, m3⟩ := unhide HOf
          have hs0 := unhide HS0
          have hG := unhide HG2
          obtain ⟨e1, e2, e3⟩ := unhide HP
          rw [hG] at e1 e2 e3
          have e1' : PC = C := e1.symm
          have e2' : PL = live := e2.symm.trans (if_neg (unhide HNZ))
          have e3' : PO = ops := e3.symm.trans (if_neg (unhide HNZ))
          subst e1' e2' e3'
          exact spcRet0 (rb := w.heap.size + 1) o1 o2 o3 ad (fun k hk => by have := m1 k hk; omega) (fun k hk => by have := (m2 k hk).1; omega) (fun k hk => by have := (m3 k hk).1; omega) (by omega) (unhide HFIN _ (unhide HBf))
      · obtain ⟨C, hC⟩ : ∃ x, (goA live (ops).length [⟨3, fr, ⟨#[]⟩, ⟨#[]⟩⟩]).1 = x := ⟨_, rfl⟩
        rw [if_neg hc, hC] at hG1
        rw [hC] at hc HAC
        rw [if_neg hc, if_neg hc] at HAC
        have HG1 := hide (show G = (C, []) from hG1)
        have HNZ := hide hc
        have hcb : (C == (0 : Int)) = false := by rw [beq_eq_false_iff_ne]; exact hc
        refine (unhide HAC).mono ?_
        rintro e v1 ⟨aL1, cL1, aS1, cS1, aO1, cO1, rfl, o1, o2, o3, ad, m1, m2, m3, hb⟩
        have y0 := bcl hb (unhide HN0).lt (unhide HN0).c0
        have y1 := bcl hb (unhide HN0).lt (unhide HN0).c1
        have y2 := bcl hb (unhide HN0).lt (unhide HN0).c2
        have x0 := (hb.frozen (p := ⟨w1.heap.size, 0, none⟩) (unhide HN0).lt).trans (unhide HN0).z0
        have x1 := (hb.frozen (p := ⟨w1.heap.size, 1, none⟩) (unhide HN0).lt).trans (unhide HN0).z1
        have x2 := (hb.frozen (p := ⟨w1.heap.size, 2, none⟩) (unhide HN0).lt).trans (unhide HN0).z2
        obtain ⟨q0, q1, q2⟩ := unhide HC _ (belOn (unhide HB0) hb)
        obtain ⟨V1, hV1⟩ : ∃ V, V = ((v1.setCell ⟨w1.heap.size, 0, none⟩ (.slice aL1 (live).length cL1)).setCell ⟨w1.heap.size, 1, none⟩ (.slice aS1 safe.length cS1)).setCell ⟨w1.heap.size, 2, none⟩ (.slice aO1 (ops).length cO1) := ⟨_, rfl⟩
        have HB1 := hide (show Below W0.heap.size W0 V1 from by rw [hV1]; exact bel3 (belOn (unhide HB0) hb) (unhide HNW))
        have HV1 := hide hV1.symm
        clear hV1 o1 o2 o3 ad m1 m2 m3 hb hG1 hC HAC
        go_wp2_with fail
        rw [unhide HV1]
        clear y0 y1 y2 x0 x1 x2 q0 q1 q2
        refine (unhide HCP _ (unhide HB1)).mono ?_
        rintro e wf ⟨xL, iL, xS, iS, xO, iO, B3, rfl, o1, o2, o3, ad, -, -, -, -, m1, m2, m3, hbf⟩
        have HBf := hide (belOn (unhide HB1) hbf)
        have HOf := hide (And.intro o1 (And.intro o2 (And.intro o3 (And.intro ad (And.intro m1 (And.intro m2 m3))))))
        obtain ⟨r0, z0⟩ := unhide HR _ (unhide HBf) 0 (by decide)
        obtain ⟨r1, z1⟩ := unhide HR _ (unhide HBf) 1 (by decide)
        obtain ⟨r2, z2⟩ := unhide HR _ (unhide HBf) 2 (by decide)
        have hzk := (unhide HB1).size
        clear o1 o2 o3 ad m1 m2 m3 hbf
        go_wp2_with fail
        refine bodyPost_ret (v := .tuple #[.agg #[.slice xL (live).length iL, .slice xS safe.length iS, .slice xO (ops).length iO], .int .i64 C]) (by simp [results, Try.results14, go_sem, r0, r1, r2]) rfl ?_
        obtain ⟨o1, o2, o3, ad, m1, m2, m3⟩ := unhide HOf
        have hs0 := unhide HS0
        have hG := unhide HG1
        obtain ⟨e1, e2, e3⟩ := unhide HP
        rw [hG] at e1 e2 e3
        have e1' : PC = C := e1.symm
        have e2' : PL = live := e2.symm.trans (if_neg (unhide HNZ))
        have e3' : PO = ops := e3.symm.trans (if_neg (unhide HNZ))
        subst e1' e2' e3'
        exact spcRet0 (rb := w.heap.size + 1) o1 o2 o3 ad (fun k hk => by have := m1 k hk; omega) (fun k hk => by have := (m2 k hk).1; omega) (fun k hk => by have := (m3 k hk).1; omega) (by omega) (unhide HFIN _ (unhide HBf))
end Go.Proofs.Ytknpccpfjclngaa
