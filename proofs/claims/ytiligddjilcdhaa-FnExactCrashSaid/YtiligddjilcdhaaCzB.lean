/- Texts of one kind, put together. -/
import Derived.Test.YtiligddjilcdhaaRzA
import Derived.Test.YtiligddjilcdhaaRzB
import Derived.Test.YtiligddjilcdhaaDskN
import Derived.Test.YtiligddjilcdhaaCzA
import Derived.Deep.QuietTactic
import Derived.BigQuiet
import Derived.Test.YtiligddjilcdhaaIntR
import Derived.Test.YtiligddjilcdhaaOnlP

/- A file replaced, by the specification. -/
namespace Go.Proofs.Ytiligddjilcdhaa
open Go.RowKit Plain
set_option linter.unusedVariables false

namespace Plain
theorem goA_cons (fs : List Fl) (n : Nat) (o : Dop) (l : List Dop) : goA fs n (o :: l) = if (goA fs n [o]).1 = 0 then goA (goA fs n [o]).2 (n + 1) l else ((goA fs n [o]).1, []) := by
  simp only [goA]
  split
  · split
    · split
      · simp
      · simp
    · simp
  · simp
theorem goA_one {fs : List Fl} {n : Nat} {o : Dop} (h : (goA fs n [o]).1 = 0) : n < 200 ∧ filesB (goA fs n [o]).2 = true := by
  simp only [goA] at h ⊢
  split at h
  · split at h
    · split at h
      · rename_i h1 h2 h3
        simp only [Bool.and_eq_true, decide_eq_true_eq] at h3
        rw [if_pos h1, if_pos h2, if_pos (by simp [h3.1, h3.2])]
        exact h3
      · simp at h
    · simp at h
  · simp at h
/-- The block nb holds a disk that is being made. -/
structure NowAt (W : World) (nb : Nat) (aL : Option Addr) (cL : Nat) (live : List Fl) (aS : Option Addr) (cS : Nat) (safe : List Fl) (aO : Option Addr) (cO : Nat) (ops : List Dop) : Prop where
  dk : DiskAt W aL live.length cL live aS safe.length cS safe aO ops.length cO ops
  lt : nb < W.heap.size
  c0 : W.cell? ⟨nb, 0, none⟩ = some (.slice aL live.length cL)
  c1 : W.cell? ⟨nb, 1, none⟩ = some (.slice aS safe.length cS)
  c2 : W.cell? ⟨nb, 2, none⟩ = some (.slice aO ops.length cO)
  z0 : W.frozen? ⟨nb, 0, none⟩ = false
  z1 : W.frozen? ⟨nb, 1, none⟩ = false
  z2 : W.frozen? ⟨nb, 2, none⟩ = false
theorem NowAt.next {W w' : World} {nb : Nat} {aL aS aO aL' aS' aO' : Option Addr} {cL cS cO cL' cS' cO' : Nat} {live safe live' : List Fl} {ops ops' : List Dop} (h : NowAt W nb aL cL live aS cS safe aO cO ops) (hb : Below W.heap.size W w')
    (r1 : RowAt fileE w' aL' live') (r2 : RowAt fileE w' aS' safe) (r3 : RowAt dopE w' aO' ops') (ad : AdOk aL' cL' ∧ AdOk aS' cS' ∧ AdOk aO' cO') (m1 : ∀ k, inB aL' k → W.heap.size ≤ k) (m2 : ∀ k, inB aS' k → W.heap.size ≤ k) (m3 : ∀ k, inB aO' k → W.heap.size ≤ k)
    (f1 : FitF live') (fo : ∀ o ∈ ops', SmO o) (l1 : live'.length ≤ 1048576) (l3 : ops'.length ≤ 1048576) :
    NowAt (((w'.setCell ⟨nb, 0, none⟩ (.slice aL' live'.length cL')).setCell ⟨nb, 1, none⟩ (.slice aS' safe.length cS')).setCell ⟨nb, 2, none⟩ (.slice aO' ops'.length cO')) nb aL' cL' live' aS' cS' safe aO' cO' ops' := by
  have hl := h.lt
  have h0 := bcl hb hl h.c0
  have h1 := bcl hb hl h.c1
  have h2 := bcl hb hl h.c2
  have k0 : (w'.setCell ⟨nb, 0, none⟩ (.slice aL' live'.length cL')).cell? ⟨nb, 0, none⟩ = some (.slice aL' live'.length cL') := cell_set h0
  have k1 : ((w'.setCell ⟨nb, 0, none⟩ (.slice aL' live'.length cL')).setCell ⟨nb, 1, none⟩ (.slice aS' safe.length cS')).cell? ⟨nb, 1, none⟩ = some (.slice aS' safe.length cS') := cell_set ((cell_off (.inr (by decide))).trans h1)
  have e1 : ∀ k, inB aL' k → k ≠ nb := fun k hk => by have := m1 k hk; omega
  have e2 : ∀ k, inB aS' k → k ≠ nb := fun k hk => by have := m2 k hk; omega
  have e3 : ∀ k, inB aO' k → k ≠ nb := fun k hk => by have := m3 k hk; omega
  refine ⟨⟨r1.set3 e1, r2.set3 e2, r3.set3 e3, rfl, rfl, rfl, ad.1, ad.2.1, ad.2.2, f1, h.dk.fs, fo, l1, h.dk.bs, l3⟩, by simpa using Nat.lt_of_lt_of_le hl hb.size, (cell_off (.inr (by decide))).trans ((cell_off (.inr (by decide))).trans k0), (cell_off (.inr (by decide))).trans k1, cell_set ((cell_off (.inr (by decide))).trans ((cell_off (.inr (by decide))).trans h2)), ?_, ?_, ?_⟩
  · simp only [World.frozen?_setCell]; exact (hb.frozen (p := ⟨nb, 0, none⟩) hl).trans h.z0
  · simp only [World.frozen?_setCell]; exact (hb.frozen (p := ⟨nb, 1, none⟩) hl).trans h.z1
  · simp only [World.frozen?_setCell]; exact (hb.frozen (p := ⟨nb, 2, none⟩) hl).trans h.z2
theorem bel3 {B nb : Nat} {w w' : World} {v0 v1 v2 : Value} (h : Below B w w') (hn : B ≤ nb) : Below B w (((w'.setCell ⟨nb, 0, none⟩ v0).setCell ⟨nb, 1, none⟩ v1).setCell ⟨nb, 2, none⟩ v2) := ((h.setCell hn _).setCell hn _).setCell hn _
theorem spcRet0 {f : Value → Value} {w w7 : World} {rb : Nat} {y1 y2 y3 : Option Addr} {k1 k2 k3 : Nat} {live safe : List Fl} {ops : List Dop} (h1 : RowAt fileE w7 y1 live) (h2 : RowAt fileE w7 y2 safe) (h3 : RowAt dopE w7 y3 ops) (had : AdOk y1 k1 ∧ AdOk y2 k2 ∧ AdOk y3 k3) (m1 : ∀ k, inB y1 k → rb < k) (m2 : ∀ k, inB y2 k → rb < k) (m3 : ∀ k, inB y3 k → rb < k)
    (hrb : w.heap.size ≤ rb) (hb : Below w.heap.size w w7) : SpcQ f live safe ops w (.returned (f (.agg #[.slice y1 live.length k1, .slice y2 safe.length k2, .slice y3 ops.length k3]))) (((w7.setCell ⟨rb, 0, none⟩ (.slice y1 live.length k1)).setCell ⟨rb, 1, none⟩ (.slice y2 safe.length k2)).setCell ⟨rb, 2, none⟩ (.slice y3 ops.length k3)) :=
  spcRetQ h1 h2 h3 had (fun k hk => by have := m1 k hk; omega) (fun k hk => by have := m2 k hk; omega) (fun k hk => by have := m3 k hk; omega) hrb hb
end Plain

theorem Plain.strAddR {a b : ByteArray} (W : World) (h : a.size + b.size ≤ 1000000000000) : (Op.stringOp .add a b).run Try.prog W = .ok (.string (a ++ b)) W := by
  have h1 : ¬ ((a.size + b.size : Nat) : Int) > IntKind.i64.max := by rw [show IntKind.i64.max = 9223372036854775807 from rfl]; omega
  unfold Op.stringOp
  simp only [if_neg h1]
  rfl

set_option maxRecDepth 10000 in
set_option maxHeartbeats 16000000 in
theorem spec_Replace (a1 : Option Addr) (nL cL : Nat) (live : List Fl) (a2 : Option Addr) (nS cS : Nat) (safe : List Fl) (a3 : Option Addr) (nO cO : Nat) (ops : List Dop) (nm dt fr : ByteArray) (w : World) (h : DiskAt w a1 nL cL live a2 nS cS safe a3 nO cO ops) (hnm : nm.size ≤ 100000000) (hdt : dt.size ≤ 100000000) (hfr : nm ++ ⟨#[46, 110, 101, 119]⟩ = fr) :
    Calls Try.prog 15 #[.agg #[.slice a1 nL cL, .slice a2 nS cS, .slice a3 nO cO], .string nm, .string dt] w (SpcQ (fun v => .tuple #[v, .int .i64 (actC live safe ops (repX live safe ops fr nm dt))]) (actL live safe ops (repX live safe ops fr nm dt)) (actS live safe ops) (actO live safe ops (repX live safe ops fr nm dt)) w) := by
  have hfz : fr.size ≤ 100000004 := by rw [← hfr, ByteArray.size_append]; show nm.size + 4 ≤ _; omega
  have hll := h.ll
  have hls := h.ls
  have hlo := h.lo
  subst hll hls hlo
  obtain ⟨Wa, hWa⟩ : ∃ Wa, Wa = w.alloc (.cells #[.slice a1 live.length cL, .slice a2 safe.length cS, .slice a3 ops.length cO] 31) := ⟨_, rfl⟩
  obtain ⟨W0, hW0⟩ : ∃ W0, W0 = Wa.alloc (.cells #[.slice none 0 0, .slice none 0 0, .slice none 0 0] 31) := ⟨_, rfl⟩
  have hba : Below w.heap.size w Wa := by rw [hWa]; exact bel1 _ _
  have hsa : Wa.heap.size = w.heap.size + 1 := by rw [hWa]; simp
  have hs0 : W0.heap.size = w.heap.size + 2 := by rw [hW0]; simp [hsa]
  have hb0 : Below Wa.heap.size Wa W0 := by rw [hW0]; exact bel1 _ _
  have c0 : W0.cell? ⟨w.heap.size, 0, none⟩ = some (.slice a1 live.length cL) := bcl hb0 (by omega) (by rw [hWa]; simp [go_sem])
  have c1 : W0.cell? ⟨w.heap.size, 1, none⟩ = some (.slice a2 safe.length cS) := bcl hb0 (by omega) (by rw [hWa]; simp [go_sem])
  have c2 : W0.cell? ⟨w.heap.size, 2, none⟩ = some (.slice a3 ops.length cO) := bcl hb0 (by omega) (by rw [hWa]; simp [go_sem])
  have hr : ∀ i, i < 3 → W0.cell? ⟨w.heap.size + 1, i, none⟩ = some (.slice none 0 0) ∧ W0.frozen? ⟨w.heap.size + 1, i, none⟩ = false := by
    intro i hi
    rw [hW0, ← hsa]
    rcases i with _ | _ | _ | i
    all_goals first | omega | simp [go_sem]
  have HC := hide (fun (W : World) (hW : Below W0.heap.size W0 W) => And.intro (bcl hW (show w.heap.size < W0.heap.size by omega) c0) (And.intro (bcl hW (show w.heap.size < W0.heap.size by omega) c1) (bcl hW (show w.heap.size < W0.heap.size by omega) c2)))
  have HR := hide (fun (W : World) (hW : Below W0.heap.size W0 W) (i : Nat) (hi : i < 3) => And.intro (bcl hW (show w.heap.size + 1 < W0.heap.size by omega) (hr i hi).1) ((hW.frozen (p := ⟨w.heap.size + 1, i, none⟩) (show w.heap.size + 1 < W0.heap.size by omega)).trans (hr i hi).2))
  have HFIN := hide (fun (W : World) (hW : Below W0.heap.size W0 W) => belOn (belOn hba hb0) hW)
  have HD := hide (fun (W : World) (hW : Below W0.heap.size W0 W) => (h.below (belOn hba hb0)).below hW)
  have HW0 := hide (show (w.alloc (.cells #[.slice a1 live.length cL, .slice a2 safe.length cS, .slice a3 ops.length cO] 31)).alloc (.cells #[.slice none 0 0, .slice none 0 0, .slice none 0 0] 31) = W0 from by rw [hW0, hWa])
  have HS0 := hide hs0
  have HOK := hide (spec_DiskOk a1 live.length cL live a2 safe.length cS safe a3 ops.length cO ops W0 (unhide HD _ (Below.refl _ _)))
  have HCP := hide (fun (W : World) (hW : Below W0.heap.size W0 W) => l4Copy_calls a1 live.length cL live a2 safe.length cS safe a3 ops.length cO ops W (unhide HD _ hW))
  have sm_x : SmO ⟨1, fr, ⟨#[]⟩, dt⟩ := ⟨by show fr.size ≤ _; omega, by show (0 : Nat) ≤ _; omega, by show dt.size ≤ _; omega⟩
  have sm_y : SmO ⟨2, fr, nm, ⟨#[]⟩⟩ := ⟨by show fr.size ≤ _; omega, by show nm.size ≤ _; omega, by show (0 : Nat) ≤ _; omega⟩
  have sm_r : SmO ⟨3, fr, ⟨#[]⟩, ⟨#[]⟩⟩ := ⟨by show fr.size ≤ _; omega, by show (0 : Nat) ≤ _; omega, by show (0 : Nat) ≤ _; omega⟩
  have hadd := fun W => strAddR (a := nm) (b := ⟨#[46, 110, 101, 119]⟩) W (by show nm.size + 4 ≤ _; omega)
  rw [hfr] at hadd
  have HFO := hide h.fo
  have hbo := h.bo
  have hbl := h.bl
  unfold repX readF actC actL actS actO
  cases hd : diskB live safe ops with
  | false =>
    rw [hd] at HOK
    simp only [Bool.false_eq_true, if_false]
    clear hba hb0 hWa hW0 hr h hsa hs0 hd hadd
    go_enter Try.func15, Try.ntmps15
    go_wp2_with fail
    rw [unhide HW0]
    refine (unhide HOK).mono ?_
    rintro e w1 ⟨rfl, hb1⟩
    have HB1 := hide hb1
    obtain ⟨r0, z0⟩ := unhide HR _ hb1 0 (by decide)
    obtain ⟨r1, z1⟩ := unhide HR _ hb1 1 (by decide)
    obtain ⟨r2, z2⟩ := unhide HR _ hb1 2 (by decide)
    clear hb1 c0 c1 c2
    go_wp2_with fail
    refine bodyPost_ret (v := .tuple #[.agg #[.slice none 0 0, .slice none 0 0, .slice none 0 0], .int .i64 1]) (by simp [results, Try.results15, go_sem, r0, r1, r2]) rfl ?_
    exact spcRet0 (live := []) (safe := []) (ops := []) (rb := w.heap.size + 1) (rowNil2 _ _ _) (rowNil2 _ _ _) (rowNil2 _ _ _) ⟨.inl ⟨rfl, rfl⟩, .inl ⟨rfl, rfl⟩, .inl ⟨rfl, rfl⟩⟩ (fun k ⟨o, e⟩ => by cases e) (fun k ⟨o, e⟩ => by cases e) (fun k ⟨o, e⟩ => by cases e) (by omega) (unhide HFIN _ (unhide HB1))
  | true =>
    have hfs := disk_liv2 hd
    have hO2 : ops.length ≤ 200 := by
      have hd2 := hd
      unfold diskB at hd2
      simp only [Bool.and_eq_true, decide_eq_true_eq] at hd2
      omega
    rw [hd] at HOK
    have HRI := hide (files_ok hfs).2
    have hln := (files_small hfs).1
    have HA := hide (fun (W : World) (hW : Below W0.heap.size W0 W) => l4At_calls a1 live.length cL live fr W rfl (by omega) (unhide HD _ hW).rl)
    simp only [if_true]
    have NB := fun (V : World) (hV : Below W0.heap.size W0 V) => (show NowAt (V.alloc (.cells #[.slice a1 live.length cL, .slice a2 safe.length cS, .slice a3 ops.length cO] 31)) V.heap.size a1 cL live a2 cS safe a3 cO ops from ⟨(unhide HD V hV).below (bel1 _ _), by simp, by simp [go_sem], by simp [go_sem], by simp [go_sem], by simp [go_sem], by simp [go_sem], by simp [go_sem]⟩)
    have HNB := hide NB
    clear NB
    cases ha : atF fr live with
    | none =>
      have hxs : (if (tabF live fr).isSome = true then [(⟨3, fr, ⟨#[]⟩, ⟨#[]⟩⟩ : Dop), ⟨1, fr, ⟨#[]⟩, dt⟩, ⟨2, fr, nm, ⟨#[]⟩⟩] else [⟨1, fr, ⟨#[]⟩, dt⟩, ⟨2, fr, nm, ⟨#[]⟩⟩]) = [⟨1, fr, ⟨#[]⟩, dt⟩, ⟨2, fr, nm, ⟨#[]⟩⟩] := by rw [tab_at_none (unhide HRI) ha]; rfl
      rw [ha] at HA
      have HAV : atV none = -1 := rfl
      rw [HAV] at HA
      rw [hxs]
      obtain ⟨G, hG⟩ : ∃ G, goA live ops.length [⟨1, fr, ⟨#[]⟩, dt⟩, ⟨2, fr, nm, ⟨#[]⟩⟩] = G := ⟨_, rfl⟩
      rw [hG]
      obtain ⟨PC, hPC⟩ : ∃ x, G.1 = x := ⟨_, rfl⟩
      obtain ⟨PL, hPL⟩ : ∃ x, (if G.1 = 0 then G.2 else live) = x := ⟨_, rfl⟩
      obtain ⟨PO, hPO⟩ : ∃ x, (if G.1 = 0 then ops ++ [⟨1, fr, ⟨#[]⟩, dt⟩, ⟨2, fr, nm, ⟨#[]⟩⟩] else ops) = x := ⟨_, rfl⟩
      rw [hPL, hPO, hPC]
      have HP := hide (And.intro hPC (And.intro hPL hPO))
      clear hPC hPL hPO
      have HG0 := hide hG.symm
      have HF0 := hide hfs
      have HO0 := hide hO2
      clear hba hb0 hWa hW0 hr h hsa hs0 hd ha hxs hfs hO2 hln hG
      go_enter Try.func15, Try.ntmps15
      go_wp2_with fail
      rw [unhide HW0]
      refine (unhide HOK).mono ?_
      rintro e w1 ⟨rfl, hb1⟩
      obtain ⟨V0, hV0⟩ : ∃ V, V = w1.alloc (.cells #[.slice a1 live.length cL, .slice a2 safe.length cS, .slice a3 ops.length cO] 31) := ⟨_, rfl⟩
      have HB0 := hide (show Below W0.heap.size W0 V0 from by rw [hV0]; exact belOn hb1 (bel1 _ _))
      have HN0 := hide (show NowAt V0 w1.heap.size a1 cL live a2 cS safe a3 cO ops from by rw [hV0]; exact unhide HNB w1 hb1)
      have HNW := hide (show W0.heap.size ≤ w1.heap.size from hb1.size)
      have hne : ¬ w1.heap.size = w.heap.size := by have := hb1.size; have := unhide HS0; omega
      obtain ⟨q0, q1, q2⟩ := unhide HC _ hb1
      have lq := lt_of_cell q0
      have s0 := bcl (bel1 w1 (.cells #[.slice a1 live.length cL, .slice a2 safe.length cS, .slice a3 ops.length cO] 31)) lq q0
      have HV0 := hide hV0.symm
      clear hb1 hV0
      go_wp2_with fail
      rw [unhide HV0]
      refine (unhide HA _ (unhide HB0)).mono ?_
      rintro e w2 ⟨rfl, rfl⟩
      clear q0 q1 q2 s0
      have k0 := (unhide HN0).c0
      have k1 := (unhide HN0).c1
      have k2 := (unhide HN0).c2
      go_wp2_with fail
      clear k0 k1 k2
      have HAC := hide (l4Act_calls _ _ _ live _ _ _ safe _ _ _ ops 1 fr ⟨#[]⟩ dt V0 (unhide HN0).dk (unhide HF0) (unhide HO0) sm_x)
      have hG1 := (unhide HG0).trans (goA_cons live (ops).length ⟨1, fr, ⟨#[]⟩, dt⟩ [⟨2, fr, nm, ⟨#[]⟩⟩])
      by_cases hc : (goA live (ops).length [⟨1, fr, ⟨#[]⟩, dt⟩]).1 = 0
      · obtain ⟨-, hf1⟩ := goA_one hc
        have hn1 := (goA_one hc).1
        obtain ⟨L1, hL1⟩ : ∃ x, (goA live (ops).length [⟨1, fr, ⟨#[]⟩, dt⟩]).2 = x := ⟨_, rfl⟩
        rw [if_pos hc, hL1] at hG1
        rw [hL1] at hf1
        rw [hc, hL1, if_pos rfl, if_pos rfl] at HAC
        obtain ⟨P1, hP1⟩ : ∃ x, (ops ++ [(⟨1, fr, ⟨#[]⟩, dt⟩ : Dop)]) = x := ⟨_, rfl⟩
        rw [hP1] at HAC
        have hlP : P1.length = (ops).length + 1 := by rw [← hP1, List.length_append]; rfl
        have HG1 := hide (show G = goA L1 P1.length [⟨2, fr, nm, ⟨#[]⟩⟩] from by rw [hlP]; exact hG1)
        have HF1 := hide hf1
        have HO1 := hide (show P1.length ≤ 200 from by rw [hlP]; exact hn1)
        have HE1 := hide hP1
        have HLP := hide hlP
        clear hlP
        refine (unhide HAC).mono ?_
        rintro e v1 ⟨aL1, cL1, aS1, cS1, aO1, cO1, rfl, o1, o2, o3, ad, m1, m2, m3, hb⟩
        have y0 := bcl hb (unhide HN0).lt (unhide HN0).c0
        have y1 := bcl hb (unhide HN0).lt (unhide HN0).c1
        have y2 := bcl hb (unhide HN0).lt (unhide HN0).c2
        have x0 := (hb.frozen (p := ⟨w1.heap.size, 0, none⟩) (unhide HN0).lt).trans (unhide HN0).z0
        have x1 := (hb.frozen (p := ⟨w1.heap.size, 1, none⟩) (unhide HN0).lt).trans (unhide HN0).z1
        have x2 := (hb.frozen (p := ⟨w1.heap.size, 2, none⟩) (unhide HN0).lt).trans (unhide HN0).z2
        obtain ⟨q0, q1, q2⟩ := unhide HC _ (belOn (unhide HB0) hb)
        obtain ⟨V1, hV1⟩ : ∃ V, V = ((v1.setCell ⟨w1.heap.size, 0, none⟩ (.slice aL1 (L1).length cL1)).setCell ⟨w1.heap.size, 1, none⟩ (.slice aS1 safe.length cS1)).setCell ⟨w1.heap.size, 2, none⟩ (.slice aO1 (P1).length cO1) := ⟨_, rfl⟩
        have HB1 := hide (show Below W0.heap.size W0 V1 from by rw [hV1]; exact bel3 (belOn (unhide HB0) hb) (unhide HNW))
        have HN1 := hide (show NowAt V1 w1.heap.size aL1 cL1 L1 aS1 cS1 safe aO1 cO1 P1 from by
          rw [hV1]
          exact (unhide HN0).next hb o1 o2 o3 ad m1 m2 m3 (small_fit hf1) (fun x hx => by
            rw [← unhide HE1] at hx
            rcases List.mem_append.1 hx with hx | hx
            · exact (unhide HN0).dk.fo x hx
            · obtain rfl := List.mem_singleton.1 hx; exact sm_x) (by have := (files_small hf1).1; omega) (by have := unhide HLP; omega))
        have HV1 := hide hV1.symm
        clear hV1 o1 o2 o3 ad m1 m2 m3 hb hL1 hf1 hn1 hG1 hc HAC hP1 HLP
        go_wp2_with fail
        rw [unhide HV1]
        clear y0 y1 y2 x0 x1 x2 q0 q1 q2
        have HAC := hide (l4Act_calls _ _ _ L1 _ _ _ safe _ _ _ P1 2 fr nm ⟨#[]⟩ V1 (unhide HN1).dk (unhide HF1) (unhide HO1) sm_y)
        have hG2 := (unhide HG1).trans (goA_cons L1 (P1).length ⟨2, fr, nm, ⟨#[]⟩⟩ [])
        by_cases hc : (goA L1 (P1).length [⟨2, fr, nm, ⟨#[]⟩⟩]).1 = 0
        · obtain ⟨-, hf2⟩ := goA_one hc
          have hn2 := (goA_one hc).1
          obtain ⟨L2, hL2⟩ : ∃ x, (goA L1 (P1).length [⟨2, fr, nm, ⟨#[]⟩⟩]).2 = x := ⟨_, rfl⟩
          rw [if_pos hc, hL2] at hG2
          rw [hL2] at hf2
          rw [hc, hL2, if_pos rfl, if_pos rfl] at HAC
          obtain ⟨P2, hP2⟩ : ∃ x, (P1 ++ [(⟨2, fr, nm, ⟨#[]⟩⟩ : Dop)]) = x := ⟨_, rfl⟩
          rw [hP2] at HAC
          have hlP : P2.length = (P1).length + 1 := by rw [← hP2, List.length_append]; rfl
          have HG2 := hide (show G = goA L2 P2.length [] from by rw [hlP]; exact hG2)
          have HF2 := hide hf2
          have HO2 := hide (show P2.length ≤ 200 from by rw [hlP]; exact hn2)
          have HE2 := hide hP2
          have HLP := hide hlP
          clear hlP
          refine (unhide HAC).mono ?_
          rintro e v2 ⟨aL2, cL2, aS2, cS2, aO2, cO2, rfl, o1, o2, o3, ad, m1, m2, m3, hb⟩
          have y0 := bcl hb (unhide HN1).lt (unhide HN1).c0
          have y1 := bcl hb (unhide HN1).lt (unhide HN1).c1
          have y2 := bcl hb (unhide HN1).lt (unhide HN1).c2
          have x0 := (hb.frozen (p := ⟨w1.heap.size, 0, none⟩) (unhide HN1).lt).trans (unhide HN1).z0
          have x1 := (hb.frozen (p := ⟨w1.heap.size, 1, none⟩) (unhide HN1).lt).trans (unhide HN1).z1
          have x2 := (hb.frozen (p := ⟨w1.heap.size, 2, none⟩) (unhide HN1).lt).trans (unhide HN1).z2
          obtain ⟨q0, q1, q2⟩ := unhide HC _ (belOn (unhide HB1) hb)
          obtain ⟨V2, hV2⟩ : ∃ V, V = ((v2.setCell ⟨w1.heap.size, 0, none⟩ (.slice aL2 (L2).length cL2)).setCell ⟨w1.heap.size, 1, none⟩ (.slice aS2 safe.length cS2)).setCell ⟨w1.heap.size, 2, none⟩ (.slice aO2 (P2).length cO2) := ⟨_, rfl⟩
          have HB2 := hide (show Below W0.heap.size W0 V2 from by rw [hV2]; exact bel3 (belOn (unhide HB1) hb) (unhide HNW))
          have HN2 := hide (show NowAt V2 w1.heap.size aL2 cL2 L2 aS2 cS2 safe aO2 cO2 P2 from by
            rw [hV2]
            exact (unhide HN1).next hb o1 o2 o3 ad m1 m2 m3 (small_fit hf2) (fun x hx => by
              rw [← unhide HE2] at hx
              rcases List.mem_append.1 hx with hx | hx
              · exact (unhide HN1).dk.fo x hx
              · obtain rfl := List.mem_singleton.1 hx; exact sm_y) (by have := (files_small hf2).1; omega) (by have := unhide HLP; omega))
          have HV2 := hide hV2.symm
          clear hV2 o1 o2 o3 ad m1 m2 m3 hb hL2 hf2 hn2 hG2 hc HAC hP2 HLP
          go_wp2_with fail
          rw [unhide HV2]
          clear y0 y1 y2 x0 x1 x2 q0 q1 q2
          refine (l4Copy_calls _ _ _ _ _ _ _ _ _ _ _ _ V2 (unhide HN2).dk).mono ?_
          rintro e wf ⟨xL, iL, xS, iS, xO, iO, B3, rfl, o1, o2, o3, ad, -, -, -, -, m1, m2, m3, hbf⟩
          have HBf := hide (belOn (unhide HB2) hbf)
          have HOf := hide (And.intro o1 (And.intro o2 (And.intro o3 (And.intro ad (And.intro m1 (And.intro m2 m3))))))
          obtain ⟨r0, z0⟩ := unhide HR _ (unhide HBf) 0 (by decide)
          obtain ⟨r1, z1⟩ := unhide HR _ (unhide HBf) 1 (by decide)
          obtain ⟨r2, z2⟩ := unhide HR _ (unhide HBf) 2 (by decide)
          have hzk := (unhide HB2).size
          clear o1 o2 o3 ad m1 m2 m3 hbf
          go_wp2_with fail
          refine bodyPost_ret (v := .tuple #[.agg #[.slice xL (L2).length iL, .slice xS safe.length iS, .slice xO (P2).length iO], .int .i64 0]) (by simp [results, Try.results15, go_sem, r0, r1, r2]) rfl ?_
          obtain ⟨o1, o2, o3, ad, m1, m2, m3⟩ := unhide HOf
          have hs0 := unhide HS0
          have hG : G = (0, L2) := unhide HG2
          obtain ⟨e1, e2, e3⟩ := unhide HP
          rw [hG] at e1 e2 e3
          have e1' : PC = 0 := e1.symm
          have e2' : PL = L2 := e2.symm
          have e3' : PO = P2 := e3.symm.trans (by rw [← unhide HE2, ← unhide HE1]; simp)
          subst e1' e2' e3'
          exact spcRet0 (rb := w.heap.size + 1) o1 o2 o3 ad (fun k hk => by have := m1 k hk; omega) (fun k hk => by have := (m2 k hk).1; omega) (fun k hk => by have := (m3 k hk).1; omega) (by omega) (unhide HFIN _ (unhide HBf))
        · obtain ⟨C, hC⟩ : ∃ x, (goA L1 (P1).length [⟨2, fr, nm, ⟨#[]⟩⟩]).1 = x := ⟨_, rfl⟩
          rw [if_neg hc, hC] at hG2
          rw [hC] at hc HAC
          rw [if_neg hc, if_neg hc] at HAC
          have HG2 := hide (show G = (C, []) from hG2)
          have HNZ := hide hc
          have hcb : (C == (0 : Int)) = false := by rw [beq_eq_false_iff_ne]; exact hc
          refine (unhide HAC).mono ?_
          rintro e v2 ⟨aL2, cL2, aS2, cS2, aO2, cO2, rfl, o1, o2, o3, ad, m1, m2, m3, hb⟩
          have y0 := bcl hb (unhide HN1).lt (unhide HN1).c0
          have y1 := bcl hb (unhide HN1).lt (unhide HN1).c1
          have y2 := bcl hb (unhide HN1).lt (unhide HN1).c2
          have x0 := (hb.frozen (p := ⟨w1.heap.size, 0, none⟩) (unhide HN1).lt).trans (unhide HN1).z0
          have x1 := (hb.frozen (p := ⟨w1.heap.size, 1, none⟩) (unhide HN1).lt).trans (unhide HN1).z1
          have x2 := (hb.frozen (p := ⟨w1.heap.size, 2, none⟩) (unhide HN1).lt).trans (unhide HN1).z2
          obtain ⟨q0, q1, q2⟩ := unhide HC _ (belOn (unhide HB1) hb)
          obtain ⟨V2, hV2⟩ : ∃ V, V = ((v2.setCell ⟨w1.heap.size, 0, none⟩ (.slice aL2 (L1).length cL2)).setCell ⟨w1.heap.size, 1, none⟩ (.slice aS2 safe.length cS2)).setCell ⟨w1.heap.size, 2, none⟩ (.slice aO2 (P1).length cO2) := ⟨_, rfl⟩
          have HB2 := hide (show Below W0.heap.size W0 V2 from by rw [hV2]; exact bel3 (belOn (unhide HB1) hb) (unhide HNW))
          have HV2 := hide hV2.symm
          clear hV2 o1 o2 o3 ad m1 m2 m3 hb hG2 hC HAC
          go_wp2_with fail
          rw [unhide HV2]
          clear y0 y1 y2 x0 x1 x2 q0 q1 q2
          refine (unhide HCP _ (unhide HB2)).mono ?_
          rintro e wf ⟨xL, iL, xS, iS, xO, iO, B3, rfl, o1, o2, o3, ad, -, -, -, -, m1, m2, m3, hbf⟩
          have HBf := hide (belOn (unhide HB2) hbf)
          have HOf := hide (And.intro o1 (And.intro o2 (And.intro o3 (And.intro ad (And.intro m1 (And.intro m2 m3))))))
          obtain ⟨r0, z0⟩ := unhide HR _ (unhide HBf) 0 (by decide)
          obtain ⟨r1, z1⟩ := unhide HR _ (unhide HBf) 1 (by decide)
          obtain ⟨r2, z2⟩ := unhide HR _ (unhide HBf) 2 (by decide)
          have hzk := (unhide HB2).size
          clear o1 o2 o3 ad m1 m2 m3 hbf
          go_wp2_with fail
          refine bodyPost_ret (v := .tuple #[.agg #[.slice xL (live).length iL, .slice xS safe.length iS, .slice xO (ops).length iO], .int .i64 C]) (by simp [results, Try.results15, go_sem, r0, r1, r2]) rfl ?_
          obtain ⟨o1, o2, o3, ad, m1, m2, m3⟩ := unhide HOf
          have hs0 := unhide HS0
          have hG := unhide HG2
          obtain ⟨e1, e2, e3⟩ := unhide HP
          rw [hG] at e1 e2 e3
          have e1' : PC = C := e1.symm
          have e2' : PL = live := e2.symm.trans (if_neg (unhide HNZ))
          have e3' : PO = ops := e3.symm.trans (if_neg (unhide HNZ))
          subst e1' e2' e3'
          exact spcRet0 (rb := w.heap.size + 1) o1 o2 o3 ad (fun k hk => by have := m1 k hk; omega) (fun k hk => by have := (m2 k hk).1; omega) (fun k hk => by have := (m3 k hk).1; omega) (by omega) (unhide HFIN _ (unhide HBf))
      · obtain ⟨C, hC⟩ : ∃ x, (goA live (ops).length [⟨1, fr, ⟨#[]⟩, dt⟩]).1 = x := ⟨_, rfl⟩
        rw [if_neg hc, hC] at hG1
        rw [hC] at hc HAC
        rw [if_neg hc, if_neg hc] at HAC
        have HG1 := hide (show G = (C, []) from hG1)
        have HNZ := hide hc
        have hcb : (C == (0 : Int)) = false := by rw [beq_eq_false_iff_ne]; exact hc
        refine (unhide HAC).mono ?_
        rintro e v1 ⟨aL1, cL1, aS1, cS1, aO1, cO1, rfl, o1, o2, o3, ad, m1, m2, m3, hb⟩
        have y0 := bcl hb (unhide HN0).lt (unhide HN0).c0
        have y1 := bcl hb (unhide HN0).lt (unhide HN0).c1
        have y2 := bcl hb (unhide HN0).lt (unhide HN0).c2
        have x0 := (hb.frozen (p := ⟨w1.heap.size, 0, none⟩) (unhide HN0).lt).trans (unhide HN0).z0
        have x1 := (hb.frozen (p := ⟨w1.heap.size, 1, none⟩) (unhide HN0).lt).trans (unhide HN0).z1
        have x2 := (hb.frozen (p := ⟨w1.heap.size, 2, none⟩) (unhide HN0).lt).trans (unhide HN0).z2
        obtain ⟨q0, q1, q2⟩ := unhide HC _ (belOn (unhide HB0) hb)
        obtain ⟨V1, hV1⟩ : ∃ V, V = ((v1.setCell ⟨w1.heap.size, 0, none⟩ (.slice aL1 (live).length cL1)).setCell ⟨w1.heap.size, 1, none⟩ (.slice aS1 safe.length cS1)).setCell ⟨w1.heap.size, 2, none⟩ (.slice aO1 (ops).length cO1) := ⟨_, rfl⟩
        have HB1 := hide (show Below W0.heap.size W0 V1 from by rw [hV1]; exact bel3 (belOn (unhide HB0) hb) (unhide HNW))
        have HV1 := hide hV1.symm
        clear hV1 o1 o2 o3 ad m1 m2 m3 hb hG1 hC HAC
        go_wp2_with fail
        rw [unhide HV1]
        clear y0 y1 y2 x0 x1 x2 q0 q1 q2
        refine (unhide HCP _ (unhide HB1)).mono ?_
        rintro e wf ⟨xL, iL, xS, iS, xO, iO, B3, rfl, o1, o2, o3, ad, -, -, -, -, m1, m2, m3, hbf⟩
        have HBf := hide (belOn (unhide HB1) hbf)
        have HOf := hide (And.intro o1 (And.intro o2 (And.intro o3 (And.intro ad (And.intro m1 (And.intro m2 m3))))))
        obtain ⟨r0, z0⟩ := unhide HR _ (unhide HBf) 0 (by decide)
        obtain ⟨r1, z1⟩ := unhide HR _ (unhide HBf) 1 (by decide)
        obtain ⟨r2, z2⟩ := unhide HR _ (unhide HBf) 2 (by decide)
        have hzk := (unhide HB1).size
        clear o1 o2 o3 ad m1 m2 m3 hbf
        go_wp2_with fail
        refine bodyPost_ret (v := .tuple #[.agg #[.slice xL (live).length iL, .slice xS safe.length iS, .slice xO (ops).length iO], .int .i64 C]) (by simp [results, Try.results15, go_sem, r0, r1, r2]) rfl ?_
        obtain ⟨o1, o2, o3, ad, m1, m2, m3⟩ := unhide HOf
        have hs0 := unhide HS0
        have hG := unhide HG1
        obtain ⟨e1, e2, e3⟩ := unhide HP
        rw [hG] at e1 e2 e3
        have e1' : PC = C := e1.symm
        have e2' : PL = live := e2.symm.trans (if_neg (unhide HNZ))
        have e3' : PO = ops := e3.symm.trans (if_neg (unhide HNZ))
        subst e1' e2' e3'
        exact spcRet0 (rb := w.heap.size + 1) o1 o2 o3 ad (fun k hk => by have := m1 k hk; omega) (fun k hk => by have := (m2 k hk).1; omega) (fun k hk => by have := (m3 k hk).1; omega) (by omega) (unhide HFIN _ (unhide HBf))
    | some j =>
      have hxs : (if (tabF live fr).isSome = true then [(⟨3, fr, ⟨#[]⟩, ⟨#[]⟩⟩ : Dop), ⟨1, fr, ⟨#[]⟩, dt⟩, ⟨2, fr, nm, ⟨#[]⟩⟩] else [⟨1, fr, ⟨#[]⟩, dt⟩, ⟨2, fr, nm, ⟨#[]⟩⟩]) = [⟨3, fr, ⟨#[]⟩, ⟨#[]⟩⟩, ⟨1, fr, ⟨#[]⟩, dt⟩, ⟨2, fr, nm, ⟨#[]⟩⟩] := by rw [tab_at_some (unhide HRI) ha]; rfl
      rw [ha] at HA
      have HAV : atV (some j) = (j : Int) := rfl
      rw [HAV] at HA
      have hj0 : (0 : Int) ≤ (j : Int) := by omega
      rw [hxs]
      obtain ⟨G, hG⟩ : ∃ G, goA live ops.length [⟨3, fr, ⟨#[]⟩, ⟨#[]⟩⟩, ⟨1, fr, ⟨#[]⟩, dt⟩, ⟨2, fr, nm, ⟨#[]⟩⟩] = G := ⟨_, rfl⟩
      rw [hG]
      obtain ⟨PC, hPC⟩ : ∃ x, G.1 = x := ⟨_, rfl⟩
      obtain ⟨PL, hPL⟩ : ∃ x, (if G.1 = 0 then G.2 else live) = x := ⟨_, rfl⟩
      obtain ⟨PO, hPO⟩ : ∃ x, (if G.1 = 0 then ops ++ [⟨3, fr, ⟨#[]⟩, ⟨#[]⟩⟩, ⟨1, fr, ⟨#[]⟩, dt⟩, ⟨2, fr, nm, ⟨#[]⟩⟩] else ops) = x := ⟨_, rfl⟩
      rw [hPL, hPO, hPC]
      have HP := hide (And.intro hPC (And.intro hPL hPO))
      clear hPC hPL hPO
      have HG0 := hide hG.symm
      have HF0 := hide hfs
      have HO0 := hide hO2
      clear hba hb0 hWa hW0 hr h hsa hs0 hd ha hxs hfs hO2 hln hG
      go_enter Try.func15, Try.ntmps15
      go_wp2_with fail
      rw [unhide HW0]
      refine (unhide HOK).mono ?_
      rintro e w1 ⟨rfl, hb1⟩
      obtain ⟨V0, hV0⟩ : ∃ V, V = w1.alloc (.cells #[.slice a1 live.length cL, .slice a2 safe.length cS, .slice a3 ops.length cO] 31) := ⟨_, rfl⟩
      have HB0 := hide (show Below W0.heap.size W0 V0 from by rw [hV0]; exact belOn hb1 (bel1 _ _))
      have HN0 := hide (show NowAt V0 w1.heap.size a1 cL live a2 cS safe a3 cO ops from by rw [hV0]; exact unhide HNB w1 hb1)
      have HNW := hide (show W0.heap.size ≤ w1.heap.size from hb1.size)
      have hne : ¬ w1.heap.size = w.heap.size := by have := hb1.size; have := unhide HS0; omega
      obtain ⟨q0, q1, q2⟩ := unhide HC _ hb1
      have lq := lt_of_cell q0
      have s0 := bcl (bel1 w1 (.cells #[.slice a1 live.length cL, .slice a2 safe.length cS, .slice a3 ops.length cO] 31)) lq q0
      have HV0 := hide hV0.symm
      clear hb1 hV0
      go_wp2_with fail
      rw [unhide HV0]
      refine (unhide HA _ (unhide HB0)).mono ?_
      rintro e w2 ⟨rfl, rfl⟩
      clear q0 q1 q2 s0
      have k0 := (unhide HN0).c0
      have k1 := (unhide HN0).c1
      have k2 := (unhide HN0).c2
      go_wp2_with fail
      clear k0 k1 k2
      have HAC := hide (l4Act_calls _ _ _ live _ _ _ safe _ _ _ ops 3 fr ⟨#[]⟩ ⟨#[]⟩ V0 (unhide HN0).dk (unhide HF0) (unhide HO0) sm_r)
      have hG1 := (unhide HG0).trans (goA_cons live (ops).length ⟨3, fr, ⟨#[]⟩, ⟨#[]⟩⟩ [⟨1, fr, ⟨#[]⟩, dt⟩, ⟨2, fr, nm, ⟨#[]⟩⟩])
      by_cases hc : (goA live (ops).length [⟨3, fr, ⟨#[]⟩, ⟨#[]⟩⟩]).1 = 0
      · obtain ⟨-, hf1⟩ := goA_one hc
        have hn1 := (goA_one hc).1
        obtain ⟨L1, hL1⟩ : ∃ x, (goA live (ops).length [⟨3, fr, ⟨#[]⟩, ⟨#[]⟩⟩]).2 = x := ⟨_, rfl⟩
        rw [if_pos hc, hL1] at hG1
        rw [hL1] at hf1
        rw [hc, hL1, if_pos rfl, if_pos rfl] at HAC
        obtain ⟨P1, hP1⟩ : ∃ x, (ops ++ [(⟨3, fr, ⟨#[]⟩, ⟨#[]⟩⟩ : Dop)]) = x := ⟨_, rfl⟩
        rw [hP1] at HAC
        have hlP : P1.length = (ops).length + 1 := by rw [← hP1, List.length_append]; rfl
        have HG1 := hide (show G = goA L1 P1.length [⟨1, fr, ⟨#[]⟩, dt⟩, ⟨2, fr, nm, ⟨#[]⟩⟩] from by rw [hlP]; exact hG1)
        have HF1 := hide hf1
        have HO1 := hide (show P1.length ≤ 200 from by rw [hlP]; exact hn1)
        have HE1 := hide hP1
        have HLP := hide hlP
        clear hlP
        refine (unhide HAC).mono ?_
        rintro e v1 ⟨aL1, cL1, aS1, cS1, aO1, cO1, rfl, o1, o2, o3, ad, m1, m2, m3, hb⟩
        have y0 := bcl hb (unhide HN0).lt (unhide HN0).c0
        have y1 := bcl hb (unhide HN0).lt (unhide HN0).c1
        have y2 := bcl hb (unhide HN0).lt (unhide HN0).c2
        have x0 := (hb.frozen (p := ⟨w1.heap.size, 0, none⟩) (unhide HN0).lt).trans (unhide HN0).z0
        have x1 := (hb.frozen (p := ⟨w1.heap.size, 1, none⟩) (unhide HN0).lt).trans (unhide HN0).z1
        have x2 := (hb.frozen (p := ⟨w1.heap.size, 2, none⟩) (unhide HN0).lt).trans (unhide HN0).z2
        obtain ⟨q0, q1, q2⟩ := unhide HC _ (belOn (unhide HB0) hb)
        obtain ⟨V1, hV1⟩ : ∃ V, V = ((v1.setCell ⟨w1.heap.size, 0, none⟩ (.slice aL1 (L1).length cL1)).setCell ⟨w1.heap.size, 1, none⟩ (.slice aS1 safe.length cS1)).setCell ⟨w1.heap.size, 2, none⟩ (.slice aO1 (P1).length cO1) := ⟨_, rfl⟩
        have HB1 := hide (show Below W0.heap.size W0 V1 from by rw [hV1]; exact bel3 (belOn (unhide HB0) hb) (unhide HNW))
        have HN1 := hide (show NowAt V1 w1.heap.size aL1 cL1 L1 aS1 cS1 safe aO1 cO1 P1 from by
          rw [hV1]
          exact (unhide HN0).next hb o1 o2 o3 ad m1 m2 m3 (small_fit hf1) (fun x hx => by
            rw [← unhide HE1] at hx
            rcases List.mem_append.1 hx with hx | hx
            · exact (unhide HN0).dk.fo x hx
            · obtain rfl := List.mem_singleton.1 hx; exact sm_r) (by have := (files_small hf1).1; omega) (by have := unhide HLP; omega))
        have HV1 := hide hV1.symm
        clear hV1 o1 o2 o3 ad m1 m2 m3 hb hL1 hf1 hn1 hG1 hc HAC hP1 HLP
        go_wp2_with fail
        rw [unhide HV1]
        clear y0 y1 y2 x0 x1 x2 q0 q1 q2
        have HAC := hide (l4Act_calls _ _ _ L1 _ _ _ safe _ _ _ P1 1 fr ⟨#[]⟩ dt V1 (unhide HN1).dk (unhide HF1) (unhide HO1) sm_x)
        have hG2 := (unhide HG1).trans (goA_cons L1 (P1).length ⟨1, fr, ⟨#[]⟩, dt⟩ [⟨2, fr, nm, ⟨#[]⟩⟩])
        by_cases hc : (goA L1 (P1).length [⟨1, fr, ⟨#[]⟩, dt⟩]).1 = 0
        · obtain ⟨-, hf2⟩ := goA_one hc
          have hn2 := (goA_one hc).1
          obtain ⟨L2, hL2⟩ : ∃ x, (goA L1 (P1).length [⟨1, fr, ⟨#[]⟩, dt⟩]).2 = x := ⟨_, rfl⟩
          rw [if_pos hc, hL2] at hG2
          rw [hL2] at hf2
          rw [hc, hL2, if_pos rfl, if_pos rfl] at HAC
          obtain ⟨P2, hP2⟩ : ∃ x, (P1 ++ [(⟨1, fr, ⟨#[]⟩, dt⟩ : Dop)]) = x := ⟨_, rfl⟩
          rw [hP2] at HAC
          have hlP : P2.length = (P1).length + 1 := by rw [← hP2, List.length_append]; rfl
          have HG2 := hide (show G = goA L2 P2.length [⟨2, fr, nm, ⟨#[]⟩⟩] from by rw [hlP]; exact hG2)
          have HF2 := hide hf2
          have HO2 := hide (show P2.length ≤ 200 from by rw [hlP]; exact hn2)
          have HE2 := hide hP2
          have HLP := hide hlP
          clear hlP
          refine (unhide HAC).mono ?_
          rintro e v2 ⟨aL2, cL2, aS2, cS2, aO2, cO2, rfl, o1, o2, o3, ad, m1, m2, m3, hb⟩
          have y0 := bcl hb (unhide HN1).lt (unhide HN1).c0
          have y1 := bcl hb (unhide HN1).lt (unhide HN1).c1
          have y2 := bcl hb (unhide HN1).lt (unhide HN1).c2
          have x0 := (hb.frozen (p := ⟨w1.heap.size, 0, none⟩) (unhide HN1).lt).trans (unhide HN1).z0
          have x1 := (hb.frozen (p := ⟨w1.heap.size, 1, none⟩) (unhide HN1).lt).trans (unhide HN1).z1
          have x2 := (hb.frozen (p := ⟨w1.heap.size, 2, none⟩) (unhide HN1).lt).trans (unhide HN1).z2
          obtain ⟨q0, q1, q2⟩ := unhide HC _ (belOn (unhide HB1) hb)
          obtain ⟨V2, hV2⟩ : ∃ V, V = ((v2.setCell ⟨w1.heap.size, 0, none⟩ (.slice aL2 (L2).length cL2)).setCell ⟨w1.heap.size, 1, none⟩ (.slice aS2 safe.length cS2)).setCell ⟨w1.heap.size, 2, none⟩ (.slice aO2 (P2).length cO2) := ⟨_, rfl⟩
          have HB2 := hide (show Below W0.heap.size W0 V2 from by rw [hV2]; exact bel3 (belOn (unhide HB1) hb) (unhide HNW))
          have HN2 := hide (show NowAt V2 w1.heap.size aL2 cL2 L2 aS2 cS2 safe aO2 cO2 P2 from by
            rw [hV2]
            exact (unhide HN1).next hb o1 o2 o3 ad m1 m2 m3 (small_fit hf2) (fun x hx => by
              rw [← unhide HE2] at hx
              rcases List.mem_append.1 hx with hx | hx
              · exact (unhide HN1).dk.fo x hx
              · obtain rfl := List.mem_singleton.1 hx; exact sm_x) (by have := (files_small hf2).1; omega) (by have := unhide HLP; omega))
          have HV2 := hide hV2.symm
          clear hV2 o1 o2 o3 ad m1 m2 m3 hb hL2 hf2 hn2 hG2 hc HAC hP2 HLP
          go_wp2_with fail
          rw [unhide HV2]
          clear y0 y1 y2 x0 x1 x2 q0 q1 q2
          have HAC := hide (l4Act_calls _ _ _ L2 _ _ _ safe _ _ _ P2 2 fr nm ⟨#[]⟩ V2 (unhide HN2).dk (unhide HF2) (unhide HO2) sm_y)
          have hG3 := (unhide HG2).trans (goA_cons L2 (P2).length ⟨2, fr, nm, ⟨#[]⟩⟩ [])
          by_cases hc : (goA L2 (P2).length [⟨2, fr, nm, ⟨#[]⟩⟩]).1 = 0
          · obtain ⟨-, hf3⟩ := goA_one hc
            have hn3 := (goA_one hc).1
            obtain ⟨L3, hL3⟩ : ∃ x, (goA L2 (P2).length [⟨2, fr, nm, ⟨#[]⟩⟩]).2 = x := ⟨_, rfl⟩
            rw [if_pos hc, hL3] at hG3
            rw [hL3] at hf3
            rw [hc, hL3, if_pos rfl, if_pos rfl] at HAC
            obtain ⟨P3, hP3⟩ : ∃ x, (P2 ++ [(⟨2, fr, nm, ⟨#[]⟩⟩ : Dop)]) = x := ⟨_, rfl⟩
            rw [hP3] at HAC
            have hlP : P3.length = (P2).length + 1 := by rw [← hP3, List.length_append]; rfl
            have HG3 := hide (show G = goA L3 P3.length [] from by rw [hlP]; exact hG3)
            have HF3 := hide hf3
            have HO3 := hide (show P3.length ≤ 200 from by rw [hlP]; exact hn3)
            have HE3 := hide hP3
            have HLP := hide hlP
            clear hlP
            refine (unhide HAC).mono ?_
            rintro e v3 ⟨aL3, cL3, aS3, cS3, aO3, cO3, rfl, o1, o2, o3, ad, m1, m2, m3, hb⟩
            have y0 := bcl hb (unhide HN2).lt (unhide HN2).c0
            have y1 := bcl hb (unhide HN2).lt (unhide HN2).c1
            have y2 := bcl hb (unhide HN2).lt (unhide HN2).c2
            have x0 := (hb.frozen (p := ⟨w1.heap.size, 0, none⟩) (unhide HN2).lt).trans (unhide HN2).z0
            have x1 := (hb.frozen (p := ⟨w1.heap.size, 1, none⟩) (unhide HN2).lt).trans (unhide HN2).z1
            have x2 := (hb.frozen (p := ⟨w1.heap.size, 2, none⟩) (unhide HN2).lt).trans (unhide HN2).z2
            obtain ⟨q0, q1, q2⟩ := unhide HC _ (belOn (unhide HB2) hb)
            obtain ⟨V3, hV3⟩ : ∃ V, V = ((v3.setCell ⟨w1.heap.size, 0, none⟩ (.slice aL3 (L3).length cL3)).setCell ⟨w1.heap.size, 1, none⟩ (.slice aS3 safe.length cS3)).setCell ⟨w1.heap.size, 2, none⟩ (.slice aO3 (P3).length cO3) := ⟨_, rfl⟩
            have HB3 := hide (show Below W0.heap.size W0 V3 from by rw [hV3]; exact bel3 (belOn (unhide HB2) hb) (unhide HNW))
            have HN3 := hide (show NowAt V3 w1.heap.size aL3 cL3 L3 aS3 cS3 safe aO3 cO3 P3 from by
              rw [hV3]
              exact (unhide HN2).next hb o1 o2 o3 ad m1 m2 m3 (small_fit hf3) (fun x hx => by
                rw [← unhide HE3] at hx
                rcases List.mem_append.1 hx with hx | hx
                · exact (unhide HN2).dk.fo x hx
                · obtain rfl := List.mem_singleton.1 hx; exact sm_y) (by have := (files_small hf3).1; omega) (by have := unhide HLP; omega))
            have HV3 := hide hV3.symm
            clear hV3 o1 o2 o3 ad m1 m2 m3 hb hL3 hf3 hn3 hG3 hc HAC hP3 HLP
            go_wp2_with fail
            rw [unhide HV3]
            clear y0 y1 y2 x0 x1 x2 q0 q1 q2
            refine (l4Copy_calls _ _ _ _ _ _ _ _ _ _ _ _ V3 (unhide HN3).dk).mono ?_
            rintro e wf ⟨xL, iL, xS, iS, xO, iO, B3, rfl, o1, o2, o3, ad, -, -, -, -, m1, m2, m3, hbf⟩
            have HBf := hide (belOn (unhide HB3) hbf)
            have HOf := hide (And.intro o1 (And.intro o2 (And.intro o3 (And.intro ad (And.intro m1 (And.intro m2 m3))))))
            obtain ⟨r0, z0⟩ := unhide HR _ (unhide HBf) 0 (by decide)
            obtain ⟨r1, z1⟩ := unhide HR _ (unhide HBf) 1 (by decide)
            obtain ⟨r2, z2⟩ := unhide HR _ (unhide HBf) 2 (by decide)
            have hzk := (unhide HB3).size
            clear o1 o2 o3 ad m1 m2 m3 hbf
            go_wp2_with fail
            refine bodyPost_ret (v := .tuple #[.agg #[.slice xL (L3).length iL, .slice xS safe.length iS, .slice xO (P3).length iO], .int .i64 0]) (by simp [results, Try.results15, go_sem, r0, r1, r2]) rfl ?_
            obtain ⟨o1, o2, o3, ad, m1, m2, m3⟩ := unhide HOf
            have hs0 := unhide HS0
            have hG : G = (0, L3) := unhide HG3
            obtain ⟨e1, e2, e3⟩ := unhide HP
            rw [hG] at e1 e2 e3
            have e1' : PC = 0 := e1.symm
            have e2' : PL = L3 := e2.symm
            have e3' : PO = P3 := e3.symm.trans (by rw [← unhide HE3, ← unhide HE2, ← unhide HE1]; simp)
            subst e1' e2' e3'
            exact spcRet0 (rb := w.heap.size + 1) o1 o2 o3 ad (fun k hk => by have := m1 k hk; omega) (fun k hk => by have := (m2 k hk).1; omega) (fun k hk => by have := (m3 k hk).1; omega) (by omega) (unhide HFIN _ (unhide HBf))
          · obtain ⟨C, hC⟩ : ∃ x, (goA L2 (P2).length [⟨2, fr, nm, ⟨#[]⟩⟩]).1 = x := ⟨_, rfl⟩
            rw [if_neg hc, hC] at hG3
            rw [hC] at hc HAC
            rw [if_neg hc, if_neg hc] at HAC
            have HG3 := hide (show G = (C, []) from hG3)
            have HNZ := hide hc
            have hcb : (C == (0 : Int)) = false := by rw [beq_eq_false_iff_ne]; exact hc
            refine (unhide HAC).mono ?_
            rintro e v3 ⟨aL3, cL3, aS3, cS3, aO3, cO3, rfl, o1, o2, o3, ad, m1, m2, m3, hb⟩
            have y0 := bcl hb (unhide HN2).lt (unhide HN2).c0
            have y1 := bcl hb (unhide HN2).lt (unhide HN2).c1
            have y2 := bcl hb (unhide HN2).lt (unhide HN2).c2
            have x0 := (hb.frozen (p := ⟨w1.heap.size, 0, none⟩) (unhide HN2).lt).trans (unhide HN2).z0
            have x1 := (hb.frozen (p := ⟨w1.heap.size, 1, none⟩) (unhide HN2).lt).trans (unhide HN2).z1
            have x2 := (hb.frozen (p := ⟨w1.heap.size, 2, none⟩) (unhide HN2).lt).trans (unhide HN2).z2
            obtain ⟨q0, q1, q2⟩ := unhide HC _ (belOn (unhide HB2) hb)
            obtain ⟨V3, hV3⟩ : ∃ V, V = ((v3.setCell ⟨w1.heap.size, 0, none⟩ (.slice aL3 (L2).length cL3)).setCell ⟨w1.heap.size, 1, none⟩ (.slice aS3 safe.length cS3)).setCell ⟨w1.heap.size, 2, none⟩ (.slice aO3 (P2).length cO3) := ⟨_, rfl⟩
            have HB3 := hide (show Below W0.heap.size W0 V3 from by rw [hV3]; exact bel3 (belOn (unhide HB2) hb) (unhide HNW))
            have HV3 := hide hV3.symm
            clear hV3 o1 o2 o3 ad m1 m2 m3 hb hG3 hC HAC
            go_wp2_with fail
            rw [unhide HV3]
            clear y0 y1 y2 x0 x1 x2 q0 q1 q2
            refine (unhide HCP _ (unhide HB3)).mono ?_
            rintro e wf ⟨xL, iL, xS, iS, xO, iO, B3, rfl, o1, o2, o3, ad, -, -, -, -, m1, m2, m3, hbf⟩
            have HBf := hide (belOn (unhide HB3) hbf)
            have HOf := hide (And.intro o1 (And.intro o2 (And.intro o3 (And.intro ad (And.intro m1 (And.intro m2 m3))))))
            obtain ⟨r0, z0⟩ := unhide HR _ (unhide HBf) 0 (by decide)
            obtain ⟨r1, z1⟩ := unhide HR _ (unhide HBf) 1 (by decide)
            obtain ⟨r2, z2⟩ := unhide HR _ (unhide HBf) 2 (by decide)
            have hzk := (unhide HB3).size
            clear o1 o2 o3 ad m1 m2 m3 hbf
            go_wp2_with fail
            refine bodyPost_ret (v := .tuple #[.agg #[.slice xL (live).length iL, .slice xS safe.length iS, .slice xO (ops).length iO], .int .i64 C]) (by simp [results, Try.results15, go_sem, r0, r1, r2]) rfl ?_
            obtain ⟨o1, o2, o3, ad, m1, m2, m3⟩ := unhide HOf
            have hs0 := unhide HS0
            have hG := unhide HG3
            obtain ⟨e1, e2, e3⟩ := unhide HP
            rw [hG] at e1 e2 e3
            have e1' : PC = C := e1.symm
            have e2' : PL = live := e2.symm.trans (if_neg (unhide HNZ))
            have e3' : PO = ops := e3.symm.trans (if_neg (unhide HNZ))
            subst e1' e2' e3'
            exact spcRet0 (rb := w.heap.size + 1) o1 o2 o3 ad (fun k hk => by have := m1 k hk; omega) (fun k hk => by have := (m2 k hk).1; omega) (fun k hk => by have := (m3 k hk).1; omega) (by omega) (unhide HFIN _ (unhide HBf))
        · obtain ⟨C, hC⟩ : ∃ x, (goA L1 (P1).length [⟨1, fr, ⟨#[]⟩, dt⟩]).1 = x := ⟨_, rfl⟩
          rw [if_neg hc, hC] at hG2
          rw [hC] at hc HAC
          rw [if_neg hc, if_neg hc] at HAC
          have HG2 := hide (show G = (C, []) from hG2)
          have HNZ := hide hc
          have hcb : (C == (0 : Int)) = false := by rw [beq_eq_false_iff_ne]; exact hc
          refine (unhide HAC).mono ?_
          rintro e v2 ⟨aL2, cL2, aS2, cS2, aO2, cO2, rfl, o1, o2, o3, ad, m1, m2, m3, hb⟩
          have y0 := bcl hb (unhide HN1).lt (unhide HN1).c0
          have y1 := bcl hb (unhide HN1).lt (unhide HN1).c1
          have y2 := bcl hb (unhide HN1).lt (unhide HN1).c2
          have x0 := (hb.frozen (p := ⟨w1.heap.size, 0, none⟩) (unhide HN1).lt).trans (unhide HN1).z0
          have x1 := (hb.frozen (p := ⟨w1.heap.size, 1, none⟩) (unhide HN1).lt).trans (unhide HN1).z1
          have x2 := (hb.frozen (p := ⟨w1.heap.size, 2, none⟩) (unhide HN1).lt).trans (unhide HN1).z2
          obtain ⟨q0, q1, q2⟩ := unhide HC _ (belOn (unhide HB1) hb)
          obtain ⟨V2, hV2⟩ : ∃ V, V = ((v2.setCell ⟨w1.heap.size, 0, none⟩ (.slice aL2 (L1).length cL2)).setCell ⟨w1.heap.size, 1, none⟩ (.slice aS2 safe.length cS2)).setCell ⟨w1.heap.size, 2, none⟩ (.slice aO2 (P1).length cO2) := ⟨_, rfl⟩
          have HB2 := hide (show Below W0.heap.size W0 V2 from by rw [hV2]; exact bel3 (belOn (unhide HB1) hb) (unhide HNW))
          have HV2 := hide hV2.symm
          clear hV2 o1 o2 o3 ad m1 m2 m3 hb hG2 hC HAC
          go_wp2_with fail
          rw [unhide HV2]
          clear y0 y1 y2 x0 x1 x2 q0 q1 q2
          refine (unhide HCP _ (unhide HB2)).mono ?_
          rintro e wf ⟨xL, iL, xS, iS, xO, iO, B3, rfl, o1, o2, o3, ad, -, -, -, -, m1, m2, m3, hbf⟩
          have HBf := hide (belOn (unhide HB2) hbf)
          have HOf := hide (And.intro o1 (And.intro o2 (And.intro o3 (And.intro ad (And.intro m1 (And.intro m2 m3))))))
          obtain ⟨r0, z0⟩ := unhide HR _ (unhide HBf) 0 (by decide)
          obtain ⟨r1, z1⟩ := unhide HR _ (unhide HBf) 1 (by decide)
          obtain ⟨r2, z2⟩ := unhide HR _ (unhide HBf) 2 (by decide)
          have hzk := (unhide HB2).size
          clear o1 o2 o3 ad m1 m2 m3 hbf
          go_wp2_with fail
          refine bodyPost_ret (v := .tuple #[.agg #[.slice xL (live).length iL, .slice xS safe.length iS, .slice xO (ops).length iO], .int .i64 C]) (by simp [results, Try.results15, go_sem, r0, r1, r2]) rfl ?_
          obtain ⟨o1, o2, o3, ad, m1, m2, m3⟩ := unhide HOf
          have hs0 := unhide HS0
          have hG := unhide HG2
          obtain ⟨e1, e2, e3⟩ := unhide HP
          rw [hG] at e1 e2 e3
          have e1' : PC = C := e1.symm
          have e2' : PL = live := e2.symm.trans (if_neg (unhide HNZ))
          have e3' : PO = ops := e3.symm.trans (if_neg (unhide HNZ))
          subst e1' e2' e3'
          exact spcRet0 (rb := w.heap.size + 1) o1 o2 o3 ad (fun k hk => by have := m1 k hk; omega) (fun k hk => by have := (m2 k hk).1; omega) (fun k hk => by have := (m3 k hk).1; omega) (by omega) (unhide HFIN _ (unhide HBf))
      · obtain ⟨C, hC⟩ : ∃ x, (goA live (ops).length [⟨3, fr, ⟨#[]⟩, ⟨#[]⟩⟩]).1 = x := ⟨_, rfl⟩
        rw [if_neg hc, hC] at hG1
        rw [hC] at hc HAC
        rw [if_neg hc, if_neg hc] at HAC
        have HG1 := hide (show G = (C, []) from hG1)
        have HNZ := hide hc
        have hcb : (C == (0 : Int)) = false := by rw [beq_eq_false_iff_ne]; exact hc
        refine (unhide HAC).mono ?_
        rintro e v1 ⟨aL1, cL1, aS1, cS1, aO1, cO1, rfl, o1, o2, o3, ad, m1, m2, m3, hb⟩
        have y0 := bcl hb (unhide HN0).lt (unhide HN0).c0
        have y1 := bcl hb (unhide HN0).lt (unhide HN0).c1
        have y2 := bcl hb (unhide HN0).lt (unhide HN0).c2
        have x0 := (hb.frozen (p := ⟨w1.heap.size, 0, none⟩) (unhide HN0).lt).trans (unhide HN0).z0
        have x1 := (hb.frozen (p := ⟨w1.heap.size, 1, none⟩) (unhide HN0).lt).trans (unhide HN0).z1
        have x2 := (hb.frozen (p := ⟨w1.heap.size, 2, none⟩) (unhide HN0).lt).trans (unhide HN0).z2
        obtain ⟨q0, q1, q2⟩ := unhide HC _ (belOn (unhide HB0) hb)
        obtain ⟨V1, hV1⟩ : ∃ V, V = ((v1.setCell ⟨w1.heap.size, 0, none⟩ (.slice aL1 (live).length cL1)).setCell ⟨w1.heap.size, 1, none⟩ (.slice aS1 safe.length cS1)).setCell ⟨w1.heap.size, 2, none⟩ (.slice aO1 (ops).length cO1) := ⟨_, rfl⟩
        have HB1 := hide (show Below W0.heap.size W0 V1 from by rw [hV1]; exact bel3 (belOn (unhide HB0) hb) (unhide HNW))
        have HV1 := hide hV1.symm
        clear hV1 o1 o2 o3 ad m1 m2 m3 hb hG1 hC HAC
        go_wp2_with fail
        rw [unhide HV1]
        clear y0 y1 y2 x0 x1 x2 q0 q1 q2
        refine (unhide HCP _ (unhide HB1)).mono ?_
        rintro e wf ⟨xL, iL, xS, iS, xO, iO, B3, rfl, o1, o2, o3, ad, -, -, -, -, m1, m2, m3, hbf⟩
        have HBf := hide (belOn (unhide HB1) hbf)
        have HOf := hide (And.intro o1 (And.intro o2 (And.intro o3 (And.intro ad (And.intro m1 (And.intro m2 m3))))))
        obtain ⟨r0, z0⟩ := unhide HR _ (unhide HBf) 0 (by decide)
        obtain ⟨r1, z1⟩ := unhide HR _ (unhide HBf) 1 (by decide)
        obtain ⟨r2, z2⟩ := unhide HR _ (unhide HBf) 2 (by decide)
        have hzk := (unhide HB1).size
        clear o1 o2 o3 ad m1 m2 m3 hbf
        go_wp2_with fail
        refine bodyPost_ret (v := .tuple #[.agg #[.slice xL (live).length iL, .slice xS safe.length iS, .slice xO (ops).length iO], .int .i64 C]) (by simp [results, Try.results15, go_sem, r0, r1, r2]) rfl ?_
        obtain ⟨o1, o2, o3, ad, m1, m2, m3⟩ := unhide HOf
        have hs0 := unhide HS0
        have hG := unhide HG1
        obtain ⟨e1, e2, e3⟩ := unhide HP
        rw [hG] at e1 e2 e3
        have e1' : PC = C := e1.symm
        have e2' : PL = live := e2.symm.trans (if_neg (unhide HNZ))
        have e3' : PO = ops := e3.symm.trans (if_neg (unhide HNZ))
        subst e1' e2' e3'
        exact spcRet0 (rb := w.heap.size + 1) o1 o2 o3 ad (fun k hk => by have := m1 k hk; omega) (fun k hk => by have := (m2 k hk).1; omega) (fun k hk => by have := (m3 k hk).1; omega) (by omega) (unhide HFIN _ (unhide HBf))
end Go.Proofs.Ytiligddjilcdhaa


/- A loss of power, by the specification. -/
namespace Go.Proofs.Ytiligddjilcdhaa
open Go.RowKit Go.Maps Plain
set_option linter.unusedVariables false

theorem inC_quiet (x lo hi : Int) (w : World) (q : Nat) (b : Bool) (h : (decide (lo ≤ x) && decide (x ≤ hi)) = b) :
    Calls Try.prog 20 #[.int .i64 x, .int .i64 lo, .int .i64 hi] (w.drewN q) fun e w'' => e = .returned (.bool b) ∧ ∃ m, w'' = w.drewN m := by
  subst h
  refine (l1In_calls x lo hi (w.drewN q)).mono ?_
  rintro e w2 ⟨rfl, rfl⟩
  exact ⟨rfl, q, rfl⟩
theorem Plain.belQC {B : Nat} {w w' : World} (h : Below B w w') (k : Nat) : Below B w (w'.drewN k) := ⟨h.os, h.tape, h.output, h.size, h.block⟩

theorem Plain.kcs_step (ops : List Dop) (ks : List Int) (T : Nat) (safe : List Fl) (j : Nat) (hj : j < ks.length) (P : Nat) (hP : ks[j] = (P : Int)) (hPl : P < ops.length) (o : Dop) (ho : ops[P] = o) :
    crF safe ((kcs ops ks T).take (j + 1)) = (doF (crF safe ((kcs ops ks T).take j)) (if j + 1 = ks.length ∧ o.kind = 1 ∧ T < o.data.size then ⟨o.kind, o.name, o.to, o.data.extract 0 T⟩ else o)).1 := by
  rw [crF_take _ _ j (by rw [kcs_len]; exact hj)]
  have hoa := opAt_at ops P hPl
  rw [ho] at hoa
  have hk : (kcs ops ks T)[j]'(by rw [kcs_len]; exact hj) = if j + 1 = ks.length then tornC T o else .op o := by
    have h2 : (kcs ops ks T)[j]? = some (if j + 1 = ks.length then tornC T o else .op o) := by
      unfold kcs
      by_cases he : j + 1 = ks.length
      · rw [if_pos he, show ks.length - 1 = j from by omega, List.getElem?_set_self (by simpa [kc0] using hj), getD_at ks j hj, hP, hoa]
      · rw [if_neg he, List.getElem?_set_ne (by omega)]
        simp [kc0, hj, hP, hoa]
    rw [List.getElem?_eq_getElem (by rw [kcs_len]; exact hj)] at h2
    exact Option.some.inj h2
  rw [hk]
  by_cases he : j + 1 = ks.length
  · rw [if_pos he]
    unfold tornC
    by_cases hc : o.kind = 1 ∧ (T : Int) < (o.data.size : Int)
    · rw [if_pos hc, if_pos ⟨he, hc.1, by omega⟩]
      have h1 : doF (crF safe ((kcs ops ks T).take j)) ⟨o.kind, o.name, o.to, o.data.extract 0 T⟩ = doF (crF safe ((kcs ops ks T).take j)) (Chg.tear o.name o.data (T : Int).toNat).asOp := by
        unfold doF Chg.asOp
        simp only
        rw [if_pos hc.1, if_pos trivial]
        rfl
      rw [h1]
    · rw [if_neg hc, if_neg (fun q => hc ⟨q.2.1, by have := q.2.2; omega⟩)]
      rfl
  · rw [if_neg he, if_neg (fun q => he q.1)]
    rfl

set_option maxRecDepth 10000 in
set_option maxHeartbeats 16000000 in
theorem spec_Crash (aL : Option Addr) (nL cL : Nat) (live : List Fl) (aS : Option Addr) (nS cS : Nat) (safe : List Fl) (aO : Option Addr) (nO cO : Nat) (ops : List Dop) (ak : Option Addr) (nk ck : Nat) (ks : List Int) (t : Int) (w : World) (h : DiskAt w aL nL cL live aS nS cS safe aO nO cO ops) (hk : ks.length = nk) (hk2 : nk ≤ 1048576) (hkr : RowAt i64E w ak ks) :
    Calls Try.prog 6 #[.agg #[.slice aL nL cL, .slice aS nS cS, .slice aO nO cO], .slice ak nk ck, .int .i64 t] w (SpcPost (fun v => .tuple #[v, .bool (crOk live safe ops ks t)]) (crL live safe ops ks t) (crL live safe ops ks t) [] w) := by
  obtain ⟨Wa, hWa⟩ : ∃ Wa, Wa = w.alloc (.cells #[.slice aL nL cL, .slice aS nS cS, .slice aO nO cO] 31) := ⟨_, rfl⟩
  obtain ⟨W0, hW0⟩ : ∃ W0, W0 = Wa.alloc (.cells #[.slice none 0 0, .slice none 0 0, .slice none 0 0] 31) := ⟨_, rfl⟩
  have hba : Below w.heap.size w Wa := by rw [hWa]; exact bel1 _ _
  have hsa : Wa.heap.size = w.heap.size + 1 := by rw [hWa]; simp
  have hs0 : W0.heap.size = w.heap.size + 2 := by rw [hW0]; simp [hsa]
  have hb0 : Below Wa.heap.size Wa W0 := by rw [hW0]; exact bel1 _ _
  have c0 : W0.cell? ⟨w.heap.size, 0, none⟩ = some (.slice aL nL cL) := bcl hb0 (by omega) (by rw [hWa]; simp [go_sem])
  have c1 : W0.cell? ⟨w.heap.size, 1, none⟩ = some (.slice aS nS cS) := bcl hb0 (by omega) (by rw [hWa]; simp [go_sem])
  have c2 : W0.cell? ⟨w.heap.size, 2, none⟩ = some (.slice aO nO cO) := bcl hb0 (by omega) (by rw [hWa]; simp [go_sem])
  have hr : ∀ i, i < 3 → W0.cell? ⟨w.heap.size + 1, i, none⟩ = some (.slice none 0 0) ∧ W0.frozen? ⟨w.heap.size + 1, i, none⟩ = false := by
    intro i hi
    rw [hW0, ← hsa]
    rcases i with _ | _ | _ | i
    all_goals first | omega | simp [go_sem]
  have HC := hide (fun (W : World) (hW : Below W0.heap.size W0 W) => And.intro (bcl hW (show w.heap.size < W0.heap.size by omega) c0) (And.intro (bcl hW (show w.heap.size < W0.heap.size by omega) c1) (bcl hW (show w.heap.size < W0.heap.size by omega) c2)))
  have HR := hide (fun (W : World) (hW : Below W0.heap.size W0 W) (i : Nat) (hi : i < 3) => And.intro (bcl hW (show w.heap.size + 1 < W0.heap.size by omega) (hr i hi).1) ((hW.frozen (p := ⟨w.heap.size + 1, i, none⟩) (show w.heap.size + 1 < W0.heap.size by omega)).trans (hr i hi).2))
  have HFIN := hide (fun (W : World) (hW : Below W0.heap.size W0 W) => belOn (belOn hba hb0) hW)
  have HD := hide (fun (W : World) (hW : Below W0.heap.size W0 W) => (h.below (belOn hba hb0)).below hW)
  have HKR := hide (fun (W : World) (hW : Below W0.heap.size W0 W) => hkr.below (belOn (belOn hba hb0) hW))
  have HW0 := hide (show (w.alloc (.cells #[.slice aL nL cL, .slice aS nS cS, .slice aO nO cO] 31)).alloc (.cells #[.slice none 0 0, .slice none 0 0, .slice none 0 0] 31) = W0 from by rw [hW0, hWa])
  have HS0 := hide hs0
  have HOK := hide (spec_DiskOk aL nL cL live aS nS cS safe aO nO cO ops W0 (unhide HD _ (Below.refl _ _)))
  have hlo := h.lo
  have hls := h.ls
  have HFO := hide h.fo
  have HADS := hide h.ads
  have hbo := h.bo
  have hbs2 := h.bs
  have HNO := hide (show crOk live safe ops ks t = false → SpcPost (fun v => .tuple #[v, .bool (crOk live safe ops ks t)]) (crL live safe ops ks t) (crL live safe ops ks t) [] w = SpcPost (fun v => .tuple #[v, .bool false]) [] [] [] w from fun q => by unfold crL; rw [q]; rfl)
  have HYES := hide (show crOk live safe ops ks t = true → SpcPost (fun v => .tuple #[v, .bool (crOk live safe ops ks t)]) (crL live safe ops ks t) (crL live safe ops ks t) [] w = SpcPost (fun v => .tuple #[v, .bool true]) (crF safe (kcs ops ks t)) (crF safe (kcs ops ks t)) [] w from fun q => by unfold crL; rw [q]; rfl)
  have hcr : crOk live safe ops ks t = ((diskB live safe ops && (plB nO ks && decide (0 ≤ t))) && filesB (crF safe (kcs ops ks t))) := by unfold crOk; rw [hlo]
  cases hd : diskB live safe ops with
  | false =>
    rw [unhide HNO (by rw [hcr, hd]; rfl)]
    rw [hd] at HOK
    clear hba hb0 hWa hW0 hr h hsa hs0 hkr hcr hd
    go_enter Try.func6, Try.ntmps6
    go_wp2_with fail
    rw [unhide HW0]
    refine (unhide HOK).mono ?_
    rintro e w1 ⟨rfl, hb1⟩
    have HBF := hide hb1
    clear hb1 c0 c1 c2
    obtain ⟨r0, z0⟩ := unhide HR _ (unhide HBF) 0 (by decide)
    obtain ⟨r1, z1⟩ := unhide HR _ (unhide HBF) 1 (by decide)
    obtain ⟨r2, z2⟩ := unhide HR _ (unhide HBF) 2 (by decide)
    go_wp2_with fail
    refine bodyPost_ret (v := .tuple #[.agg #[.slice none 0 0, .slice none 0 0, .slice none 0 0], .bool false]) (by simp [results, Try.results6, go_sem, r0, r1, r2]) rfl ?_
    exact spcRet (live := []) (safe := []) (ops := []) (rb := w.heap.size + 1) (rowNil2 _ _ _) (rowNil2 _ _ _) (rowNil2 _ _ _) (fun k ⟨o, e⟩ => (by cases e)) (fun k ⟨o, e⟩ => (by cases e)) (fun k ⟨o, e⟩ => (by cases e)) (by omega) (unhide HFIN _ (unhide HBF))
  | true =>
    rw [hd] at HOK
    obtain ⟨hfs, hO2, hfo⟩ := disk_parts hd
    by_cases ht : t < 0
    · rw [unhide HNO (by rw [hcr, hd, show decide (0 ≤ t) = false from by simp; omega, Bool.and_false]; rfl)]
      clear hba hb0 hWa hW0 hr h hsa hs0 hkr hcr hd
      go_enter Try.func6, Try.ntmps6
      go_wp2_with fail
      rw [unhide HW0]
      refine (unhide HOK).mono ?_
      rintro e w1 ⟨rfl, hb1⟩
      have HBF := hide hb1
      clear hb1 c0 c1 c2
      obtain ⟨r0, z0⟩ := unhide HR _ (unhide HBF) 0 (by decide)
      obtain ⟨r1, z1⟩ := unhide HR _ (unhide HBF) 1 (by decide)
      obtain ⟨r2, z2⟩ := unhide HR _ (unhide HBF) 2 (by decide)
      go_wp2_with fail
      refine bodyPost_ret (v := .tuple #[.agg #[.slice none 0 0, .slice none 0 0, .slice none 0 0], .bool false]) (by simp [results, Try.results6, go_sem, r0, r1, r2]) rfl ?_
      exact spcRet (live := []) (safe := []) (ops := []) (rb := w.heap.size + 1) (rowNil2 _ _ _) (rowNil2 _ _ _) (rowNil2 _ _ _) (fun k ⟨o, e⟩ => (by cases e)) (fun k ⟨o, e⟩ => (by cases e)) (fun k ⟨o, e⟩ => (by cases e)) (by omega) (unhide HFIN _ (unhide HBF))
    obtain ⟨T, rfl⟩ := Int.eq_ofNat_of_zero_le (show 0 ≤ t by omega)
    obtain ⟨POST, hPOST⟩ : ∃ P, SpcPost (fun v => .tuple #[v, .bool (crOk live safe ops ks T)]) (crL live safe ops ks T) (crL live safe ops ks T) [] w = P := ⟨_, rfl⟩
    rw [hPOST] at HNO HYES ⊢
    have HCR := hide (show crOk live safe ops ks T = (plB nO ks && filesB (crF safe (kcs ops ks T))) from by rw [hcr, hd, show decide ((0 : Int) ≤ (T : Int)) = true from by simp, Bool.true_and, Bool.and_true])
    have HKL := hide hk
    have HNX := hide (show ∀ (W : World), Below W0.heap.size W0 W → crOk live safe ops ks T = false → POST (.returned (.tuple #[.agg #[.slice none 0 0, .slice none 0 0, .slice none 0 0], .bool false])) (((W.setCell ⟨w.heap.size + 1, 0, none⟩ (.slice none 0 0)).setCell ⟨w.heap.size + 1, 1, none⟩ (.slice none 0 0)).setCell ⟨w.heap.size + 1, 2, none⟩ (.slice none 0 0)) from fun W hW q => by
      rw [unhide HNO q]
      exact spcRet (f := fun v => .tuple #[v, .bool false]) (live := []) (safe := []) (ops := []) (k1 := 0) (k2 := 0) (k3 := 0) (y1 := none) (y2 := none) (y3 := none) (rb := w.heap.size + 1) (rowNil2 _ _ _) (rowNil2 _ _ _) (rowNil2 _ _ _) (fun k ⟨o, e⟩ => (by cases e)) (fun k ⟨o, e⟩ => (by cases e)) (fun k ⟨o, e⟩ => (by cases e)) (by omega) (unhide HFIN _ hW))
    clear hba hb0 hWa hW0 hr h hsa hs0 hkr hcr hd hPOST
    go_enter Try.func6, Try.ntmps6
    go_wp2_with fail
    rw [unhide HW0]
    refine (unhide HOK).mono ?_
    rintro e w1 ⟨rfl, hb1⟩
    have HB1 := hide hb1
    clear hb1 c0 c1 c2
    go_wp2_with fail
    go_loopw [8] (fun i wr => ∃ k : Nat, i = .int .i64 k ∧ k ≤ nk ∧ Hid (∀ j, j < k → PlAt nO ks j) ∧ Hid (Below W0.heap.size W0 wr)) (fun i _ => nk - (intOf i).toNat)
    case atStart => exact ⟨0, rfl, by omega, hide (fun j hj => by omega), HB1⟩
    case round =>
      clear HB1
      obtain ⟨k, rfl, hkk, HV, HB⟩ := hrel
      obtain ⟨q0, q1, q2⟩ := unhide HC _ (unhide HB)
      by_cases hkn : k < nk
      · have hkl : k < ks.length := by rw [unhide HKL]; exact hkn
        obtain ⟨g, e1, l1, p0, -⟩ := (unhide HKR _ (unhide HB)).ix k hkl
        have hgx := getD_at ks k hkl
        have hprev : ∀ j, k = j + 1 → ∃ y, ks.getD j 0 = y ∧ wr.cell? ⟨g, j, none⟩ = some (.int .i64 y) := by
          intro j hj
          have hjl : j < ks.length := by omega
          obtain ⟨g', e', l', r0, -⟩ := (unhide HKR _ (unhide HB)).ix j hjl
          rw [e1] at e'
          obtain rfl : g = g' := by simpa using e'
          exact ⟨ks[j], getD_at ks j hjl, r0⟩
        obtain ⟨x, hx⟩ : ∃ x, ks[k] = x := ⟨_, rfl⟩
        rw [hx] at p0 hgx
        subst e1
        have i0 : (0 : Int) ≤ (k : Int) := by omega
        have i1 : (k : Int) < (nk : Int) := by omega
        have hw1 : IntKind.i64.wrap ((nO : Int) - 1) = (nO : Int) - 1 := by rw [IntKind.wrap_i64]; omega
        have HGX := hide hgx
        have HPR := hide hprev
        have hnil : ∀ (q : Nat), (wr.drewN q).cell? ⟨w.heap.size + 1, 0, none⟩ = some (.slice none 0 0) := fun q => ((unhide HR _ (belQC (unhide HB) q) 0 (by decide))).1
        clear hgx hx hprev
        cases hi : (decide (0 ≤ x) && decide (x ≤ (nO : Int) - 1)) with
        | false =>
          have HF := hide (show crOk live safe ops ks T = false from by
            rw [unhide HCR, plB_no hkl (fun q => by have := q.1; rw [unhide HGX] at this; simp at hi; omega)]
            rfl)
          have HI := hide hi
          clear hi HPR HV
          obtain ⟨r0, z0⟩ := unhide HR _ (unhide HB) 0 (by decide)
          obtain ⟨r1, z1⟩ := unhide HR _ (unhide HB) 1 (by decide)
          obtain ⟨r2, z2⟩ := unhide HR _ (unhide HB) 2 (by decide)
          go_wp2_with fail
          go_quiet (first | (go_at_call 20; exact inC_quiet _ _ _ _ _ _ (unhide HI)))
          all_goals (try go_wp2_with fail)
          refine bodyPost_ret (v := .tuple #[.agg #[.slice none 0 0, .slice none 0 0, .slice none 0 0], .bool false]) (by simp [results, Try.results6, go_sem, r0, r1, r2]) rfl ?_
          exact unhide HNX _ (belQC (unhide HB) _) (unhide HF)
        | true =>
          have HI := hide hi
          have hi2 : 0 ≤ x ∧ x ≤ (nO : Int) - 1 := by simpa using hi
          obtain ⟨hi3, hi4⟩ := hi2
          rcases Nat.eq_zero_or_pos k with hk0 | hk0
          · have HX := hide (show ∀ j, j < k + 1 → PlAt nO ks j from fun j hj => by
              obtain rfl : j = k := by omega
              exact ⟨by rw [unhide HGX]; omega, fun q => by omega⟩)
            have hk1 : ¬ 0 < k := by omega
            clear hi HPR hk0 HV
            go_wp2_with fail
            go_quiet (first | (go_at_call 20; exact inC_quiet _ _ _ _ _ _ (unhide HI)))
            all_goals (try go_wp2_with fail)
            all_goals exact ⟨⟨k + 1, by go_num, by omega, HX, hide (belQC (unhide HB) _)⟩, by simp [intOf]; omega⟩
          · obtain ⟨j, hkj⟩ : ∃ j, k = j + 1 := ⟨k - 1, by omega⟩
            obtain ⟨y, hy, u0⟩ := unhide HPR j hkj
            have j0 : (0 : Int) ≤ (j : Int) := by omega
            have j1 : (j : Int) < (nk : Int) := by omega
            have jw : IntKind.i64.wrap ((k : Int) - 1) = (j : Int) := by rw [IntKind.wrap_i64]; omega
            have hk1 : 0 < k := by omega
            by_cases hpp : x ≤ y
            · have HF := hide (show crOk live safe ops ks T = false from by
                rw [unhide HCR, plB_no hkl (fun q => by have := q.2 hk1; rw [unhide HGX, show k - 1 = j from by omega, hy] at this; omega)]
                rfl)
              clear hi HPR hy hkj hk0 HV
              obtain ⟨r0, z0⟩ := unhide HR _ (unhide HB) 0 (by decide)
              obtain ⟨r1, z1⟩ := unhide HR _ (unhide HB) 1 (by decide)
              obtain ⟨r2, z2⟩ := unhide HR _ (unhide HB) 2 (by decide)
              go_wp2_with fail
              go_quiet (first | (go_at_call 20; exact inC_quiet _ _ _ _ _ _ (unhide HI)))
              all_goals (try go_wp2_with fail)
              refine bodyPost_ret (v := .tuple #[.agg #[.slice none 0 0, .slice none 0 0, .slice none 0 0], .bool false]) (by simp [results, Try.results6, go_sem, r0, r1, r2]) rfl ?_
              exact unhide HNX _ (belQC (unhide HB) _) (unhide HF)
            · have HX := hide (show ∀ i, i < k + 1 → PlAt nO ks i from fun i hi5 => by
                by_cases q : i < k
                · exact unhide HV i q
                · obtain rfl : i = k := by omega
                  exact ⟨by rw [unhide HGX]; omega, fun _ => by rw [unhide HGX, show i - 1 = j from by omega, hy]; omega⟩)
              clear hi HPR hy hkj hk0 HV
              go_wp2_with fail
              go_quiet (first | (go_at_call 20; exact inC_quiet _ _ _ _ _ _ (unhide HI)))
              all_goals (try go_wp2_with fail)
              all_goals exact ⟨⟨k + 1, by go_num, by omega, HX, hide (belQC (unhide HB) _)⟩, by simp [intOf]; omega⟩
      · obtain rfl : k = nk := by omega
        have hplo : PlOk nO ks := fun j hj => unhide HV j (by rw [unhide HKL] at hj; exact hj)
        have HCR2 := hide (show crOk live safe ops ks T = filesB (crF safe (kcs ops ks T)) from by rw [unhide HCR, plB_yes hplo, Bool.true_and])
        have hplo2 : PlOk ops.length ks := by rw [hlo]; exact hplo
        have hform : ∀ o ∈ ops, formB o = true ∧ SmO o := fun o ho => ⟨hfo o ho, unhide HFO o ho⟩
        have hall := kcs_all (t := T) hplo2 hform
        have hklen := kcs_len ops ks (T : Int)
        have hkn2 := pl_len hplo2
        have HINV := hide (fun (j : Nat) (hj : j ≤ k) => cr_inv hfs (kcs ops ks T) (fun x hx => (hall x hx).1) (fun x hx => (hall x hx).2) j (by rw [hklen, hk]; exact hj))
        have HSTP := hide (fun (j : Nat) (hj : j < ks.length) (P : Nat) (hP : ks[j] = (P : Int)) (hPl : P < ops.length) (o : Dop) (ho : ops[P] = o) => kcs_step ops ks T safe j hj P hP hPl o ho)
        have HTK := hide (show crF safe ((kcs ops ks T).take k) = crF safe (kcs ops ks T) from by rw [List.take_of_length_le (by rw [hklen, hk]; exact Nat.le_refl _)])
        have HT0 := hide (show crF safe ((kcs ops ks T).take 0) = safe from rfl)
        obtain ⟨FK, hFK⟩ : ∃ f : Nat → List Fl, ∀ j, crF safe ((kcs ops ks T).take j) = f j := ⟨_, fun _ => rfl⟩
        obtain ⟨F, hF⟩ : ∃ F, crF safe (kcs ops ks T) = F := ⟨_, rfl⟩
        simp only [hFK] at HINV HSTP HTK HT0
        rw [hF] at HCR2 HYES HTK
        have HPLO := hide hplo
        have HFM := hide hform
        have hk200 : k ≤ 200 := by omega
        clear hplo hplo2 hform hall hklen hFK hF HV HCR hkn hfo hfs hO2
        have hz := (unhide HB).size
        obtain ⟨WE, hWE⟩ : ∃ W, W = wr.alloc (.cells #[] 81) := ⟨_, rfl⟩
        have HOE := hide (ownR_empty fileE wr W0.heap.size hz)
        have q1e := bcl (bel1 wr (.cells #[] 81)) (lt_of_cell q1) q1
        have HRS := hide (((unhide HD _ (unhide HB)).rs).below (bel1 wr (.cells #[] 81)))
        have HBE := hide (belOn (unhide HB) (bel1 wr (.cells #[] 81)))
        have hzE : W0.heap.size ≤ (wr.alloc (.cells #[] 81)).heap.size := by simp; omega
        clear hWE WE
        go_wp2_with (at_builtin; go_must (refine appG (e := fileE) rfl _ _ rfl (unhide HOE) rfl aS nS cS rfl hls (unhide HRS) (unhide HADS) (by simp; omega) hzE ?_); intro v' w6 hown6 hb6)
        obtain ⟨a6, c6, hv6⟩ := hown6.form
        subst hv6
        have HN6 := hide (show RowAt fileE w6 a6 (FK 0) ∧ AdOk a6 c6 ∧ (∀ g, inB a6 g → W0.heap.size ≤ g) from by rw [unhide HT0]; exact ⟨hown6.at, hown6.ad, fun g hg => (hown6.bl g hg).1⟩)
        have HB6 := hide ((unhide HBE).trans hb6)
        have hl0 : ([] ++ safe : List Fl).length = (FK 0).length := by rw [unhide HT0]; rfl
        clear hown6 hb6 q0 q1 q2 q1e hzE HOE HRS
        simp only [hl0]
        go_wp2_with fail
        go_loopw [9, 10] (fun s i wx => ∃ (q : Nat) (a : Option Addr) (c : Nat), s = .slice a (FK q).length c ∧ i = .int .i64 q ∧ q ≤ k ∧ Hid (RowAt fileE wx a (FK q) ∧ AdOk a c ∧ (∀ g, inB a g → W0.heap.size ≤ g)) ∧ Hid (Below W0.heap.size W0 wx)) (fun _ i _ => k - (intOf i).toNat)
        case atStart => exact ⟨0, a6, c6, rfl, rfl, by omega, HN6, HB6⟩
        case round =>
          clear HN6 HB6
          obtain ⟨q, a, c, rfl, rfl, hq, HNW, HBQ⟩ := hrel
          have hiv := unhide HINV q hq
          have hln := hiv.ln
          have hfit := hiv.bn.fit (show 1000000 + q * 1000000000 ≤ 1000000000000 by omega)
          by_cases hqk : q < k
          · have hql : q < ks.length := by rw [unhide HKL]; exact hqk
            obtain ⟨gk, ek, lk, p0, -⟩ := (unhide HKR _ (unhide HBQ)).ix q hql
            have hpa := (unhide HPLO q hql).1
            rw [getD_at ks q hql] at hpa
            obtain ⟨x, hx⟩ : ∃ x, ks[q] = x := ⟨_, rfl⟩
            rw [hx] at p0 hpa
            obtain ⟨P, rfl⟩ := Int.eq_ofNat_of_zero_le hpa.1
            have hPl : P < ops.length := by rw [hlo]; have := hpa.2; omega
            obtain ⟨go, eo, lo, r0, r1, r2, r3⟩ := (unhide HD _ (unhide HBQ)).ro.dop P hPl
            have hfm := unhide HFM ops[P] (by simp)
            have hstp := unhide HSTP q hql P hx hPl ops[P] rfl
            obtain ⟨o, ho⟩ : ∃ o, ops[P] = o := ⟨_, rfl⟩
            rw [ho] at hfm hstp r0 r1 r2 r3
            rw [unhide HKL] at hstp
            obtain ⟨kd, nm, tx, dt⟩ := o
            simp only at r0 r1 r2 r3 hstp
            obtain ⟨q0, q1, q2⟩ := unhide HC _ (unhide HBQ)
            have i0 : (0 : Int) ≤ (q : Int) := by omega
            have i1 : (q : Int) < (k : Int) := by omega
            have i2 : (0 : Int) ≤ (P : Int) := by omega
            have i3 : (P : Int) < (nO : Int) := hpa.2
            have hsm := hfm.2
            have hds : dt.size ≤ 1000000000 := hsm.2.2
            subst ek eo
            have lq := lt_of_cell q2
            have A2 := fun (W : World) (hW : Below wr.heap.size wr W) => bcl hW lq q2
            have A0 := fun (W : World) (hW : Below wr.heap.size wr W) => bcl hW lk p0
            have B0 := fun (W : World) (hW : Below wr.heap.size wr W) => bcl hW lo r0
            have B1 := fun (W : World) (hW : Below wr.heap.size wr W) => bcl hW lo r1
            have B2 := fun (W : World) (hW : Below wr.heap.size wr W) => bcl hW lo r2
            have B3 := fun (W : World) (hW : Below wr.heap.size wr W) => bcl hW lo r3
            have HBR := hide (Below.refl wr.heap.size wr)
            have BV : Below W0.heap.size W0 (wr.alloc (.cells #[.int .i64 kd, .string nm, .string tx, .string dt] 49)).drew := belDrew (belOn (unhide HBQ) (bel1 _ _))
            have hwk : IntKind.i64.wrap ((k : Int) - 1) = (k : Int) - 1 := by rw [IntKind.wrap_i64]; omega
            have HSTP2 := hide hstp
            have HFIT := hide hfit
            have HBV := hide BV
            clear hstp hfm ho hx hpa hPl q0 q1 q2 p0 r0 r1 r2 r3 hiv hfit BV
            go_wp2_with fail
            go_region_held3 (fun w' => Below wr.heap.size wr w') (first | exact belDrew (unhide HBR) | exact belDrew (bel1 _ _) | exact (by assumption) | exact (Below.alloc (by assumption) (Below.size (by assumption)) _)) (fail)
            clear A0 A2 B0 B1 B2 B3
            by_cases hL : q + 1 = k ∧ kd = 1 ∧ T < dt.size
            · obtain ⟨hq1, rfl, hTd⟩ := hL
              have hqe : ((q : Int) == (k : Int) - 1) = true := by rw [beq_iff_eq]; omega
              have hTd2 : (T : Int) < (dt.size : Int) := by omega
              have hT0 : (0 : Int) ≤ (T : Int) := by omega
              have hT1 : (T : Int) ≤ (dt.size : Int) := by omega
              obtain ⟨cut, hcut⟩ : ∃ c, dt.extract 0 T = c := ⟨_, rfl⟩
              have HST3 := hide (show FK (q + 1) = (doF (FK q) ⟨1, nm, tx, cut⟩).1 from by rw [unhide HSTP2, if_pos ⟨hq1, rfl, hTd⟩, hcut])
              have hcs : cut.size ≤ 1000000000 := by rw [← hcut, ByteArray.size_extract]; omega
              have hsm2 : SmO ⟨1, nm, tx, cut⟩ := ⟨hsm.1, hsm.2.1, hcs⟩
              obtain ⟨V5, hV5⟩ : ∃ V, V = (wr.alloc (.cells #[.int .i64 1, .string nm, .string tx, .string cut] 49)).drew := ⟨_, rfl⟩
              have hbV : Below wr.heap.size wr V5 := by rw [hV5]; exact belDrew (bel1 _ _)
              have HDO := hide (l4Do_calls a (FK q).length c (FK q) ⟨1, nm, tx, cut⟩ V5 rfl (by omega) (unhide HFIT) hsm2.fit ((unhide HNW).1.below hbV) (unhide HNW).2.1)
              rw [show dopV ⟨1, nm, tx, cut⟩ = .agg #[.int .i64 1, .string nm, .string tx, .string cut] from rfl] at HDO
              unfold DoPost at HDO
              have HBV5 := hide (belOn (unhide HBQ) hbV)
              have HV5 := hide hV5.symm
              clear hV5 hbV
              go_wp2_with fail
              rw [unhide HV5]
              refine (unhide HDO).mono ?_
              rintro e w7 ⟨v7, rfl, ov, hb7⟩
              obtain ⟨a7, c7, rfl⟩ := ov.form
              have HOV := hide ov
              have HB7 := hide (belOn (unhide HBV5) hb7)
              clear hb7 ov
              go_wp2_with fail
              exact ⟨⟨q + 1, a7, c7, by rw [unhide HST3], by go_num, by omega, hide ⟨by rw [unhide HST3]; exact (unhide HOV).at, (unhide HOV).ad, fun g hg => Nat.le_trans (unhide HBV5).size ((unhide HOV).bl g hg).1⟩, HB7⟩, by simp [intOf]; omega⟩
            · by_cases hq1 : q + 1 = k
              · have hqe : ((q : Int) == (k : Int) - 1) = true := by rw [beq_iff_eq]; omega
                by_cases hkd : kd = 1
                · subst hkd
                  have hTd2 : ¬ (T : Int) < (dt.size : Int) := fun h => hL ⟨hq1, rfl, by omega⟩
                  have HST3 := hide (show FK (q + 1) = (doF (FK q) ⟨1, nm, tx, dt⟩).1 from by rw [unhide HSTP2, if_neg hL])
                  have HDO := hide (l4Do_calls a (FK q).length c (FK q) ⟨1, nm, tx, dt⟩ (wr.alloc (.cells #[.int .i64 1, .string nm, .string tx, .string dt] 49)).drew rfl (by omega) (unhide HFIT) hsm.fit ((unhide HNW).1.below (belDrew (bel1 _ _))) (unhide HNW).2.1)
                  rw [show dopV ⟨1, nm, tx, dt⟩ = .agg #[.int .i64 1, .string nm, .string tx, .string dt] from rfl] at HDO
                  unfold DoPost at HDO
                  clear hL
                  go_wp2_with fail
                  refine (unhide HDO).mono ?_
                  rintro e w7 ⟨v7, rfl, ov, hb7⟩
                  obtain ⟨a7, c7, rfl⟩ := ov.form
                  have HOV := hide ov
                  have HB7 := hide (belOn (unhide HBV) hb7)
                  clear hb7 ov
                  go_wp2_with fail
                  exact ⟨⟨q + 1, a7, c7, by rw [unhide HST3], by go_num, by omega, hide ⟨by rw [unhide HST3]; exact (unhide HOV).at, (unhide HOV).ad, fun g hg => Nat.le_trans (unhide HBV).size ((unhide HOV).bl g hg).1⟩, HB7⟩, by simp [intOf]; omega⟩
                · have hkb : (kd == (1 : Int)) = false := by rw [beq_eq_false_iff_ne]; exact hkd
                  skip
                  have HST3 := hide (show FK (q + 1) = (doF (FK q) ⟨kd, nm, tx, dt⟩).1 from by rw [unhide HSTP2, if_neg hL])
                  have HDO := hide (l4Do_calls a (FK q).length c (FK q) ⟨kd, nm, tx, dt⟩ (wr.alloc (.cells #[.int .i64 kd, .string nm, .string tx, .string dt] 49)).drew rfl (by omega) (unhide HFIT) hsm.fit ((unhide HNW).1.below (belDrew (bel1 _ _))) (unhide HNW).2.1)
                  rw [show dopV ⟨kd, nm, tx, dt⟩ = .agg #[.int .i64 kd, .string nm, .string tx, .string dt] from rfl] at HDO
                  unfold DoPost at HDO
                  clear hL
                  go_wp2_with fail
                  refine (unhide HDO).mono ?_
                  rintro e w7 ⟨v7, rfl, ov, hb7⟩
                  obtain ⟨a7, c7, rfl⟩ := ov.form
                  have HOV := hide ov
                  have HB7 := hide (belOn (unhide HBV) hb7)
                  clear hb7 ov
                  go_wp2_with fail
                  exact ⟨⟨q + 1, a7, c7, by rw [unhide HST3], by go_num, by omega, hide ⟨by rw [unhide HST3]; exact (unhide HOV).at, (unhide HOV).ad, fun g hg => Nat.le_trans (unhide HBV).size ((unhide HOV).bl g hg).1⟩, HB7⟩, by simp [intOf]; omega⟩
              · have hqe : ((q : Int) == (k : Int) - 1) = false := by rw [beq_eq_false_iff_ne]; omega
                skip
                have HST3 := hide (show FK (q + 1) = (doF (FK q) ⟨kd, nm, tx, dt⟩).1 from by rw [unhide HSTP2, if_neg hL])
                have HDO := hide (l4Do_calls a (FK q).length c (FK q) ⟨kd, nm, tx, dt⟩ (wr.alloc (.cells #[.int .i64 kd, .string nm, .string tx, .string dt] 49)).drew rfl (by omega) (unhide HFIT) hsm.fit ((unhide HNW).1.below (belDrew (bel1 _ _))) (unhide HNW).2.1)
                rw [show dopV ⟨kd, nm, tx, dt⟩ = .agg #[.int .i64 kd, .string nm, .string tx, .string dt] from rfl] at HDO
                unfold DoPost at HDO
                clear hL
                go_wp2_with fail
                refine (unhide HDO).mono ?_
                rintro e w7 ⟨v7, rfl, ov, hb7⟩
                obtain ⟨a7, c7, rfl⟩ := ov.form
                have HOV := hide ov
                have HB7 := hide (belOn (unhide HBV) hb7)
                clear hb7 ov
                go_wp2_with fail
                exact ⟨⟨q + 1, a7, c7, by rw [unhide HST3], by go_num, by omega, hide ⟨by rw [unhide HST3]; exact (unhide HOV).at, (unhide HOV).ad, fun g hg => Nat.le_trans (unhide HBV).size ((unhide HOV).bl g hg).1⟩, HB7⟩, by simp [intOf]; omega⟩
          · obtain rfl : q = k := by omega
            have hfin := unhide HTK
            have HL4 := hide (l4Files_calls a (FK q).length c (FK q) wr rfl (by omega) hfit (unhide HNW).1)
            rw [hfin] at HL4 HNW ⊢
            clear hiv hfit
            cases hff : filesB F with
            | false =>
              rw [hff] at HL4 HCR2
              go_wp2_with fail
              refine (unhide HL4).mono ?_
              rintro e w7 ⟨rfl, hb7⟩
              have HBF := hide (belOn (unhide HBQ) hb7)
              clear hb7
              obtain ⟨r0, z0⟩ := unhide HR _ (unhide HBF) 0 (by decide)
              obtain ⟨r1, z1⟩ := unhide HR _ (unhide HBF) 1 (by decide)
              obtain ⟨r2, z2⟩ := unhide HR _ (unhide HBF) 2 (by decide)
              go_wp2_with fail
              refine bodyPost_ret (v := .tuple #[.agg #[.slice none 0 0, .slice none 0 0, .slice none 0 0], .bool false]) (by simp [results, Try.results6, go_sem, r0, r1, r2]) rfl ?_
              exact unhide HNX _ (unhide HBF) (unhide HCR2)
            | true =>
              rw [hff] at HL4 HCR2
              go_wp2_with fail
              refine (unhide HL4).mono ?_
              rintro e w7 ⟨rfl, hb7⟩
              have HBF := hide (belOn (unhide HBQ) hb7)
              have HN7 := hide (show RowAt fileE w7 a F ∧ AdOk a c from ⟨(unhide HNW).1.below hb7, (unhide HNW).2.1⟩)
              have HLB := hide (unhide HNW).2.2
              have hz7 := (unhide HBF).size
              clear hb7
              have HOE := hide (ownR_empty fileE w7 w7.heap.size (Nat.le_refl _))
              have HRE := hide ((unhide HN7).1.below (bel1 w7 (.cells #[] 81)))
              have HBE := hide (belOn (unhide HBF) (bel1 w7 (.cells #[] 81)))
              have hzE : w7.heap.size ≤ (w7.alloc (.cells #[] 81)).heap.size := by simp
              have hlF : F.length ≤ 300 := by rw [hfin] at hln; omega
              go_wp2_with (at_builtin; go_must (refine appG (e := fileE) rfl _ _ rfl (unhide HOE) rfl a F.length c rfl rfl (unhide HRE) (unhide HN7).2 (by simp; omega) hzE ?_); intro v' w8 hown8 hb8; obtain ⟨y8, c8, hv8⟩ := hown8.form; subst hv8; have HB8 := hide ((unhide HBE).trans (hb8.mono hz7)); obtain ⟨r0, z0⟩ := unhide HR _ (unhide HB8) 0 (by decide); obtain ⟨r1, z1⟩ := unhide HR _ (unhide HB8) 1 (by decide); obtain ⟨r2, z2⟩ := unhide HR _ (unhide HB8) 2 (by decide); have HO8 := hide hown8; have HN8 := hide ((unhide HN7).1.below (((bel1 w7 (.cells #[] 81))).trans hb8)); have hn8 := ((unhide HBE).trans (hb8.mono hz7)).size; clear hb8)
              rw [unhide HYES (unhide HCR2)]
              refine bodyPost_ret (v := .tuple #[.agg #[.slice a F.length c, .slice y8 F.length c8, .slice none 0 0], .bool true]) (by simp [results, Try.results6, go_sem, r0, r1, r2]) rfl ?_
              have hs0 := unhide HS0
              exact spcRet (live := F) (safe := F) (ops := []) (rb := w.heap.size + 1) (unhide HN8) (unhide HO8).at (rowNil2 _ _ _) (fun k hk => (by have := unhide HLB k hk; omega)) (fun k hk => (by have := ((unhide HO8).bl k hk).1; omega)) (fun k ⟨o, e⟩ => (by cases e)) (by omega) (unhide HFIN _ (unhide HB8))
end Go.Proofs.Ytiligddjilcdhaa


/- Rows of numbers, marked. -/
namespace Go.Proofs.Ytiligddjilcdhaa
open Go.RowKit Plain
set_option linter.unusedVariables false

namespace Plain
/-- What the marking leaves. -/
def mkI (b n : Nat) : List Int := (List.range n).map fun i : Nat => ((b + i : Nat) : Int)
theorem mkI_length (b n : Nat) : (mkI b n).length = n := by simp [mkI]
theorem mkI_get (b n k : Nat) (h : k < (mkI b n).length) : (mkI b n)[k] = ((b + k : Nat) : Int) := by simp [mkI]
def mixI (b : Nat) (fs : List Int) (k : Nat) : List Int := mkI b k ++ fs.drop k
theorem mixI_length (b : Nat) (fs : List Int) (k : Nat) (h : k ≤ fs.length) : (mixI b fs k).length = fs.length := by simp [mixI, mkI_length]; omega
theorem mixI_zero (b : Nat) (fs : List Int) : mixI b fs 0 = fs := by simp [mixI, mkI]
theorem mixI_end (b : Nat) (fs : List Int) : mixI b fs fs.length = mkI b fs.length := by simp [mixI]
theorem mixI_next (b : Nat) (fs : List Int) (k : Nat) (h : k < fs.length) : (mixI b fs k).set k ((b + k : Nat) : Int) = mixI b fs (k + 1) := by
  have hl := mkI_length b k
  unfold mixI
  rw [List.set_append_right _ _ (by omega), hl, Nat.sub_self, List.drop_eq_getElem_cons h, List.set_cons_zero]
  simp [mkI, List.range_succ]
end Plain

set_option maxHeartbeats 1000000 in
theorem markInt64S_calls (b : Nat) (a : Option Addr) (c n : Nat) (fs : List Int) (w : World) (hb2 : b ≤ 100000000) (hn : fs.length = n) (hn2 : n ≤ 100000000) (h1 : RowAt i64E w a fs) :
    Calls Try.prog 13 #[.slice a n c, .int .i64 b] w fun e w' => e = .returned (.int .i64 ((b + n : Nat) : Int)) ∧ RowAt i64E w' a (mkI b n) ∧ OnlyRow a w w' := by
  have H1 := hide h1
  have HN := hide hn
  clear h1 hn
  go_enter Try.func13, Try.ntmps13
  go_wp2_with fail
  go_loopw [1, 5] (fun m i wr => ∃ (k : Nat), i = .int .i64 k ∧ m = .int .i64 ((b + k : Nat) : Int) ∧ k ≤ n ∧ Hid (RowAt i64E wr a (mixI b fs k)) ∧ Hid (OnlyRow a w wr)) (fun _ i _ => n - (intOf i).toNat)
  case atStart => exact ⟨0, rfl, rfl, by omega, hide (by rw [mixI_zero]; exact unhide H1), OnlyRow.refl _ _⟩
  case round =>
    clear H1
    obtain ⟨k, rfl, rfl, hk, HF, HB⟩ := hrel
    by_cases hlt : k < n
    · have hfl : k < fs.length := by rw [unhide HN]; exact hlt
      have hml := mixI_length b fs k (by omega)
      have hkl : k < (mixI b fs k).length := by omega
      obtain ⟨g, e1, l1, p1, z1⟩ := (unhide HF).ix k hkl
      subst e1
      have hnx := mixI_next b fs k hfl
      have i0 : (0 : Int) ≤ (k : Int) := by omega
      have i1 : (k : Int) < (n : Int) := by omega
      obtain ⟨M, hM⟩ : ∃ M, b + k = M := ⟨_, rfl⟩
      rw [hM] at hnx ⊢
      have hS := (unhide HF).setJ k hkl 0 (by decide) (.int .i64 M) (M : Int) rfl
      rw [hnx, show k * i64E.n + 0 = k from Nat.mul_one k] at hS
      have HF2 := hide hS
      generalize (mixI b fs k)[k] = x at p1
      clear hS hnx HF
      go_wp2_with fail
      go_roundw
      case rel => exact ⟨k + 1, by go_num, by rw [show b + (k + 1) = M + 1 from by omega]; go_num, by omega, HF2, hide ((unhide HB).trans (OnlyRow.set _ _))⟩
      case measure => simp [intOf]; omega
    · obtain rfl : k = n := by omega
      have hF := unhide HF
      rw [← unhide HN, mixI_end, unhide HN] at hF
      have HF2 := hide hF
      clear hF HF
      go_wp2_with fail
      go_ret
      exact ⟨rfl, unhide HF2, unhide HB⟩



namespace Plain
/-- The blocks of members' two lists. -/
def inC (a b : Option Addr) (g : Nat) : Prop := inB a g ∨ inB b g
/-- Two lists, marked one behind the other. -/
structure CMark (W : World) (a b : Option Addr) (n m : Nat) : Prop where
  v : RowAt i64E W a (mkI 1 n)
  l : RowAt i64E W b (mkI (1 + n) m)
theorem CMark.below {W W' : World} {a b : Option Addr} {n m : Nat} (h : CMark W a b n m) (hb : Below W.heap.size W W') : CMark W' a b n m := ⟨h.v.below hb, h.l.below hb⟩
end Plain
end Go.Proofs.Ytiligddjilcdhaa

