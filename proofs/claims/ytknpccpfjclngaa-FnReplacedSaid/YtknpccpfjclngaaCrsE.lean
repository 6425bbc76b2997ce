/- A loss of power, by the program. -/
import Derived.Test.YtknpccpfjclngaaCrsD
namespace Go.Proofs.Ytknpccpfjclngaa
open Go.RowKit Go.Maps Plain
set_option linter.unusedVariables false

namespace Plain
noncomputable def crOk (live safe : List Fl) (ops : List Dop) (ks : List Int) (t : Int) : Bool := (diskB live safe ops && (plB ops.length ks && decide (0 ≤ t))) && filesB (crF safe (kcs ops ks t))
noncomputable def crL (live safe : List Fl) (ops : List Dop) (ks : List Int) (t : Int) : List Fl := if crOk live safe ops ks t then crF safe (kcs ops ks t) else []
end Plain

set_option maxRecDepth 10000 in
set_option maxHeartbeats 8000000 in
theorem impl_CrashO (aL : Option Addr) (nL cL : Nat) (live : List Fl) (aS : Option Addr) (nS cS : Nat) (safe : List Fl) (aO : Option Addr) (nO cO : Nat) (ops : List Dop) (ak : Option Addr) (nk ck : Nat) (ks : List Int) (t : Int) (w : World) (h : DiskO w aL nL cL live aS nS cS safe aO nO cO ops) (hk : ks.length = nk) (hk2 : nk ≤ 1048576) (hkr : RowAt i64E w ak ks) :
    Calls Try.prog 8 #[.agg #[.slice aL nL cL, .slice aS nS cS, .slice aO nO cO], .slice ak nk ck, .int .i64 t] w (DskPost (fun v => .tuple #[v, .bool (crOk live safe ops ks t)]) (crL live safe ops ks t) (crL live safe ops ks t) [] w) := by
  obtain ⟨Wa, hWa⟩ : ∃ Wa, Wa = w.alloc (.cells #[.slice aL nL cL, .slice aS nS cS, .slice aO nO cO] 27) := ⟨_, rfl⟩
  obtain ⟨W0, hW0⟩ : ∃ W0, W0 = Wa.alloc (.cells #[.slice none 0 0, .slice none 0 0, .slice none 0 0] 27) := ⟨_, rfl⟩
  have hba : Below w.heap.size w Wa := by rw [hWa]; exact bel1 _ _
  have hsa : Wa.heap.size = w.heap.size + 1 := by rw [hWa]; simp
  have hs0 : W0.heap.size = w.heap.size + 2 := by rw [hW0]; simp [hsa]
  have hb0 : Below Wa.heap.size Wa W0 := by rw [hW0]; exact bel1 _ _
  have c0 : W0.cell? ⟨w.heap.size, 0, none⟩ = some (.slice aL nL cL) := bcl hb0 (by omega) (by rw [hWa]; simp [go_sem])
  have c1 : W0.cell? ⟨w.heap.size, 1, none⟩ = some (.slice aS nS cS) := bcl hb0 (by omega) (by rw [hWa]; simp [go_sem])
  have c2 : W0.cell? ⟨w.heap.size, 2, none⟩ = some (.slice aO nO cO) := bcl hb0 (by omega) (by rw [hWa]; simp [go_sem])
  have hr : ∀ i, i < 3 → W0.cell? ⟨w.heap.size + 1, i, none⟩ = some (.slice none 0 0) ∧ W0.frozen? ⟨w.heap.size + 1, i, none⟩ = false := by
    intro i hi
    rw [hW0, ← hsa]
    rcases i with _ | _ | _ | i
    all_goals first | omega | simp [go_sem]
  have HC := hide (fun (W : World) (hW : Below W0.heap.size W0 W) => And.intro (bcl hW (show w.heap.size < W0.heap.size by omega) c0) (And.intro (bcl hW (show w.heap.size < W0.heap.size by omega) c1) (bcl hW (show w.heap.size < W0.heap.size by omega) c2)))
  have HR := hide (fun (W : World) (hW : Below W0.heap.size W0 W) (i : Nat) (hi : i < 3) => And.intro (bcl hW (show w.heap.size + 1 < W0.heap.size by omega) (hr i hi).1) ((hW.frozen (p := ⟨w.heap.size + 1, i, none⟩) (show w.heap.size + 1 < W0.heap.size by omega)).trans (hr i hi).2))
  have HFIN := hide (fun (W : World) (hW : Below W0.heap.size W0 W) => belOn (belOn hba hb0) hW)
  have HD := hide (fun (W : World) (hW : Below W0.heap.size W0 W) => (h.below (belOn hba hb0)).below hW)
  have HKR := hide (fun (W : World) (hW : Below W0.heap.size W0 W) => hkr.below (belOn (belOn hba hb0) hW))
  have HW0 := hide (show (w.alloc (.cells #[.slice aL nL cL, .slice aS nS cS, .slice aO nO cO] 27)).alloc (.cells #[.slice none 0 0, .slice none 0 0, .slice none 0 0] 27) = W0 from by rw [hW0, hWa])
  have HS0 := hide hs0
  have HOK := hide (impl_DiskOkO aL nL cL live aS nS cS safe aO nO cO ops W0 (unhide HD _ (Below.refl _ _)))
  have HPL := hide (fun (W : World) (hW : Below W0.heap.size W0 W) => placesOk_calls ak nk ck ks nO W hk hk2 (unhide HKR W hW))
  have hlo := h.lo
  have hls := h.ls
  have HFO := hide h.fo
  have HNO := hide (show crOk live safe ops ks t = false → DskPost (fun v => .tuple #[v, .bool (crOk live safe ops ks t)]) (crL live safe ops ks t) (crL live safe ops ks t) [] w = DskPost (fun v => .tuple #[v, .bool false]) [] [] [] w from fun q => by unfold crL; rw [q]; rfl)
  have HYES := hide (show crOk live safe ops ks t = true → DskPost (fun v => .tuple #[v, .bool (crOk live safe ops ks t)]) (crL live safe ops ks t) (crL live safe ops ks t) [] w = DskPost (fun v => .tuple #[v, .bool true]) (crF safe (kcs ops ks t)) (crF safe (kcs ops ks t)) [] w from fun q => by unfold crL; rw [q]; rfl)
  have hcr : crOk live safe ops ks t = ((diskB live safe ops && (plB nO ks && decide (0 ≤ t))) && filesB (crF safe (kcs ops ks t))) := by unfold crOk; rw [hlo]
  cases hd : diskB live safe ops with
  | false =>
    rw [unhide HNO (by rw [hcr, hd]; rfl)]
    rw [hd] at HOK
    clear hba hb0 hWa hW0 hr h hsa hs0 hkr hcr hd
    go_enter Try.func8, Try.ntmps8
    go_wp2_with fail
    rw [unhide HW0]
    refine (unhide HOK).mono ?_
    rintro e w1 ⟨rfl, hb1⟩
    have HBF := hide hb1
    clear hb1 c0 c1 c2
    obtain ⟨r0, z0⟩ := unhide HR _ (unhide HBF) 0 (by decide)
    obtain ⟨r1, z1⟩ := unhide HR _ (unhide HBF) 1 (by decide)
    obtain ⟨r2, z2⟩ := unhide HR _ (unhide HBF) 2 (by decide)
    go_wp2_with fail
    refine bodyPost_ret (v := .tuple #[.agg #[.slice none 0 0, .slice none 0 0, .slice none 0 0], .bool false]) (by simp [results, Try.results8, go_sem, r0, r1, r2]) rfl ?_
    have hs0 := unhide HS0
    have hzf := (unhide HBF).size
    exact dskRet (live := []) (safe := []) (ops := []) (rb := w.heap.size + 1) (B := w.heap.size + 2) (World.ownsRow_nil _ _ _ _) (World.ownsRow_nil _ _ _ _) (World.ownsRow_nil _ _ _ _) apartNil2 (by omega) (by omega) (unhide HFIN _ (unhide HBF))
  | true =>
    rw [hd] at HOK
    obtain ⟨hfs, hO2, hfo⟩ := disk_parts hd
    cases hp : plB nO ks with
    | false =>
      rw [unhide HNO (by rw [hcr, hd, hp]; rfl)]
      rw [hp] at HPL
      clear hba hb0 hWa hW0 hr h hsa hs0 hkr hcr hd hp
      go_enter Try.func8, Try.ntmps8
      go_wp2_with fail
      rw [unhide HW0]
      refine (unhide HOK).mono ?_
      rintro e w1 ⟨rfl, hb1⟩
      have HB1 := hide hb1
      obtain ⟨q0, q1, q2⟩ := unhide HC _ hb1
      clear hb1 c0 c1 c2
      go_wp2_with fail
      refine (unhide HPL _ (unhide HB1)).mono ?_
      rintro e w2 ⟨rfl, rfl⟩
      have HBF := hide (unhide HB1)
      obtain ⟨r0, z0⟩ := unhide HR _ (unhide HBF) 0 (by decide)
      obtain ⟨r1, z1⟩ := unhide HR _ (unhide HBF) 1 (by decide)
      obtain ⟨r2, z2⟩ := unhide HR _ (unhide HBF) 2 (by decide)
      go_wp2_with fail
      refine bodyPost_ret (v := .tuple #[.agg #[.slice none 0 0, .slice none 0 0, .slice none 0 0], .bool false]) (by simp [results, Try.results8, go_sem, r0, r1, r2]) rfl ?_
      have hs0 := unhide HS0
      have hzf := (unhide HBF).size
      exact dskRet (live := []) (safe := []) (ops := []) (rb := w.heap.size + 1) (B := w.heap.size + 2) (World.ownsRow_nil _ _ _ _) (World.ownsRow_nil _ _ _ _) (World.ownsRow_nil _ _ _ _) apartNil2 (by omega) (by omega) (unhide HFIN _ (unhide HBF))
    | true =>
      rw [hp] at HPL
      by_cases ht : t < 0
      · rw [unhide HNO (by rw [hcr, hd, hp, show decide (0 ≤ t) = false from by simp; omega]; rfl)]
        clear hba hb0 hWa hW0 hr h hsa hs0 hkr hcr hd hp
        go_enter Try.func8, Try.ntmps8
        go_wp2_with fail
        rw [unhide HW0]
        refine (unhide HOK).mono ?_
        rintro e w1 ⟨rfl, hb1⟩
        have HB1 := hide hb1
        obtain ⟨q0, q1, q2⟩ := unhide HC _ hb1
        clear hb1 c0 c1 c2
        go_wp2_with fail
        refine (unhide HPL _ (unhide HB1)).mono ?_
        rintro e w2 ⟨rfl, rfl⟩
        have HBF := hide (unhide HB1)
        obtain ⟨r0, z0⟩ := unhide HR _ (unhide HBF) 0 (by decide)
        obtain ⟨r1, z1⟩ := unhide HR _ (unhide HBF) 1 (by decide)
        obtain ⟨r2, z2⟩ := unhide HR _ (unhide HBF) 2 (by decide)
        go_wp2_with fail
        refine bodyPost_ret (v := .tuple #[.agg #[.slice none 0 0, .slice none 0 0, .slice none 0 0], .bool false]) (by simp [results, Try.results8, go_sem, r0, r1, r2]) rfl ?_
        have hs0 := unhide HS0
        have hzf := (unhide HBF).size
        exact dskRet (live := []) (safe := []) (ops := []) (rb := w.heap.size + 1) (B := w.heap.size + 2) (World.ownsRow_nil _ _ _ _) (World.ownsRow_nil _ _ _ _) (World.ownsRow_nil _ _ _ _) apartNil2 (by omega) (by omega) (unhide HFIN _ (unhide HBF))
      · obtain ⟨T, rfl⟩ := Int.eq_ofNat_of_zero_le (show 0 ≤ t by omega)
        have hplo := plB_ok hp
        rw [← hlo] at hplo
        have hkl := pl_len hplo
        have hform : ∀ o ∈ ops, formB o = true ∧ SmO o := fun o ho => ⟨hfo o ho, unhide HFO o ho⟩
        have hall := kcs_all (t := T) hplo hform
        have hklen := kcs_len ops ks (T : Int)
        have hinv := cr_inv hfs (kcs ops ks T) (fun x hx => (hall x hx).1) (fun x hx => (hall x hx).2) _ (Nat.le_refl _)
        rw [List.take_of_length_le (Nat.le_refl _)] at hinv
        have hfb := hinv.files
        have hbs : BndF 1000000 safe := fun f hf => by have := (files_small hfs).2 f hf; omega
        have hrs := (files_ok hfs).2
        have hsl := (files_small hfs).1
        have HTA := hide (fun (W : World) (hW : Below W0.heap.size W0 W) => tableOf_calls aS nS cS safe W hls (by omega) (small_fit hfs) (unhide HD W hW).rs)
        have HKE := hide (fun (W : World) (hW : Below W0.heap.size W0 W) => keptChanges_callsO aO nO cO ops ak nk ck ks T W hlo (by omega) hk (by rw [hlo] at hplo; exact hplo) (by omega) hform (unhide HD W hW).ro (unhide HKR W hW))
        have HUN := hide (fun (W : World) (b m : Nat) (a : Option Addr) (c : Nat) (hT : Tab W b m (tabF safe)) (hm : m ≤ 1000) (hrow : RowAt chgE W a (kcs ops ks T)) (hne : ¬ inB a b) => until_calls b m safe a nk c (kcs ops ks T) W hT hrs hm hbs (by rw [hklen, hk]) (by omega) hrow hne (fun x hx => (hall x hx).1) kcs_last)
        have hlf : (crF safe (kcs ops ks T)).length ≤ 300 := by have := hinv.ln; rw [hklen] at this; omega
        have hfit : FitF (crF safe (kcs ops ks T)) := hinv.bn.fit (by rw [hklen]; omega)
        have hsum := sumF_le hfit
        have HTF := hide (fun (W : World) (b m : Nat) (hT : Tab W b m (tabF (crF safe (kcs ops ks T)))) => tooFull_calls b m _ W hT hinv.ri.names (by omega) (by omega))
        have HLI := hide (fun (W : World) (b m : Nat) (hT : Tab W b m (tabF (crF safe (kcs ops ks T)))) => list_calls b m _ W hT hinv.ri (by omega) hfit)
        rw [← hfb] at HTF
        obtain ⟨F, hF⟩ : ∃ F, crF safe (kcs ops ks T) = F := ⟨_, rfl⟩
        unfold UntilPost at HUN
        rw [hF] at HTF HLI HYES hcr HUN
        unfold KeptPost at HKE
        have hn1000 : nS ≤ 1000 := by omega
        cases hff : filesB F with
        | false =>
          rw [unhide HNO (by rw [hcr, hff, Bool.and_false])]
          rw [hff] at HTF
          clear hba hb0 hWa hW0 hr h hsa hs0 hkr hcr hd hp hff hF hplo hkl hform hall hklen hinv hfb hbs hrs hsl hlf hfit hsum hfs hO2 hfo hlo hls HNO HYES HFO
          go_enter Try.func8, Try.ntmps8
          go_wp2_with fail
          rw [unhide HW0]
          refine (unhide HOK).mono ?_
          rintro e w1 ⟨rfl, hb1⟩
          have HB1 := hide hb1
          obtain ⟨q0, q1, q2⟩ := unhide HC _ hb1
          clear hb1 c0 c1 c2
          go_wp2_with fail
          refine (unhide HPL _ (unhide HB1)).mono ?_
          rintro e w2 ⟨rfl, rfl⟩
          go_wp2_with fail
          refine (unhide HTA _ (unhide HB1)).mono ?_
          rintro e w3 ⟨b, m, rfl, hbb, hmm, hT, hb3⟩
          have HB3 := hide (belOn (unhide HB1) hb3)
          have HT3 := hide (unhide hT)
          have hbl := (unhide hT).lt
          clear q0 q1 q2
          obtain ⟨q0, q1, q2⟩ := unhide HC _ (unhide HB3)
          have hz1 := (unhide HB1).size
          clear hb3 hT
          go_wp2_with fail
          refine (unhide HKE _ (unhide HB3)).mono ?_
          rintro e w4 ⟨ac, cc, rfl, hrow, hbk, hb4⟩
          have HB4 := hide (belOn (unhide HB3) hb4)
          have HU := hide (unhide HUN w4 b m ac cc ((unhide HT3).below hb4 hbl) (by omega) hrow (fun q => by have := hbk b q; omega))
          clear hb4 hrow hbk q0 q1 q2
          go_wp2_with fail
          refine (unhide HU).mono ?_
          rintro e w5 ⟨rfl, hT5, ho5⟩
          have HT5 := hide (unhide hT5)
          have HB5 := hide ((unhide HB4).trans ((OnlyP.row (p := fun g => g = b) ho5 (fun g o e => by cases e; rfl)).below (B := W0.heap.size) (fun g hg => by subst hg; omega) (unhide HB4).size))
          clear hT5 ho5
          go_wp2_with fail
          refine (unhide HTF _ _ _ (unhide HT5)).mono ?_
          rintro e w6 ⟨rfl, hb6⟩
          have HBF := hide (belOn (unhide HB5) hb6)
          clear hb6
          obtain ⟨r0, z0⟩ := unhide HR _ (unhide HBF) 0 (by decide)
          obtain ⟨r1, z1⟩ := unhide HR _ (unhide HBF) 1 (by decide)
          obtain ⟨r2, z2⟩ := unhide HR _ (unhide HBF) 2 (by decide)
          go_wp2_with fail
          refine bodyPost_ret (v := .tuple #[.agg #[.slice none 0 0, .slice none 0 0, .slice none 0 0], .bool false]) (by simp [results, Try.results8, go_sem, r0, r1, r2]) rfl ?_
          have hs0 := unhide HS0
          have hzf := (unhide HBF).size
          exact dskRet (live := []) (safe := []) (ops := []) (rb := w.heap.size + 1) (B := w.heap.size + 2) (World.ownsRow_nil _ _ _ _) (World.ownsRow_nil _ _ _ _) (World.ownsRow_nil _ _ _ _) apartNil2 (by omega) (by omega) (unhide HFIN _ (unhide HBF))
        | true =>
          rw [unhide HYES (by rw [hcr, hd, hp, hff, show decide ((0 : Int) ≤ (T : Int)) = true from by simp]; rfl)]
          rw [hff] at HTF
          clear hba hb0 hWa hW0 hr h hsa hs0 hkr hcr hd hp hff hF hplo hkl hform hall hklen hinv hfb hbs hrs hsl hlf hfit hsum hfs hO2 hfo hlo hls HNO HYES HFO
          go_enter Try.func8, Try.ntmps8
          go_wp2_with fail
          rw [unhide HW0]
          refine (unhide HOK).mono ?_
          rintro e w1 ⟨rfl, hb1⟩
          have HB1 := hide hb1
          obtain ⟨q0, q1, q2⟩ := unhide HC _ hb1
          clear hb1 c0 c1 c2
          go_wp2_with fail
          refine (unhide HPL _ (unhide HB1)).mono ?_
          rintro e w2 ⟨rfl, rfl⟩
          go_wp2_with fail
          refine (unhide HTA _ (unhide HB1)).mono ?_
          rintro e w3 ⟨b, m, rfl, hbb, hmm, hT, hb3⟩
          have HB3 := hide (belOn (unhide HB1) hb3)
          have HT3 := hide (unhide hT)
          have hbl := (unhide hT).lt
          clear q0 q1 q2
          obtain ⟨q0, q1, q2⟩ := unhide HC _ (unhide HB3)
          have hz1 := (unhide HB1).size
          clear hb3 hT
          go_wp2_with fail
          refine (unhide HKE _ (unhide HB3)).mono ?_
          rintro e w4 ⟨ac, cc, rfl, hrow, hbk, hb4⟩
          have HB4 := hide (belOn (unhide HB3) hb4)
          have HU := hide (unhide HUN w4 b m ac cc ((unhide HT3).below hb4 hbl) (by omega) hrow (fun q => by have := hbk b q; omega))
          clear hb4 hrow hbk q0 q1 q2
          go_wp2_with fail
          refine (unhide HU).mono ?_
          rintro e w5 ⟨rfl, hT5, ho5⟩
          have HT5 := hide (unhide hT5)
          have HB5 := hide ((unhide HB4).trans ((OnlyP.row (p := fun g => g = b) ho5 (fun g o e => by cases e; rfl)).below (B := W0.heap.size) (fun g hg => by subst hg; omega) (unhide HB4).size))
          clear hT5 ho5
          go_wp2_with fail
          refine (unhide HTF _ _ _ (unhide HT5)).mono ?_
          rintro e w6 ⟨rfl, hb6⟩
          have HB6 := hide (belOn (unhide HB5) hb6)
          have HT6 := hide ((unhide HT5).below hb6 (unhide HT5).lt)
          clear hb6
          go_wp2_with fail
          refine (unhide HLI _ _ _ (unhide HT6)).mono ?_
          rintro e w7 ⟨v1, rfl, o1, hb7⟩
          obtain ⟨y1, j1, rfl⟩ := o1.form
          have HT7 := hide ((unhide HT6).below hb7 (unhide HT6).lt)
          have HO1 := hide o1
          have HB7 := hide (belOn (unhide HB6) hb7)
          have hz7 := hb7.size
          clear hb7 o1
          go_wp2_with fail
          refine (unhide HLI _ _ _ (unhide HT7)).mono ?_
          rintro e w8 ⟨v2, rfl, o2, hb8⟩
          obtain ⟨y2, j2, rfl⟩ := o2.form
          have HO2 := hide o2
          have HO8 := hide ((unhide HO1).keep hb8)
          have HB8 := hide (belOn (unhide HB7) hb8)
          obtain ⟨r0, z0⟩ := unhide HR _ (unhide HB8) 0 (by decide)
          obtain ⟨r1, z1⟩ := unhide HR _ (unhide HB8) 1 (by decide)
          obtain ⟨r2, z2⟩ := unhide HR _ (unhide HB8) 2 (by decide)
          clear hb8 o2
          go_wp2_with fail
          refine bodyPost_ret (v := .tuple #[.agg #[.slice y1 F.length j1, .slice y2 F.length j2, .slice none 0 0], .bool true]) (by simp [results, Try.results8, go_sem, r0, r1, r2]) rfl ?_
          have hs0 := unhide HS0
          have hzf := (unhide HB6).size
          exact dskRet (live := F) (safe := F) (ops := []) (rb := w.heap.size + 1) (B := w6.heap.size) (unhide HO8) ((unhide HO2).le hz7) (World.ownsRow_nil _ _ _ _) ⟨(fun g h1 h2 => (by have := ((unhide HO1).bl g h1).2; have := ((unhide HO2).bl g h2).1; omega)), (fun g h1 ⟨o, e⟩ => (by cases e)), (fun g h1 ⟨o, e⟩ => (by cases e))⟩ (by omega) (by omega) (unhide HFIN _ (unhide HB8))

end Go.Proofs.Ytknpccpfjclngaa
