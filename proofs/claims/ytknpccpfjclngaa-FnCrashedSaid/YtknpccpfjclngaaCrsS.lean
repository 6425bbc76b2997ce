/- A loss of power, by the specification. -/
import Derived.Test.YtknpccpfjclngaaCrsE
import Derived.Test.YtknpccpfjclngaaActA
import Derived.Test.YtknpccpfjclngaaGAL
import Derived.Test.YtknpccpfjclngaaGAI
import Derived.Deep.RegionHeld3
import Derived.Deep.QuietTactic
import Derived.BigQuiet
namespace Go.Proofs.Ytknpccpfjclngaa
open Go.RowKit Go.Maps Plain
set_option linter.unusedVariables false

theorem inC_quiet (x lo hi : Int) (w : World) (q : Nat) (b : Bool) (h : (decide (lo ≤ x) && decide (x ≤ hi)) = b) :
    Calls Try.prog 22 #[.int .i64 x, .int .i64 lo, .int .i64 hi] (w.drewN q) fun e w'' => e = .returned (.bool b) ∧ ∃ m, w'' = w.drewN m := by
  subst h
  refine (l1In_calls x lo hi (w.drewN q)).mono ?_
  rintro e w2 ⟨rfl, rfl⟩
  exact ⟨rfl, q, rfl⟩
theorem Plain.belQC {B : Nat} {w w' : World} (h : Below B w w') (k : Nat) : Below B w (w'.drewN k) := ⟨h.os, h.tape, h.output, h.size, h.block⟩

theorem Plain.kcs_step (ops : List Dop) (ks : List Int) (T : Nat) (safe : List Fl) (j : Nat) (hj : j < ks.length) (P : Nat) (hP : ks[j] = (P : Int)) (hPl : P < ops.length) (o : Dop) (ho : ops[P] = o) :
    crF safe ((kcs ops ks T).take (j + 1)) = (doF (crF safe ((kcs ops ks T).take j)) (if j + 1 = ks.length ∧ o.kind = 1 ∧ T < o.data.size then ⟨o.kind, o.name, o.to, o.data.extract 0 T⟩ else o)).1 := by
  rw [crF_take _ _ j (by rw [kcs_len]; exact hj)]
  have hoa := opAt_at ops P hPl
  rw [ho] at hoa
  have hk : (kcs ops ks T)[j]'(by rw [kcs_len]; exact hj) = if j + 1 = ks.length then tornC T o else .op o := by
    have h2 : (kcs ops ks T)[j]? = some (if j + 1 = ks.length then tornC T o else .op o) := by
      unfold kcs
      by_cases he : j + 1 = ks.length
      · rw [if_pos he, show ks.length - 1 = j from by omega, List.getElem?_set_self (by simpa [kc0] using hj), getD_at ks j hj, hP, hoa]
      · rw [if_neg he, List.getElem?_set_ne (by omega)]
        simp [kc0, hj, hP, hoa]
    rw [List.getElem?_eq_getElem (by rw [kcs_len]; exact hj)] at h2
    exact Option.some.inj h2
  rw [hk]
  by_cases he : j + 1 = ks.length
  · rw [if_pos he]
    unfold tornC
    by_cases hc : o.kind = 1 ∧ (T : Int) < (o.data.size : Int)
    · rw [if_pos hc, if_pos ⟨he, hc.1, by omega⟩]
      have h1 : doF (crF safe ((kcs ops ks T).take j)) ⟨o.kind, o.name, o.to, o.data.extract 0 T⟩ = doF (crF safe ((kcs ops ks T).take j)) (Chg.tear o.name o.data (T : Int).toNat).asOp := by
        unfold doF Chg.asOp
        simp only
        rw [if_pos hc.1, if_pos trivial]
        rfl
      rw [h1]
    · rw [if_neg hc, if_neg (fun q => hc ⟨q.2.1, by have := q.2.2; omega⟩)]
      rfl
  · rw [if_neg he, if_neg (fun q => he q.1)]
    rfl

set_option maxRecDepth 10000 in
set_option maxHeartbeats 16000000 in
theorem spec_CrashO (aL : Option Addr) (nL cL : Nat) (live : List Fl) (aS : Option Addr) (nS cS : Nat) (safe : List Fl) (aO : Option Addr) (nO cO : Nat) (ops : List Dop) (ak : Option Addr) (nk ck : Nat) (ks : List Int) (t : Int) (w : World) (h : DiskO w aL nL cL live aS nS cS safe aO nO cO ops) (hk : ks.length = nk) (hk2 : nk ≤ 1048576) (hkr : RowAt i64E w ak ks) :
    Calls Try.prog 7 #[.agg #[.slice aL nL cL, .slice aS nS cS, .slice aO nO cO], .slice ak nk ck, .int .i64 t] w (SpcPost (fun v => .tuple #[v, .bool (crOk live safe ops ks t)]) (crL live safe ops ks t) (crL live safe ops ks t) [] w) := by
  obtain ⟨Wa, hWa⟩ : ∃ Wa, Wa = w.alloc (.cells #[.slice aL nL cL, .slice aS nS cS, .slice aO nO cO] 27) := ⟨_, rfl⟩
  obtain ⟨W0, hW0⟩ : ∃ W0, W0 = Wa.alloc (.cells #[.slice none 0 0, .slice none 0 0, .slice none 0 0] 27) := ⟨_, rfl⟩
  have hba : Below w.heap.size w Wa := by rw [hWa]; exact bel1 _ _
  have hsa : Wa.heap.size = w.heap.size + 1 := by rw [hWa]; simp
  have hs0 : W0.heap.size = w.heap.size + 2 := by rw [hW0]; simp [hsa]
  have hb0 : Below Wa.heap.size Wa W0 := by rw [hW0]; exact bel1 _ _
  have c0 : W0.cell? ⟨w.heap.size, 0, none⟩ = some (.slice aL nL cL) := bcl hb0 (by omega) (by rw [hWa]; simp [go_sem])
  have c1 : W0.cell? ⟨w.heap.size, 1, none⟩ = some (.slice aS nS cS) := bcl hb0 (by omega) (by rw [hWa]; simp [go_sem])
  have c2 : W0.cell? ⟨w.heap.size, 2, none⟩ = some (.slice aO nO cO) := bcl hb0 (by omega) (by rw [hWa]; simp [go_sem])
  have hr : ∀ i, i < 3 → W0.cell? ⟨w.heap.size + 1, i, none⟩ = some (.slice none 0 0) ∧ W0.frozen? ⟨w.heap.size + 1, i, none⟩ = false := by
    intro i hi
    rw [hW0, ← hsa]
    rcases i with _ | _ | _ | i
    all_goals first | omega | simp [go_sem]
  have HC := hide (fun (W : World) (hW : Below W0.heap.size W0 W) => And.intro (bcl hW (show w.heap.size < W0.heap.size by omega) c0) (And.intro (bcl hW (show w.heap.size < W0.heap.size by omega) c1) (bcl hW (show w.heap.size < W0.heap.size by omega) c2)))
  have HR := hide (fun (W : World) (hW : Below W0.heap.size W0 W) (i : Nat) (hi : i < 3) => And.intro (bcl hW (show w.heap.size + 1 < W0.heap.size by omega) (hr i hi).1) ((hW.frozen (p := ⟨w.heap.size + 1, i, none⟩) (show w.heap.size + 1 < W0.heap.size by omega)).trans (hr i hi).2))
  have HFIN := hide (fun (W : World) (hW : Below W0.heap.size W0 W) => belOn (belOn hba hb0) hW)
  have HD := hide (fun (W : World) (hW : Below W0.heap.size W0 W) => (h.below (belOn hba hb0)).below hW)
  have HKR := hide (fun (W : World) (hW : Below W0.heap.size W0 W) => hkr.below (belOn (belOn hba hb0) hW))
  have HW0 := hide (show (w.alloc (.cells #[.slice aL nL cL, .slice aS nS cS, .slice aO nO cO] 27)).alloc (.cells #[.slice none 0 0, .slice none 0 0, .slice none 0 0] 27) = W0 from by rw [hW0, hWa])
  have HS0 := hide hs0
  have HOK := hide (spec_DiskOkO aL nL cL live aS nS cS safe aO nO cO ops W0 (unhide HD _ (Below.refl _ _)))
  have hlo := h.lo
  have hls := h.ls
  have HFO := hide h.fo
  have HADS := hide h.ads
  have hbo := h.bo
  have hbs2 := h.bs
  have HNO := hide (show crOk live safe ops ks t = false → SpcPost (fun v => .tuple #[v, .bool (crOk live safe ops ks t)]) (crL live safe ops ks t) (crL live safe ops ks t) [] w = SpcPost (fun v => .tuple #[v, .bool false]) [] [] [] w from fun q => by unfold crL; rw [q]; rfl)
  have HYES := hide (show crOk live safe ops ks t = true → SpcPost (fun v => .tuple #[v, .bool (crOk live safe ops ks t)]) (crL live safe ops ks t) (crL live safe ops ks t) [] w = SpcPost (fun v => .tuple #[v, .bool true]) (crF safe (kcs ops ks t)) (crF safe (kcs ops ks t)) [] w from fun q => by unfold crL; rw [q]; rfl)
  have hcr : crOk live safe ops ks t = ((diskB live safe ops && (plB nO ks && decide (0 ≤ t))) && filesB (crF safe (kcs ops ks t))) := by unfold crOk; rw [hlo]
  cases hd : diskB live safe ops with
  | false =>
    rw [unhide HNO (by rw [hcr, hd]; rfl)]
    rw [hd] at HOK
    clear hba hb0 hWa hW0 hr h hsa hs0 hkr hcr hd
    go_enter Try.func7, Try.ntmps7
    go_wp2_with fail
    rw [unhide HW0]
    refine (unhide HOK).mono ?_
    rintro e w1 ⟨rfl, hb1⟩
    have HBF := hide hb1
    clear hb1 c0 c1 c2
    obtain ⟨r0, z0⟩ := unhide HR _ (unhide HBF) 0 (by decide)
    obtain ⟨r1, z1⟩ := unhide HR _ (unhide HBF) 1 (by decide)
    obtain ⟨r2, z2⟩ := unhide HR _ (unhide HBF) 2 (by decide)
    go_wp2_with fail
    refine bodyPost_ret (v := .tuple #[.agg #[.slice none 0 0, .slice none 0 0, .slice none 0 0], .bool false]) (by simp [results, Try.results7, go_sem, r0, r1, r2]) rfl ?_
    exact spcRet (live := []) (safe := []) (ops := []) (rb := w.heap.size + 1) (rowNil2 _ _ _) (rowNil2 _ _ _) (rowNil2 _ _ _) (fun k ⟨o, e⟩ => (by cases e)) (fun k ⟨o, e⟩ => (by cases e)) (fun k ⟨o, e⟩ => (by cases e)) (by omega) (unhide HFIN _ (unhide HBF))
  | true =>
    rw [hd] at HOK
    obtain ⟨hfs, hO2, hfo⟩ := disk_parts hd
    by_cases ht : t < 0
    · rw [unhide HNO (by rw [hcr, hd, show decide (0 ≤ t) = false from by simp; omega, Bool.and_false]; rfl)]
      clear hba hb0 hWa hW0 hr h hsa hs0 hkr hcr hd
      go_enter Try.func7, Try.ntmps7
      go_wp2_with fail
      rw [unhide HW0]
      refine (unhide HOK).mono ?_
      rintro e w1 ⟨rfl, hb1⟩
      have HBF := hide hb1
      clear hb1 c0 c1 c2
      obtain ⟨r0, z0⟩ := unhide HR _ (unhide HBF) 0 (by decide)
      obtain ⟨r1, z1⟩ := unhide HR _ (unhide HBF) 1 (by decide)
      obtain ⟨r2, z2⟩ := unhide HR _ (unhide HBF) 2 (by decide)
      go_wp2_with fail
      refine bodyPost_ret (v := .tuple #[.agg #[.slice none 0 0, .slice none 0 0, .slice none 0 0], .bool false]) (by simp [results, Try.results7, go_sem, r0, r1, r2]) rfl ?_
      exact spcRet (live := []) (safe := []) (ops := []) (rb := w.heap.size + 1) (rowNil2 _ _ _) (rowNil2 _ _ _) (rowNil2 _ _ _) (fun k ⟨o, e⟩ => (by cases e)) (fun k ⟨o, e⟩ => (by cases e)) (fun k ⟨o, e⟩ => (by cases e)) (by omega) (unhide HFIN _ (unhide HBF))
    obtain ⟨T, rfl⟩ := Int.eq_ofNat_of_zero_le (show 0 ≤ t by omega)
    obtain ⟨POST, hPOST⟩ : ∃ P, SpcPost (fun v => .tuple #[v, .bool (crOk live safe ops ks T)]) (crL live safe ops ks T) (crL live safe ops ks T) [] w = P := ⟨_, rfl⟩
    rw [hPOST] at HNO HYES ⊢
    have HCR := hide (show crOk live safe ops ks T = (plB nO ks && filesB (crF safe (kcs ops ks T))) from by rw [hcr, hd, show decide ((0 : Int) ≤ (T : Int)) = true from by simp, Bool.true_and, Bool.and_true])
    have HKL := hide hk
    have HNX := hide (show ∀ (W : World), Below W0.heap.size W0 W → crOk live safe ops ks T = false → POST (.returned (.tuple #[.agg #[.slice none 0 0, .slice none 0 0, .slice none 0 0], .bool false])) (((W.setCell ⟨w.heap.size + 1, 0, none⟩ (.slice none 0 0)).setCell ⟨w.heap.size + 1, 1, none⟩ (.slice none 0 0)).setCell ⟨w.heap.size + 1, 2, none⟩ (.slice none 0 0)) from fun W hW q => by
      rw [unhide HNO q]
      exact spcRet (f := fun v => .tuple #[v, .bool false]) (live := []) (safe := []) (ops := []) (k1 := 0) (k2 := 0) (k3 := 0) (y1 := none) (y2 := none) (y3 := none) (rb := w.heap.size + 1) (rowNil2 _ _ _) (rowNil2 _ _ _) (rowNil2 _ _ _) (fun k ⟨o, e⟩ => (by cases e)) (fun k ⟨o, e⟩ => (by cases e)) (fun k ⟨o, e⟩ => (by cases e)) (by omega) (unhide HFIN _ hW))
    clear hba hb0 hWa hW0 hr h hsa hs0 hkr hcr hd hPOST
    go_enter Try.func7, Try.ntmps7
    go_wp2_with fail
    rw [unhide HW0]
    refine (unhide HOK).mono ?_
    rintro e w1 ⟨rfl, hb1⟩
    have HB1 := hide hb1
    clear hb1 c0 c1 c2
    go_wp2_with fail
    go_loopw [8] (fun i wr => ∃ k : Nat, i = .int .i64 k ∧ k ≤ nk ∧ Hid (∀ j, j < k → PlAt nO ks j) ∧ Hid (Below W0.heap.size W0 wr)) (fun i _ => nk - (intOf i).toNat)
    case atStart => exact ⟨0, rfl, by omega, hide (fun j hj => by omega), HB1⟩
    case round =>
      clear HB1
      obtain ⟨k, rfl, hkk, HV, HB⟩ := hrel
      obtain ⟨q0, q1, q2⟩ := unhide HC _ (unhide HB)
      by_cases hkn : k < nk
      · have hkl : k < ks.length := by rw [unhide HKL]; exact hkn
        obtain ⟨g, e1, l1, p0, -⟩ := (unhide HKR _ (unhide HB)).ix k hkl
        have hgx := getD_at ks k hkl
        have hprev : ∀ j, k = j + 1 → ∃ y, ks.getD j 0 = y ∧ wr.cell? ⟨g, j, none⟩ = some (.int .i64 y) := by
          intro j hj
          have hjl : j < ks.length := by omega
          obtain ⟨g', e', l', r0, -⟩ := (unhide HKR _ (unhide HB)).ix j hjl
          rw [e1] at e'
          obtain rfl : g = g' := by simpa using e'
          exact ⟨ks[j], getD_at ks j hjl, r0⟩
        obtain ⟨x, hx⟩ : ∃ x, ks[k] = x := ⟨_, rfl⟩
        rw [hx] at p0 hgx
        subst e1
        have i0 : (0 : Int) ≤ (k : Int) := by omega
        have i1 : (k : Int) < (nk : Int) := by omega
        have hw1 : IntKind.i64.wrap ((nO : Int) - 1) = (nO : Int) - 1 := by rw [IntKind.wrap_i64]; omega
        have HGX := hide hgx
        have HPR := hide hprev
        have hnil : ∀ (q : Nat), (wr.drewN q).cell? ⟨w.heap.size + 1, 0, none⟩ = some (.slice none 0 0) := fun q => ((unhide HR _ (belQC (unhide HB) q) 0 (by decide))).1
        clear hgx hx hprev
        cases hi : (decide (0 ≤ x) && decide (x ≤ (nO : Int) - 1)) with
        | false =>
          have HF := hide (show crOk live safe ops ks T = false from by
            rw [unhide HCR, plB_no hkl (fun q => by have := q.1; rw [unhide HGX] at this; simp at hi; omega)]
            rfl)
          have HI := hide hi
          clear hi HPR HV
          obtain ⟨r0, z0⟩ := unhide HR _ (unhide HB) 0 (by decide)
          obtain ⟨r1, z1⟩ := unhide HR _ (unhide HB) 1 (by decide)
          obtain ⟨r2, z2⟩ := unhide HR _ (unhide HB) 2 (by decide)
          go_wp2_with fail
          go_quiet (first | (go_at_call 22; exact inC_quiet _ _ _ _ _ _ (unhide HI)))
          all_goals (try go_wp2_with fail)
          refine bodyPost_ret (v := .tuple #[.agg #[.slice none 0 0, .slice none 0 0, .slice none 0 0], .bool false]) (by simp [results, Try.results7, go_sem, r0, r1, r2]) rfl ?_
          exact unhide HNX _ (belQC (unhide HB) _) (unhide HF)
        | true =>
          have HI := hide hi
          have hi2 : 0 ≤ x ∧ x ≤ (nO : Int) - 1 := by simpa using hi
          obtain ⟨hi3, hi4⟩ := hi2
          rcases Nat.eq_zero_or_pos k with hk0 | hk0
          · have HX := hide (show ∀ j, j < k + 1 → PlAt nO ks j from fun j hj => by
              obtain rfl : j = k := by omega
              exact ⟨by rw [unhide HGX]; omega, fun q => by omega⟩)
            have hk1 : ¬ 0 < k := by omega
            clear hi HPR hk0 HV
            go_wp2_with fail
            go_quiet (first | (go_at_call 22; exact inC_quiet _ _ _ _ _ _ (unhide HI)))
            all_goals (try go_wp2_with fail)
            all_goals exact ⟨⟨k + 1, by go_num, by omega, HX, hide (belQC (unhide HB) _)⟩, by simp [intOf]; omega⟩
          · obtain ⟨j, hkj⟩ : ∃ j, k = j + 1 := ⟨k - 1, by omega⟩
            obtain ⟨y, hy, u0⟩ := unhide HPR j hkj
            have j0 : (0 : Int) ≤ (j : Int) := by omega
            have j1 : (j : Int) < (nk : Int) := by omega
            have jw : IntKind.i64.wrap ((k : Int) - 1) = (j : Int) := by rw [IntKind.wrap_i64]; omega
            have hk1 : 0 < k := by omega
            by_cases hpp : x ≤ y
            · have HF := hide (show crOk live safe ops ks T = false from by
                rw [unhide HCR, plB_no hkl (fun q => by have := q.2 hk1; rw [unhide HGX, show k - 1 = j from by omega, hy] at this; omega)]
                rfl)
              clear hi HPR hy hkj hk0 HV
              obtain ⟨r0, z0⟩ := unhide HR _ (unhide HB) 0 (by decide)
              obtain ⟨r1, z1⟩ := unhide HR _ (unhide HB) 1 (by decide)
              obtain ⟨r2, z2⟩ := unhide HR _ (unhide HB) 2 (by decide)
              go_wp2_with fail
              go_quiet (first | (go_at_call 22; exact inC_quiet _ _ _ _ _ _ (unhide HI)))
              all_goals (try go_wp2_with fail)
              refine bodyPost_ret (v := .tuple #[.agg #[.slice none 0 0, .slice none 0 0, .slice none 0 0], .bool false]) (by simp [results, Try.results7, go_sem, r0, r1, r2]) rfl ?_
              exact unhide HNX _ (belQC (unhide HB) _) (unhide HF)
            · have HX := hide (show ∀ i, i < k + 1 → PlAt nO ks i from fun i hi5 => by
                by_cases q : i < k
                · exact unhide HV i q
                · obtain rfl : i = k := by omega
                  exact ⟨by rw [unhide HGX]; omega, fun _ => by rw [unhide HGX, show i - 1 = j from by omega, hy]; omega⟩)
              clear hi HPR hy hkj hk0 HV
              go_wp2_with fail
              go_quiet (first | (go_at_call 22; exact inC_quiet _ _ _ _ _ _ (unhide HI)))
              all_goals (try go_wp2_with fail)
              all_goals exact ⟨⟨k + 1, by go_num, by omega, HX, hide (belQC (unhide HB) _)⟩, by simp [intOf]; omega⟩
      · obtain rfl : k = nk := by omega
        have hplo : PlOk nO ks := fun j hj => unhide HV j (by rw [unhide HKL] at hj; exact hj)
        have HCR2 := hide (show crOk live safe ops ks T = filesB (crF safe (kcs ops ks T)) from by rw [unhide HCR, plB_yes hplo, Bool.true_and])
        have hplo2 : PlOk ops.length ks := by rw [hlo]; exact hplo
        have hform : ∀ o ∈ ops, formB o = true ∧ SmO o := fun o ho => ⟨hfo o ho, unhide HFO o ho⟩
        have hall := kcs_all (t := T) hplo2 hform
        have hklen := kcs_len ops ks (T : Int)
        have hkn2 := pl_len hplo2
        have HINV := hide (fun (j : Nat) (hj : j ≤ k) => cr_inv hfs (kcs ops ks T) (fun x hx => (hall x hx).1) (fun x hx => (hall x hx).2) j (by rw [hklen, hk]; exact hj))
        have HSTP := hide (fun (j : Nat) (hj : j < ks.length) (P : Nat) (hP : ks[j] = (P : Int)) (hPl : P < ops.length) (o : Dop) (ho : ops[P] = o) => kcs_step ops ks T safe j hj P hP hPl o ho)
        have HTK := hide (show crF safe ((kcs ops ks T).take k) = crF safe (kcs ops ks T) from by rw [List.take_of_length_le (by rw [hklen, hk]; exact Nat.le_refl _)])
        have HT0 := hide (show crF safe ((kcs ops ks T).take 0) = safe from rfl)
        obtain ⟨FK, hFK⟩ : ∃ f : Nat → List Fl, ∀ j, crF safe ((kcs ops ks T).take j) = f j := ⟨_, fun _ => rfl⟩
        obtain ⟨F, hF⟩ : ∃ F, crF safe (kcs ops ks T) = F := ⟨_, rfl⟩
        simp only [hFK] at HINV HSTP HTK HT0
        rw [hF] at HCR2 HYES HTK
        have HPLO := hide hplo
        have HFM := hide hform
        have hk200 : k ≤ 200 := by omega
        clear hplo hplo2 hform hall hklen hFK hF HV HCR hkn hfo hfs hO2
        have hz := (unhide HB).size
        obtain ⟨WE, hWE⟩ : ∃ W, W = wr.alloc (.cells #[] 65) := ⟨_, rfl⟩
        have HOE := hide (ownR_empty fileE wr W0.heap.size hz)
        have q1e := bcl (bel1 wr (.cells #[] 65)) (lt_of_cell q1) q1
        have HRS := hide (((unhide HD _ (unhide HB)).rs).below (bel1 wr (.cells #[] 65)))
        have HBE := hide (belOn (unhide HB) (bel1 wr (.cells #[] 65)))
        have hzE : W0.heap.size ≤ (wr.alloc (.cells #[] 65)).heap.size := by simp; omega
        clear hWE WE
        go_wp2_with (at_builtin; go_must (refine appG (e := fileE) rfl _ _ rfl (unhide HOE) rfl aS nS cS rfl hls (unhide HRS) (unhide HADS) (by simp; omega) hzE ?_); intro v' w6 hown6 hb6)
        obtain ⟨a6, c6, hv6⟩ := hown6.form
        subst hv6
        have HN6 := hide (show RowAt fileE w6 a6 (FK 0) ∧ AdOk a6 c6 ∧ (∀ g, inB a6 g → W0.heap.size ≤ g) from by rw [unhide HT0]; exact ⟨hown6.at, hown6.ad, fun g hg => (hown6.bl g hg).1⟩)
        have HB6 := hide ((unhide HBE).trans hb6)
        have hl0 : ([] ++ safe : List Fl).length = (FK 0).length := by rw [unhide HT0]; rfl
        clear hown6 hb6 q0 q1 q2 q1e hzE HOE HRS
        simp only [hl0]
        go_wp2_with fail
        go_loopw [9, 10] (fun s i wx => ∃ (q : Nat) (a : Option Addr) (c : Nat), s = .slice a (FK q).length c ∧ i = .int .i64 q ∧ q ≤ k ∧ Hid (RowAt fileE wx a (FK q) ∧ AdOk a c ∧ (∀ g, inB a g → W0.heap.size ≤ g)) ∧ Hid (Below W0.heap.size W0 wx)) (fun _ i _ => k - (intOf i).toNat)
        case atStart => exact ⟨0, a6, c6, rfl, rfl, by omega, HN6, HB6⟩
        case round =>
          clear HN6 HB6
          obtain ⟨q, a, c, rfl, rfl, hq, HNW, HBQ⟩ := hrel
          have hiv := unhide HINV q hq
          have hln := hiv.ln
          have hfit := hiv.bn.fit (show 1000000 + q * 1000000000 ≤ 1000000000000 by omega)
          by_cases hqk : q < k
          · have hql : q < ks.length := by rw [unhide HKL]; exact hqk
            obtain ⟨gk, ek, lk, p0, -⟩ := (unhide HKR _ (unhide HBQ)).ix q hql
            have hpa := (unhide HPLO q hql).1
            rw [getD_at ks q hql] at hpa
            obtain ⟨x, hx⟩ : ∃ x, ks[q] = x := ⟨_, rfl⟩
            rw [hx] at p0 hpa
            obtain ⟨P, rfl⟩ := Int.eq_ofNat_of_zero_le hpa.1
            have hPl : P < ops.length := by rw [hlo]; have := hpa.2; omega
            obtain ⟨go, ob, eo, lo, r0, r1, r2, r3⟩ := (unhide HD _ (unhide HBQ)).ro.dop P hPl
            have hfm := unhide HFM ops[P] (by simp)
            have hstp := unhide HSTP q hql P hx hPl ops[P] rfl
            obtain ⟨o, ho⟩ : ∃ o, ops[P] = o := ⟨_, rfl⟩
            rw [ho] at hfm hstp r0 r1 r2 r3
            rw [unhide HKL] at hstp
            obtain ⟨kd, nm, tx, dt⟩ := o
            simp only at r0 r1 r2 r3 hstp
            obtain ⟨q0, q1, q2⟩ := unhide HC _ (unhide HBQ)
            have i0 : (0 : Int) ≤ (q : Int) := by omega
            have i1 : (q : Int) < (k : Int) := by omega
            have i2 : (0 : Int) ≤ (P : Int) := by omega
            have i3 : (P : Int) < (nO : Int) := hpa.2
            have hsm := hfm.2
            have hds : dt.size ≤ 1000000000 := hsm.2.2
            subst ek eo
            have lq := lt_of_cell q2
            have A2 := fun (W : World) (hW : Below wr.heap.size wr W) => bcl hW lq q2
            have A0 := fun (W : World) (hW : Below wr.heap.size wr W) => bcl hW lk p0
            have B0 := fun (W : World) (hW : Below wr.heap.size wr W) => bcl hW lo r0
            have B1 := fun (W : World) (hW : Below wr.heap.size wr W) => bcl hW lo r1
            have B2 := fun (W : World) (hW : Below wr.heap.size wr W) => bcl hW lo r2
            have B3 := fun (W : World) (hW : Below wr.heap.size wr W) => bcl hW lo r3
            have HBR := hide (Below.refl wr.heap.size wr)
            have BV : Below W0.heap.size W0 (wr.alloc (.cells #[.int .i64 kd, .string nm, .string tx, .string dt] 50)).drew := belDrew (belOn (unhide HBQ) (bel1 _ _))
            have hwk : IntKind.i64.wrap ((k : Int) - 1) = (k : Int) - 1 := by rw [IntKind.wrap_i64]; omega
            have HSTP2 := hide hstp
            have HFIT := hide hfit
            have HBV := hide BV
            clear hstp hfm ho hx hpa hPl q0 q1 q2 p0 r0 r1 r2 r3 hiv hfit BV
            go_wp2_with fail
            go_region_held3 (fun w' => Below wr.heap.size wr w') (first | exact belDrew (unhide HBR) | exact belDrew (bel1 _ _) | exact (by assumption) | exact (Below.alloc (by assumption) (Below.size (by assumption)) _)) (fail)
            clear A0 A2 B0 B1 B2 B3
            by_cases hL : q + 1 = k ∧ kd = 1 ∧ T < dt.size
            · obtain ⟨hq1, rfl, hTd⟩ := hL
              have hqe : ((q : Int) == (k : Int) - 1) = true := by rw [beq_iff_eq]; omega
              have hTd2 : (T : Int) < (dt.size : Int) := by omega
              have hT0 : (0 : Int) ≤ (T : Int) := by omega
              have hT1 : (T : Int) ≤ (dt.size : Int) := by omega
              obtain ⟨cut, hcut⟩ : ∃ c, dt.extract 0 T = c := ⟨_, rfl⟩
              have HST3 := hide (show FK (q + 1) = (doF (FK q) ⟨1, nm, tx, cut⟩).1 from by rw [unhide HSTP2, if_pos ⟨hq1, rfl, hTd⟩, hcut])
              have hcs : cut.size ≤ 1000000000 := by rw [← hcut, ByteArray.size_extract]; omega
              have hsm2 : SmO ⟨1, nm, tx, cut⟩ := ⟨hsm.1, hsm.2.1, hcs⟩
              obtain ⟨V5, hV5⟩ : ∃ V, V = (wr.alloc (.cells #[.int .i64 1, .string nm, .string tx, .string cut] 50)).drew := ⟨_, rfl⟩
              have hbV : Below wr.heap.size wr V5 := by rw [hV5]; exact belDrew (bel1 _ _)
              have HDO := hide (l4Do_calls a (FK q).length c (FK q) ⟨1, nm, tx, cut⟩ V5 rfl (by omega) (unhide HFIT) hsm2.fit ((unhide HNW).1.below hbV) (unhide HNW).2.1)
              rw [show dopV ⟨1, nm, tx, cut⟩ = .agg #[.int .i64 1, .string nm, .string tx, .string cut] from rfl] at HDO
              unfold DoPost at HDO
              have HBV5 := hide (belOn (unhide HBQ) hbV)
              have HV5 := hide hV5.symm
              clear hV5 hbV
              go_wp2_with fail
              rw [unhide HV5]
              refine (unhide HDO).mono ?_
              rintro e w7 ⟨v7, rfl, ov, hb7⟩
              obtain ⟨a7, c7, rfl⟩ := ov.form
              have HOV := hide ov
              have HB7 := hide (belOn (unhide HBV5) hb7)
              clear hb7 ov
              go_wp2_with fail
              exact ⟨⟨q + 1, a7, c7, by rw [unhide HST3], by go_num, by omega, hide ⟨by rw [unhide HST3]; exact (unhide HOV).at, (unhide HOV).ad, fun g hg => Nat.le_trans (unhide HBV5).size ((unhide HOV).bl g hg).1⟩, HB7⟩, by simp [intOf]; omega⟩
            · by_cases hq1 : q + 1 = k
              · have hqe : ((q : Int) == (k : Int) - 1) = true := by rw [beq_iff_eq]; omega
                by_cases hkd : kd = 1
                · subst hkd
                  have hTd2 : ¬ (T : Int) < (dt.size : Int) := fun h => hL ⟨hq1, rfl, by omega⟩
                  have HST3 := hide (show FK (q + 1) = (doF (FK q) ⟨1, nm, tx, dt⟩).1 from by rw [unhide HSTP2, if_neg hL])
                  have HDO := hide (l4Do_calls a (FK q).length c (FK q) ⟨1, nm, tx, dt⟩ (wr.alloc (.cells #[.int .i64 1, .string nm, .string tx, .string dt] 50)).drew rfl (by omega) (unhide HFIT) hsm.fit ((unhide HNW).1.below (belDrew (bel1 _ _))) (unhide HNW).2.1)
                  rw [show dopV ⟨1, nm, tx, dt⟩ = .agg #[.int .i64 1, .string nm, .string tx, .string dt] from rfl] at HDO
                  unfold DoPost at HDO
                  clear hL
                  go_wp2_with fail
                  refine (unhide HDO).mono ?_
                  rintro e w7 ⟨v7, rfl, ov, hb7⟩
                  obtain ⟨a7, c7, rfl⟩ := ov.form
                  have HOV := hide ov
                  have HB7 := hide (belOn (unhide HBV) hb7)
                  clear hb7 ov
                  go_wp2_with fail
                  exact ⟨⟨q + 1, a7, c7, by rw [unhide HST3], by go_num, by omega, hide ⟨by rw [unhide HST3]; exact (unhide HOV).at, (unhide HOV).ad, fun g hg => Nat.le_trans (unhide HBV).size ((unhide HOV).bl g hg).1⟩, HB7⟩, by simp [intOf]; omega⟩
                · have hkb : (kd == (1 : Int)) = false := by rw [beq_eq_false_iff_ne]; exact hkd
                  skip
                  have HST3 := hide (show FK (q + 1) = (doF (FK q) ⟨kd, nm, tx, dt⟩).1 from by rw [unhide HSTP2, if_neg hL])
                  have HDO := hide (l4Do_calls a (FK q).length c (FK q) ⟨kd, nm, tx, dt⟩ (wr.alloc (.cells #[.int .i64 kd, .string nm, .string tx, .string dt] 50)).drew rfl (by omega) (unhide HFIT) hsm.fit ((unhide HNW).1.below (belDrew (bel1 _ _))) (unhide HNW).2.1)
                  rw [show dopV ⟨kd, nm, tx, dt⟩ = .agg #[.int .i64 kd, .string nm, .string tx, .string dt] from rfl] at HDO
                  unfold DoPost at HDO
                  clear hL
                  go_wp2_with fail
                  refine (unhide HDO).mono ?_
                  rintro e w7 ⟨v7, rfl, ov, hb7⟩
                  obtain ⟨a7, c7, rfl⟩ := ov.form
                  have HOV := hide ov
                  have HB7 := hide (belOn (unhide HBV) hb7)
                  clear hb7 ov
                  go_wp2_with fail
                  exact ⟨⟨q + 1, a7, c7, by rw [unhide HST3], by go_num, by omega, hide ⟨by rw [unhide HST3]; exact (unhide HOV).at, (unhide HOV).ad, fun g hg => Nat.le_trans (unhide HBV).size ((unhide HOV).bl g hg).1⟩, HB7⟩, by simp [intOf]; omega⟩
              · have hqe : ((q : Int) == (k : Int) - 1) = false := by rw [beq_eq_false_iff_ne]; omega
                skip
                have HST3 := hide (show FK (q + 1) = (doF (FK q) ⟨kd, nm, tx, dt⟩).1 from by rw [unhide HSTP2, if_neg hL])
                have HDO := hide (l4Do_calls a (FK q).length c (FK q) ⟨kd, nm, tx, dt⟩ (wr.alloc (.cells #[.int .i64 kd, .string nm, .string tx, .string dt] 50)).drew rfl (by omega) (unhide HFIT) hsm.fit ((unhide HNW).1.below (belDrew (bel1 _ _))) (unhide HNW).2.1)
                rw [show dopV ⟨kd, nm, tx, dt⟩ = .agg #[.int .i64 kd, .string nm, .string tx, .string dt] from rfl] at HDO
                unfold DoPost at HDO
                clear hL
                go_wp2_with fail
                refine (unhide HDO).mono ?_
                rintro e w7 ⟨v7, rfl, ov, hb7⟩
                obtain ⟨a7, c7, rfl⟩ := ov.form
                have HOV := hide ov
                have HB7 := hide (belOn (unhide HBV) hb7)
                clear hb7 ov
                go_wp2_with fail
                exact ⟨⟨q + 1, a7, c7, by rw [unhide HST3], by go_num, by omega, hide ⟨by rw [unhide HST3]; exact (unhide HOV).at, (unhide HOV).ad, fun g hg => Nat.le_trans (unhide HBV).size ((unhide HOV).bl g hg).1⟩, HB7⟩, by simp [intOf]; omega⟩
          · obtain rfl : q = k := by omega
            have hfin := unhide HTK
            have HL4 := hide (l4Files_calls a (FK q).length c (FK q) wr rfl (by omega) hfit (unhide HNW).1)
            rw [hfin] at HL4 HNW ⊢
            clear hiv hfit
            cases hff : filesB F with
            | false =>
              rw [hff] at HL4 HCR2
              go_wp2_with fail
              refine (unhide HL4).mono ?_
              rintro e w7 ⟨rfl, hb7⟩
              have HBF := hide (belOn (unhide HBQ) hb7)
              clear hb7
              obtain ⟨r0, z0⟩ := unhide HR _ (unhide HBF) 0 (by decide)
              obtain ⟨r1, z1⟩ := unhide HR _ (unhide HBF) 1 (by decide)
              obtain ⟨r2, z2⟩ := unhide HR _ (unhide HBF) 2 (by decide)
              go_wp2_with fail
              refine bodyPost_ret (v := .tuple #[.agg #[.slice none 0 0, .slice none 0 0, .slice none 0 0], .bool false]) (by simp [results, Try.results7, go_sem, r0, r1, r2]) rfl ?_
              exact unhide HNX _ (unhide HBF) (unhide HCR2)
            | true =>
              rw [hff] at HL4 HCR2
              go_wp2_with fail
              refine (unhide HL4).mono ?_
              rintro e w7 ⟨rfl, hb7⟩
              have HBF := hide (belOn (unhide HBQ) hb7)
              have HN7 := hide (show RowAt fileE w7 a F ∧ AdOk a c from ⟨(unhide HNW).1.below hb7, (unhide HNW).2.1⟩)
              have HLB := hide (unhide HNW).2.2
              have hz7 := (unhide HBF).size
              clear hb7
              have HOE := hide (ownR_empty fileE w7 w7.heap.size (Nat.le_refl _))
              have HRE := hide ((unhide HN7).1.below (bel1 w7 (.cells #[] 65)))
              have HBE := hide (belOn (unhide HBF) (bel1 w7 (.cells #[] 65)))
              have hzE : w7.heap.size ≤ (w7.alloc (.cells #[] 65)).heap.size := by simp
              have hlF : F.length ≤ 300 := by rw [hfin] at hln; omega
              go_wp2_with (at_builtin; go_must (refine appG (e := fileE) rfl _ _ rfl (unhide HOE) rfl a F.length c rfl rfl (unhide HRE) (unhide HN7).2 (by simp; omega) hzE ?_); intro v' w8 hown8 hb8; obtain ⟨y8, c8, hv8⟩ := hown8.form; subst hv8; have HB8 := hide ((unhide HBE).trans (hb8.mono hz7)); obtain ⟨r0, z0⟩ := unhide HR _ (unhide HB8) 0 (by decide); obtain ⟨r1, z1⟩ := unhide HR _ (unhide HB8) 1 (by decide); obtain ⟨r2, z2⟩ := unhide HR _ (unhide HB8) 2 (by decide); have HO8 := hide hown8; have HN8 := hide ((unhide HN7).1.below (((bel1 w7 (.cells #[] 65))).trans hb8)); have hn8 := ((unhide HBE).trans (hb8.mono hz7)).size; clear hb8)
              rw [unhide HYES (unhide HCR2)]
              refine bodyPost_ret (v := .tuple #[.agg #[.slice a F.length c, .slice y8 F.length c8, .slice none 0 0], .bool true]) (by simp [results, Try.results7, go_sem, r0, r1, r2]) rfl ?_
              have hs0 := unhide HS0
              exact spcRet (live := F) (safe := F) (ops := []) (rb := w.heap.size + 1) (unhide HN8) (unhide HO8).at (rowNil2 _ _ _) (fun k hk => (by have := unhide HLB k hk; omega)) (fun k hk => (by have := ((unhide HO8).bl k hk).1; omega)) (fun k ⟨o, e⟩ => (by cases e)) (by omega) (unhide HFIN _ (unhide HB8))

end Go.Proofs.Ytknpccpfjclngaa
