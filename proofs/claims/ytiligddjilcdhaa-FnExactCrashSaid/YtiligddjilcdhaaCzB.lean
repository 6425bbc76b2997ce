/- Texts of one kind, put together. -/
import Derived.Test.YtiligddjilcdhaaDskD
import Derived.Test.YtiligddjilcdhaaDoM
import Derived.Test.YtiligddjilcdhaaCzA
import Derived.Test.YtiligddjilcdhaaRzB
import Derived.Test.YtiligddjilcdhaaDskX
import Derived.Deep.RegionHeld3
import Derived.Deep.QuietTactic
import Derived.BigQuiet
import Derived.Test.YtiligddjilcdhaaOnlP
import Derived.Deep.DeepCutAuto
import Derived.WalkKit
import Derived.ProofKit
import Derived.Below

/- A disk variable that is made, and filled later. -/
namespace Go.Proofs.Ytiligddjilcdhaa
open Go.RowKit Plain
set_option linter.unusedVariables false

/-- A block of three empty slices that may be written. -/
structure Plain.NZ (b : Nat) (V : World) : Prop where
  lt : b < V.heap.size
  c0 : V.cell? ⟨b, 0, none⟩ = some (.slice none 0 0)
  c1 : V.cell? ⟨b, 1, none⟩ = some (.slice none 0 0)
  c2 : V.cell? ⟨b, 2, none⟩ = some (.slice none 0 0)
  z0 : V.frozen? ⟨b, 0, none⟩ = false
  z1 : V.frozen? ⟨b, 1, none⟩ = false
  z2 : V.frozen? ⟨b, 2, none⟩ = false
theorem Plain.NZ.new (V : World) : NZ V.heap.size (V.alloc (.cells #[.slice none 0 0, .slice none 0 0, .slice none 0 0] 31)) := ⟨by simp, by simp [go_sem], by simp [go_sem], by simp [go_sem], by simp [go_sem], by simp [go_sem], by simp [go_sem]⟩
theorem Plain.NZ.newD (V : World) : NZ V.heap.size (V.alloc (.cells #[.slice none 0 0, .slice none 0 0, .slice none 0 0] 31)).drew := ⟨(NZ.new V).lt, (NZ.new V).c0, (NZ.new V).c1, (NZ.new V).c2, (NZ.new V).z0, (NZ.new V).z1, (NZ.new V).z2⟩
theorem Plain.NZ.below {b : Nat} {V V' : World} (h : NZ b V) (hb : Below V.heap.size V V') : NZ b V' :=
  ⟨Nat.lt_of_lt_of_le h.lt hb.size, bcl hb h.lt h.c0, bcl hb h.lt h.c1, bcl hb h.lt h.c2, (hb.frozen (p := ⟨b, 0, none⟩) h.lt).trans h.z0, (hb.frozen (p := ⟨b, 1, none⟩) h.lt).trans h.z1, (hb.frozen (p := ⟨b, 2, none⟩) h.lt).trans h.z2⟩
theorem Plain.DC.set {b : Nat} {V : World} (h : NZ b V) (v0 v1 v2 : Value) : DC b v0 v1 v2 (((V.setCell ⟨b, 0, none⟩ v0).setCell ⟨b, 1, none⟩ v1).setCell ⟨b, 2, none⟩ v2) := by
  have h0 : (V.setCell ⟨b, 0, none⟩ v0).cell? ⟨b, 0, none⟩ = some v0 := cell_set h.c0
  have h1 : ((V.setCell ⟨b, 0, none⟩ v0).setCell ⟨b, 1, none⟩ v1).cell? ⟨b, 1, none⟩ = some v1 := cell_set ((cell_off (.inr (by decide))).trans h.c1)
  refine ⟨by simpa using h.lt, (cell_off (.inr (by decide))).trans ((cell_off (.inr (by decide))).trans h0), (cell_off (.inr (by decide))).trans h1, cell_set ((cell_off (.inr (by decide))).trans ((cell_off (.inr (by decide))).trans h.c2))⟩
theorem Plain.keepD {B : Nat} {w X : World} {o : Obj} (h : Below B w X.drew) (hB : B ≤ w.heap.size) : Below B w (X.alloc o).drew := h.trans ((bel1 X.drew o).mono (Nat.le_trans hB h.size))
theorem Plain.keepE {B : Nat} {w X : World} {o : Obj} (h : Below B w X) (hB : B ≤ w.heap.size) : Below B w (X.alloc o) := h.trans ((bel1 X o).mono (Nat.le_trans hB h.size))
theorem RowAt.set3 {α : Type} {e : Elem α} {W : World} {a : Option Addr} {ys : List α} {b : Nat} {u0 u1 u2 : Value} (h : RowAt e W a ys) (hne : ∀ k, inB a k → k ≠ b) : RowAt e (((W.setCell ⟨b, 0, none⟩ u0).setCell ⟨b, 1, none⟩ u1).setCell ⟨b, 2, none⟩ u2) a ys := ((h.setO (.inr hne)).setO (.inr hne)).setO (.inr hne)
theorem act_bound (live safe : List Fl) (ops : List Dop) (o : Dop) {nL nS nO : Nat} (h1 : live.length = nL) (h2 : safe.length = nS) (h3 : ops.length = nO) (b1 : nL ≤ 1048576) (b2 : nS ≤ 1048576) (b3 : nO ≤ 1048576) : (actL live safe ops [o]).length ≤ 10000000 ∧ (actS live safe ops).length ≤ 10000000 ∧ (actO live safe ops [o]).length ≤ 10000000 := by
  refine ⟨?_, ?_, ?_⟩
  · unfold actL
    split
    · split
      · rename_i hd hz
        rw [goA] at hz ⊢
        split at hz
        · split at hz
          · split at hz
            · rename_i q1 q2 q3
              rw [if_pos q1, if_pos q2, if_pos q3, goA]
              rw [Bool.and_eq_true] at q3
              have := (files_small q3.2).1
              show (doF live o).1.length ≤ _
              omega
            · exact absurd hz (by decide)
          · exact absurd hz (by decide)
        · exact absurd hz (by decide)
      · omega
    · simp
  · unfold actS; split
    · omega
    · simp
  · unfold actO; split
    · split
      · simp; omega
      · omega
    · simp
theorem own3 {V : World} {B : Nat} {a1 a2 a3 : Option Addr} {n1 c1 n2 c2 n3 c3 : Nat} {f1 f2 : List Fl} {f3 : List Dop} (o1 : OwnR fileE V B (.slice a1 n1 c1) f1) (o2 : OwnR fileE V B (.slice a2 n2 c2) f2) (o3 : OwnR dopE V B (.slice a3 n3 c3) f3) : ∀ g, inD a1 a2 a3 g → B ≤ g ∧ g < V.heap.size := fun g hg => by
  rcases hg with h | h | h
  · exact o1.bl g h
  · exact o2.bl g h
  · exact o3.bl g h
end Go.Proofs.Ytiligddjilcdhaa


/- A loss of power, by the specification. -/
namespace Go.Proofs.Ytiligddjilcdhaa
open Go.RowKit Go.Maps Plain
set_option linter.unusedVariables false

theorem inC_quiet (x lo hi : Int) (w : World) (q : Nat) (b : Bool) (h : (decide (lo ≤ x) && decide (x ≤ hi)) = b) :
    Calls Try.prog 20 #[.int .i64 x, .int .i64 lo, .int .i64 hi] (w.drewN q) fun e w'' => e = .returned (.bool b) ∧ ∃ m, w'' = w.drewN m := by
  subst h
  refine (l1In_calls x lo hi (w.drewN q)).mono ?_
  rintro e w2 ⟨rfl, rfl⟩
  exact ⟨rfl, q, rfl⟩
theorem Plain.belQC {B : Nat} {w w' : World} (h : Below B w w') (k : Nat) : Below B w (w'.drewN k) := ⟨h.os, h.tape, h.output, h.size, h.block⟩

theorem Plain.kcs_step (ops : List Dop) (ks : List Int) (T : Nat) (safe : List Fl) (j : Nat) (hj : j < ks.length) (P : Nat) (hP : ks[j] = (P : Int)) (hPl : P < ops.length) (o : Dop) (ho : ops[P] = o) :
    crF safe ((kcs ops ks T).take (j + 1)) = (doF (crF safe ((kcs ops ks T).take j)) (if j + 1 = ks.length ∧ o.kind = 1 ∧ T < o.data.size then ⟨o.kind, o.name, o.to, o.data.extract 0 T⟩ else o)).1 := by
  rw [crF_take _ _ j (by rw [kcs_len]; exact hj)]
  have hoa := opAt_at ops P hPl
  rw [ho] at hoa
  have hk : (kcs ops ks T)[j]'(by rw [kcs_len]; exact hj) = if j + 1 = ks.length then tornC T o else .op o := by
    have h2 : (kcs ops ks T)[j]? = some (if j + 1 = ks.length then tornC T o else .op o) := by
      unfold kcs
      by_cases he : j + 1 = ks.length
      · rw [if_pos he, show ks.length - 1 = j from by omega, List.getElem?_set_self (by simpa [kc0] using hj), getD_at ks j hj, hP, hoa]
      · rw [if_neg he, List.getElem?_set_ne (by omega)]
        simp [kc0, hj, hP, hoa]
    rw [List.getElem?_eq_getElem (by rw [kcs_len]; exact hj)] at h2
    exact Option.some.inj h2
  rw [hk]
  by_cases he : j + 1 = ks.length
  · rw [if_pos he]
    unfold tornC
    by_cases hc : o.kind = 1 ∧ (T : Int) < (o.data.size : Int)
    · rw [if_pos hc, if_pos ⟨he, hc.1, by omega⟩]
      have h1 : doF (crF safe ((kcs ops ks T).take j)) ⟨o.kind, o.name, o.to, o.data.extract 0 T⟩ = doF (crF safe ((kcs ops ks T).take j)) (Chg.tear o.name o.data (T : Int).toNat).asOp := by
        unfold doF Chg.asOp
        simp only
        rw [if_pos hc.1, if_pos trivial]
        rfl
      rw [h1]
    · rw [if_neg hc, if_neg (fun q => hc ⟨q.2.1, by have := q.2.2; omega⟩)]
      rfl
  · rw [if_neg he, if_neg (fun q => he q.1)]
    rfl

set_option maxRecDepth 10000 in
set_option maxHeartbeats 16000000 in
theorem spec_Crash (aL : Option Addr) (nL cL : Nat) (live : List Fl) (aS : Option Addr) (nS cS : Nat) (safe : List Fl) (aO : Option Addr) (nO cO : Nat) (ops : List Dop) (ak : Option Addr) (nk ck : Nat) (ks : List Int) (t : Int) (w : World) (h : DiskAt w aL nL cL live aS nS cS safe aO nO cO ops) (hk : ks.length = nk) (hk2 : nk ≤ 1048576) (hkr : RowAt i64E w ak ks) :
    Calls Try.prog 6 #[.agg #[.slice aL nL cL, .slice aS nS cS, .slice aO nO cO], .slice ak nk ck, .int .i64 t] w (SpcPost (fun v => .tuple #[v, .bool (crOk live safe ops ks t)]) (crL live safe ops ks t) (crL live safe ops ks t) [] w) := by
  obtain ⟨Wa, hWa⟩ : ∃ Wa, Wa = w.alloc (.cells #[.slice aL nL cL, .slice aS nS cS, .slice aO nO cO] 31) := ⟨_, rfl⟩
  obtain ⟨W0, hW0⟩ : ∃ W0, W0 = Wa.alloc (.cells #[.slice none 0 0, .slice none 0 0, .slice none 0 0] 31) := ⟨_, rfl⟩
  have hba : Below w.heap.size w Wa := by rw [hWa]; exact bel1 _ _
  have hsa : Wa.heap.size = w.heap.size + 1 := by rw [hWa]; simp
  have hs0 : W0.heap.size = w.heap.size + 2 := by rw [hW0]; simp [hsa]
  have hb0 : Below Wa.heap.size Wa W0 := by rw [hW0]; exact bel1 _ _
  have c0 : W0.cell? ⟨w.heap.size, 0, none⟩ = some (.slice aL nL cL) := bcl hb0 (by omega) (by rw [hWa]; simp [go_sem])
  have c1 : W0.cell? ⟨w.heap.size, 1, none⟩ = some (.slice aS nS cS) := bcl hb0 (by omega) (by rw [hWa]; simp [go_sem])
  have c2 : W0.cell? ⟨w.heap.size, 2, none⟩ = some (.slice aO nO cO) := bcl hb0 (by omega) (by rw [hWa]; simp [go_sem])
  have hr : ∀ i, i < 3 → W0.cell? ⟨w.heap.size + 1, i, none⟩ = some (.slice none 0 0) ∧ W0.frozen? ⟨w.heap.size + 1, i, none⟩ = false := by
    intro i hi
    rw [hW0, ← hsa]
    rcases i with _ | _ | _ | i
    all_goals first | omega | simp [go_sem]
  have HC := hide (fun (W : World) (hW : Below W0.heap.size W0 W) => And.intro (bcl hW (show w.heap.size < W0.heap.size by omega) c0) (And.intro (bcl hW (show w.heap.size < W0.heap.size by omega) c1) (bcl hW (show w.heap.size < W0.heap.size by omega) c2)))
  have HR := hide (fun (W : World) (hW : Below W0.heap.size W0 W) (i : Nat) (hi : i < 3) => And.intro (bcl hW (show w.heap.size + 1 < W0.heap.size by omega) (hr i hi).1) ((hW.frozen (p := ⟨w.heap.size + 1, i, none⟩) (show w.heap.size + 1 < W0.heap.size by omega)).trans (hr i hi).2))
  have HFIN := hide (fun (W : World) (hW : Below W0.heap.size W0 W) => belOn (belOn hba hb0) hW)
  have HD := hide (fun (W : World) (hW : Below W0.heap.size W0 W) => (h.below (belOn hba hb0)).below hW)
  have HKR := hide (fun (W : World) (hW : Below W0.heap.size W0 W) => hkr.below (belOn (belOn hba hb0) hW))
  have HW0 := hide (show (w.alloc (.cells #[.slice aL nL cL, .slice aS nS cS, .slice aO nO cO] 31)).alloc (.cells #[.slice none 0 0, .slice none 0 0, .slice none 0 0] 31) = W0 from by rw [hW0, hWa])
  have HS0 := hide hs0
  have HOK := hide (spec_DiskOk aL nL cL live aS nS cS safe aO nO cO ops W0 (unhide HD _ (Below.refl _ _)))
  have hlo := h.lo
  have hls := h.ls
  have HFO := hide h.fo
  have HADS := hide h.ads
  have hbo := h.bo
  have hbs2 := h.bs
  have HNO := hide (show crOk live safe ops ks t = false → SpcPost (fun v => .tuple #[v, .bool (crOk live safe ops ks t)]) (crL live safe ops ks t) (crL live safe ops ks t) [] w = SpcPost (fun v => .tuple #[v, .bool false]) [] [] [] w from fun q => by unfold crL; rw [q]; rfl)
  have HYES := hide (show crOk live safe ops ks t = true → SpcPost (fun v => .tuple #[v, .bool (crOk live safe ops ks t)]) (crL live safe ops ks t) (crL live safe ops ks t) [] w = SpcPost (fun v => .tuple #[v, .bool true]) (crF safe (kcs ops ks t)) (crF safe (kcs ops ks t)) [] w from fun q => by unfold crL; rw [q]; rfl)
  have hcr : crOk live safe ops ks t = ((diskB live safe ops && (plB nO ks && decide (0 ≤ t))) && filesB (crF safe (kcs ops ks t))) := by unfold crOk; rw [hlo]
  cases hd : diskB live safe ops with
  | false =>
    rw [unhide HNO (by rw [hcr, hd]; rfl)]
    rw [hd] at HOK
    clear hba hb0 hWa hW0 hr h hsa hs0 hkr hcr hd
    go_enter Try.func6, Try.ntmps6
    go_wp2_with fail
    rw [unhide HW0]
    refine (unhide HOK).mono ?_
    rintro e w1 ⟨rfl, hb1⟩
    have HBF := hide hb1
    clear hb1 c0 c1 c2
    obtain ⟨r0, z0⟩ := unhide HR _ (unhide HBF) 0 (by decide)
    obtain ⟨r1, z1⟩ := unhide HR _ (unhide HBF) 1 (by decide)
    obtain ⟨r2, z2⟩ := unhide HR _ (unhide HBF) 2 (by decide)
    go_wp2_with fail
    refine bodyPost_ret (v := .tuple #[.agg #[.slice none 0 0, .slice none 0 0, .slice none 0 0], .bool false]) (by simp [results, Try.results6, go_sem, r0, r1, r2]) rfl ?_
    exact spcRet (live := []) (safe := []) (ops := []) (rb := w.heap.size + 1) (rowNil2 _ _ _) (rowNil2 _ _ _) (rowNil2 _ _ _) (fun k ⟨o, e⟩ => (by cases e)) (fun k ⟨o, e⟩ => (by cases e)) (fun k ⟨o, e⟩ => (by cases e)) (by omega) (unhide HFIN _ (unhide HBF))
  | true =>
    rw [hd] at HOK
    obtain ⟨hfs, hO2, hfo⟩ := disk_parts hd
    by_cases ht : t < 0
    · rw [unhide HNO (by rw [hcr, hd, show decide (0 ≤ t) = false from by simp; omega, Bool.and_false]; rfl)]
      clear hba hb0 hWa hW0 hr h hsa hs0 hkr hcr hd
      go_enter Try.func6, Try.ntmps6
      go_wp2_with fail
      rw [unhide HW0]
      refine (unhide HOK).mono ?_
      rintro e w1 ⟨rfl, hb1⟩
      have HBF := hide hb1
      clear hb1 c0 c1 c2
      obtain ⟨r0, z0⟩ := unhide HR _ (unhide HBF) 0 (by decide)
      obtain ⟨r1, z1⟩ := unhide HR _ (unhide HBF) 1 (by decide)
      obtain ⟨r2, z2⟩ := unhide HR _ (unhide HBF) 2 (by decide)
      go_wp2_with fail
      refine bodyPost_ret (v := .tuple #[.agg #[.slice none 0 0, .slice none 0 0, .slice none 0 0], .bool false]) (by simp [results, Try.results6, go_sem, r0, r1, r2]) rfl ?_
      exact spcRet (live := []) (safe := []) (ops := []) (rb := w.heap.size + 1) (rowNil2 _ _ _) (rowNil2 _ _ _) (rowNil2 _ _ _) (fun k ⟨o, e⟩ => (by cases e)) (fun k ⟨o, e⟩ => (by cases e)) (fun k ⟨o, e⟩ => (by cases e)) (by omega) (unhide HFIN _ (unhide HBF))
    obtain ⟨T, rfl⟩ := Int.eq_ofNat_of_zero_le (show 0 ≤ t by omega)
    obtain ⟨POST, hPOST⟩ : ∃ P, SpcPost (fun v => .tuple #[v, .bool (crOk live safe ops ks T)]) (crL live safe ops ks T) (crL live safe ops ks T) [] w = P := ⟨_, rfl⟩
    rw [hPOST] at HNO HYES ⊢
    have HCR := hide (show crOk live safe ops ks T = (plB nO ks && filesB (crF safe (kcs ops ks T))) from by rw [hcr, hd, show decide ((0 : Int) ≤ (T : Int)) = true from by simp, Bool.true_and, Bool.and_true])
    have HKL := hide hk
    have HNX := hide (show ∀ (W : World), Below W0.heap.size W0 W → crOk live safe ops ks T = false → POST (.returned (.tuple #[.agg #[.slice none 0 0, .slice none 0 0, .slice none 0 0], .bool false])) (((W.setCell ⟨w.heap.size + 1, 0, none⟩ (.slice none 0 0)).setCell ⟨w.heap.size + 1, 1, none⟩ (.slice none 0 0)).setCell ⟨w.heap.size + 1, 2, none⟩ (.slice none 0 0)) from fun W hW q => by
      rw [unhide HNO q]
      exact spcRet (f := fun v => .tuple #[v, .bool false]) (live := []) (safe := []) (ops := []) (k1 := 0) (k2 := 0) (k3 := 0) (y1 := none) (y2 := none) (y3 := none) (rb := w.heap.size + 1) (rowNil2 _ _ _) (rowNil2 _ _ _) (rowNil2 _ _ _) (fun k ⟨o, e⟩ => (by cases e)) (fun k ⟨o, e⟩ => (by cases e)) (fun k ⟨o, e⟩ => (by cases e)) (by omega) (unhide HFIN _ hW))
    clear hba hb0 hWa hW0 hr h hsa hs0 hkr hcr hd hPOST
    go_enter Try.func6, Try.ntmps6
    go_wp2_with fail
    rw [unhide HW0]
    refine (unhide HOK).mono ?_
    rintro e w1 ⟨rfl, hb1⟩
    have HB1 := hide hb1
    clear hb1 c0 c1 c2
    go_wp2_with fail
    go_loopw [8] (fun i wr => ∃ k : Nat, i = .int .i64 k ∧ k ≤ nk ∧ Hid (∀ j, j < k → PlAt nO ks j) ∧ Hid (Below W0.heap.size W0 wr)) (fun i _ => nk - (intOf i).toNat)
    case atStart => exact ⟨0, rfl, by omega, hide (fun j hj => by omega), HB1⟩
    case round =>
      clear HB1
      obtain ⟨k, rfl, hkk, HV, HB⟩ := hrel
      obtain ⟨q0, q1, q2⟩ := unhide HC _ (unhide HB)
      by_cases hkn : k < nk
      · have hkl : k < ks.length := by rw [unhide HKL]; exact hkn
        obtain ⟨g, e1, l1, p0, -⟩ := (unhide HKR _ (unhide HB)).ix k hkl
        have hgx := getD_at ks k hkl
        have hprev : ∀ j, k = j + 1 → ∃ y, ks.getD j 0 = y ∧ wr.cell? ⟨g, j, none⟩ = some (.int .i64 y) := by
          intro j hj
          have hjl : j < ks.length := by omega
          obtain ⟨g', e', l', r0, -⟩ := (unhide HKR _ (unhide HB)).ix j hjl
          rw [e1] at e'
          obtain rfl : g = g' := by simpa using e'
          exact ⟨ks[j], getD_at ks j hjl, r0⟩
        obtain ⟨x, hx⟩ : ∃ x, ks[k] = x := ⟨_, rfl⟩
        rw [hx] at p0 hgx
        subst e1
        have i0 : (0 : Int) ≤ (k : Int) := by omega
        have i1 : (k : Int) < (nk : Int) := by omega
        have hw1 : IntKind.i64.wrap ((nO : Int) - 1) = (nO : Int) - 1 := by rw [IntKind.wrap_i64]; omega
        have HGX := hide hgx
        have HPR := hide hprev
        have hnil : ∀ (q : Nat), (wr.drewN q).cell? ⟨w.heap.size + 1, 0, none⟩ = some (.slice none 0 0) := fun q => ((unhide HR _ (belQC (unhide HB) q) 0 (by decide))).1
        clear hgx hx hprev
        cases hi : (decide (0 ≤ x) && decide (x ≤ (nO : Int) - 1)) with
        | false =>
          have HF := hide (show crOk live safe ops ks T = false from by
            rw [unhide HCR, plB_no hkl (fun q => by have := q.1; rw [unhide HGX] at this; simp at hi; omega)]
            rfl)
          have HI := hide hi
          clear hi HPR HV
          obtain ⟨r0, z0⟩ := unhide HR _ (unhide HB) 0 (by decide)
          obtain ⟨r1, z1⟩ := unhide HR _ (unhide HB) 1 (by decide)
          obtain ⟨r2, z2⟩ := unhide HR _ (unhide HB) 2 (by decide)
          go_wp2_with fail
          go_quiet (first | (go_at_call 20; exact inC_quiet _ _ _ _ _ _ (unhide HI)))
          all_goals (try go_wp2_with fail)
          refine bodyPost_ret (v := .tuple #[.agg #[.slice none 0 0, .slice none 0 0, .slice none 0 0], .bool false]) (by simp [results, Try.results6, go_sem, r0, r1, r2]) rfl ?_
          exact unhide HNX _ (belQC (unhide HB) _) (unhide HF)
        | true =>
          have HI := hide hi
          have hi2 : 0 ≤ x ∧ x ≤ (nO : Int) - 1 := by simpa using hi
          obtain ⟨hi3, hi4⟩ := hi2
          rcases Nat.eq_zero_or_pos k with hk0 | hk0
          · have HX := hide (show ∀ j, j < k + 1 → PlAt nO ks j from fun j hj => by
              obtain rfl : j = k := by omega
              exact ⟨by rw [unhide HGX]; omega, fun q => by omega⟩)
            have hk1 : ¬ 0 < k := by omega
            clear hi HPR hk0 HV
            go_wp2_with fail
            go_quiet (first | (go_at_call 20; exact inC_quiet _ _ _ _ _ _ (unhide HI)))
            all_goals (try go_wp2_with fail)
            all_goals exact ⟨⟨k + 1, by go_num, by omega, HX, hide (belQC (unhide HB) _)⟩, by simp [intOf]; omega⟩
          · obtain ⟨j, hkj⟩ : ∃ j, k = j + 1 := ⟨k - 1, by omega⟩
            obtain ⟨y, hy, u0⟩ := unhide HPR j hkj
            have j0 : (0 : Int) ≤ (j : Int) := by omega
            have j1 : (j : Int) < (nk : Int) := by omega
            have jw : IntKind.i64.wrap ((k : Int) - 1) = (j : Int) := by rw [IntKind.wrap_i64]; omega
            have hk1 : 0 < k := by omega
            by_cases hpp : x ≤ y
            · have HF := hide (show crOk live safe ops ks T = false from by
                rw [unhide HCR, plB_no hkl (fun q => by have := q.2 hk1; rw [unhide HGX, show k - 1 = j from by omega, hy] at this; omega)]
                rfl)
              clear hi HPR hy hkj hk0 HV
              obtain ⟨r0, z0⟩ := unhide HR _ (unhide HB) 0 (by decide)
              obtain ⟨r1, z1⟩ := unhide HR _ (unhide HB) 1 (by decide)
              obtain ⟨r2, z2⟩ := unhide HR _ (unhide HB) 2 (by decide)
              go_wp2_with fail
              go_quiet (first | (go_at_call 20; exact inC_quiet _ _ _ _ _ _ (unhide HI)))
              all_goals (try go_wp2_with fail)
              refine bodyPost_ret (v := .tuple #[.agg #[.slice none 0 0, .slice none 0 0, .slice none 0 0], .bool false]) (by simp [results, Try.results6, go_sem, r0, r1, r2]) rfl ?_
              exact unhide HNX _ (belQC (unhide HB) _) (unhide HF)
            · have HX := hide (show ∀ i, i < k + 1 → PlAt nO ks i from fun i hi5 => by
                by_cases q : i < k
                · exact unhide HV i q
                · obtain rfl : i = k := by omega
                  exact ⟨by rw [unhide HGX]; omega, fun _ => by rw [unhide HGX, show i - 1 = j from by omega, hy]; omega⟩)
              clear hi HPR hy hkj hk0 HV
              go_wp2_with fail
              go_quiet (first | (go_at_call 20; exact inC_quiet _ _ _ _ _ _ (unhide HI)))
              all_goals (try go_wp2_with fail)
              all_goals exact ⟨⟨k + 1, by go_num, by omega, HX, hide (belQC (unhide HB) _)⟩, by simp [intOf]; omega⟩
      · obtain rfl : k = nk := by omega
        have hplo : PlOk nO ks := fun j hj => unhide HV j (by rw [unhide HKL] at hj; exact hj)
        have HCR2 := hide (show crOk live safe ops ks T = filesB (crF safe (kcs ops ks T)) from by rw [unhide HCR, plB_yes hplo, Bool.true_and])
        have hplo2 : PlOk ops.length ks := by rw [hlo]; exact hplo
        have hform : ∀ o ∈ ops, formB o = true ∧ SmO o := fun o ho => ⟨hfo o ho, unhide HFO o ho⟩
        have hall := kcs_all (t := T) hplo2 hform
        have hklen := kcs_len ops ks (T : Int)
        have hkn2 := pl_len hplo2
        have HINV := hide (fun (j : Nat) (hj : j ≤ k) => cr_inv hfs (kcs ops ks T) (fun x hx => (hall x hx).1) (fun x hx => (hall x hx).2) j (by rw [hklen, hk]; exact hj))
        have HSTP := hide (fun (j : Nat) (hj : j < ks.length) (P : Nat) (hP : ks[j] = (P : Int)) (hPl : P < ops.length) (o : Dop) (ho : ops[P] = o) => kcs_step ops ks T safe j hj P hP hPl o ho)
        have HTK := hide (show crF safe ((kcs ops ks T).take k) = crF safe (kcs ops ks T) from by rw [List.take_of_length_le (by rw [hklen, hk]; exact Nat.le_refl _)])
        have HT0 := hide (show crF safe ((kcs ops ks T).take 0) = safe from rfl)
        obtain ⟨FK, hFK⟩ : ∃ f : Nat → List Fl, ∀ j, crF safe ((kcs ops ks T).take j) = f j := ⟨_, fun _ => rfl⟩
        obtain ⟨F, hF⟩ : ∃ F, crF safe (kcs ops ks T) = F := ⟨_, rfl⟩
        simp only [hFK] at HINV HSTP HTK HT0
        rw [hF] at HCR2 HYES HTK
        have HPLO := hide hplo
        have HFM := hide hform
        have hk200 : k ≤ 200 := by omega
        clear hplo hplo2 hform hall hklen hFK hF HV HCR hkn hfo hfs hO2
        have hz := (unhide HB).size
        obtain ⟨WE, hWE⟩ : ∃ W, W = wr.alloc (.cells #[] 81) := ⟨_, rfl⟩
        have HOE := hide (ownR_empty fileE wr W0.heap.size hz)
        have q1e := bcl (bel1 wr (.cells #[] 81)) (lt_of_cell q1) q1
        have HRS := hide (((unhide HD _ (unhide HB)).rs).below (bel1 wr (.cells #[] 81)))
        have HBE := hide (belOn (unhide HB) (bel1 wr (.cells #[] 81)))
        have hzE : W0.heap.size ≤ (wr.alloc (.cells #[] 81)).heap.size := by simp; omega
        clear hWE WE
        go_wp2_with (at_builtin; go_must (refine appG (e := fileE) rfl _ _ rfl (unhide HOE) rfl aS nS cS rfl hls (unhide HRS) (unhide HADS) (by simp; omega) hzE ?_); intro v' w6 hown6 hb6)
        obtain ⟨a6, c6, hv6⟩ := hown6.form
        subst hv6
        have HN6 := hide (show RowAt fileE w6 a6 (FK 0) ∧ AdOk a6 c6 ∧ (∀ g, inB a6 g → W0.heap.size ≤ g) from by rw [unhide HT0]; exact ⟨hown6.at, hown6.ad, fun g hg => (hown6.bl g hg).1⟩)
        have HB6 := hide ((unhide HBE).trans hb6)
        have hl0 : ([] ++ safe : List Fl).length = (FK 0).length := by rw [unhide HT0]; rfl
        clear hown6 hb6 q0 q1 q2 q1e hzE HOE HRS
        simp only [hl0]
        go_wp2_with fail
        go_loopw [9, 10] (fun s i wx => ∃ (q : Nat) (a : Option Addr) (c : Nat), s = .slice a (FK q).length c ∧ i = .int .i64 q ∧ q ≤ k ∧ Hid (RowAt fileE wx a (FK q) ∧ AdOk a c ∧ (∀ g, inB a g → W0.heap.size ≤ g)) ∧ Hid (Below W0.heap.size W0 wx)) (fun _ i _ => k - (intOf i).toNat)
        case atStart => exact ⟨0, a6, c6, rfl, rfl, by omega, HN6, HB6⟩
        case round =>
          clear HN6 HB6
          obtain ⟨q, a, c, rfl, rfl, hq, HNW, HBQ⟩ := hrel
          have hiv := unhide HINV q hq
          have hln := hiv.ln
          have hfit := hiv.bn.fit (show 1000000 + q * 1000000000 ≤ 1000000000000 by omega)
          by_cases hqk : q < k
          · have hql : q < ks.length := by rw [unhide HKL]; exact hqk
            obtain ⟨gk, ek, lk, p0, -⟩ := (unhide HKR _ (unhide HBQ)).ix q hql
            have hpa := (unhide HPLO q hql).1
            rw [getD_at ks q hql] at hpa
            obtain ⟨x, hx⟩ : ∃ x, ks[q] = x := ⟨_, rfl⟩
            rw [hx] at p0 hpa
            obtain ⟨P, rfl⟩ := Int.eq_ofNat_of_zero_le hpa.1
            have hPl : P < ops.length := by rw [hlo]; have := hpa.2; omega
            obtain ⟨go, eo, lo, r0, r1, r2, r3⟩ := (unhide HD _ (unhide HBQ)).ro.dop P hPl
            have hfm := unhide HFM ops[P] (by simp)
            have hstp := unhide HSTP q hql P hx hPl ops[P] rfl
            obtain ⟨o, ho⟩ : ∃ o, ops[P] = o := ⟨_, rfl⟩
            rw [ho] at hfm hstp r0 r1 r2 r3
            rw [unhide HKL] at hstp
            obtain ⟨kd, nm, tx, dt⟩ := o
            simp only at r0 r1 r2 r3 hstp
            obtain ⟨q0, q1, q2⟩ := unhide HC _ (unhide HBQ)
            have i0 : (0 : Int) ≤ (q : Int) := by omega
            have i1 : (q : Int) < (k : Int) := by omega
            have i2 : (0 : Int) ≤ (P : Int) := by omega
            have i3 : (P : Int) < (nO : Int) := hpa.2
            have hsm := hfm.2
            have hds : dt.size ≤ 1000000000 := hsm.2.2
            subst ek eo
            have lq := lt_of_cell q2
            have A2 := fun (W : World) (hW : Below wr.heap.size wr W) => bcl hW lq q2
            have A0 := fun (W : World) (hW : Below wr.heap.size wr W) => bcl hW lk p0
            have B0 := fun (W : World) (hW : Below wr.heap.size wr W) => bcl hW lo r0
            have B1 := fun (W : World) (hW : Below wr.heap.size wr W) => bcl hW lo r1
            have B2 := fun (W : World) (hW : Below wr.heap.size wr W) => bcl hW lo r2
            have B3 := fun (W : World) (hW : Below wr.heap.size wr W) => bcl hW lo r3
            have HBR := hide (Below.refl wr.heap.size wr)
            have BV : Below W0.heap.size W0 (wr.alloc (.cells #[.int .i64 kd, .string nm, .string tx, .string dt] 49)).drew := belDrew (belOn (unhide HBQ) (bel1 _ _))
            have hwk : IntKind.i64.wrap ((k : Int) - 1) = (k : Int) - 1 := by rw [IntKind.wrap_i64]; omega
            have HSTP2 := hide hstp
            have HFIT := hide hfit
            have HBV := hide BV
            clear hstp hfm ho hx hpa hPl q0 q1 q2 p0 r0 r1 r2 r3 hiv hfit BV
            go_wp2_with fail
            go_region_held3 (fun w' => Below wr.heap.size wr w') (first | exact belDrew (unhide HBR) | exact belDrew (bel1 _ _) | exact (by assumption) | exact (Below.alloc (by assumption) (Below.size (by assumption)) _)) (fail)
            clear A0 A2 B0 B1 B2 B3
            by_cases hL : q + 1 = k ∧ kd = 1 ∧ T < dt.size
            · obtain ⟨hq1, rfl, hTd⟩ := hL
              have hqe : ((q : Int) == (k : Int) - 1) = true := by rw [beq_iff_eq]; omega
              have hTd2 : (T : Int) < (dt.size : Int) := by omega
              have hT0 : (0 : Int) ≤ (T : Int) := by omega
              have hT1 : (T : Int) ≤ (dt.size : Int) := by omega
              obtain ⟨cut, hcut⟩ : ∃ c, dt.extract 0 T = c := ⟨_, rfl⟩
              have HST3 := hide (show FK (q + 1) = (doF (FK q) ⟨1, nm, tx, cut⟩).1 from by rw [unhide HSTP2, if_pos ⟨hq1, rfl, hTd⟩, hcut])
              have hcs : cut.size ≤ 1000000000 := by rw [← hcut, ByteArray.size_extract]; omega
              have hsm2 : SmO ⟨1, nm, tx, cut⟩ := ⟨hsm.1, hsm.2.1, hcs⟩
              obtain ⟨V5, hV5⟩ : ∃ V, V = (wr.alloc (.cells #[.int .i64 1, .string nm, .string tx, .string cut] 49)).drew := ⟨_, rfl⟩
              have hbV : Below wr.heap.size wr V5 := by rw [hV5]; exact belDrew (bel1 _ _)
              have HDO := hide (l4Do_calls a (FK q).length c (FK q) ⟨1, nm, tx, cut⟩ V5 rfl (by omega) (unhide HFIT) hsm2.fit ((unhide HNW).1.below hbV) (unhide HNW).2.1)
              rw [show dopV ⟨1, nm, tx, cut⟩ = .agg #[.int .i64 1, .string nm, .string tx, .string cut] from rfl] at HDO
              unfold DoPost at HDO
              have HBV5 := hide (belOn (unhide HBQ) hbV)
              have HV5 := hide hV5.symm
              clear hV5 hbV
              go_wp2_with fail
              rw [unhide HV5]
              refine (unhide HDO).mono ?_
              rintro e w7 ⟨v7, rfl, ov, hb7⟩
              obtain ⟨a7, c7, rfl⟩ := ov.form
              have HOV := hide ov
              have HB7 := hide (belOn (unhide HBV5) hb7)
              clear hb7 ov
              go_wp2_with fail
              exact ⟨⟨q + 1, a7, c7, by rw [unhide HST3], by go_num, by omega, hide ⟨by rw [unhide HST3]; exact (unhide HOV).at, (unhide HOV).ad, fun g hg => Nat.le_trans (unhide HBV5).size ((unhide HOV).bl g hg).1⟩, HB7⟩, by simp [intOf]; omega⟩
            · by_cases hq1 : q + 1 = k
              · have hqe : ((q : Int) == (k : Int) - 1) = true := by rw [beq_iff_eq]; omega
                by_cases hkd : kd = 1
                · subst hkd
                  have hTd2 : ¬ (T : Int) < (dt.size : Int) := fun h => hL ⟨hq1, rfl, by omega⟩
                  have HST3 := hide (show FK (q + 1) = (doF (FK q) ⟨1, nm, tx, dt⟩).1 from by rw [unhide HSTP2, if_neg hL])
                  have HDO := hide (l4Do_calls a (FK q).length c (FK q) ⟨1, nm, tx, dt⟩ (wr.alloc (.cells #[.int .i64 1, .string nm, .string tx, .string dt] 49)).drew rfl (by omega) (unhide HFIT) hsm.fit ((unhide HNW).1.below (belDrew (bel1 _ _))) (unhide HNW).2.1)
                  rw [show dopV ⟨1, nm, tx, dt⟩ = .agg #[.int .i64 1, .string nm, .string tx, .string dt] from rfl] at HDO
                  unfold DoPost at HDO
                  clear hL
                  go_wp2_with fail
                  refine (unhide HDO).mono ?_
                  rintro e w7 ⟨v7, rfl, ov, hb7⟩
                  obtain ⟨a7, c7, rfl⟩ := ov.form
                  have HOV := hide ov
                  have HB7 := hide (belOn (unhide HBV) hb7)
                  clear hb7 ov
                  go_wp2_with fail
                  exact ⟨⟨q + 1, a7, c7, by rw [unhide HST3], by go_num, by omega, hide ⟨by rw [unhide HST3]; exact (unhide HOV).at, (unhide HOV).ad, fun g hg => Nat.le_trans (unhide HBV).size ((unhide HOV).bl g hg).1⟩, HB7⟩, by simp [intOf]; omega⟩
                · have hkb : (kd == (1 : Int)) = false := by rw [beq_eq_false_iff_ne]; exact hkd
                  skip
                  have HST3 := hide (show FK (q + 1) = (doF (FK q) ⟨kd, nm, tx, dt⟩).1 from by rw [unhide HSTP2, if_neg hL])
                  have HDO := hide (l4Do_calls a (FK q).length c (FK q) ⟨kd, nm, tx, dt⟩ (wr.alloc (.cells #[.int .i64 kd, .string nm, .string tx, .string dt] 49)).drew rfl (by omega) (unhide HFIT) hsm.fit ((unhide HNW).1.below (belDrew (bel1 _ _))) (unhide HNW).2.1)
                  rw [show dopV ⟨kd, nm, tx, dt⟩ = .agg #[.int .i64 kd, .string nm, .string tx, .string dt] from rfl] at HDO
                  unfold DoPost at HDO
                  clear hL
                  go_wp2_with fail
                  refine (unhide HDO).mono ?_
                  rintro e w7 ⟨v7, rfl, ov, hb7⟩
                  obtain ⟨a7, c7, rfl⟩ := ov.form
                  have HOV := hide ov
                  have HB7 := hide (belOn (unhide HBV) hb7)
                  clear hb7 ov
                  go_wp2_with fail
                  exact ⟨⟨q + 1, a7, c7, by rw [unhide HST3], by go_num, by omega, hide ⟨by rw [unhide HST3]; exact (unhide HOV).at, (unhide HOV).ad, fun g hg => Nat.le_trans (unhide HBV).size ((unhide HOV).bl g hg).1⟩, HB7⟩, by simp [intOf]; omega⟩
              · have hqe : ((q : Int) == (k : Int) - 1) = false := by rw [beq_eq_false_iff_ne]; omega
                skip
                have HST3 := hide (show FK (q + 1) = (doF (FK q) ⟨kd, nm, tx, dt⟩).1 from by rw [unhide HSTP2, if_neg hL])
                have HDO := hide (l4Do_calls a (FK q).length c (FK q) ⟨kd, nm, tx, dt⟩ (wr.alloc (.cells #[.int .i64 kd, .string nm, .string tx, .string dt] 49)).drew rfl (by omega) (unhide HFIT) hsm.fit ((unhide HNW).1.below (belDrew (bel1 _ _))) (unhide HNW).2.1)
                rw [show dopV ⟨kd, nm, tx, dt⟩ = .agg #[.int .i64 kd, .string nm, .string tx, .string dt] from rfl] at HDO
                unfold DoPost at HDO
                clear hL
                go_wp2_with fail
                refine (unhide HDO).mono ?_
                rintro e w7 ⟨v7, rfl, ov, hb7⟩
                obtain ⟨a7, c7, rfl⟩ := ov.form
                have HOV := hide ov
                have HB7 := hide (belOn (unhide HBV) hb7)
                clear hb7 ov
                go_wp2_with fail
                exact ⟨⟨q + 1, a7, c7, by rw [unhide HST3], by go_num, by omega, hide ⟨by rw [unhide HST3]; exact (unhide HOV).at, (unhide HOV).ad, fun g hg => Nat.le_trans (unhide HBV).size ((unhide HOV).bl g hg).1⟩, HB7⟩, by simp [intOf]; omega⟩
          · obtain rfl : q = k := by omega
            have hfin := unhide HTK
            have HL4 := hide (l4Files_calls a (FK q).length c (FK q) wr rfl (by omega) hfit (unhide HNW).1)
            rw [hfin] at HL4 HNW ⊢
            clear hiv hfit
            cases hff : filesB F with
            | false =>
              rw [hff] at HL4 HCR2
              go_wp2_with fail
              refine (unhide HL4).mono ?_
              rintro e w7 ⟨rfl, hb7⟩
              have HBF := hide (belOn (unhide HBQ) hb7)
              clear hb7
              obtain ⟨r0, z0⟩ := unhide HR _ (unhide HBF) 0 (by decide)
              obtain ⟨r1, z1⟩ := unhide HR _ (unhide HBF) 1 (by decide)
              obtain ⟨r2, z2⟩ := unhide HR _ (unhide HBF) 2 (by decide)
              go_wp2_with fail
              refine bodyPost_ret (v := .tuple #[.agg #[.slice none 0 0, .slice none 0 0, .slice none 0 0], .bool false]) (by simp [results, Try.results6, go_sem, r0, r1, r2]) rfl ?_
              exact unhide HNX _ (unhide HBF) (unhide HCR2)
            | true =>
              rw [hff] at HL4 HCR2
              go_wp2_with fail
              refine (unhide HL4).mono ?_
              rintro e w7 ⟨rfl, hb7⟩
              have HBF := hide (belOn (unhide HBQ) hb7)
              have HN7 := hide (show RowAt fileE w7 a F ∧ AdOk a c from ⟨(unhide HNW).1.below hb7, (unhide HNW).2.1⟩)
              have HLB := hide (unhide HNW).2.2
              have hz7 := (unhide HBF).size
              clear hb7
              have HOE := hide (ownR_empty fileE w7 w7.heap.size (Nat.le_refl _))
              have HRE := hide ((unhide HN7).1.below (bel1 w7 (.cells #[] 81)))
              have HBE := hide (belOn (unhide HBF) (bel1 w7 (.cells #[] 81)))
              have hzE : w7.heap.size ≤ (w7.alloc (.cells #[] 81)).heap.size := by simp
              have hlF : F.length ≤ 300 := by rw [hfin] at hln; omega
              go_wp2_with (at_builtin; go_must (refine appG (e := fileE) rfl _ _ rfl (unhide HOE) rfl a F.length c rfl rfl (unhide HRE) (unhide HN7).2 (by simp; omega) hzE ?_); intro v' w8 hown8 hb8; obtain ⟨y8, c8, hv8⟩ := hown8.form; subst hv8; have HB8 := hide ((unhide HBE).trans (hb8.mono hz7)); obtain ⟨r0, z0⟩ := unhide HR _ (unhide HB8) 0 (by decide); obtain ⟨r1, z1⟩ := unhide HR _ (unhide HB8) 1 (by decide); obtain ⟨r2, z2⟩ := unhide HR _ (unhide HB8) 2 (by decide); have HO8 := hide hown8; have HN8 := hide ((unhide HN7).1.below (((bel1 w7 (.cells #[] 81))).trans hb8)); have hn8 := ((unhide HBE).trans (hb8.mono hz7)).size; clear hb8)
              rw [unhide HYES (unhide HCR2)]
              refine bodyPost_ret (v := .tuple #[.agg #[.slice a F.length c, .slice y8 F.length c8, .slice none 0 0], .bool true]) (by simp [results, Try.results6, go_sem, r0, r1, r2]) rfl ?_
              have hs0 := unhide HS0
              exact spcRet (live := F) (safe := F) (ops := []) (rb := w.heap.size + 1) (unhide HN8) (unhide HO8).at (rowNil2 _ _ _) (fun k hk => (by have := unhide HLB k hk; omega)) (fun k hk => (by have := ((unhide HO8).bl k hk).1; omega)) (fun k ⟨o, e⟩ => (by cases e)) (by omega) (unhide HFIN _ (unhide HB8))
end Go.Proofs.Ytiligddjilcdhaa


/- Rows of numbers, marked. -/
namespace Go.Proofs.Ytiligddjilcdhaa
open Go.RowKit Plain
set_option linter.unusedVariables false

namespace Plain
/-- What the marking leaves. -/
def mkI (b n : Nat) : List Int := (List.range n).map fun i : Nat => ((b + i : Nat) : Int)
theorem mkI_length (b n : Nat) : (mkI b n).length = n := by simp [mkI]
theorem mkI_get (b n k : Nat) (h : k < (mkI b n).length) : (mkI b n)[k] = ((b + k : Nat) : Int) := by simp [mkI]
def mixI (b : Nat) (fs : List Int) (k : Nat) : List Int := mkI b k ++ fs.drop k
theorem mixI_length (b : Nat) (fs : List Int) (k : Nat) (h : k ≤ fs.length) : (mixI b fs k).length = fs.length := by simp [mixI, mkI_length]; omega
theorem mixI_zero (b : Nat) (fs : List Int) : mixI b fs 0 = fs := by simp [mixI, mkI]
theorem mixI_end (b : Nat) (fs : List Int) : mixI b fs fs.length = mkI b fs.length := by simp [mixI]
theorem mixI_next (b : Nat) (fs : List Int) (k : Nat) (h : k < fs.length) : (mixI b fs k).set k ((b + k : Nat) : Int) = mixI b fs (k + 1) := by
  have hl := mkI_length b k
  unfold mixI
  rw [List.set_append_right _ _ (by omega), hl, Nat.sub_self, List.drop_eq_getElem_cons h, List.set_cons_zero]
  simp [mkI, List.range_succ]
end Plain

set_option maxHeartbeats 1000000 in
theorem markInt64S_calls (b : Nat) (a : Option Addr) (c n : Nat) (fs : List Int) (w : World) (hb2 : b ≤ 100000000) (hn : fs.length = n) (hn2 : n ≤ 100000000) (h1 : RowAt i64E w a fs) :
    Calls Try.prog 13 #[.slice a n c, .int .i64 b] w fun e w' => e = .returned (.int .i64 ((b + n : Nat) : Int)) ∧ RowAt i64E w' a (mkI b n) ∧ OnlyRow a w w' := by
  have H1 := hide h1
  have HN := hide hn
  clear h1 hn
  go_enter Try.func13, Try.ntmps13
  go_wp2_with fail
  go_loopw [1, 5] (fun m i wr => ∃ (k : Nat), i = .int .i64 k ∧ m = .int .i64 ((b + k : Nat) : Int) ∧ k ≤ n ∧ Hid (RowAt i64E wr a (mixI b fs k)) ∧ Hid (OnlyRow a w wr)) (fun _ i _ => n - (intOf i).toNat)
  case atStart => exact ⟨0, rfl, rfl, by omega, hide (by rw [mixI_zero]; exact unhide H1), OnlyRow.refl _ _⟩
  case round =>
    clear H1
    obtain ⟨k, rfl, rfl, hk, HF, HB⟩ := hrel
    by_cases hlt : k < n
    · have hfl : k < fs.length := by rw [unhide HN]; exact hlt
      have hml := mixI_length b fs k (by omega)
      have hkl : k < (mixI b fs k).length := by omega
      obtain ⟨g, e1, l1, p1, z1⟩ := (unhide HF).ix k hkl
      subst e1
      have hnx := mixI_next b fs k hfl
      have i0 : (0 : Int) ≤ (k : Int) := by omega
      have i1 : (k : Int) < (n : Int) := by omega
      obtain ⟨M, hM⟩ : ∃ M, b + k = M := ⟨_, rfl⟩
      rw [hM] at hnx ⊢
      have hS := (unhide HF).setJ k hkl 0 (by decide) (.int .i64 M) (M : Int) rfl
      rw [hnx, show k * i64E.n + 0 = k from Nat.mul_one k] at hS
      have HF2 := hide hS
      generalize (mixI b fs k)[k] = x at p1
      clear hS hnx HF
      go_wp2_with fail
      go_roundw
      case rel => exact ⟨k + 1, by go_num, by rw [show b + (k + 1) = M + 1 from by omega]; go_num, by omega, HF2, hide ((unhide HB).trans (OnlyRow.set _ _))⟩
      case measure => simp [intOf]; omega
    · obtain rfl : k = n := by omega
      have hF := unhide HF
      rw [← unhide HN, mixI_end, unhide HN] at hF
      have HF2 := hide hF
      clear hF HF
      go_wp2_with fail
      go_ret
      exact ⟨rfl, unhide HF2, unhide HB⟩



namespace Plain
/-- The blocks of members' two lists. -/
def inC (a b : Option Addr) (g : Nat) : Prop := inB a g ∨ inB b g
/-- Two lists, marked one behind the other. -/
structure CMark (W : World) (a b : Option Addr) (n m : Nat) : Prop where
  v : RowAt i64E W a (mkI 1 n)
  l : RowAt i64E W b (mkI (1 + n) m)
theorem CMark.below {W W' : World} {a b : Option Addr} {n m : Nat} (h : CMark W a b n m) (hb : Below W.heap.size W W') : CMark W' a b n m := ⟨h.v.below hb, h.l.below hb⟩
end Plain
end Go.Proofs.Ytiligddjilcdhaa


/- The walk of the law FnExactCrash. -/
set_option linter.unusedVariables false
namespace Go.Proofs.Ytiligddjilcdhaa.fnExactCrash
open Go.RowKit
open Plain

theorem crL_len (live safe : List Fl) (ops : List Dop) (ks : List Int) (t : Int) : (crL live safe ops ks t).length ≤ 10000000 := by
  unfold crL
  split
  · rename_i h
    unfold crOk at h
    simp only [Bool.and_eq_true] at h
    have := (files_small h.2).1
    omega
  · simp
set_option maxRecDepth 10000 in
set_option maxHeartbeats 16000000 in
theorem walk (aL : Option Addr) (nL cL : Nat) (live : List Fl) (aS : Option Addr) (nS cS : Nat) (safe : List Fl) (aO : Option Addr) (nO cO : Nat) (ops : List Dop) (ak : Option Addr) (nk ck : Nat) (ks : List Int) (t : Int) (w : World) (hl : ArgRow 2 fileL goodF w aL nL cL live) (hs : ArgRow 2 fileL goodF w aS nS cS safe) (ho : ArgRow 4 dopL goodO w aO nO cO ops) (hkk : ArgRow 1 intL goodI w ak nk ck ks) (ht : (Lit.int .i64 t).wf = true) :
    Calls Try.prog 3 #[.agg #[.slice aL nL cL, .slice aS nS cS, .slice aO nO cO], .slice ak nk ck, .int .i64 t] w fun e w' => e = .returned (.bool true) ∧ Below w.heap.size w w' := by
  have h : DskArg w aL nL cL live aS nS cS safe aO nO cO ops := ⟨hl, hs, ho⟩
  obtain ⟨W0, hW0⟩ : ∃ W0, W0 = w.alloc (.cells #[.slice aL nL cL, .slice aS nS cS, .slice aO nO cO] 25) := ⟨_, rfl⟩
  have hb0 : Below w.heap.size w W0 := by rw [hW0]; exact bel1 _ _
  have HSZ := hide (szDisk_calls aL nL cL live aS nS cS safe aO nO cO ops 1048576 W0 (h.below hb0) (by decide))
  by_cases hbn : 1048576 < nk
  · have hbn2 : (1048576 : Int) < (nk : Int) := by omega
    clear hbn hkk
    clear h hl hs ho hb0 hW0 HSZ
    go_enter Try.func3, Try.ntmps3
    go_wp2_with fail
    go_ret
    exact ⟨rfl, bel1 _ _⟩
  have hbn2 : ¬ (1048576 : Int) < (nk : Int) := by omega
  have hs0 : W0.heap.size = w.heap.size + 1 := by rw [hW0]; simp
  have c0 : W0.cell? ⟨w.heap.size, 0, none⟩ = some (.slice aL nL cL) := by rw [hW0]; simp [go_sem]
  have c1 : W0.cell? ⟨w.heap.size, 1, none⟩ = some (.slice aS nS cS) := by rw [hW0]; simp [go_sem]
  have c2 : W0.cell? ⟨w.heap.size, 2, none⟩ = some (.slice aO nO cO) := by rw [hW0]; simp [go_sem]
  have HD := hide (fun (W : World) (hW : Below W0.heap.size W0 W) => (h.below hb0).below hW)
  have HC := hide (fun (W : World) (hW : Below W0.heap.size W0 W) => And.intro (bcl hW (show w.heap.size < W0.heap.size by omega) c0) (And.intro (bcl hW (show w.heap.size < W0.heap.size by omega) c1) (bcl hW (show w.heap.size < W0.heap.size by omega) c2)))
  have HFIN := hide (fun (W : World) (hW : Below W0.heap.size W0 W) => belOn hb0 hW)
  have HKA := hide (fun (W : World) (hW : Below W0.heap.size W0 W) => hkk.row.below (belOn hb0 hW))
  have HKN := hide hkk.len
  have HTK := hide (fun (W : World) (hW : Below W0.heap.size W0 W) => toInt64S_calls ak nk ck ks W hkk.len (by omega) (unhide HKA W hW))
  have HW0 := hide hW0.symm
  by_cases hbig : 1048576 < totD live safe ops
  · rw [purse_no (show ((1048576 : Nat) : Int) < ((totD live safe ops : Nat) : Int) by omega)] at HSZ
    clear h hl hs ho hb0 hs0 hW0 c0 c1 c2 hbn hkk
    go_enter Try.func3, Try.ntmps3
    go_wp2_with fail
    rw [unhide HW0]
    refine (unhide HSZ).mono ?_
    rintro e w1 ⟨rfl, hb1⟩
    have HB1 := hide (unhide HFIN _ hb1)
    clear hb1
    go_wp2_with fail
    go_ret
    exact ⟨rfl, unhide HB1⟩
  · obtain ⟨r, hr⟩ : ∃ r : Nat, ((1048576 : Nat) : Int) - ((totD live safe ops : Nat) : Int) = (r : Int) := ⟨1048576 - totD live safe ops, by omega⟩
    rw [purse_yes (show ¬ ((1048576 : Nat) : Int) < ((totD live safe ops : Nat) : Int) by omega), hr] at HSZ
    have HSM := hide (dsk_sm h (by omega))
    have HTO := hide (fun (W : World) (hW : Below W0.heap.size W0 W) => toDisk_calls aL nL cL live aS nS cS safe aO nO cO ops W (unhide HD _ hW) (unhide HSM).bl (unhide HSM).bs (unhide HSM).bo)
    have HSP := hide (fun (W : World) (p1 p2 p3 pk : Nat) (hA : DiskAt W (some ⟨p1, 0, none⟩) nL nL live (some ⟨p2, 0, none⟩) nS nS safe (some ⟨p3, 0, none⟩) nO nO ops) (hK : RowAt i64E W (some ⟨pk, 0, none⟩) ks) => spec_Crash (some ⟨p1, 0, none⟩) nL nL live (some ⟨p2, 0, none⟩) nS nS safe (some ⟨p3, 0, none⟩) nO nO ops (some ⟨pk, 0, none⟩) nk nk ks t W hA (unhide HKN) (by omega) hK)
    have HIM := hide (fun (W : World) (p1 p2 p3 pk : Nat) (hA : DiskAt W (some ⟨p1, 0, none⟩) nL nL live (some ⟨p2, 0, none⟩) nS nS safe (some ⟨p3, 0, none⟩) nO nO ops) (hK : RowAt i64E W (some ⟨pk, 0, none⟩) ks) => impl_Crash (some ⟨p1, 0, none⟩) nL nL live (some ⟨p2, 0, none⟩) nS nS safe (some ⟨p3, 0, none⟩) nO nO ops (some ⟨pk, 0, none⟩) nk nk ks t W hA (unhide HKN) (by omega) hK)
    have b1 := crL_len live safe ops ks t
    generalize crOk live safe ops ks t = PC at HSP HIM
    generalize crL live safe ops ks t = L1 at HSP HIM b1
    obtain ⟨O1, hO1⟩ : ∃ x, ([] : List Dop) = x := ⟨_, rfl⟩
    have b3 : O1.length ≤ 10000000 := by rw [← hO1]; decide
    unfold SpcPost at HSP
    unfold DskPost at HIM
    rw [hO1] at HSP HIM
    obtain ⟨m1, hm1⟩ : ∃ m, L1.length = m := ⟨_, rfl⟩
    obtain ⟨m3, hm3⟩ : ∃ m, O1.length = m := ⟨_, rfl⟩
    rw [hm1] at b1 HSP HIM
    have b2 := b1
    rw [hm3] at b3 HSP HIM
    have HM1 := hide hm1
    have HM2 := hide hm1
    have HM3 := hide hm3
    have HS0 := hide hs0
    clear h hl hs ho hb0 hs0 hW0 hm1 hm3 c0 c1 c2 hbig hr ht hkk hO1 hbn
    go_enter Try.func3, Try.ntmps3
    go_wp2_with fail
    rw [unhide HW0]
    refine (unhide HSZ).mono ?_
    rintro e w1 ⟨rfl, hb1⟩
    have HB1 := hide hb1
    obtain ⟨q0, q1, q2⟩ := unhide HC _ hb1
    clear hb1
    go_wp2_with fail
    refine (unhide HTO _ (unhide HB1)).mono ?_
    rintro e w2 ⟨g1, g2, g3, rfl, -, -, o1, o2, o3, hb2⟩
    have HB2 := hide (belOn (unhide HB1) hb2)
    have HA2 := hide (dsk_at (unhide HSM) o1 o2 o3)
    clear hb2 o1 o2 o3 q0 q1 q2
    go_wp2_with fail
    refine (unhide HTK _ (unhide HB2)).mono ?_
    rintro e wk ⟨gk, rfl, ok, hbk⟩
    have HBk := hide (belOn (unhide HB2) hbk)
    have HAk := hide ((unhide HA2).below hbk)
    have HKk := hide ok.at
    clear ok hbk
    go_wp2_with fail
    refine (unhide HSP wk _ _ _ _ (unhide HAk) (unhide HKk)).mono ?_
    rintro e s3 ⟨xL, kL, xS, kS, xO, kO, rfl, r1, r2, r3, hb3⟩
    obtain ⟨w3, hw3⟩ : ∃ V, V = s3.alloc (.cells #[.slice xL m1 kL, .slice xS m1 kS, .slice xO m3 kO] 31) := ⟨_, rfl⟩
    have HB3 := hide (show Below W0.heap.size W0 w3 from by rw [hw3]; exact belOn (belOn (unhide HBk) hb3) (bel1 _ _))
    have DW := hide (show DC s3.heap.size (.slice xL m1 kL) (.slice xS m1 kS) (.slice xO m3 kO) w3 from by rw [hw3]; exact DC.new _ _ _ _ _ _ _ _ _ _)
    have HX := hide (show RowAt fileE w3 xL L1 ∧ RowAt fileE w3 xS L1 ∧ RowAt dopE w3 xO O1 from by rw [hw3]; exact ⟨r1.below (bel1 _ _), r2.below (bel1 _ _), r3.below (bel1 _ _)⟩)
    obtain ⟨q0, q1, q2⟩ := unhide HC _ (unhide HB3)
    rw [hw3] at q0 q1 q2
    have HW3 := hide hw3.symm
    clear hb3 r1 r2 r3 hw3
    go_wp2_with fail
    rw [unhide HW3]
    clear q0 q1 q2
    refine (unhide HTO _ (unhide HB3)).mono ?_
    rintro e w4 ⟨g4, g5, g6, rfl, d1, d2, o1, o2, o3, hb4⟩
    obtain ⟨W5, hW5⟩ : ∃ W5, W5 = w4.alloc (.cells #[.slice (some ⟨g4, 0, none⟩) nL nL, .slice (some ⟨g5, 0, none⟩) nS nS, .slice (some ⟨g6, 0, none⟩) nO nO] 31) := ⟨_, rfl⟩
    have hb5 : Below w4.heap.size w4 W5 := by rw [hW5]; exact bel1 _ _
    have HT5 := hide (belOn hb4 hb5)
    have hlt5 : w4.heap.size < W5.heap.size := by rw [hW5]; simp
    have DX := hide (show DC w4.heap.size (.slice (some ⟨g4, 0, none⟩) nL nL) (.slice (some ⟨g5, 0, none⟩) nS nS) (.slice (some ⟨g6, 0, none⟩) nO nO) W5 from by rw [hW5]; exact DC.new _ _ _ _ _ _ _ _ _ _)
    have DW5 := hide ((unhide DW).below (belOn hb4 hb5))
    have hz4 := hb4.size
    have hbwl := (unhide DW).lt
    have HA5 := hide ((dsk_at (unhide HSM) o1 o2 o3).below hb5)
    have hg4 := o1.bl g4 ⟨0, rfl⟩
    have hg5 := o2.bl g5 ⟨0, rfl⟩
    have hg6 := o3.bl g6 ⟨0, rfl⟩
    have HAP := hide (show Apart (some ⟨g4, 0, none⟩) (some ⟨g5, 0, none⟩) (some ⟨g6, 0, none⟩) from apart3 (by omega) (by omega))
    have HWN := hide (show ¬ inD (some ⟨g4, 0, none⟩) (some ⟨g5, 0, none⟩) (some ⟨g6, 0, none⟩) s3.heap.size from fun hg => by rcases hg with ⟨o, e⟩ | ⟨o, e⟩ | ⟨o, e⟩ <;> cases e <;> omega)
    have HING := hide (show ∀ g, inD (some ⟨g4, 0, none⟩) (some ⟨g5, 0, none⟩) (some ⟨g6, 0, none⟩) g → w3.heap.size ≤ g ∧ g < W5.heap.size from fun g hg => by rcases hg with ⟨o, e⟩ | ⟨o, e⟩ | ⟨o, e⟩ <;> cases e <;> omega)
    have HB5 := hide (belOn (unhide HB3) (unhide HT5))
    have HW5 := hide hW5.symm
    clear hb4 hb5 o1 o2 o3 hW5 hg4 hg5 hg6 d1 d2
    go_wp2_with fail
    rw [unhide HW5]
    refine (unhide HTK _ (unhide HB5)).mono ?_
    rintro e w5 ⟨gx, rfl, ox, hbx⟩
    have hgx := ox.bl gx ⟨0, rfl⟩
    have hzx := hbx.size
    have HTx := hide (belOn (unhide HT5) hbx)
    have DXx := hide ((unhide DX).below hbx)
    have DWx := hide ((unhide DW5).below hbx)
    have HAx := hide ((unhide HA5).below hbx)
    have HKx := hide ox.at
    obtain ⟨-, e0, e1, e2⟩ := unhide DXx
    clear hbx ox
    go_wp2_with fail
    clear e0 e1 e2
    refine (unhide HIM w5 _ _ _ _ (unhide HAx) (unhide HKx)).mono ?_
    rintro e s6 ⟨yL, jL, yS, jS, yO, jO, rfl, o1, o2, o3, apy, hb6⟩
    obtain ⟨w6, hw6⟩ : ∃ V, V = s6.alloc (.cells #[.slice yL m1 jL, .slice yS m1 jS, .slice yO m3 jO] 31) := ⟨_, rfl⟩
    have HB6 := hide (show Below w5.heap.size w5 w6 from by rw [hw6]; exact belOn hb6 (bel1 _ _))
    have DG := hide (show DC s6.heap.size (.slice yL m1 jL) (.slice yS m1 jS) (.slice yO m3 jO) w6 from by rw [hw6]; exact DC.new _ _ _ _ _ _ _ _ _ _)
    have OW := own3 o1 o2 o3
    have HY := hide (show RowAt fileE w6 yL L1 ∧ RowAt fileE w6 yS L1 ∧ RowAt dopE w6 yO O1 from by rw [hw6]; exact ⟨o1.at.below (bel1 _ _), o2.at.below (bel1 _ _), o3.at.below (bel1 _ _)⟩)
    have hz66 : w6.heap.size = s6.heap.size + 1 := by rw [hw6]; simp
    have HAY := hide apy
    have HVY := hide (show ∀ g, inD yL yS yO g → w5.heap.size ≤ g ∧ g ≠ s6.heap.size ∧ g < w6.heap.size from fun g hg => by have := OW g hg; refine ⟨by omega, by omega, by omega⟩)
    have hbgW : w5.heap.size ≤ s6.heap.size := hb6.size
    have HZ66 := hide hz66
    have HT6 := hide (belOn (unhide HTx) (unhide HB6))
    have HK6 := hide ((unhide HKx).below (unhide HB6))
    have DW6 := hide ((unhide DWx).below (unhide HB6))
    have DX6 := hide ((unhide DXx).below (unhide HB6))
    have HA6 := hide ((unhide HAx).below (unhide HB6))
    have hz6 := (unhide HB6).size
    have HNX : Hid (¬ inD (some ⟨g4, 0, none⟩) (some ⟨g5, 0, none⟩) (some ⟨g6, 0, none⟩) s6.heap.size) := hide (fun h => by have := (unhide HING _ h).2; omega)
    obtain ⟨-, f0, f1, f2⟩ := unhide DW6
    rw [hw6] at f0 f1 f2
    have hpc : (PC != PC) = false := by simp
    have HW6 := hide hw6.symm
    clear o1 o2 o3 apy hb6 OW hw6 hz66
    go_wp2_with fail
    rw [unhide HW6]
    clear f0 f1 f2
    refine (eqDisk_calls yL yS yO xL xS xO m1 m1 m3 _ _ _ _ _ _ L1 L1 O1 _ (unhide HM1) (unhide HM2) (unhide HM3) b1 b2 b3 ⟨(unhide HY).1, (unhide HY).2.1, (unhide HY).2.2⟩ ⟨(unhide HX).1.below (unhide HT6), (unhide HX).2.1.below (unhide HT6), (unhide HX).2.2.below (unhide HT6)⟩).mono ?_
    rintro e w7 ⟨rfl, hb7⟩
    have HT7 := hide (belOn (unhide HT6) hb7)
    have DG7 := hide ((unhide DG).below hb7)
    have DX7 := hide ((unhide DX6).below hb7)
    have DW7 := hide ((unhide DW6).below hb7)
    have HA7 := hide ((unhide HA6).below hb7)
    have HK7 := hide ((unhide HK6).below hb7)
    have HY7 := hide (show RowAt fileE w7 yL L1 ∧ RowAt fileE w7 yS L1 ∧ RowAt dopE w7 yO O1 from ⟨(unhide HY).1.below hb7, (unhide HY).2.1.below hb7, (unhide HY).2.2.below hb7⟩)
    have hz7 := hb7.size
    have HB7 := hide (belOn (unhide HB3) (unhide HT7))
    clear hb7
    go_wp2_with fail
    go_cut [60] (fun s60 wx => s60 = .bool false ∧ Hid (Below w7.heap.size w7 wx))
    case first =>
      obtain ⟨q0, q1, q2⟩ := unhide HC _ (unhide HB7)
      obtain ⟨-, p0, p1, p2⟩ := unhide DX7
      have l1 : w.heap.size < w7.heap.size := lt_of_cell q0
      have l2 : w4.heap.size < w7.heap.size := lt_of_cell p0
      have HT8 := hide (unhide HTO w7.drew (belDrew (unhide HB7)))
      go_region_with (first
        | (go_at_call 7; refine (unhide HT8).mono ?_; rintro e w8 ⟨g7, g8, g9, rfl, -, -, o1, o2, o3, hb8⟩; have s0 := bcl (bOfDrew hb8) l1 q0; have s1 := bcl (bOfDrew hb8) l1 q1; have s2 := bcl (bOfDrew hb8) l1 q2; have t0 := bcl (bOfDrew hb8) l2 p0; have t1 := bcl (bOfDrew hb8) l2 p1; have t2 := bcl (bOfDrew hb8) l2 p2)
        | (go_at_call 10; refine (eqDisk_calls _ _ _ _ _ _ nL nS nO _ _ _ _ _ _ live safe ops _ (unhide HSM).ll (unhide HSM).ls (unhide HSM).lo (Nat.le_trans (unhide HSM).bl (by decide)) (Nat.le_trans (unhide HSM).bs (by decide)) (Nat.le_trans (unhide HSM).bo (by decide)) ⟨(unhide HA7).rl.below (bOfDrew hb8), (unhide HA7).rs.below (bOfDrew hb8), (unhide HA7).ro.below (bOfDrew hb8)⟩ ⟨o1.at, o2.at, o3.at⟩).mono ?_; rintro e w9 ⟨rfl, hb9⟩))
      all_goals (try go_wp2_with fail)
      all_goals go_meet
      all_goals exact ⟨rfl, hide (belOn (bOfDrew hb8) hb9)⟩
    case rest =>
    obtain ⟨w9, rfl⟩ : ∃ w9, w9 = wc := ⟨_, rfl⟩
    obtain ⟨rfl, HD9⟩ := hcut
    have HT9 := hide (belOn (unhide HT7) (unhide HD9))
    have DG9 := hide ((unhide DG7).below (unhide HD9))
    have DX9 := hide ((unhide DX7).below (unhide HD9))
    have DW9 := hide ((unhide DW7).below (unhide HD9))
    have HA9 := hide ((unhide HA7).below (unhide HD9))
    have HY9 := hide (show RowAt fileE w9 yL L1 ∧ RowAt fileE w9 yS L1 ∧ RowAt dopE w9 yO O1 from ⟨(unhide HY7).1.below (unhide HD9), (unhide HY7).2.1.below (unhide HD9), (unhide HY7).2.2.below (unhide HD9)⟩)
    have hz9 := (unhide HD9).size
    have HK9 := hide ((unhide HK7).below (unhide HD9))
    have HBK9 := hide (belOn (unhide HB3) (unhide HT9))
    go_wp2_with fail
    refine (unhide HTK _ (unhide HBK9)).mono ?_
    rintro e wm ⟨gm, rfl, om, hbm⟩
    have HTm := hide (belOn (unhide HT9) hbm)
    have HKm := hide ((unhide HK9).below hbm)
    have HOm := hide om.at
    have DGm := hide ((unhide DG9).below hbm)
    have DXm := hide ((unhide DX9).below hbm)
    have DWm := hide ((unhide DW9).below hbm)
    have HAm := hide ((unhide HA9).below hbm)
    have HYm := hide (show RowAt fileE wm yL L1 ∧ RowAt fileE wm yS L1 ∧ RowAt dopE wm yO O1 from ⟨(unhide HY9).1.below hbm, (unhide HY9).2.1.below hbm, (unhide HY9).2.2.below hbm⟩)
    have hzm := hbm.size
    clear hbm om HT9 HK9 DG9 DX9 DW9 HA9 HY9
    go_wp2_with fail
    refine (eqInt64S_calls _ _ _ _ nk ks wm (unhide HKN) (by omega) (unhide HKm) (unhide HOm)).mono ?_
    rintro e w9 ⟨rfl, hbn9⟩
    have HT9 := hide (belOn (unhide HTm) hbn9)
    have HK9 := hide ((unhide HKm).below hbn9)
    have DG9 := hide ((unhide DGm).below hbn9)
    have DX9 := hide ((unhide DXm).below hbn9)
    have DW9 := hide ((unhide DWm).below hbn9)
    have HA9 := hide ((unhide HAm).below hbn9)
    have HY9 := hide (show RowAt fileE w9 yL L1 ∧ RowAt fileE w9 yS L1 ∧ RowAt dopE w9 yO O1 from ⟨(unhide HYm).1.below hbn9, (unhide HYm).2.1.below hbn9, (unhide HYm).2.2.below hbn9⟩)
    have hz9 := hbn9.size
    clear hbn9 HTm HKm HOm DGm DXm DWm HAm HYm
    obtain ⟨-, p0, p1, p2⟩ := unhide DX9
    go_wp2_with fail
    clear p0 p1 p2
    refine (markDisk_calls _ nL nL live _ nS nS safe _ nO nO ops w9 (unhide HSM).ll (unhide HSM).ls (unhide HSM).lo (Nat.le_trans (unhide HSM).bl (by decide)) (Nat.le_trans (unhide HSM).bs (by decide)) (Nat.le_trans (unhide HSM).bo (by decide)) (unhide HA9).rl (unhide HA9).rs (unhide HA9).ro (unhide HAP) (fun g hg => by have := unhide HING g hg; omega)).mono ?_
    rintro e wa ⟨rfl, -, hoa⟩
    have HTa := hide ((unhide HT9).trans (hoa.below (B := w3.heap.size) (fun g hg => (unhide HING g hg).1) (unhide HT9).size))
    have HYa := hide (show RowAt fileE wa yL L1 ∧ RowAt fileE wa yS L1 ∧ RowAt dopE wa yO O1 from ⟨(unhide HY9).1.offP hoa (fun g h h2 => by have := (unhide HVY g (.inl h)).1; have := (unhide HING g h2).2; omega), (unhide HY9).2.1.offP hoa (fun g h h2 => by have := (unhide HVY g (.inr (.inl h))).1; have := (unhide HING g h2).2; omega), (unhide HY9).2.2.offP hoa (fun g h h2 => by have := (unhide HVY g (.inr (.inr h))).1; have := (unhide HING g h2).2; omega)⟩)
    have hza := hoa.size
    obtain ⟨M, hM⟩ : ∃ M, 1 + nL * 2 + nS * 2 + nO * 4 = M := ⟨_, rfl⟩
    rw [hM]
    have hMb : M ≤ 100000000 := by have := (unhide HSM).bl; have := (unhide HSM).bs; have := (unhide HSM).bo; omega
    have HKa := hide ((unhide HK9).offP hoa (fun g ⟨o, e⟩ h2 => by cases e; have := (unhide HING gx h2).2; omega))
    have DGa := hide ((unhide DG9).offP hoa (unhide HNX))
    have DWa := hide ((unhide DW9).offP hoa (unhide HWN))
    clear hoa hM HT9 HA9 HY9 DG9 DX9 DW9 DG7 DX7 DW7 HK9
    go_wp2_with fail
    refine (markInt64S_calls M _ _ nk ks wa hMb (unhide HKN) (by omega) (unhide HKa)).mono ?_
    rintro e wA ⟨rfl, -, hoA⟩
    have hpA : ∀ g, (fun g => g = gx) g → w3.heap.size ≤ g := fun g hg => by subst hg; omega
    have hoP := OnlyP.row (p := fun g => g = gx) hoA (fun g o e => by cases e; rfl)
    have HTA := hide ((unhide HTa).trans (hoP.below (B := w3.heap.size) hpA (unhide HTa).size))
    have HYA := hide (show RowAt fileE wA yL L1 ∧ RowAt fileE wA yS L1 ∧ RowAt dopE wA yO O1 from ⟨(unhide HYa).1.offP hoP (fun g h h2 => by have := (unhide HVY g (.inl h)).1; omega), (unhide HYa).2.1.offP hoP (fun g h h2 => by have := (unhide HVY g (.inr (.inl h))).1; omega), (unhide HYa).2.2.offP hoP (fun g h h2 => by have := (unhide HVY g (.inr (.inr h))).1; omega)⟩)
    have hzA := hoP.size
    have DGA := hide ((unhide DGa).offP hoP (by omega))
    have DWA := hide ((unhide DWa).offP hoP (by omega))
    obtain ⟨MM, hMM⟩ : ∃ x, M + nk = x := ⟨_, rfl⟩
    rw [hMM]
    have hMM0 : ¬ ((MM : Nat) : Int) < 0 := by omega
    obtain ⟨-, e0, e1, e2⟩ := unhide DGA
    obtain ⟨-, f0, f1, f2⟩ := unhide DWA
    clear hoA hoP hpA hMM HTa HYa DGa DWa HKa
    go_wp2_with fail
    clear e0 e1 e2 f0 f1 f2
    refine (eqDisk_calls yL yS yO xL xS xO m1 m1 m3 _ _ _ _ _ _ L1 L1 O1 _ (unhide HM1) (unhide HM2) (unhide HM3) b1 b2 b3 ⟨(unhide HYA).1, (unhide HYA).2.1, (unhide HYA).2.2⟩ ⟨(unhide HX).1.below (unhide HTA), (unhide HX).2.1.below (unhide HTA), (unhide HX).2.2.below (unhide HTA)⟩).mono ?_
    rintro e wb ⟨rfl, hbb⟩
    have HTb := hide (belOn (unhide HTA) hbb)
    have HYb := hide (show RowAt fileE wb yL L1 ∧ RowAt fileE wb yS L1 ∧ RowAt dopE wb yO O1 from ⟨(unhide HYA).1.below hbb, (unhide HYA).2.1.below hbb, (unhide HYA).2.2.below hbb⟩)
    have hzb := hbb.size
    have DGb := hide ((unhide DGA).below hbb)
    have DWb := hide ((unhide DWA).below hbb)
    obtain ⟨-, e0, e1, e2⟩ := unhide DGb
    clear hbb HTA HYA DGA DWA
    go_wp2_with fail
    clear e0 e1 e2
    refine (markDisk_calls yL m1 _ L1 yS m1 _ L1 yO m3 _ O1 wb (unhide HM1) (unhide HM2) (unhide HM3) b1 b2 b3 (unhide HYb).1 (unhide HYb).2.1 (unhide HYb).2.2 (unhide HAY) (fun g hg => by have := (unhide HVY g hg).2.2; omega)).mono ?_
    rintro e wz ⟨rfl, hMc, hoc⟩
    have hW53 : w3.heap.size ≤ W5.heap.size := by omega
    have HTc := hide ((unhide HTb).trans (hoc.below (B := w3.heap.size) (fun g hg => by have := (unhide HVY g hg).1; omega) (unhide HTb).size))
    have HKc := hide hMc
    have hzc := hoc.size
    have DGc := hide ((unhide DGb).offP hoc (fun h2 => (unhide HVY _ h2).2.1 rfl))
    have DWc := hide ((unhide DWb).offP hoc (fun h2 => by have := (unhide HVY _ h2).1; omega))
    obtain ⟨-, e0, e1, e2⟩ := unhide DGc
    clear hoc hMc HTb HYb DGb DWb
    obtain ⟨K, hK⟩ : ∃ K, 1 + m1 * 2 + m1 * 2 + m3 * 4 = K := ⟨_, rfl⟩
    rw [hK]
    have HK := hide hK
    clear hK
    go_wp2_with fail
    clear e0 e1 e2
    refine (heldDisk_calls yL m1 _ yS m1 _ yO m3 _ wz b1 b2 b3 (unhide HKc)).mono ?_
    rintro e wd ⟨rfl, hbd⟩
    rw [unhide HK]
    have HTd := hide (belOn (unhide HTc) hbd)
    have HKd := hide ((unhide HKc).below hbd)
    have DGd := hide ((unhide DGc).below hbd)
    have DWd := hide ((unhide DWc).below hbd)
    have HBd := hide (belOn (unhide HB3) (unhide HTd))
    clear hbd HTc HKc DGc DWc
    obtain ⟨q0, q1, q2⟩ := unhide HC _ (unhide HBd)
    go_wp2_with fail
    clear q0 q1 q2
    refine (unhide HTO _ (unhide HBd)).mono ?_
    rintro e wj ⟨g7, g8, g9, rfl, -, -, o1, o2, o3, hbj⟩
    have HBJ := hide hbj
    have HAJ := hide (dsk_at (unhide HSM) o1 o2 o3)
    clear hbj o1 o2 o3
    go_wp2_with fail
    refine (unhide HTK _ (belOn (unhide HBd) (unhide HBJ))).mono ?_
    rintro e wl ⟨gl, rfl, ol, hbl⟩
    have HBL := hide (belOn (unhide HBJ) hbl)
    have HAL := hide ((unhide HAJ).below hbl)
    have HKL := hide ol.at
    clear hbl ol
    go_wp2_with fail
    refine (unhide HIM wl _ _ _ _ (unhide HAL) (unhide HKL)).mono ?_
    rintro e sf ⟨uL, iL, uS, iS, uO, iO, rfl, o1, o2, o3, -, hbk⟩
    obtain ⟨wf, hwf⟩ : ∃ V, V = sf.alloc (.cells #[.slice uL m1 iL, .slice uS m1 iS, .slice uO m3 iO] 31) := ⟨_, rfl⟩
    have HBf := hide (show Below wd.heap.size wd wf from by rw [hwf]; exact belOn (belOn (unhide HBL) hbk) (bel1 _ _))
    have HU := hide (show RowAt fileE wf uL L1 ∧ RowAt fileE wf uS L1 ∧ RowAt dopE wf uO O1 from by rw [hwf]; exact ⟨o1.at.below (bel1 _ _), o2.at.below (bel1 _ _), o3.at.below (bel1 _ _)⟩)
    have HTf := hide (belOn (unhide HTd) (unhide HBf))
    have HKf := hide ((unhide HKd).below (unhide HBf))
    have DGf := hide ((unhide DGd).below (unhide HBf))
    have DWf := hide ((unhide DWd).below (unhide HBf))
    obtain ⟨-, f0, f1, f2⟩ := unhide DWf
    rw [hwf] at f0 f1 f2
    have HWf := hide hwf.symm
    clear o1 o2 o3 hbk hwf
    go_wp2_with fail
    rw [unhide HWf]
    clear f0 f1 f2
    refine (eqDisk_calls uL uS uO xL xS xO m1 m1 m3 _ _ _ _ _ _ L1 L1 O1 _ (unhide HM1) (unhide HM2) (unhide HM3) b1 b2 b3 ⟨(unhide HU).1, (unhide HU).2.1, (unhide HU).2.2⟩ ⟨(unhide HX).1.below (unhide HTf), (unhide HX).2.1.below (unhide HTf), (unhide HX).2.2.below (unhide HTf)⟩).mono ?_
    rintro e wg ⟨rfl, hbg⟩
    have HTg := hide (belOn (unhide HTf) hbg)
    have HKg := hide ((unhide HKf).below hbg)
    have DGg := hide ((unhide DGf).below hbg)
    obtain ⟨-, e0, e1, e2⟩ := unhide DGg
    clear hbg HTf HKf HU DGf DWf
    go_wp2_with fail
    clear e0 e1 e2
    refine (heldDisk_calls yL m1 _ yS m1 _ yO m3 _ wg b1 b2 b3 (unhide HKg)).mono ?_
    rintro e wh ⟨rfl, hbh⟩
    rw [unhide HK]
    have HTh := hide (belOn (unhide HTg) hbh)
    clear hbh HTg HKg
    go_wp2_with fail
    go_ret
    exact ⟨rfl, unhide HFIN _ (belOn (unhide HB3) (unhide HTh))⟩
end Go.Proofs.Ytiligddjilcdhaa.fnExactCrash

