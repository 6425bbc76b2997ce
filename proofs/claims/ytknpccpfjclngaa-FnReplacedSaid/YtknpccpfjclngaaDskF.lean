/- Reading a file of a disk, by both programs. -/
import Derived.Test.YtknpccpfjclngaaGAH
namespace Go.Proofs.Ytknpccpfjclngaa
open Go.RowKit Go.Maps Plain
set_option linter.unusedVariables false

namespace Plain
theorem disk_live {live safe : List Fl} {ops : List Dop} (h : diskB live safe ops = true) : filesB live = true := by
  unfold diskB at h
  rw [Bool.and_eq_true] at h
  exact h.1
/-- What is read under a name of a right disk. -/
noncomputable def fileF (live safe : List Fl) (ops : List Dop) (nm : ByteArray) : Option ByteArray := if diskB live safe ops = true then tabF live nm else none
def readV (r : Option ByteArray) : Value := .tuple #[.string (r.getD ⟨#[]⟩), .bool r.isSome]
end Plain

set_option maxRecDepth 10000 in
set_option maxHeartbeats 4000000 in
theorem impl_ReadFileO (aL : Option Addr) (nL cL : Nat) (live : List Fl) (aS : Option Addr) (nS cS : Nat) (safe : List Fl) (aO : Option Addr) (nO cO : Nat) (ops : List Dop) (nm : ByteArray) (w : World) (h : DiskO w aL nL cL live aS nS cS safe aO nO cO ops) (hs : nm.size ≤ 1000000000) :
    Calls Try.prog 17 #[.agg #[.slice aL nL cL, .slice aS nS cS, .slice aO nO cO], .string nm] w fun e w' => e = .returned (readV (fileF live safe ops nm)) ∧ Below w.heap.size w w' := by
  obtain ⟨W0, hW0⟩ : ∃ W0, W0 = w.alloc (.cells #[.slice aL nL cL, .slice aS nS cS, .slice aO nO cO] 27) := ⟨_, rfl⟩
  have hb0 : Below w.heap.size w W0 := by rw [hW0]; exact bel1 _ _
  have hlt : w.heap.size < W0.heap.size := by rw [hW0]; simp
  have c0 : W0.cell? ⟨w.heap.size, 0, none⟩ = some (.slice aL nL cL) := by rw [hW0]; simp [go_sem]
  have c1 : W0.cell? ⟨w.heap.size, 1, none⟩ = some (.slice aS nS cS) := by rw [hW0]; simp [go_sem]
  have c2 : W0.cell? ⟨w.heap.size, 2, none⟩ = some (.slice aO nO cO) := by rw [hW0]; simp [go_sem]
  have HD := hide (fun (W : World) (hW : Below W0.heap.size W0 W) => (h.below hb0).below hW)
  have HC := hide (fun (W : World) (hW : Below W0.heap.size W0 W) => And.intro (bcl hW hlt c0) (And.intro (bcl hW hlt c1) (bcl hW hlt c2)))
  have HFIN := hide (fun (W : World) (hW : Below W0.heap.size W0 W) => belOn hb0 hW)
  have HW0 := hide hW0.symm
  have hbl := h.bl
  have HH := hide h
  clear h hb0 hlt c0 c1 c2 hW0
  unfold fileF
  cases hd : diskB live safe ops with
  | false =>
    rw [if_neg (by simp)]
    have HX := hide hd
    clear hd
    go_enter Try.func17, Try.ntmps17
    go_wp2_with fail
    rw [unhide HW0]
    refine (impl_DiskOkO aL nL cL live aS nS cS safe aO nO cO ops W0 (unhide HD _ (Below.refl _ _))).mono ?_
    rintro e w1 ⟨rfl, hb1⟩
    rw [unhide HX]
    have HB1 := hide (unhide HFIN _ hb1)
    clear hb1
    go_wp2_with fail
    go_ret2
    exact ⟨rfl, unhide HB1⟩
  | true =>
    rw [if_pos rfl]
    have HX := hide hd
    have hfl := disk_live hd
    have HRI := hide (files_ok hfl).2
    have hln := (files_small hfl).1
    have hfit := small_fit hfl
    rw [(unhide HH).ll] at hln
    clear hd hfl
    cases ht : tabF live nm with
    | none =>
      have hfa : fileAt (tabF live) nm = .agg #[.string ⟨#[]⟩, .string ⟨#[]⟩] := by unfold fileAt; rw [ht]
      have HLK := hide (fun (W : World) (b m : Nat) (hT : Tab W b m (tabF live)) => hT.look_ok (nm := nm) (by omega))
      rw [hfa, ht] at HLK
      simp only [Option.isSome] at HLK
      clear hfa ht
      go_enter Try.func17, Try.ntmps17
      go_wp2_with fail
      rw [unhide HW0]
      refine (impl_DiskOkO aL nL cL live aS nS cS safe aO nO cO ops W0 (unhide HD _ (Below.refl _ _))).mono ?_
      rintro e w1 ⟨rfl, hb1⟩
      rw [unhide HX]
      have HB1 := hide hb1
      obtain ⟨q0, q1, q2⟩ := unhide HC _ hb1
      clear hb1
      go_wp2_with fail
      refine (tableOf_calls aL nL cL live w1 (unhide HH).ll (by omega) hfit (unhide HD _ (unhide HB1)).rl).mono ?_
      rintro e w2 ⟨b, m, rfl, hbb, hm, HT, hb2⟩
      have hlk := unhide HLK _ _ _ (unhide HT)
      have HB2 := hide (unhide HFIN _ (belOn (unhide HB1) hb2))
      clear hb2 hbb hm q0 q1 q2
      go_wp2_with fail
      go_ret2
      exact ⟨rfl, (unhide HB2).trans ((bel1 _ _).mono (unhide HB2).size)⟩
    | some d =>
      have hfa : fileAt (tabF live) nm = .agg #[.string nm, .string d] := by unfold fileAt; rw [ht]
      have HLK := hide (fun (W : World) (b m : Nat) (hT : Tab W b m (tabF live)) => hT.look_ok (nm := nm) (by omega))
      rw [hfa, ht] at HLK
      simp only [Option.isSome] at HLK
      clear hfa ht
      go_enter Try.func17, Try.ntmps17
      go_wp2_with fail
      rw [unhide HW0]
      refine (impl_DiskOkO aL nL cL live aS nS cS safe aO nO cO ops W0 (unhide HD _ (Below.refl _ _))).mono ?_
      rintro e w1 ⟨rfl, hb1⟩
      rw [unhide HX]
      have HB1 := hide hb1
      obtain ⟨q0, q1, q2⟩ := unhide HC _ hb1
      clear hb1
      go_wp2_with fail
      refine (tableOf_calls aL nL cL live w1 (unhide HH).ll (by omega) hfit (unhide HD _ (unhide HB1)).rl).mono ?_
      rintro e w2 ⟨b, m, rfl, hbb, hm, HT, hb2⟩
      have hlk := unhide HLK _ _ _ (unhide HT)
      have HB2 := hide (unhide HFIN _ (belOn (unhide HB1) hb2))
      clear hb2 hbb hm q0 q1 q2
      go_wp2_with fail
      go_ret2
      exact ⟨rfl, (unhide HB2).trans ((bel1 _ _).mono (unhide HB2).size)⟩

theorem impl_ReadFile (aL : Option Addr) (nL cL : Nat) (live : List Fl) (aS : Option Addr) (nS cS : Nat) (safe : List Fl) (aO : Option Addr) (nO cO : Nat) (ops : List Dop) (nm : ByteArray) (w : World) (h : DiskAt w aL nL cL live aS nS cS safe aO nO cO ops) (hs : nm.size ≤ 1000000000) :
    Calls Try.prog 17 #[.agg #[.slice aL nL cL, .slice aS nS cS, .slice aO nO cO], .string nm] w fun e w' => e = .returned (readV (fileF live safe ops nm)) ∧ Below w.heap.size w w' :=
  impl_ReadFileO aL nL cL live aS nS cS safe aO nO cO ops nm w h.toO hs
set_option maxRecDepth 10000 in
set_option maxHeartbeats 4000000 in
theorem spec_ReadFile (aL : Option Addr) (nL cL : Nat) (live : List Fl) (aS : Option Addr) (nS cS : Nat) (safe : List Fl) (aO : Option Addr) (nO cO : Nat) (ops : List Dop) (nm : ByteArray) (w : World) (h : DiskAt w aL nL cL live aS nS cS safe aO nO cO ops) (hs : nm.size ≤ 1000000000) :
    Calls Try.prog 16 #[.agg #[.slice aL nL cL, .slice aS nS cS, .slice aO nO cO], .string nm] w fun e w' => e = .returned (readV (fileF live safe ops nm)) ∧ Below w.heap.size w w' := by
  obtain ⟨W0, hW0⟩ : ∃ W0, W0 = w.alloc (.cells #[.slice aL nL cL, .slice aS nS cS, .slice aO nO cO] 27) := ⟨_, rfl⟩
  have hb0 : Below w.heap.size w W0 := by rw [hW0]; exact bel1 _ _
  have hlt : w.heap.size < W0.heap.size := by rw [hW0]; simp
  have c0 : W0.cell? ⟨w.heap.size, 0, none⟩ = some (.slice aL nL cL) := by rw [hW0]; simp [go_sem]
  have c1 : W0.cell? ⟨w.heap.size, 1, none⟩ = some (.slice aS nS cS) := by rw [hW0]; simp [go_sem]
  have c2 : W0.cell? ⟨w.heap.size, 2, none⟩ = some (.slice aO nO cO) := by rw [hW0]; simp [go_sem]
  have HD := hide (fun (W : World) (hW : Below W0.heap.size W0 W) => (h.below hb0).below hW)
  have HC := hide (fun (W : World) (hW : Below W0.heap.size W0 W) => And.intro (bcl hW hlt c0) (And.intro (bcl hW hlt c1) (bcl hW hlt c2)))
  have HFIN := hide (fun (W : World) (hW : Below W0.heap.size W0 W) => belOn hb0 hW)
  have HW0 := hide hW0.symm
  have hbl := h.bl
  have HH := hide h
  clear h hb0 hlt c0 c1 c2 hW0
  unfold fileF
  cases hd : diskB live safe ops with
  | false =>
    rw [if_neg (by simp)]
    have HX := hide hd
    clear hd
    go_enter Try.func16, Try.ntmps16
    go_wp2_with fail
    rw [unhide HW0]
    refine (spec_DiskOk aL nL cL live aS nS cS safe aO nO cO ops W0 (unhide HD _ (Below.refl _ _))).mono ?_
    rintro e w1 ⟨rfl, hb1⟩
    rw [unhide HX]
    have HB1 := hide (unhide HFIN _ hb1)
    clear hb1
    go_wp2_with fail
    go_ret2
    exact ⟨rfl, unhide HB1⟩
  | true =>
    rw [if_pos rfl]
    have HX := hide hd
    have hfl := disk_live hd
    have HRI := hide (files_ok hfl).2
    have hln := (files_small hfl).1
    have hfit := small_fit hfl
    rw [(unhide HH).ll] at hln
    clear hd hfl
    cases ha : atF nm live with
    | none =>
      rw [tab_at_none (unhide HRI) ha]
      have HA := hide (fun (W : World) (hW : Below W0.heap.size W0 W) => l4At_calls aL nL cL live nm W (unhide HH).ll (by omega) (unhide HD _ hW).rl)
      rw [ha] at HA
      clear ha
      go_enter Try.func16, Try.ntmps16
      go_wp2_with fail
      rw [unhide HW0]
      refine (spec_DiskOk aL nL cL live aS nS cS safe aO nO cO ops W0 (unhide HD _ (Below.refl _ _))).mono ?_
      rintro e w1 ⟨rfl, hb1⟩
      rw [unhide HX]
      have HB1 := hide hb1
      obtain ⟨q0, q1, q2⟩ := unhide HC _ hb1
      clear hb1
      go_wp2_with fail
      refine (unhide HA _ (unhide HB1)).mono ?_
      rintro e w2 ⟨rfl, rfl⟩
      go_wp2_with fail
      go_ret2
      exact ⟨rfl, unhide HFIN _ (unhide HB1)⟩
    | some i =>
      obtain ⟨hi, hin⟩ := atF_lt nm live i ha
      rw [tab_at_some (unhide HRI) ha, List.getD_eq_getElem?_getD, List.getElem?_eq_getElem hi, Option.getD_some]
      have HA := hide (fun (W : World) (hW : Below W0.heap.size W0 W) => l4At_calls aL nL cL live nm W (unhide HH).ll (by omega) (unhide HD _ hW).rl)
      rw [ha] at HA
      have HV : atV (some i) = (i : Int) := rfl
      rw [HV] at HA
      have hil : i < nL := by rw [← (unhide HH).ll]; exact hi
      have HCD := hide (fun (W : World) (hW : Below W0.heap.size W0 W) => (unhide HD _ hW).rl.file i hi)
      have i0 : (0 : Int) ≤ (i : Int) := by omega
      have i1 : (i : Int) < (nL : Int) := by omega
      have i2 : ¬ (i : Int) < 0 := by omega
      clear ha hin HV
      generalize live[i] = f at HCD
      obtain ⟨fn, fd⟩ := f
      simp only at HCD
      go_enter Try.func16, Try.ntmps16
      go_wp2_with fail
      rw [unhide HW0]
      refine (spec_DiskOk aL nL cL live aS nS cS safe aO nO cO ops W0 (unhide HD _ (Below.refl _ _))).mono ?_
      rintro e w1 ⟨rfl, hb1⟩
      rw [unhide HX]
      have HB1 := hide hb1
      obtain ⟨q0, q1, q2⟩ := unhide HC _ hb1
      clear hb1
      go_wp2_with fail
      refine (unhide HA _ (unhide HB1)).mono ?_
      rintro e w2 ⟨rfl, rfl⟩
      obtain ⟨g, e1, l1, p0, p1⟩ := unhide HCD _ (unhide HB1)
      have HE1 := hide e1
      rw [e1] at q0
      clear e1
      go_wp2_with fail
      go_ret2
      exact ⟨rfl, unhide HFIN _ (unhide HB1)⟩
end Go.Proofs.Ytknpccpfjclngaa
