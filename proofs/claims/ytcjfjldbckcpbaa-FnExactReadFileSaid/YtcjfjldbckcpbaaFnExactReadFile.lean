/- For every disk and name, ReadFile of the program answers what ReadFile of the specification answers, and writes into no argument; nothing that was there is changed. No condition. -/
import Derived.Test.YtcjfjldbckcpbaaRows
import Derived.Test.YtcjfjldbckcpbaaDskF
import Derived.WalkKit
import Derived.ProofKit
import Derived.OpenShut
import Derived.ShutString
import Derived.ChangeOld
import Derived.Below
import Derived.Lib.SmallJoins
namespace Go.Proofs.Ytcjfjldbckcpbaa.fnExactReadFile
open Go.ChangeShapes Go.WideShapes Go.ChangeAt Go.RowKit Go.Joins
open Go.ChangeMaps (open_string shut_string)
open Plain
set_option linter.unusedVariables false

theorem own : ownKnob Try.prog.godebug = none := by kernel_rfl
theorem laidOut : laidOutB Try.prog = true := by kernel_rfl

set_option maxRecDepth 10000 in
set_option maxHeartbeats 4000000 in
theorem walk (aL : Option Addr) (nL cL : Nat) (live : List Fl) (aS : Option Addr) (nS cS : Nat) (safe : List Fl) (aO : Option Addr) (nO cO : Nat) (ops : List Dop) (nm : ByteArray) (w : World) (hl : ArgRow 2 fileL goodF w aL nL cL live) (hs : ArgRow 2 fileL goodF w aS nS cS safe) (ho : ArgRow 4 dopL goodO w aO nO cO ops) (hnm : nm.size ≤ maxLen) :
    Calls Try.prog 9 #[.agg #[.slice aL nL cL, .slice aS nS cS, .slice aO nO cO], .string nm] w fun e w' => e = .returned (.bool true) ∧ Below w.heap.size w w' := by
  have h : DskArg w aL nL cL live aS nS cS safe aO nO cO ops := ⟨hl, hs, ho⟩
  obtain ⟨W0, hW0⟩ : ∃ W0, W0 = w.alloc (.cells #[.slice aL nL cL, .slice aS nS cS, .slice aO nO cO] 46) := ⟨_, rfl⟩
  have hb0 : Below w.heap.size w W0 := by rw [hW0]; exact bel1 _ _
  have hlt : w.heap.size < W0.heap.size := by rw [hW0]; simp
  have c0 : W0.cell? ⟨w.heap.size, 0, none⟩ = some (.slice aL nL cL) := by rw [hW0]; simp [go_sem]
  have c1 : W0.cell? ⟨w.heap.size, 1, none⟩ = some (.slice aS nS cS) := by rw [hW0]; simp [go_sem]
  have c2 : W0.cell? ⟨w.heap.size, 2, none⟩ = some (.slice aO nO cO) := by rw [hW0]; simp [go_sem]
  have HD := hide (fun (W : World) (hW : Below W0.heap.size W0 W) => (h.below hb0).below hW)
  have HC := hide (fun (W : World) (hW : Below W0.heap.size W0 W) => And.intro (bcl hW hlt c0) (And.intro (bcl hW hlt c1) (bcl hW hlt c2)))
  have HFIN := hide (fun (W : World) (hW : Below W0.heap.size W0 W) => belOn hb0 hW)
  have HW0 := hide hW0.symm
  have HSZ := hide (szDisk_calls aL nL cL live aS nS cS safe aO nO cO ops 1048576 W0 (h.below hb0) (by decide))
  unfold maxLen at hnm
  by_cases hbn : 1048576 < nm.size
  · clear h hl hs ho hb0 hlt hW0 c0 c1 c2 HSZ HD HC
    go_enter Try.func9, Try.ntmps9
    go_wp2_with fail
    rw [unhide HW0]
    go_ret
    exact ⟨rfl, unhide HFIN _ (Below.refl _ _)⟩
  by_cases hbig : 1048576 < totD live safe ops
  · rw [purse_no (show ((1048576 : Nat) : Int) < ((totD live safe ops : Nat) : Int) by omega)] at HSZ
    clear h hl hs ho hb0 hlt hW0
    go_enter Try.func9, Try.ntmps9
    go_wp2_with fail
    rw [unhide HW0]
    refine (unhide HSZ).mono ?_
    rintro e w1 ⟨rfl, hb1⟩
    have HB1 := hide (unhide HFIN _ hb1)
    clear hb1
    go_wp2_with fail
    go_ret
    exact ⟨rfl, unhide HB1⟩
  · obtain ⟨r, hr⟩ : ∃ r : Nat, ((1048576 : Nat) : Int) - ((totD live safe ops : Nat) : Int) = (r : Int) := ⟨1048576 - totD live safe ops, by omega⟩
    rw [purse_yes (show ¬ ((1048576 : Nat) : Int) < ((totD live safe ops : Nat) : Int) by omega), hr] at HSZ
    have HSM := hide (dsk_sm h (by omega))
    have HTO := hide (fun (W : World) (hW : Below W0.heap.size W0 W) => toDisk_calls aL nL cL live aS nS cS safe aO nO cO ops W (unhide HD _ hW) (unhide HSM).bl (unhide HSM).bs (unhide HSM).bo)
    obtain ⟨R, hR⟩ : ∃ R, readF live safe ops nm = R := ⟨_, rfl⟩
    have HR := hide hR
    clear h hl hs ho hb0 hlt hW0 hbig hr c0 c1 c2 hR
    have hns : nm.size ≤ 1000000000 := by omega
    have HSP := hide (fun (W : World) (p1 p2 p3 : Nat) (hA : DiskAt W (some ⟨p1, 0, none⟩) nL nL live (some ⟨p2, 0, none⟩) nS nS safe (some ⟨p3, 0, none⟩) nO nO ops) => spec_ReadFile _ nL nL live _ nS nS safe _ nO nO ops nm W hA hns)
    have HIM := hide (fun (W : World) (p1 p2 p3 : Nat) (hA : DiskAt W (some ⟨p1, 0, none⟩) nL nL live (some ⟨p2, 0, none⟩) nS nS safe (some ⟨p3, 0, none⟩) nO nO ops) => impl_ReadFile _ nL nL live _ nS nS safe _ nO nO ops nm W hA hns)
    rw [unhide HR] at HSP HIM
    unfold readV at HSP HIM
    obtain ⟨D, hD⟩ : ∃ D, R.getD ⟨#[]⟩ = D := ⟨_, rfl⟩
    obtain ⟨B, hB⟩ : ∃ B, R.isSome = B := ⟨_, rfl⟩
    rw [hD, hB] at HSP HIM
    clear hD hB HR
    go_enter Try.func9, Try.ntmps9
    go_wp2_with fail
    rw [unhide HW0]
    refine (unhide HSZ).mono ?_
    rintro e w1 ⟨rfl, hb1⟩
    have HB1 := hide hb1
    obtain ⟨q0, q1, q2⟩ := unhide HC _ hb1
    clear hb1
    go_wp2_with fail
    refine (unhide HTO _ (unhide HB1)).mono ?_
    rintro e w2 ⟨g1, g2, g3, rfl, -, -, o1, o2, o3, hb2⟩
    have HB2 := hide (belOn (unhide HB1) hb2)
    have HA2 := hide (dsk_at (unhide HSM) o1 o2 o3)
    clear hb2 o1 o2 o3 q0 q1 q2
    go_wp2_with fail
    refine (unhide HSP w2 _ _ _ (unhide HA2)).mono ?_
    rintro e w3 ⟨rfl, hb3⟩
    have HB3 := hide (belOn (unhide HB2) hb3)
    clear hb3 HA2
    obtain ⟨q0, q1, q2⟩ := unhide HC _ (unhide HB3)
    go_wp2_with fail
    refine (unhide HTO _ (unhide HB3)).mono ?_
    rintro e w4 ⟨g4, g5, g6, rfl, -, -, o1, o2, o3, hb4⟩
    obtain ⟨W5, hW5⟩ : ∃ W5, W5 = w4.alloc (.cells #[.slice (some ⟨g4, 0, none⟩) nL nL, .slice (some ⟨g5, 0, none⟩) nS nS, .slice (some ⟨g6, 0, none⟩) nO nO] 27) := ⟨_, rfl⟩
    have hb5 : Below w4.heap.size w4 W5 := by rw [hW5]; exact bel1 _ _
    have HB5 := hide (belOn (belOn (unhide HB3) hb4) hb5)
    have hlt5 : w4.heap.size < W5.heap.size := by rw [hW5]; simp
    have d0 : W5.cell? ⟨w4.heap.size, 0, none⟩ = some (.slice (some ⟨g4, 0, none⟩) nL nL) := by rw [hW5]; simp [go_sem]
    have d1 : W5.cell? ⟨w4.heap.size, 1, none⟩ = some (.slice (some ⟨g5, 0, none⟩) nS nS) := by rw [hW5]; simp [go_sem]
    have d2 : W5.cell? ⟨w4.heap.size, 2, none⟩ = some (.slice (some ⟨g6, 0, none⟩) nO nO) := by rw [hW5]; simp [go_sem]
    have HA5 := hide ((dsk_at (unhide HSM) o1 o2 o3).below hb5)
    have HE := hide (fun (W : World) (hW : Below W5.heap.size W5 W) => And.intro (bcl hW hlt5 d0) (And.intro (bcl hW hlt5 d1) (bcl hW hlt5 d2)))
    have HW5 := hide hW5.symm
    clear hb4 hb5 o1 o2 o3 q0 q1 q2 d0 d1 d2 hW5 hlt5
    go_wp2_with fail
    rw [unhide HW5]
    refine (unhide HIM W5 _ _ _ (unhide HA5)).mono ?_
    rintro e w6 ⟨rfl, hb6⟩
    have HB6 := hide (belOn (unhide HB5) hb6)
    have HA6 := hide ((unhide HA5).below hb6)
    obtain ⟨q0, q1, q2⟩ := unhide HC _ (unhide HB6)
    obtain ⟨p0, p1, p2⟩ := unhide HE _ hb6
    have l1 : w.heap.size < w6.heap.size := lt_of_cell q0
    have l2 : w4.heap.size < w6.heap.size := lt_of_cell p0
    have HT7 := hide (unhide HTO w6.drew (belDrew (unhide HB6)))
    clear hb6
    go_wp2_with fail
    go_region_with (first
      | (go_at_call 27; refine (unhide HT7).mono ?_; rintro e w7 ⟨g7, g8, g9, rfl, -, -, o1, o2, o3, hb7⟩; have s0 := bcl (bOfDrew hb7) l1 q0; have s1 := bcl (bOfDrew hb7) l1 q1; have s2 := bcl (bOfDrew hb7) l1 q2; have t0 := bcl (bOfDrew hb7) l2 p0; have t1 := bcl (bOfDrew hb7) l2 p1; have t2 := bcl (bOfDrew hb7) l2 p2)
      | (go_at_call 28; refine (eqDisk_calls _ _ _ _ _ _ nL nS nO _ _ _ _ _ _ live safe ops _ (unhide HSM).ll (unhide HSM).ls (unhide HSM).lo (Nat.le_trans (unhide HSM).bl (by decide)) (Nat.le_trans (unhide HSM).bs (by decide)) (Nat.le_trans (unhide HSM).bo (by decide)) ⟨(unhide HA6).rl.below (bOfDrew hb7), (unhide HA6).rs.below (bOfDrew hb7), (unhide HA6).ro.below (bOfDrew hb7)⟩ ⟨o1.at, o2.at, o3.at⟩).mono ?_; rintro e w8 ⟨rfl, hb8⟩))
    all_goals (try go_wp2_with fail)
    all_goals (try go_ret)
    all_goals exact ⟨rfl, unhide HFIN _ (belOn (belOn (unhide HB6) (bOfDrew hb7)) hb8)⟩

set_option maxRecDepth 100000 in
theorem lifted (os : Os) (started : os.Started) (H : Type) (enc : TypeId × Value → H) :
    ReturnsInHanded {} Try.checked os 9 .any (Rows.fnExactReadFileSpec.pre6 enc Try.prog Try.f9 Rows.fnExactReadFileRow.domain false) (Rows.fnExactReadFileSpec.post enc Try.prog Try.f9 false true false false) := by
  refine returnsInHanded_of_change (C := Try.checked) own started (by kernel_rfl) Try.func9
    (ChangeSpec.witness6 (enc := enc) (C := Try.checked) false ⟨#[], #[.agg #[.slice none 0 0, .slice none 0 0, .slice none 0 0], .string ByteArray.empty], []⟩ 8 (by kernel_rfl) (by kernel_rfl) (by kernel_rfl) (by kernel_rfl)) ?_
  intro W base args ds gs before hval0 hW hcnd _
  have hval : ∀ (j : Nat) t v, Try.f9.params[j]? = some t → args[j]? = some v → Value.okWide Try.prog W .any base t v := hval0
  have hW' := hW
  obtain ⟨p, q, hA0, hV, rfl, hfz, hnd⟩ := hW
  have hA : DataW.TrodAll enc Try.prog W 0 (fun _ => true) true Try.f9.params.toList args.toList ds p := hA0
  rw [Try.params9] at hA hval
  obtain ⟨v0, vs0, d0, ds0, p0, q0, hargs, rfl, rfl, h0, r0⟩ := trodAll_cons hA
  obtain ⟨v1, vs1, d1, ds1, p1, q1, rfl, rfl, rfl, h1, r1⟩ := trodAll_cons r0
  obtain ⟨rfl, rfl, rfl⟩ := trodAll_nil r1
  obtain rfl : args = #[v0, v1] := by cases args; simp_all
  obtain ⟨rfl, rfl⟩ := trodVars_none hV
  have k0 := h0
  have lt0 : ∀ x ∈ p0, x.block < W.heap.size := by obtain ⟨m, hm⟩ := k0; exact DataW.trod_lt m _ _ _ hm
  obtain ⟨c0x0, c0x1, c0x2, y0x0, y0x1, y0x2, mm0, rfl, e0, f0, hy0x0, hy0x1, hy0x2⟩ := open_agg3 Try.underlying46 (by kernel_rfl) (by kernel_rfl) (hval 0 46 v0 rfl rfl) h0
  obtain ⟨a0x0, n0x0, l0x0, z0x0, g0x0, w0x0⟩ := openArg 2 fileL goodF Try.underlying43 (by kernel_rfl) (by decide) rdFile hy0x0
  obtain ⟨a0x1, n0x1, l0x1, z0x1, g0x1, w0x1⟩ := openArg 2 fileL goodF Try.underlying43 (by kernel_rfl) (by decide) rdFile hy0x1
  obtain ⟨a0x2, n0x2, l0x2, z0x2, g0x2, w0x2⟩ := openArg 4 dopL goodO Try.underlying44 (by kernel_rfl) (by decide) rdDop hy0x2
  subst g0x0 g0x1 g0x2
  have k1 := h1
  have lt1 : ∀ x ∈ p1, x.block < W.heap.size := by obtain ⟨m, hm⟩ := k1; exact DataW.trod_lt m _ _ _ hm
  obtain ⟨a1, rfl, e1, f1, w1⟩ := open_string Try.underlying9 (hval 1 9 v1 rfl rfl) h1
  clear hA0 hval0
  refine (walk a0x0 n0x0 l0x0 z0x0 a0x1 n0x1 l0x1 z0x1 a0x2 n0x2 l0x2 z0x2 a1 W w0x0 w0x1 w0x2 w1).mono fun e W' ⟨he, bel⟩ => ?_
  subst he
  exact ⟨_, rfl, _, _, _, [], _, [], hW', trodAll_mk1 (shut_bool Try.underlying4 _), (trodAll_cons_mk (Below.trod laidOut (by kernel_rfl) (of_decide_eq_true (by kernel_rfl)) k0 bel lt0) (trodAll_cons_mk (Below.trod laidOut (by kernel_rfl) (of_decide_eq_true (by kernel_rfl)) k1 bel lt1) trodAll_mk0)), rfl, bel.frame _, fun h => by cases h⟩

theorem over : Rows.fnExactReadFileRow.holds Try.pinned (OpenSpec.ofChange Rows.fnExactReadFileSpec) :=
  OpenClaim.holds_of_wide 9 Try.f9 rfl rfl rfl rfl rfl rfl rfl ⟨rfl, rfl, rfl, rfl, rfl⟩ rfl rfl rfl rfl rfl (by kernel_rfl) Try.func9 (by kernel_rfl)
    (of_decide_eq_true (by kernel_rfl)) (by unfold Func.isWrapper; first | (rw [if_pos (by decide +kernel)]; kernel_rfl) | (rw [if_neg (by decide +kernel)]; exact ⟨rfl, rfl⟩))
    (fun os started H enc _ => lifted os started H enc)

end Go.Proofs.Ytcjfjldbckcpbaa.fnExactReadFile
namespace Go.Proofs.Ytcjfjldbckcpbaa
theorem fnExactReadFile_holds : Rows.FnExactReadFileSaid := fnExactReadFile.over
#print axioms fnExactReadFile_holds
end Go.Proofs.Ytcjfjldbckcpbaa
