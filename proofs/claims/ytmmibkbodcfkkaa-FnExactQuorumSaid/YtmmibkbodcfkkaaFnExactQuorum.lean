/- For every configuration and list of ids, Quorum of the program answers what Quorum of the specification answers, and writes into no argument; nothing that was there is changed. No condition. -/
import Derived.Test.YtmmibkbodcfkkaaRows
import Derived.Test.YtmmibkbodcfkkaaConR
import Derived.Test.YtmmibkbodcfkkaaConT
import Derived.WalkKit
import Derived.ProofKit
import Derived.OpenShut
import Derived.ShutString
import Derived.ChangeOld
import Derived.Below
import Derived.Lib.SmallJoins
namespace Go.Proofs.Ytmmibkbodcfkkaa.fnExactQuorum
open Go.ChangeShapes Go.WideShapes Go.ChangeAt Go.RowKit Go.Joins
open Go.ChangeMaps (open_string shut_string)
open Plain
set_option linter.unusedVariables false

theorem own : ownKnob Try.prog.godebug = none := by kernel_rfl
theorem laidOut : laidOutB Try.prog = true := by kernel_rfl

set_option maxRecDepth 10000 in
set_option maxHeartbeats 8000000 in
theorem walk (av : Option Addr) (nv cv : Nat) (v : List Int) (al : Option Addr) (nl cl : Nat) (l : List Int) (ai : Option Addr) (ni ci : Nat) (ids : List Int) (w : World) (hv : ArgRow 1 intL goodI w av nv cv v) (hl : ArgRow 1 intL goodI w al nl cl l) (hi : ArgRow 1 intL goodI w ai ni ci ids) :
    Calls Try.prog 4 #[.agg #[.slice av nv cv, .slice al nl cl], .slice ai ni ci] w fun e w' => e = .returned (.bool true) ∧ Below w.heap.size w w' := by
  obtain ⟨W0, hW0⟩ : ∃ W0, W0 = w.alloc (.cells #[.slice av nv cv, .slice al nl cl] 24) := ⟨_, rfl⟩
  have hb0 : Below w.heap.size w W0 := by rw [hW0]; exact bel1 _ _
  have hlt : w.heap.size < W0.heap.size := by rw [hW0]; simp
  have c0 : W0.cell? ⟨w.heap.size, 0, none⟩ = some (.slice av nv cv) := by rw [hW0]; simp [go_sem]
  have c2 : W0.cell? ⟨w.heap.size, 1, none⟩ = some (.slice al nl cl) := by rw [hW0]; simp [go_sem]
  have HD := hide (fun (W : World) (hW : Below W0.heap.size W0 W) => (show ConfArg w av nv cv v al nl cl l from ⟨hv, hl⟩).below (belOn hb0 hW))
  have HDI := hide (fun (W : World) (hW : Below W0.heap.size W0 W) => hi.row.below (belOn hb0 hW))
  have HC := hide (fun (W : World) (hW : Below W0.heap.size W0 W) => And.intro (bcl hW hlt c0) (bcl hW hlt c2))
  have HFIN := hide (fun (W : World) (hW : Below W0.heap.size W0 W) => belOn hb0 hW)
  have HW0 := hide hW0.symm
  have lv := hv.le
  have ll := hl.le
  have li := hi.le
  unfold maxLen at lv ll li
  have HSZ := hide (szConf_calls av nv cv al nl cl 1048576 W0 (by omega) (by omega) (by decide))
  by_cases hbi : (1048576 : Int) < (ni : Int)
  · clear hv hl hi hb0 hlt hW0 lv ll li
    go_enter Try.func4, Try.ntmps4
    go_wp2_with fail
    rw [unhide HW0]
    go_ret
    exact ⟨rfl, unhide HFIN _ (Below.refl _ _)⟩
  by_cases hbig : 1048576 < nv + nl
  · rw [purse_no (show ((1048576 : Nat) : Int) < ((nv + nl : Nat) : Int) by omega)] at HSZ
    clear hv hl hi hb0 hlt hW0 lv ll li
    go_enter Try.func4, Try.ntmps4
    go_wp2_with fail
    rw [unhide HW0]
    refine (unhide HSZ).mono ?_
    rintro e w1 ⟨rfl, hb1⟩
    have HB1 := hide (unhide HFIN _ hb1)
    clear hb1
    go_wp2_with fail
    go_ret
    exact ⟨rfl, unhide HB1⟩
  · obtain ⟨r, hr⟩ : ∃ r : Nat, ((1048576 : Nat) : Int) - ((nv + nl : Nat) : Int) = (r : Int) := ⟨1048576 - (nv + nl), by omega⟩
    rw [purse_yes (show ¬ ((1048576 : Nat) : Int) < ((nv + nl : Nat) : Int) by omega), hr] at HSZ
    have bv : nv ≤ 1048576 := by omega
    have bl : nl ≤ 1048576 := by omega
    have bi : ni ≤ 1048576 := by omega
    have bi2 : ni ≤ 100000000 := by omega
    have HLV := hide hv.len
    have HLL := hide hl.len
    have HLI := hide hi.len
    have HTO := hide (fun (W : World) (hW : Below W0.heap.size W0 W) => toConf_calls av nv cv v al nl cl l W (unhide HD _ hW) bv bl)
    have HTI := hide (fun (W : World) (hW : Below W0.heap.size W0 W) => toInt64S_calls ai ni ci ids W (unhide HLI) bi (unhide HDI _ hW))
    have HCO := hide (fun (W : World) (B C g1 g2 : Nat) (h1 : OwnR i64E W B (.slice (some ⟨g1, 0, none⟩) nv nv) v) (h2 : OwnR i64E W C (.slice (some ⟨g2, 0, none⟩) nl nl) l) => (show ConfAt W (some ⟨g1, 0, none⟩) nv v (some ⟨g2, 0, none⟩) nl l from ⟨⟨h1.at, unhide HLV, bv⟩, ⟨h2.at, unhide HLL, bl⟩⟩))
    have HIO := hide (fun (W : World) (B g1 : Nat) (h1 : OwnR i64E W B (.slice (some ⟨g1, 0, none⟩) ni ni) ids) => (show IntsAt W (some ⟨g1, 0, none⟩) ni ids from ⟨h1.at, unhide HLI, bi⟩))
    have HSP := hide (fun (W : World) (a b c : Option Addr) (h : ConfAt W a nv v b nl l) (h2 : IntsAt W c ni ids) => spec_Quorum a nv nv v b nl nl l c ni ni ids W h h2)
    have HIM := hide (fun (W : World) (a b c : Option Addr) (h : ConfAt W a nv v b nl l) (h2 : IntsAt W c ni ids) => impl_Quorum a nv nv v b nl nl l c ni ni ids W h h2)
    generalize quoB v l ids = R at HSP HIM
    clear hv hl hi hb0 hlt hW0 hbig hr c0 c2 lv ll li
    go_enter Try.func4, Try.ntmps4
    go_wp2_with fail
    rw [unhide HW0]
    refine (unhide HSZ).mono ?_
    rintro e w1 ⟨rfl, hb1⟩
    have HB1 := hide hb1
    obtain ⟨q0, q2⟩ := unhide HC _ hb1
    clear hb1
    go_wp2_with fail
    refine (unhide HTO _ (unhide HB1)).mono ?_
    rintro e w2 ⟨g1, g2, rfl, -, o1, o2, hb2⟩
    have HB2 := hide (belOn (unhide HB1) hb2)
    have HA2 := hide (unhide HCO _ _ _ _ _ o1 o2)
    clear hb2 o1 o2 q0 q2
    go_wp2_with fail
    refine (unhide HTI _ (unhide HB2)).mono ?_
    rintro e w3 ⟨g3, rfl, o1, hb3⟩
    have HB3 := hide (belOn (unhide HB2) hb3)
    have HA3 := hide ((unhide HA2).below hb3)
    have HI3 := hide (unhide HIO _ _ _ o1)
    clear hb3 o1 HA2
    go_wp2_with fail
    refine (unhide HSP w3 _ _ _ (unhide HA3) (unhide HI3)).mono ?_
    rintro e w4 ⟨rfl, hb4⟩
    have HB4 := hide (belOn (unhide HB3) hb4)
    clear hb4 HA3 HI3
    obtain ⟨q0, q2⟩ := unhide HC _ (unhide HB4)
    go_wp2_with fail
    refine (unhide HTO _ (unhide HB4)).mono ?_
    rintro e w5 ⟨g4, g5, rfl, -, o1, o2, hb5⟩
    obtain ⟨W6, hW6⟩ : ∃ W6, W6 = w5.alloc (.cells #[.slice (some ⟨g4, 0, none⟩) nv nv, .slice (some ⟨g5, 0, none⟩) nl nl] 27) := ⟨_, rfl⟩
    have hb6 : Below w5.heap.size w5 W6 := by rw [hW6]; exact bel1 _ _
    have HB6 := hide (belOn (belOn (unhide HB4) hb5) hb6)
    have hlt6 : w5.heap.size < W6.heap.size := by rw [hW6]; simp
    have d0 : W6.cell? ⟨w5.heap.size, 0, none⟩ = some (.slice (some ⟨g4, 0, none⟩) nv nv) := by rw [hW6]; simp [go_sem]
    have d2 : W6.cell? ⟨w5.heap.size, 1, none⟩ = some (.slice (some ⟨g5, 0, none⟩) nl nl) := by rw [hW6]; simp [go_sem]
    have HA6 := hide ((unhide HCO _ _ _ _ _ o1 o2).below hb6)
    have HE := hide (fun (W : World) (hW : Below W6.heap.size W6 W) => And.intro (bcl hW hlt6 d0) (bcl hW hlt6 d2))
    have HW6 := hide hW6.symm
    clear hb5 hb6 o1 o2 q0 q2 d0 d2 hW6 hlt6
    go_wp2_with fail
    rw [unhide HW6]
    refine (unhide HTI _ (unhide HB6)).mono ?_
    rintro e w7 ⟨g7, rfl, o1, hb7⟩
    have HB7 := hide (belOn (unhide HB6) hb7)
    have HA7 := hide ((unhide HA6).below hb7)
    have HI7 := hide (unhide HIO _ _ _ o1)
    have HE7 := hide (fun (W : World) (hW : Below w7.heap.size w7 W) => unhide HE W (belOn hb7 hW))
    obtain ⟨q0, q2⟩ := unhide HE _ hb7
    clear hb7 o1 HA6 HE
    go_wp2_with fail
    refine (unhide HIM w7 _ _ _ (unhide HA7) (unhide HI7)).mono ?_
    rintro e w8 ⟨rfl, hb8⟩
    have HB8 := hide (belOn (unhide HB7) hb8)
    have HA8 := hide ((unhide HA7).below hb8)
    have HI8 := hide ((unhide HI7).below hb8)
    clear q0 q2
    obtain ⟨p0, p2⟩ := unhide HE7 _ hb8
    obtain ⟨q0, q2⟩ := unhide HC _ (unhide HB8)
    have l1 : w.heap.size < w8.heap.size := lt_of_cell q0
    have l2 : w5.heap.size < w8.heap.size := lt_of_cell p0
    have HT9 := hide (unhide HTO w8.drew (belDrew (unhide HB8)))
    clear hb8 HA7 HI7 HE7
    go_wp2_with fail
    go_region_with (first
      | (go_at_call 9; refine (unhide HT9).mono ?_; rintro e w9 ⟨g8, g9, rfl, -, o1, o2, hb9⟩; have s0 := bcl (bOfDrew hb9) l1 q0; have s2 := bcl (bOfDrew hb9) l1 q2; have t0 := bcl (bOfDrew hb9) l2 p0; have t2 := bcl (bOfDrew hb9) l2 p2)
      | (go_at_call 11; refine (eqConf_calls _ _ _ _ nv nl _ _ _ _ v l _ ((unhide HA8).below (bOfDrew hb9)) (unhide HCO _ _ _ _ _ o1 o2)).mono ?_; rintro e w10 ⟨rfl, hb10⟩; have HB10 := hide (belOn (belOn (unhide HB8) (bOfDrew hb9)) hb10); have HI10 := hide (((unhide HI8).below (bOfDrew hb9)).below hb10); clear hb10))
    all_goals go_wp2_with fail
    all_goals (refine (unhide HTI _ (unhide HB10)).mono ?_; rintro e w11 ⟨g11, rfl, o3, hb11⟩)
    all_goals go_wp2_with fail
    all_goals (refine (eqInt64S_calls _ _ _ _ ni ids _ (unhide HLI) bi2 ((unhide HI10).below hb11).row (unhide HIO _ _ _ o3).row).mono ?_; rintro e w12 ⟨rfl, hb12⟩)
    all_goals go_wp2_with fail
    all_goals go_ret
    all_goals exact ⟨rfl, unhide HFIN _ (belOn (belOn (unhide HB10) hb11) hb12)⟩

set_option maxRecDepth 100000 in
theorem lifted (os : Os) (started : os.Started) (H : Type) (enc : TypeId × Value → H) :
    ReturnsInHanded {} Try.checked os 4 .any (Rows.fnExactQuorumSpec.pre6 enc Try.prog Try.f4 Rows.fnExactQuorumRow.domain false) (Rows.fnExactQuorumSpec.post enc Try.prog Try.f4 false true false false) := by
  refine returnsInHanded_of_change (C := Try.checked) own started (by kernel_rfl) Try.func4
    (ChangeSpec.witness6 (enc := enc) (C := Try.checked) false ⟨#[], #[.agg #[.slice none 0 0, .slice none 0 0], .slice none 0 0], []⟩ 8 (by kernel_rfl) (by kernel_rfl) (by kernel_rfl) (by kernel_rfl)) ?_
  intro W base args ds gs before hval0 hW hcnd _
  have hval : ∀ (j : Nat) t v, Try.f4.params[j]? = some t → args[j]? = some v → Value.okWide Try.prog W .any base t v := hval0
  have hW' := hW
  obtain ⟨p, q, hA0, hV, rfl, hfz, hnd⟩ := hW
  have hA : DataW.TrodAll enc Try.prog W 0 (fun _ => true) true Try.f4.params.toList args.toList ds p := hA0
  rw [Try.params4] at hA hval
  obtain ⟨v0, vs0, d0, ds0, p0, q0, hargs, rfl, rfl, h0, r0⟩ := trodAll_cons hA
  obtain ⟨v1, vs1, d1, ds1, p1, q1, rfl, rfl, rfl, h1, r1⟩ := trodAll_cons r0
  obtain ⟨rfl, rfl, rfl⟩ := trodAll_nil r1
  obtain rfl : args = #[v0, v1] := by cases args; simp_all
  obtain ⟨rfl, rfl⟩ := trodVars_none hV
  have k0 := h0
  have lt0 : ∀ x ∈ p0, x.block < W.heap.size := by obtain ⟨m, hm⟩ := k0; exact DataW.trod_lt m _ _ _ hm
  obtain ⟨c0x0, c0x1, y0x0, y0x1, mm0, rfl, e0, f0, hy0x0, hy0x1⟩ := open_agg2 Try.underlying24 (by kernel_rfl) (by kernel_rfl) (hval 0 24 v0 rfl rfl) h0
  obtain ⟨a0x0, n0x0, l0x0, z0x0, g0x0, w0x0⟩ := openArg 1 intL goodI Try.underlying22 (by kernel_rfl) (by decide) rdInt hy0x0
  obtain ⟨a0x1, n0x1, l0x1, z0x1, g0x1, w0x1⟩ := openArg 1 intL goodI Try.underlying22 (by kernel_rfl) (by decide) rdInt hy0x1
  subst g0x0 g0x1
  have k1 := h1
  have lt1 : ∀ x ∈ p1, x.block < W.heap.size := by obtain ⟨m, hm⟩ := k1; exact DataW.trod_lt m _ _ _ hm
  obtain ⟨b1, len1, cap1, rfl⟩ := okWide_slice Try.underlying22 (hval 1 22 v1 rfl rfl)
  obtain ⟨fuel1, hf1⟩ := h1
  obtain ⟨a1, n1, l1, z1, g1, w1⟩ := openArg 1 intL goodI Try.underlying22 (by kernel_rfl) (by decide) rdInt (by simpa [Value.cells] using hf1)
  obtain ⟨rfl, rfl, rfl⟩ : b1 = a1 ∧ len1 = n1 ∧ cap1 = l1 := by simpa using g1
  clear hA0 hval0
  refine (walk a0x0 n0x0 l0x0 z0x0 a0x1 n0x1 l0x1 z0x1 b1 len1 cap1 z1 W w0x0 w0x1 w1).mono fun e W' ⟨he, bel⟩ => ?_
  subst he
  exact ⟨_, rfl, _, _, _, [], _, [], hW', trodAll_mk1 (shut_bool Try.underlying4 _), (trodAll_cons_mk (Below.trod laidOut (by kernel_rfl) (of_decide_eq_true (by kernel_rfl)) k0 bel lt0) (trodAll_cons_mk (Below.trod laidOut (by kernel_rfl) (of_decide_eq_true (by kernel_rfl)) k1 bel lt1) trodAll_mk0)), rfl, bel.frame _, fun h => by cases h⟩

theorem named : Try.pinned.checked.prog.funcNamed Rows.fnExactQuorumRow.func = some 4 := by kernel_rfl
theorem closed : joinedFacts Try.pinned.checked.prog 4 Try.f4 Rows.fnExactQuorumSpec Rows.fnExactQuorumRow = true := by kernel_rfl
theorem over : Rows.fnExactQuorumRow.holds Try.pinned (OpenSpec.ofChange Rows.fnExactQuorumSpec) :=
  OpenClaim.holds_of_wide 4 Try.f4 rfl rfl rfl rfl rfl rfl rfl ⟨rfl, rfl, rfl, rfl, rfl⟩ rfl rfl rfl rfl rfl named Try.func4 closed
    (of_decide_eq_true (by kernel_rfl)) (by unfold Func.isWrapper; first | (rw [if_pos (by decide +kernel)]; kernel_rfl) | (rw [if_neg (by decide +kernel)]; exact ⟨rfl, rfl⟩))
    (fun os started H enc _ => lifted os started H enc)

end Go.Proofs.Ytmmibkbodcfkkaa.fnExactQuorum
namespace Go.Proofs.Ytmmibkbodcfkkaa
theorem fnExactQuorum_holds : Rows.FnExactQuorumSaid := fnExactQuorum.over
#print axioms fnExactQuorum_holds
end Go.Proofs.Ytmmibkbodcfkkaa
