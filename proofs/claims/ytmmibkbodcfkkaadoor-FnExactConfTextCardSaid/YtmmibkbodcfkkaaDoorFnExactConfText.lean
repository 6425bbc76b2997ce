/- For every configuration, ConfText of the program answers what ConfText of the specification answers, and writes into no argument; nothing that was there is changed. No condition. -/
import Derived.Test.YtmmibkbodcfkkaaDoorRows
import Derived.Test.YtmmibkbodcfkkaaDoorConR
import Derived.Test.YtmmibkbodcfkkaaDoorCtxS
import Derived.Test.YtmmibkbodcfkkaaDoorTie
import Derived.Test.YtmmibkbodcfkkaaDoorCards
import Derived.LaidMore
import Derived.Lay
import Derived.SevenTiedAt
import Derived.Stop.Joined
import Derived.WalkKit
import Derived.ProofKit
import Derived.OpenShut
import Derived.ShutString
import Derived.ChangeOld
import Derived.Below
import Derived.Lib.SmallJoins
namespace Go.Proofs.YtmmibkbodcfkkaaDoor.fnExactConfText
open Go.ChangeShapes Go.WideShapes Go.ChangeAt Go.RowKit Go.Joins
open Go.ChangeMaps (open_string shut_string)
open Plain
set_option linter.unusedVariables false

theorem own : ownKnob Tryd.prog.godebug = none := by kernel_rfl
theorem laidOut : laidOutB Tryd.prog = true := by kernel_rfl

set_option maxRecDepth 10000 in
set_option maxHeartbeats 4000000 in
theorem walk (av : Option Addr) (nv cv : Nat) (v : List Int) (al : Option Addr) (nl cl : Nat) (l : List Int) (w : World) (hv : ArgRow 1 intL goodI w av nv cv v) (hl : ArgRow 1 intL goodI w al nl cl l) :
    Calls Tryd.prog 4 #[.agg #[.slice av nv cv, .slice al nl cl]] w fun e w' => e = .returned (.bool true) ∧ Below w.heap.size w w' := by
  obtain ⟨W0, hW0⟩ : ∃ W0, W0 = w.alloc (.cells #[.slice av nv cv, .slice al nl cl] 24) := ⟨_, rfl⟩
  have hb0 : Below w.heap.size w W0 := by rw [hW0]; exact bel1 _ _
  have hlt : w.heap.size < W0.heap.size := by rw [hW0]; simp
  have c0 : W0.cell? ⟨w.heap.size, 0, none⟩ = some (.slice av nv cv) := by rw [hW0]; simp [go_sem]
  have c2 : W0.cell? ⟨w.heap.size, 1, none⟩ = some (.slice al nl cl) := by rw [hW0]; simp [go_sem]
  have HD := hide (fun (W : World) (hW : Below W0.heap.size W0 W) => (show ConfArg w av nv cv v al nl cl l from ⟨hv, hl⟩).below (belOn hb0 hW))
  have HC := hide (fun (W : World) (hW : Below W0.heap.size W0 W) => And.intro (bcl hW hlt c0) (bcl hW hlt c2))
  have HFIN := hide (fun (W : World) (hW : Below W0.heap.size W0 W) => belOn hb0 hW)
  have HW0 := hide hW0.symm
  have lv := hv.le
  have ll := hl.le
  unfold maxLen at lv ll
  have HSZ := hide (szConf_calls av nv cv al nl cl 1048576 W0 (by omega) (by omega) (by decide))
  by_cases hbig : 1048576 < nv + nl
  · rw [purse_no (show ((1048576 : Nat) : Int) < ((nv + nl : Nat) : Int) by omega)] at HSZ
    clear hv hl hb0 hlt hW0 lv ll
    go_enter Tryd.func4, Tryd.ntmps4
    go_wp2_with fail
    rw [unhide HW0]
    refine (unhide HSZ).mono ?_
    rintro e w1 ⟨rfl, hb1⟩
    have HB1 := hide (unhide HFIN _ hb1)
    clear hb1
    go_wp2_with fail
    go_ret
    exact ⟨rfl, unhide HB1⟩
  · obtain ⟨r, hr⟩ : ∃ r : Nat, ((1048576 : Nat) : Int) - ((nv + nl : Nat) : Int) = (r : Int) := ⟨1048576 - (nv + nl), by omega⟩
    rw [purse_yes (show ¬ ((1048576 : Nat) : Int) < ((nv + nl : Nat) : Int) by omega), hr] at HSZ
    have bv : nv ≤ 1048576 := by omega
    have bl : nl ≤ 1048576 := by omega
    have HLV := hide hv.len
    have HLL := hide hl.len
    have HTO := hide (fun (W : World) (hW : Below W0.heap.size W0 W) => toConf_calls av nv cv v al nl cl l W (unhide HD _ hW) bv bl)
    have HCO := hide (fun (W : World) (B C g1 g2 : Nat) (h1 : OwnR i64E W B (.slice (some ⟨g1, 0, none⟩) nv nv) v) (h2 : OwnR i64E W C (.slice (some ⟨g2, 0, none⟩) nl nl) l) => (show ConfAt W (some ⟨g1, 0, none⟩) nv v (some ⟨g2, 0, none⟩) nl l from ⟨⟨h1.at, unhide HLV, bv⟩, ⟨h2.at, unhide HLL, bl⟩⟩))
    have HSP := hide (fun (W : World) (a b : Option Addr) (h : ConfAt W a nv v b nl l) => spec_ConfText a nv nv v b nl nl l W h)
    have HIM := hide (fun (W : World) (a b : Option Addr) (h : ConfAt W a nv v b nl l) => impl_ConfText a nv nv v b nl nl l W h)
    generalize strL (confL v l) = R at HSP HIM
    clear hv hl hb0 hlt hW0 hbig hr c0 c2 lv ll
    go_enter Tryd.func4, Tryd.ntmps4
    go_wp2_with fail
    rw [unhide HW0]
    refine (unhide HSZ).mono ?_
    rintro e w1 ⟨rfl, hb1⟩
    have HB1 := hide hb1
    obtain ⟨q0, q2⟩ := unhide HC _ hb1
    clear hb1
    go_wp2_with fail
    refine (unhide HTO _ (unhide HB1)).mono ?_
    rintro e w2 ⟨g1, g2, rfl, -, o1, o2, hb2⟩
    have HB2 := hide (belOn (unhide HB1) hb2)
    have HA2 := hide (unhide HCO _ _ _ _ _ o1 o2)
    clear hb2 o1 o2 q0 q2
    go_wp2_with fail
    refine (unhide HSP w2 _ _ (unhide HA2)).mono ?_
    rintro e w3 ⟨rfl, hb3⟩
    have HB3 := hide (belOn (unhide HB2) hb3)
    clear hb3 HA2
    obtain ⟨q0, q2⟩ := unhide HC _ (unhide HB3)
    go_wp2_with fail
    refine (unhide HTO _ (unhide HB3)).mono ?_
    rintro e w4 ⟨g3, g4, rfl, -, o1, o2, hb4⟩
    obtain ⟨W5, hW5⟩ : ∃ W5, W5 = w4.alloc (.cells #[.slice (some ⟨g3, 0, none⟩) nv nv, .slice (some ⟨g4, 0, none⟩) nl nl] 26) := ⟨_, rfl⟩
    have hb5 : Below w4.heap.size w4 W5 := by rw [hW5]; exact bel1 _ _
    have HB5 := hide (belOn (belOn (unhide HB3) hb4) hb5)
    have hlt5 : w4.heap.size < W5.heap.size := by rw [hW5]; simp
    have d0 : W5.cell? ⟨w4.heap.size, 0, none⟩ = some (.slice (some ⟨g3, 0, none⟩) nv nv) := by rw [hW5]; simp [go_sem]
    have d2 : W5.cell? ⟨w4.heap.size, 1, none⟩ = some (.slice (some ⟨g4, 0, none⟩) nl nl) := by rw [hW5]; simp [go_sem]
    have HA5 := hide ((unhide HCO _ _ _ _ _ o1 o2).below hb5)
    have HE := hide (fun (W : World) (hW : Below W5.heap.size W5 W) => And.intro (bcl hW hlt5 d0) (bcl hW hlt5 d2))
    have HW5 := hide hW5.symm
    clear hb4 hb5 o1 o2 q0 q2 d0 d2 hW5 hlt5
    go_wp2_with fail
    rw [unhide HW5]
    refine (unhide HIM W5 _ _ (unhide HA5)).mono ?_
    rintro e w6 ⟨rfl, hb6⟩
    have HB6 := hide (belOn (unhide HB5) hb6)
    have HA6 := hide ((unhide HA5).below hb6)
    obtain ⟨q0, q2⟩ := unhide HC _ (unhide HB6)
    obtain ⟨p0, p2⟩ := unhide HE _ hb6
    have l1 : w.heap.size < w6.heap.size := lt_of_cell q0
    have l2 : w4.heap.size < w6.heap.size := lt_of_cell p0
    have HT7 := hide (unhide HTO w6.drew (belDrew (unhide HB6)))
    clear hb6
    go_wp2_with fail
    go_region_with (first
      | (go_at_call 8; refine (unhide HT7).mono ?_; rintro e w7 ⟨g7, g8, rfl, -, o1, o2, hb7⟩; have s0 := bcl (bOfDrew hb7) l1 q0; have s2 := bcl (bOfDrew hb7) l1 q2; have t0 := bcl (bOfDrew hb7) l2 p0; have t2 := bcl (bOfDrew hb7) l2 p2)
      | (go_at_call 10; refine (eqConf_calls _ _ _ _ nv nl _ _ _ _ v l _ ((unhide HA6).below (bOfDrew hb7)) (unhide HCO _ _ _ _ _ o1 o2)).mono ?_; rintro e w8 ⟨rfl, hb8⟩))
    all_goals (try go_wp2_with fail)
    all_goals (try go_ret)
    all_goals exact ⟨rfl, unhide HFIN _ (belOn (belOn (unhide HB6) (bOfDrew hb7)) hb8)⟩

set_option maxRecDepth 100000 in
theorem lifted (os : Os) (started : os.Started) (H : Type) (enc : TypeId × Value → H) :
    ReturnsInHanded {} Tryd.checked os 4 .any (fun w args => (Rows.fnExactConfTextSpec.pre enc Tryd.prog Tryd.f4 [] false w args ∧ laidMetH Tryd.prog Rows.fnExactConfTextRow.laid w) ∧ sizedMet enc Tryd.prog Tryd.f4 (OpenSpec.ofChange Rows.fnExactConfTextSpec) false w args)
      (Rows.fnExactConfTextSpec.post enc Tryd.prog Tryd.f4 false true false false) := by
  refine returnsInHanded_of_change_and (C := Tryd.checked) (X := fun w _ => laidMetH Tryd.prog Rows.fnExactConfTextRow.laid w) (fun _ _ _ hh h => h.of_heap hh) own started (by kernel_rfl) Tryd.func4
    (ChangeSpec.witness_shaped (enc := enc) (C := Tryd.checked) (os := os) (X := fun w _ => laidMetH Tryd.prog Rows.fnExactConfTextRow.laid w) false (World.laidAll Tryd.prog os Rows.fnExactConfTextRow.laid) #[.agg #[.slice none 0 0, .slice none 0 0]] 8 (World.laidAll_os _ _ _)
      (World.shaped_of_ZipB (by kernel_rfl) (by kernel_rfl)) (by kernel_rfl) (by kernel_rfl) (by kernel_rfl)
      (by rw [MakeChecks.laidMetH_plain _ _ _ (by kernel_rfl)]; exact laidMet_laidAll _ (by kernel_rfl) (by kernel_rfl))) ?_
  intro W base args ds gs before hval0 hW _ _ hL _
  have hval : ∀ (j : Nat) t v, Tryd.f4.params[j]? = some t → args[j]? = some v → Value.okWide Tryd.prog W .any base t v := hval0
  have hW' := hW
  obtain ⟨p, q, hA0, hV, rfl, hfz, hnd⟩ := hW
  have hA : DataW.TrodAll enc Tryd.prog W 0 (fun _ => true) true Tryd.f4.params.toList args.toList ds p := hA0
  rw [Tryd.params4] at hA hval
  obtain ⟨v0, vs0, d0, ds0, p0, q0, hargs, rfl, rfl, h0, r0⟩ := trodAll_cons hA
  obtain ⟨rfl, rfl, rfl⟩ := trodAll_nil r0
  obtain rfl : args = #[v0] := by cases args; simp_all
  obtain ⟨rfl, rfl⟩ := trodVars_none hV
  have k0 := h0
  have lt0 : ∀ x ∈ p0, x.block < W.heap.size := by obtain ⟨m, hm⟩ := k0; exact DataW.trod_lt m _ _ _ hm
  obtain ⟨c0x0, c0x1, y0x0, y0x1, mm0, rfl, e0, f0, hy0x0, hy0x1⟩ := open_agg2 Tryd.underlying24 (by kernel_rfl) (by kernel_rfl) (hval 0 24 v0 rfl rfl) h0
  obtain ⟨a0x0, n0x0, l0x0, z0x0, g0x0, w0x0⟩ := openArg 1 intL goodI Tryd.underlying22 (by kernel_rfl) (by decide) rdInt hy0x0
  obtain ⟨a0x1, n0x1, l0x1, z0x1, g0x1, w0x1⟩ := openArg 1 intL goodI Tryd.underlying22 (by kernel_rfl) (by decide) rdInt hy0x1
  subst g0x0 g0x1
  clear hA0 hval0
  refine (walk a0x0 n0x0 l0x0 z0x0 a0x1 n0x1 l0x1 z0x1 W w0x0 w0x1).mono fun e W' ⟨he, bel⟩ => ?_
  subst he
  exact ⟨_, rfl, _, _, _, [], _, [], hW', trodAll_mk1 (shut_bool Tryd.underlying4 _), (trodAll_cons_mk (Below.trod laidOut (by kernel_rfl) (of_decide_eq_true (by kernel_rfl)) k0 bel lt0) trodAll_mk0), rfl, bel.frame _, fun h => by cases h⟩

theorem named : Tryd.pinned.checked.prog.funcNamed Rows.fnExactConfTextRow.func = some 4 := by kernel_rfl
theorem closed : joinedFacts Tryd.pinned.checked.prog 4 Tryd.f4 Rows.fnExactConfTextSpec Rows.fnExactConfTextRow = true := by kernel_rfl
theorem over : Rows.fnExactConfTextRow.holds Tryd.pinned (OpenSpec.ofChange Rows.fnExactConfTextSpec) :=
  OpenClaim.holds_of_wide 4 Tryd.f4 rfl rfl rfl rfl rfl rfl rfl ⟨rfl, rfl, rfl, rfl, rfl⟩ rfl rfl rfl rfl rfl named Tryd.func4 closed
    (of_decide_eq_true (by kernel_rfl)) (by unfold Func.isWrapper; first | (rw [if_pos (by decide +kernel)]; kernel_rfl) | (rw [if_neg (by decide +kernel)]; exact ⟨rfl, rfl⟩))
    (fun os started H enc _ => lifted os started H enc)

end Go.Proofs.YtmmibkbodcfkkaaDoor.fnExactConfText
namespace Go.Proofs.YtmmibkbodcfkkaaDoor
theorem fnExactConfText_holds : Rows.FnExactConfTextCardSaid :=
  Claim7.holds_tied_plain_at .later [] [.data, .data, .data] true Rows.fnExactConfTextCard.stood.harness true
    fnExactConfText.over (fun _ h => by cases h) (by kernel_rfl) (fun _ h => by cases h) fnExactConfText_row_tie rfl ⟨rfl, rfl⟩ (by kernel_rfl) rfl
    (fun f fn hf hfn => by
      obtain rfl : f = 4 := Option.some.inj ((show Tryd.prog.funcNamed "loop.example/g00141/laws.FnExactConfText" = some 4 by kernel_rfl).symm.trans hf) |>.symm
      obtain rfl : fn = Tryd.f4 := (Option.some.inj (Tryd.func4.symm.trans hfn)).symm
      exact ⟨by kernel_rfl, fun j t ht => by
        rw [Tryd.params4] at ht
        have hm : t ∈ [24] := by simpa using Array.mem_of_getElem? ht
        have hall : ([24].all fun u => !Tryd.prog.wantsStandIn u) = true := by kernel_rfl
        exact (show Tryd.prog.wantsStandIn t = false by simpa using List.all_eq_true.1 hall t hm)⟩)
    (by kernel_rfl)
#print axioms fnExactConfText_holds
end Go.Proofs.YtmmibkbodcfkkaaDoor
