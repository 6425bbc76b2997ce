/- For every message, MsgText of the program answers the text that MsgText of the specification answers, and writes into no argument; nothing that was there is changed. The tables that the card names are never read. -/
import Derived.Test.YtiakhgafibgpgaaDoorRows
import Derived.Test.YtiakhgafibgpgaaDoorMzA
import Derived.Test.YtiakhgafibgpgaaDoorMzB
import Derived.Test.YtiakhgafibgpgaaDoorTie
import Derived.Test.YtiakhgafibgpgaaDoorCards
import Derived.LaidMore
import Derived.Lay
import Derived.SevenTiedAt
import Derived.Stop.Joined
import Derived.WalkKit
import Derived.ProofKit
import Derived.OpenShut
import Derived.ShutString
import Derived.ChangeOld
import Derived.Below
namespace Go.Proofs.YtiakhgafibgpgaaDoor.fnExactMsgText
open Go.ChangeShapes Go.WideShapes Go.ChangeAt Go.RowKit
open Go.ChangeMaps (open_string shut_string)
open Plain
set_option linter.unusedVariables false

theorem own : ownKnob Tryd.prog.godebug = none := by kernel_rfl
theorem laidOut : laidOutB Tryd.prog = true := by kernel_rfl

/-- What is known of a message that is not too long. -/
structure MsgSm (tx : ByteArray) (ne : Nat) (es : List Ent) (nv : Nat) (v : List Int) (nl : Nat) (l : List Int) : Prop where
  t : tx.size ≤ 1000000000
  e : es.length = ne
  be : ne ≤ 1048576
  sm : smallE es
  lv : v.length = nv
  bv : nv ≤ 1048576
  ll : l.length = nl
  bl : nl ≤ 1048576
theorem msgSm_of {W : World} {tx : ByteArray} {ae : Option Addr} {ne ce : Nat} {es : List Ent} {av : Option Addr} {nv cv : Nat} {v : List Int} {al : Option Addr} {nl cl : Nat} {l : List Int} (h : MsgArg W tx ae ne ce es av nv cv v al nl cl l) (hb : totM tx es nv nl ≤ 1048576) : MsgSm tx ne es nv v nl l := by
  have h1 := h.e.len
  unfold totM at hb
  exact ⟨by omega, h1, by omega, fun x hx => by have := totE_mem es x hx; omega, h.c.v.len, by omega, h.c.l.len, by omega⟩
set_option maxRecDepth 10000 in
set_option maxHeartbeats 4000000 in
theorem walk (kd fr tt tm ix lg cm : Int) (ok : Bool) (tx : ByteArray) (ae : Option Addr) (ne ce : Nat) (es : List Ent) (av : Option Addr) (nv cv : Nat) (v : List Int) (al : Option Addr) (nl cl : Nat) (l : List Int) (w : World) (h : MsgArg w tx ae ne ce es av nv cv v al nl cl l) :
    Calls Tryd.prog 3 #[.agg #[.int .i64 kd, .int .i64 fr, .int .i64 tt, .int .i64 tm, .int .i64 ix, .int .i64 lg, .slice ae ne ce, .int .i64 cm, .bool ok, .string tx, .slice av nv cv, .slice al nl cl]] w fun e w' => e = .returned (.bool true) ∧ Below w.heap.size w w' := by
  obtain ⟨W0, hW0⟩ : ∃ W0, W0 = w.alloc (.cells #[.int .i64 kd, .int .i64 fr, .int .i64 tt, .int .i64 tm, .int .i64 ix, .int .i64 lg, .slice ae ne ce, .int .i64 cm, .bool ok, .string tx, .slice av nv cv, .slice al nl cl] 27) := ⟨_, rfl⟩
  have hb0 : Below w.heap.size w W0 := by rw [hW0]; exact bel1 _ _
  have B0 : Blk W0 w.heap.size [.int .i64 kd, .int .i64 fr, .int .i64 tt, .int .i64 tm, .int .i64 ix, .int .i64 lg, .slice ae ne ce, .int .i64 cm, .bool ok, .string tx, .slice av nv cv, .slice al nl cl] := by rw [hW0]; exact Blk.new w _ _
  have HD := hide (fun (W : World) (hW : Below W0.heap.size W0 W) => h.below (belOn hb0 hW))
  have HC := hide (fun (W : World) (hW : Below W0.heap.size W0 W) => (And.intro (((B0).call hW).c 0 (by simp)) (And.intro (((B0).call hW).c 1 (by simp)) (And.intro (((B0).call hW).c 2 (by simp)) (And.intro (((B0).call hW).c 3 (by simp)) (And.intro (((B0).call hW).c 4 (by simp)) (And.intro (((B0).call hW).c 5 (by simp)) (And.intro (((B0).call hW).c 6 (by simp)) (And.intro (((B0).call hW).c 7 (by simp)) (And.intro (((B0).call hW).c 8 (by simp)) (And.intro (((B0).call hW).c 9 (by simp)) (And.intro (((B0).call hW).c 10 (by simp)) (((B0).call hW).c 11 (by simp))))))))))))))
  have HFIN := hide (fun (W : World) (hW : Below W0.heap.size W0 W) => belOn hb0 hW)
  have HW0 := hide hW0.symm
  have HSZ := hide (szMsg_calls kd fr tt tm ix lg cm ok tx ae ne ce es av nv cv v al nl cl l 1048576 W0 (h.below hb0) (by decide))
  obtain ⟨A, hA⟩ : ∃ A, totM tx es nv nl = A := ⟨_, rfl⟩
  rw [hA] at HSZ
  by_cases hbig : 1048576 < A
  · rw [purse_no (show ((1048576 : Nat) : Int) < (A : Int) by omega)] at HSZ
    clear h hb0 hW0 hA B0
    go_enter Tryd.func3, Tryd.ntmps3
    go_wp2_with fail
    rw [unhide HW0]
    refine (unhide HSZ).mono ?_
    rintro e w1 ⟨rfl, hb1⟩
    have HB1 := hide (unhide HFIN _ hb1)
    clear hb1
    go_wp2_with fail
    go_ret
    exact ⟨rfl, unhide HB1⟩
  · obtain ⟨r, hr⟩ : ∃ r : Nat, ((1048576 : Nat) : Int) - (A : Int) = (r : Int) := ⟨1048576 - A, by omega⟩
    rw [purse_yes (show ¬ ((1048576 : Nat) : Int) < (A : Int) by omega), hr] at HSZ
    have HSM := hide (msgSm_of h (by omega))
    have HTO := hide (fun (W : World) (hW : Below W0.heap.size W0 W) => toMsg_calls kd fr tt tm ix lg cm ok tx ae ne ce es av nv cv v al nl cl l W (unhide HD _ hW) (unhide HSM).be (unhide HSM).bv (unhide HSM).bl)
    have HCO := hide (fun (W : World) (B g2 g3 : Nat) (h1 : OwnR i64E W B (.slice (some ⟨g2, 0, none⟩) nv nv) v) (h2 : OwnR i64E W B (.slice (some ⟨g3, 0, none⟩) nl nl) l) => (show ConfAt W (some ⟨g2, 0, none⟩) nv v (some ⟨g3, 0, none⟩) nl l from ⟨⟨h1.at, (unhide HSM).lv, (unhide HSM).bv⟩, ⟨h2.at, (unhide HSM).ll, (unhide HSM).bl⟩⟩))
    have HSP := hide (fun (W : World) (a b c : Option Addr) (hE : RowAt entE W a es) (hC : ConfAt W b nv v c nl l) => spec_MsgText kd fr tt tm ix lg cm ok tx a ne ne es b nv nv v c nl nl l W (unhide HSM).t (unhide HSM).e (unhide HSM).be (unhide HSM).sm hE hC)
    have HIM := hide (fun (W : World) (a b c : Option Addr) (hE : RowAt entE W a es) (hC : ConfAt W b nv v c nl l) => impl_MsgText kd fr tt tm ix lg cm ok tx a ne ne es b nv nv v c nl nl l W (unhide HSM).t (unhide HSM).e (unhide HSM).be (unhide HSM).sm hE hC)
    obtain ⟨R, hR⟩ : ∃ R, strL (msgL (numsM kd fr tt tm ix lg cm ok) tx es v l) = R := ⟨_, rfl⟩
    rw [hR] at HSP HIM
    clear h hb0 hW0 hbig hr hR hA B0
    go_enter Tryd.func3, Tryd.ntmps3
    go_wp2_with fail
    rw [unhide HW0]
    refine (unhide HSZ).mono ?_
    rintro e w1 ⟨rfl, hb1⟩
    have HB1 := hide hb1
    obtain ⟨q0, q1, q2, q3, q4, q5, q6, q7, q8, q9, q10, q11⟩ := unhide HC _ hb1
    clear hb1
    simp only [List.getElem_cons_zero, List.getElem_cons_succ] at q0 q1 q2 q3 q4 q5 q6 q7 q8 q9 q10 q11
    go_wp2_with fail
    refine (unhide HTO _ (unhide HB1)).mono ?_
    rintro e w2 ⟨g1, g2, g3, rfl, o1, o2, o3, hb2⟩
    have HB2 := hide (belOn (unhide HB1) hb2)
    have HE2 := hide o1.at
    have HC2 := hide (unhide HCO _ _ _ _ o2 o3)
    clear hb2 o1 o2 o3 q0 q1 q2 q3 q4 q5 q6 q7 q8 q9 q10 q11
    go_wp2_with fail
    refine (unhide HSP w2 _ _ _ (unhide HE2) (unhide HC2)).mono ?_
    rintro e w3 ⟨rfl, hb3⟩
    have HB3 := hide (belOn (unhide HB2) hb3)
    clear hb3 HE2 HC2
    obtain ⟨q0, q1, q2, q3, q4, q5, q6, q7, q8, q9, q10, q11⟩ := unhide HC _ (unhide HB3)
    simp only [List.getElem_cons_zero, List.getElem_cons_succ] at q0 q1 q2 q3 q4 q5 q6 q7 q8 q9 q10 q11
    go_wp2_with fail
    refine (unhide HTO _ (unhide HB3)).mono ?_
    rintro e w4 ⟨g4, g5, g6, rfl, o1, o2, o3, hb4⟩
    obtain ⟨W5, hW5⟩ : ∃ W5, W5 = w4.alloc (.cells #[.int .i64 kd, .int .i64 fr, .int .i64 tt, .int .i64 tm, .int .i64 ix, .int .i64 lg, .slice (some ⟨g4, 0, none⟩) ne ne, .int .i64 cm, .bool ok, .string tx, .slice (some ⟨g5, 0, none⟩) nv nv, .slice (some ⟨g6, 0, none⟩) nl nl] 33) := ⟨_, rfl⟩
    have hb5 : Below w4.heap.size w4 W5 := by rw [hW5]; exact bel1 _ _
    have HB5 := hide (belOn (belOn (unhide HB3) hb4) hb5)
    have B5 : Blk W5 w4.heap.size [.int .i64 kd, .int .i64 fr, .int .i64 tt, .int .i64 tm, .int .i64 ix, .int .i64 lg, .slice (some ⟨g4, 0, none⟩) ne ne, .int .i64 cm, .bool ok, .string tx, .slice (some ⟨g5, 0, none⟩) nv nv, .slice (some ⟨g6, 0, none⟩) nl nl] := by rw [hW5]; exact Blk.new w4 _ _
    have HE5 := hide (o1.at.below hb5)
    have HC5 := hide ((unhide HCO _ _ _ _ o2 o3).below hb5)
    have HE := hide (fun (W : World) (hW : Below W5.heap.size W5 W) => (And.intro (((B5).call hW).c 0 (by simp)) (And.intro (((B5).call hW).c 1 (by simp)) (And.intro (((B5).call hW).c 2 (by simp)) (And.intro (((B5).call hW).c 3 (by simp)) (And.intro (((B5).call hW).c 4 (by simp)) (And.intro (((B5).call hW).c 5 (by simp)) (And.intro (((B5).call hW).c 6 (by simp)) (And.intro (((B5).call hW).c 7 (by simp)) (And.intro (((B5).call hW).c 8 (by simp)) (And.intro (((B5).call hW).c 9 (by simp)) (And.intro (((B5).call hW).c 10 (by simp)) (((B5).call hW).c 11 (by simp))))))))))))))
    have HW5 := hide hW5.symm
    clear hb4 hb5 o1 o2 o3 q0 q1 q2 q3 q4 q5 q6 q7 q8 q9 q10 q11 hW5 B5
    go_wp2_with fail
    rw [unhide HW5]
    refine (unhide HIM W5 _ _ _ (unhide HE5) (unhide HC5)).mono ?_
    rintro e w6 ⟨rfl, hb6⟩
    have HB6 := hide (belOn (unhide HB5) hb6)
    have HE6 := hide ((unhide HE5).below hb6)
    have HC6 := hide ((unhide HC5).below hb6)
    obtain ⟨q0, q1, q2, q3, q4, q5, q6, q7, q8, q9, q10, q11⟩ := unhide HC _ (unhide HB6)
    obtain ⟨p0, p1, p2, p3, p4, p5, p6, p7, p8, p9, p10, p11⟩ := unhide HE _ hb6
    simp only [List.getElem_cons_zero, List.getElem_cons_succ] at q0 q1 q2 q3 q4 q5 q6 q7 q8 q9 q10 q11 p0 p1 p2 p3 p4 p5 p6 p7 p8 p9 p10 p11
    have l1 : w.heap.size < w6.heap.size := lt_of_cell q0
    have l2 : w4.heap.size < w6.heap.size := lt_of_cell p0
    have HT7 := hide (unhide HTO w6.drew (belDrew (unhide HB6)))
    clear hb6
    go_wp2_with fail
    go_region_with (first
      | (go_at_call 6; refine (unhide HT7).mono ?_; rintro e w7 ⟨g7, g8, g9, rfl, o1, o2, o3, hb7⟩; have s0 := bcl (bOfDrew hb7) l1 q0; have s1 := bcl (bOfDrew hb7) l1 q1; have s2 := bcl (bOfDrew hb7) l1 q2; have s3 := bcl (bOfDrew hb7) l1 q3; have s4 := bcl (bOfDrew hb7) l1 q4; have s5 := bcl (bOfDrew hb7) l1 q5; have s6 := bcl (bOfDrew hb7) l1 q6; have s7 := bcl (bOfDrew hb7) l1 q7; have s8 := bcl (bOfDrew hb7) l1 q8; have s9 := bcl (bOfDrew hb7) l1 q9; have s10 := bcl (bOfDrew hb7) l1 q10; have s11 := bcl (bOfDrew hb7) l1 q11; have t0 := bcl (bOfDrew hb7) l2 p0; have t1 := bcl (bOfDrew hb7) l2 p1; have t2 := bcl (bOfDrew hb7) l2 p2; have t3 := bcl (bOfDrew hb7) l2 p3; have t4 := bcl (bOfDrew hb7) l2 p4; have t5 := bcl (bOfDrew hb7) l2 p5; have t6 := bcl (bOfDrew hb7) l2 p6; have t7 := bcl (bOfDrew hb7) l2 p7; have t8 := bcl (bOfDrew hb7) l2 p8; have t9 := bcl (bOfDrew hb7) l2 p9; have t10 := bcl (bOfDrew hb7) l2 p10; have t11 := bcl (bOfDrew hb7) l2 p11)
      | (go_at_call 8; refine (eqMsg_calls kd fr tt tm ix lg cm ok tx _ _ ne _ _ es _ _ nv _ _ v _ _ nl _ _ l _ (unhide HSM).e (unhide HSM).be ((unhide HE6).below (bOfDrew hb7)) o1.at ((unhide HC6).below (bOfDrew hb7)) (unhide HCO _ _ _ _ o2 o3)).mono ?_; rintro e w8 ⟨rfl, hb8⟩))
    all_goals (try go_wp2_with fail)
    all_goals (try go_ret)
    all_goals exact ⟨rfl, unhide HFIN _ (belOn (belOn (unhide HB6) (bOfDrew hb7)) hb8)⟩

set_option maxRecDepth 100000 in
theorem lifted (os : Os) (started : os.Started) (H : Type) (enc : TypeId × Value → H) :
    ReturnsInHanded {} Tryd.checked os 3 .any (fun w args => (Rows.fnExactMsgTextSpec.pre enc Tryd.prog Tryd.f3 [] false w args ∧ laidMetH Tryd.prog Rows.fnExactMsgTextRow.laid w) ∧ sizedMet enc Tryd.prog Tryd.f3 (OpenSpec.ofChange Rows.fnExactMsgTextSpec) false w args)
      (Rows.fnExactMsgTextSpec.post enc Tryd.prog Tryd.f3 false true false false) := by
  refine returnsInHanded_of_change_and (C := Tryd.checked) (X := fun w _ => laidMetH Tryd.prog Rows.fnExactMsgTextRow.laid w) (fun _ _ _ hh h => h.of_heap hh) own started (by kernel_rfl) Tryd.func3
    (ChangeSpec.witness_shaped (enc := enc) (C := Tryd.checked) (os := os) (X := fun w _ => laidMetH Tryd.prog Rows.fnExactMsgTextRow.laid w) false (World.laidAll Tryd.prog os Rows.fnExactMsgTextRow.laid) #[.agg #[.int .i64 0, .int .i64 0, .int .i64 0, .int .i64 0, .int .i64 0, .int .i64 0, .slice none 0 0, .int .i64 0, .bool false, .string ByteArray.empty, .slice none 0 0, .slice none 0 0]] 8 (World.laidAll_os _ _ _)
      (World.shaped_of_ZipB (by kernel_rfl) (by kernel_rfl)) (by kernel_rfl) (by kernel_rfl) (by kernel_rfl)
      (by rw [MakeChecks.laidMetH_plain _ _ _ (by kernel_rfl)]; exact laidMet_laidAll _ (by kernel_rfl) (by kernel_rfl))) ?_
  intro W base args ds gs before hval0 hW _ _ hL _
  have hval : ∀ (j : Nat) t v, Tryd.f3.params[j]? = some t → args[j]? = some v → Value.okWide Tryd.prog W .any base t v := hval0
  have hW' := hW
  obtain ⟨p, q, hA0, hV, rfl, hfz, hnd⟩ := hW
  have hA : DataW.TrodAll enc Tryd.prog W 0 (fun _ => true) true Tryd.f3.params.toList args.toList ds p := hA0
  rw [Tryd.params3] at hA hval
  obtain ⟨v0, vs0, d0, ds0, p0, q0, hargs, rfl, rfl, h0, r0⟩ := trodAll_cons hA
  obtain ⟨rfl, rfl, rfl⟩ := trodAll_nil r0
  obtain rfl : args = #[v0] := by cases args; simp_all
  obtain ⟨rfl, rfl⟩ := trodVars_none hV
  have k0 := h0
  have lt0 : ∀ x ∈ p0, x.block < W.heap.size := by obtain ⟨m, hm⟩ := k0; exact DataW.trod_lt m _ _ _ hm
  obtain ⟨a0x0, a0x1, a0x2, a0x3, a0x4, a0x5, a0x6, a0x7, a0x8, a0x9, a0x10, a0x11, a0x12, a0x13, a0x14, a0x15, a0x16, a0x17, a0x18, a0x19, a0x20, rfl, w0⟩ := open_msg (hval 0 27 v0 rfl rfl) h0
  clear hA0 hval0
  refine (walk a0x0 a0x1 a0x2 a0x3 a0x4 a0x5 a0x6 a0x7 a0x8 a0x9 a0x10 a0x11 a0x12 a0x13 a0x14 a0x15 a0x16 a0x17 a0x18 a0x19 a0x20 W w0).mono fun e W' ⟨he, bel⟩ => ?_
  subst he
  exact ⟨_, rfl, _, _, _, [], _, [], hW', trodAll_mk1 (shut_bool Tryd.underlying4 _), (trodAll_cons_mk (Below.trod laidOut (by kernel_rfl) (of_decide_eq_true (by kernel_rfl)) k0 bel lt0) trodAll_mk0), rfl, bel.frame _, fun h => by cases h⟩

theorem named : Tryd.pinned.checked.prog.funcNamed Rows.fnExactMsgTextRow.func = some 3 := by kernel_rfl
theorem closed : joinedFacts Tryd.pinned.checked.prog 3 Tryd.f3 Rows.fnExactMsgTextSpec Rows.fnExactMsgTextRow = true := by kernel_rfl
theorem over : Rows.fnExactMsgTextRow.holds Tryd.pinned (OpenSpec.ofChange Rows.fnExactMsgTextSpec) :=
  OpenClaim.holds_of_wide 3 Tryd.f3 rfl rfl rfl rfl rfl rfl rfl ⟨rfl, rfl, rfl, rfl, rfl⟩ rfl rfl rfl rfl rfl named Tryd.func3 closed
    (of_decide_eq_true (by kernel_rfl)) (by unfold Func.isWrapper; first | (rw [if_pos (by decide +kernel)]; kernel_rfl) | (rw [if_neg (by decide +kernel)]; exact ⟨rfl, rfl⟩))
    (fun os started H enc _ => lifted os started H enc)

end Go.Proofs.YtiakhgafibgpgaaDoor.fnExactMsgText
namespace Go.Proofs.YtiakhgafibgpgaaDoor
theorem fnExactMsgText_holds : Rows.FnExactMsgTextCardSaid :=
  Claim7.holds_tied_plain_at .later [] [.data, .data, .data] true Rows.fnExactMsgTextCard.stood.harness false
    fnExactMsgText.over (fun _ h => by cases h) (by kernel_rfl) (fun _ h => by cases h) fnExactMsgText_row_tie rfl ⟨rfl, rfl⟩ (by kernel_rfl) rfl
    (fun f fn hf hfn => by
      obtain rfl : f = 3 := Option.some.inj ((show Tryd.prog.funcNamed "loop.example/g00141/laws.FnExactMsgText" = some 3 by kernel_rfl).symm.trans hf) |>.symm
      obtain rfl : fn = Tryd.f3 := (Option.some.inj (Tryd.func3.symm.trans hfn)).symm
      exact ⟨by kernel_rfl, fun j t ht => by
        rw [Tryd.params3] at ht
        have hm : t ∈ [27] := by simpa using Array.mem_of_getElem? ht
        have hall : ([27].all fun u => !Tryd.prog.wantsStandIn u) = true := by kernel_rfl
        exact (show Tryd.prog.wantsStandIn t = false by simpa using List.all_eq_true.1 hall t hm)⟩)
    (by kernel_rfl)
#print axioms fnExactMsgText_holds
end Go.Proofs.YtiakhgafibgpgaaDoor
