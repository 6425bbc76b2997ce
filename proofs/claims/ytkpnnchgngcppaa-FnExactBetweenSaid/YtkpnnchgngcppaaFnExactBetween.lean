/- For every net and two numbers, Between of the program answers what Between of the specification answers, and writes into no argument; its answer owns its memory. No condition. -/
import Derived.Test.YtkpnnchgngcppaaRows
import Derived.Test.YtkpnnchgngcppaaNbx
import Derived.Test.YtkpnnchgngcppaaBtwS
import Derived.Test.YtkpnnchgngcppaaCrsM
import Derived.WalkKit
import Derived.ProofKit
import Derived.OpenShut
import Derived.ShutString
import Derived.ChangeOld
import Derived.Below
import Derived.Lib.SmallJoins
namespace Go.Proofs.Ytkpnnchgngcppaa.fnExactBetween
open Go.ChangeShapes Go.WideShapes Go.ChangeAt Go.RowKit Go.Joins
open Go.ChangeMaps (open_string shut_string)
open Plain
set_option linter.unusedVariables false

theorem own : ownKnob Try.prog.godebug = none := by kernel_rfl
theorem laidOut : laidOutB Try.prog = true := by kernel_rfl

set_option maxRecDepth 10000 in
set_option maxHeartbeats 8000000 in
theorem walk (t : Int) (a : Option Addr) (n c : Nat) (es : List Pkt) (fr ds : Int) (w : World) (ht : (Lit.int .i64 t).wf = true) (h : ArgRow 4 pktL goodP w a n c es) (wfr : (Lit.int .i64 fr).wf = true) (wds : (Lit.int .i64 ds).wf = true) :
    Calls Try.prog 5 #[.agg #[.int .i64 t, .slice a n c], .int .i64 fr, .int .i64 ds] w fun e w' => e = .returned (.bool true) ∧ Below w.heap.size w w' := by
  obtain ⟨W0, hW0⟩ : ∃ W0, W0 = w.alloc (.cells #[.int .i64 t, .slice a n c] 24) := ⟨_, rfl⟩
  have hb0 : Below w.heap.size w W0 := by rw [hW0]; exact bel1 _ _
  have hlt : w.heap.size < W0.heap.size := by rw [hW0]; simp
  have c0 : W0.cell? ⟨w.heap.size, 0, none⟩ = some (.int .i64 t) := by rw [hW0]; simp [go_sem]
  have c2 : W0.cell? ⟨w.heap.size, 1, none⟩ = some (.slice a n c) := by rw [hW0]; simp [go_sem]
  have HD := hide (fun (W : World) (hW : Below W0.heap.size W0 W) => (show ArgRow 4 pktL goodP W a n c es from ⟨h.len, h.le, h.good, h.row.below (belOn hb0 hW)⟩))
  have HC := hide (fun (W : World) (hW : Below W0.heap.size W0 W) => And.intro (bcl hW hlt c0) (bcl hW hlt c2))
  have HFIN := hide (fun (W : World) (hW : Below W0.heap.size W0 W) => belOn hb0 hW)
  have HW0 := hide hW0.symm
  have HSZ := hide (szNet_calls t a n c es 1048576 W0 (unhide HD _ (Below.refl _ _)) (by decide))
  obtain ⟨A, hA⟩ : ∃ A, n + totP es = A := ⟨_, rfl⟩
  rw [hA] at HSZ
  by_cases hbig : 1048576 < A
  · rw [purse_no (show ((1048576 : Nat) : Int) < (A : Int) by omega)] at HSZ
    clear h hb0 hlt hW0 hA
    go_enter Try.func5, Try.ntmps5
    go_wp2_with fail
    rw [unhide HW0]
    refine (unhide HSZ).mono ?_
    rintro e w1 ⟨rfl, hb1⟩
    have HB1 := hide (unhide HFIN _ hb1)
    clear hb1
    go_wp2_with fail
    go_ret
    exact ⟨rfl, unhide HB1⟩
  · obtain ⟨r, hr⟩ : ∃ r : Nat, ((1048576 : Nat) : Int) - (A : Int) = (r : Int) := ⟨1048576 - A, by omega⟩
    rw [purse_yes (show ¬ ((1048576 : Nat) : Int) < (A : Int) by omega), hr] at HSZ
    have hn : n ≤ 1048576 := by omega
    have HLEN := hide h.len
    have HFI := hide (show ∀ e ∈ es, e.body.size ≤ 1000000000 from fun e he => by have := totP_mem es e he; omega)
    have HTO := hide (fun (W : World) (hW : Below W0.heap.size W0 W) => toNet_calls t a n c es W (unhide HD _ hW) hn)
    have HNA := hide (fun (W : World) (g : Nat) (hO : RowAt pktE W (some ⟨g, 0, none⟩) es) => (show NetAt W (some ⟨g, 0, none⟩) n n es from ⟨hO, unhide HLEN, hn, unhide HFI⟩))
    have HSP := hide (fun (W : World) (g : Nat) (hO : NetAt W (some ⟨g, 0, none⟩) n n es) => spec_Between t _ n n es fr ds W hO (Nat.le_refl _))
    have HIM := hide (fun (W : World) (g : Nat) (hO : NetAt W (some ⟨g, 0, none⟩) n n es) => impl_Between t _ n n es fr ds W hO (Nat.le_refl _) ⟨wfr, wds⟩)
    have HEN := hide (fun (W : World) (g g' : Nat) (h1 : RowAt pktE W (some ⟨g, 0, none⟩) es) (h2 : RowAt pktE W (some ⟨g', 0, none⟩) es) => eqNet_calls t (some ⟨g, 0, none⟩) (some ⟨g', 0, none⟩) n n n es W (unhide HLEN) (by omega) h1 h2)
    have HMN := hide (fun (W : World) (g : Nat) (h1 : RowAt pktE W (some ⟨g, 0, none⟩) es) (hg : g < W.heap.size) => markNet_calls t (some ⟨g, 0, none⟩) n n es W (unhide HLEN) hn h1 (fun k hk => by obtain ⟨o, e⟩ := hk; cases e; exact hg))
    have hRl : (btwL t es fr ds).length ≤ n := by
      have := unhide HLEN
      unfold btwL
      split
      · rw [List.length_map]; have := wayF_len es fr ds; omega
      · simp
    generalize btwL t es fr ds = R at HSP HIM hRl
    obtain ⟨m, hm⟩ : ∃ m, R.length = m := ⟨_, rfl⟩
    rw [hm] at hRl
    have HFO := hide (fun (W : World) (B : Nat) (v : Value) (h : OwnR i64E W B v R) => (show ∃ x y, v = .slice x m y from by
      obtain ⟨x, y, e⟩ := h.form
      exact ⟨x, y, by rw [e, hm]⟩))
    have HEQ := hide (fun (W : World) (x y : Option Addr) (cx cy : Nat) (h : RowAt i64E W x R) (h' : RowAt i64E W y R) => eqInt64S_calls x y cx cy m R W hm (by omega) h h')
    have HMK := hide (fun (W : World) (x : Option Addr) (cx : Nat) (h : RowAt i64E W x R) => markInt64S_calls 1 x cx m R W (by decide) hm (by omega) h)
    have HHE := hide (fun (W : World) (x : Option Addr) (cx : Nat) (h : RowAt i64E W x (mkI 1 m)) => heldInt64S_calls 1 x cx m W (by decide) (by omega) h)
    obtain ⟨M, hM⟩ : ∃ M, 1 + m = M := ⟨_, rfl⟩
    rw [hM] at HMK HHE
    obtain ⟨M0, hM0⟩ : ∃ M0, 1 + n * 4 = M0 := ⟨_, rfl⟩
    rw [hM0] at HMN
    clear h hb0 hlt hW0 hbig hr c0 c2 hA hm hM hM0 wfr wds ht
    go_enter Try.func5, Try.ntmps5
    go_wp2_with fail
    rw [unhide HW0]
    refine (unhide HSZ).mono ?_
    rintro e w1 ⟨rfl, hb1⟩
    have HB1 := hide hb1
    obtain ⟨q0, q2⟩ := unhide HC _ hb1
    clear hb1
    go_wp2_with fail
    refine (unhide HTO _ (unhide HB1)).mono ?_
    rintro e w2 ⟨g1, rfl, o1, hb2⟩
    have HB2 := hide (belOn (unhide HB1) hb2)
    have HA2 := hide (unhide HNA _ _ o1.at)
    clear hb2 o1 q0 q2
    go_wp2_with fail
    refine (unhide HSP w2 _ (unhide HA2)).mono ?_
    rintro e w3 ⟨vS, rfl, oS, hb3⟩
    obtain ⟨aS, cS, rfl⟩ := unhide HFO _ _ _ oS
    have HB3 := hide (belOn (unhide HB2) hb3)
    have HRS := hide oS.at
    have HBS := hide oS.bl
    clear hb3 HA2 oS
    obtain ⟨q0, q2⟩ := unhide HC _ (unhide HB3)
    go_wp2_with fail
    refine (unhide HTO _ (unhide HB3)).mono ?_
    rintro e w4 ⟨g4, rfl, o1, hb4⟩
    obtain ⟨W5, hW5⟩ : ∃ W5, W5 = w4.alloc (.cells #[.int .i64 t, .slice (some ⟨g4, 0, none⟩) n n] 28) := ⟨_, rfl⟩
    have hb5 : Below w4.heap.size w4 W5 := by rw [hW5]; exact bel1 _ _
    have hg4 := o1.bl g4 ⟨0, rfl⟩
    have HB5 := hide (belOn (belOn (unhide HB3) hb4) hb5)
    have DX := hide (show NB w4.heap.size (.int .i64 t) (.slice (some ⟨g4, 0, none⟩) n n) W5 from by rw [hW5]; exact NB.new _ _ _)
    have HR5 := hide (o1.keep hb5).at
    have HRS5 := hide ((unhide HRS).below (belOn hb4 hb5))
    have hz5 := hb5.size
    have hz4 := hb4.size
    have HW5 := hide hW5.symm
    clear hb4 hb5 o1 q0 q2 hW5 HRS
    have e0 := (unhide DX).c0
    have e1 := (unhide DX).c1
    go_wp2_with fail
    rw [unhide HW5]
    clear e0 e1
    refine (unhide HIM W5 _ (unhide HNA _ _ (unhide HR5))).mono ?_
    rintro e w6 ⟨vI, rfl, oI, hb6⟩
    obtain ⟨aI, cI, rfl⟩ := unhide HFO _ _ _ oI
    have HB6 := hide (belOn (unhide HB5) hb6)
    have HRI6 := hide oI.at
    have HBI := hide oI.bl
    have HR6 := hide ((unhide HR5).below hb6)
    have HRS6 := hide ((unhide HRS5).below hb6)
    have DX6 := hide ((unhide DX).below hb6 (unhide DX).lt)
    have hz6 := hb6.size
    clear oI hb6 HRS5 HR5 DX
    go_wp2_with fail
    refine (unhide HEQ w6 aI aS cI cS (unhide HRI6) (unhide HRS6)).mono ?_
    rintro e w7 ⟨rfl, hb7⟩
    have HB7 := hide (belOn (unhide HB6) hb7)
    have HR7 := hide ((unhide HR6).below hb7)
    have HRI7 := hide ((unhide HRI6).below hb7)
    have HRS7 := hide ((unhide HRS6).below hb7)
    have DX7 := hide ((unhide DX6).below hb7 (unhide DX6).lt)
    have hz7 := hb7.size
    obtain ⟨q0, q2⟩ := unhide HC _ (unhide HB7)
    have p0 := (unhide DX7).c0
    have p2 := (unhide DX7).c1
    have l1 : w.heap.size < w7.heap.size := lt_of_cell q0
    have l2 : w4.heap.size < w7.heap.size := lt_of_cell p0
    have HT8 := hide (unhide HTO w7.drew (belDrew (unhide HB7)))
    clear hb7 HR6 HRI6 HRS6 DX6
    go_wp2_with fail
    go_region_with (first
      | (go_at_call 9; refine (unhide HT8).mono ?_; rintro e w8 ⟨g7, rfl, o1, hb8⟩; have s0 := bcl (bOfDrew hb8) l1 q0; have s2 := bcl (bOfDrew hb8) l1 q2; have t0 := bcl (bOfDrew hb8) l2 p0; have t2 := bcl (bOfDrew hb8) l2 p2)
      | (go_at_call 11; refine (unhide HEN _ _ _ ((unhide HR7).below (bOfDrew hb8)) o1.at).mono ?_; rintro e w9 ⟨rfl, hb9⟩))
    all_goals (have HD9 := hide (belOn (bOfDrew hb8) hb9))
    all_goals clear hb8 hb9 o1 s0 s2 t0 t2 q0 q2 p0 p2
    all_goals
      have HB9 := hide (belOn (unhide HB7) (unhide HD9))
      have DX9 := hide ((unhide DX7).below (unhide HD9) (unhide DX7).lt)
      have HR9 := hide ((unhide HR7).below (unhide HD9))
      have HRI9 := hide ((unhide HRI7).below (unhide HD9))
      have HRS9 := hide ((unhide HRS7).below (unhide HD9))
      have hz9 := (unhide HD9).size
      have p0 := (unhide DX9).c0
      have p2 := (unhide DX9).c1
      clear HR7 HRI7 HRS7 HB7
      go_wp2_with fail
      clear p0 p2
      refine (unhide HMN w9 g4 (unhide HR9) (by omega)).mono ?_
      rintro e wa ⟨rfl, -, hoa⟩
      have HBa := hide ((unhide HB9).trans (hoa.below (B := W0.heap.size) (fun g hg => by obtain ⟨o, e⟩ := hg; cases e; have := (unhide HB3).size; omega) (unhide HB9).size))
      have HRIa := hide ((unhide HRI9).offP hoa fun g h h2 => by have := unhide HBI g h; obtain ⟨o, e⟩ := h2; cases e; omega)
      have HRSa := hide ((unhide HRS9).offP hoa fun g h h2 => by have := unhide HBS g h; obtain ⟨o, e⟩ := h2; cases e; omega)
      have hza := hoa.size
      clear hoa HR9 HRI9 HRS9 DX9 DX7
      go_wp2_with fail
      refine (unhide HEQ wa aI aS cI cS (unhide HRIa) (unhide HRSa)).mono ?_
      rintro e wb ⟨rfl, hbb⟩
      have HBb := hide (belOn (unhide HBa) hbb)
      have HRIb := hide ((unhide HRIa).below hbb)
      have HRSb := hide ((unhide HRSa).below hbb)
      have hzb := hbb.size
      clear hbb HRIa HRSa
      go_wp2_with fail
      refine (unhide HMK wb aI cI (unhide HRIb)).mono ?_
      rintro e wc ⟨rfl, hmk, hob⟩
      have hpb := OnlyP.row (p := inB aI) hob fun g o e => ⟨o, e⟩
      have HBc := hide ((unhide HBb).trans (hpb.below (B := W0.heap.size) (fun g hg => by have := unhide HBI g hg; have := (unhide HB5).size; omega) (unhide HBb).size))
      have HKc := hide hmk
      have HRSc := hide ((unhide HRSb).offP hpb fun g h h2 => by have := unhide HBS g h; have := unhide HBI g h2; omega)
      clear hob hpb hmk HRIb HRSb
      go_wp2_with fail
      refine (unhide HHE wc aI cI (unhide HKc)).mono ?_
      rintro e wd ⟨rfl, hbd⟩
      have HBd := hide (belOn (unhide HBc) hbd)
      have HKd := hide ((unhide HKc).below hbd)
      have HRSd := hide ((unhide HRSc).below hbd)
      clear hbd HKc HRSc
      obtain ⟨q0, q2⟩ := unhide HC _ (unhide HBd)
      go_wp2_with fail
      refine (unhide HTO wd (unhide HBd)).mono ?_
      rintro e we ⟨ge, rfl, oe, hbe⟩
      have HBe := hide (belOn (unhide HBd) hbe)
      have HAe := hide (unhide HNA _ _ oe.at)
      have HKe := hide ((unhide HKd).below hbe)
      have HRSe := hide ((unhide HRSd).below hbe)
      clear hbe oe HKd HRSd q0 q2
      go_wp2_with fail
      refine (unhide HIM we _ (unhide HAe)).mono ?_
      rintro e wf ⟨vJ, rfl, oJ, hbf⟩
      obtain ⟨aJ, cJ, rfl⟩ := unhide HFO _ _ _ oJ
      have HBf := hide (belOn (unhide HBe) hbf)
      have HKf := hide ((unhide HKe).below hbf)
      have HRSf := hide ((unhide HRSe).below hbf)
      have HRJ := hide oJ.at
      clear hbf oJ HKe HRSe HAe
      go_wp2_with fail
      refine (unhide HEQ wf aJ aS cJ cS (unhide HRJ) (unhide HRSf)).mono ?_
      rintro e wg ⟨rfl, hbg⟩
      have HBg := hide (belOn (unhide HBf) hbg)
      have HKg := hide ((unhide HKf).below hbg)
      clear hbg HKf HRSf HRJ
      go_wp2_with fail
      refine (unhide HHE wg aI cI (unhide HKg)).mono ?_
      rintro e wh ⟨rfl, hbh⟩
      have HBh := hide (belOn (unhide HBg) hbh)
      clear hbh HKg
      go_wp2_with fail
      go_ret
      exact ⟨rfl, unhide HFIN _ (unhide HBh)⟩

set_option maxRecDepth 100000 in
theorem lifted (os : Os) (started : os.Started) (H : Type) (enc : TypeId × Value → H) :
    ReturnsInHanded {} Try.checked os 5 .any (Rows.fnExactBetweenSpec.pre6 enc Try.prog Try.f5 Rows.fnExactBetweenRow.domain false) (Rows.fnExactBetweenSpec.post enc Try.prog Try.f5 false true false false) := by
  refine returnsInHanded_of_change (C := Try.checked) own started (by kernel_rfl) Try.func5
    (ChangeSpec.witness6 (enc := enc) (C := Try.checked) false ⟨#[], #[.agg #[.int .i64 0, .slice none 0 0], .int .i64 0, .int .i64 0], []⟩ 8 (by kernel_rfl) (by kernel_rfl) (by kernel_rfl) (by kernel_rfl)) ?_
  intro W base args ds gs before hval0 hW hcnd _
  have hval : ∀ (j : Nat) t v, Try.f5.params[j]? = some t → args[j]? = some v → Value.okWide Try.prog W .any base t v := hval0
  have hW' := hW
  obtain ⟨p, q, hA0, hV, rfl, hfz, hnd⟩ := hW
  have hA : DataW.TrodAll enc Try.prog W 0 (fun _ => true) true Try.f5.params.toList args.toList ds p := hA0
  rw [Try.params5] at hA hval
  obtain ⟨v0, vs0, d0, ds0, p0, q0, hargs, rfl, rfl, h0, r0⟩ := trodAll_cons hA
  obtain ⟨v1, vs1, d1, ds1, p1, q1, rfl, rfl, rfl, h1, r1⟩ := trodAll_cons r0
  obtain ⟨v2, vs2, d2, ds2, p2, q2, rfl, rfl, rfl, h2, r2⟩ := trodAll_cons r1
  obtain ⟨rfl, rfl, rfl⟩ := trodAll_nil r2
  obtain rfl : args = #[v0, v1, v2] := by cases args; simp_all
  obtain ⟨rfl, rfl⟩ := trodVars_none hV
  have k0 := h0
  have lt0 : ∀ x ∈ p0, x.block < W.heap.size := by obtain ⟨m, hm⟩ := k0; exact DataW.trod_lt m _ _ _ hm
  obtain ⟨c0x0, c0x1, y0x0, y0x1, mm0, rfl, e0, f0, hy0x0, hy0x1⟩ := open_agg2 Try.underlying24 (by kernel_rfl) (by kernel_rfl) (hval 0 24 v0 rfl rfl) h0
  obtain ⟨a0x0, g0x0, _, w0x0⟩ := DataW.trod_int Try.underlying2 hy0x0
  obtain ⟨a0x1, n0x1, l0x1, z0x1, g0x1, w0x1⟩ := openArg 4 pktL goodP Try.underlying22 (by kernel_rfl) (by decide) rdPkt hy0x1
  simp at g0x0
  subst g0x0 g0x1
  have k1 := h1
  have lt1 : ∀ x ∈ p1, x.block < W.heap.size := by obtain ⟨m, hm⟩ := k1; exact DataW.trod_lt m _ _ _ hm
  obtain ⟨a1, rfl, e1, f1, w1⟩ := open_int Try.underlying2 (hval 1 2 v1 rfl rfl) h1
  have k2 := h2
  have lt2 : ∀ x ∈ p2, x.block < W.heap.size := by obtain ⟨m, hm⟩ := k2; exact DataW.trod_lt m _ _ _ hm
  obtain ⟨a2, rfl, e2, f2, w2⟩ := open_int Try.underlying2 (hval 2 2 v2 rfl rfl) h2
  clear hA0 hval0
  refine (walk a0x0 a0x1 n0x1 l0x1 z0x1 a1 a2 W w0x0 w0x1 w1 w2).mono fun e W' ⟨he, bel⟩ => ?_
  subst he
  exact ⟨_, rfl, _, _, _, [], _, [], hW', trodAll_mk1 (shut_bool Try.underlying4 _), (trodAll_cons_mk (Below.trod laidOut (by kernel_rfl) (of_decide_eq_true (by kernel_rfl)) k0 bel lt0) (trodAll_cons_mk (Below.trod laidOut (by kernel_rfl) (of_decide_eq_true (by kernel_rfl)) k1 bel lt1) (trodAll_cons_mk (Below.trod laidOut (by kernel_rfl) (of_decide_eq_true (by kernel_rfl)) k2 bel lt2) trodAll_mk0))), rfl, bel.frame _, fun h => by cases h⟩

theorem named : Try.pinned.checked.prog.funcNamed Rows.fnExactBetweenRow.func = some 5 := by kernel_rfl
theorem closed : joinedFacts Try.pinned.checked.prog 5 Try.f5 Rows.fnExactBetweenSpec Rows.fnExactBetweenRow = true := by kernel_rfl
theorem over : Rows.fnExactBetweenRow.holds Try.pinned (OpenSpec.ofChange Rows.fnExactBetweenSpec) :=
  OpenClaim.holds_of_wide 5 Try.f5 rfl rfl rfl rfl rfl rfl rfl ⟨rfl, rfl, rfl, rfl, rfl⟩ rfl rfl rfl rfl rfl named Try.func5 closed
    (of_decide_eq_true (by kernel_rfl)) (by unfold Func.isWrapper; first | (rw [if_pos (by decide +kernel)]; kernel_rfl) | (rw [if_neg (by decide +kernel)]; exact ⟨rfl, rfl⟩))
    (fun os started H enc _ => lifted os started H enc)

end Go.Proofs.Ytkpnnchgngcppaa.fnExactBetween
namespace Go.Proofs.Ytkpnnchgngcppaa
theorem fnExactBetween_holds : Rows.FnExactBetweenSaid := fnExactBetween.over
#print axioms fnExactBetween_holds
end Go.Proofs.Ytkpnnchgngcppaa
