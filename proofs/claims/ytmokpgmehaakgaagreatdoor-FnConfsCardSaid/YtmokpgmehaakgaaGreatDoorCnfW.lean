/- The walk of the law FnConfs. -/
import Derived.Test.YtmokpgmehaakgaaGreatDoorDrwT
import Derived.Test.YtmokpgmehaakgaaGreatDoorChaT
import Derived.Test.YtmokpgmehaakgaaGreatDoorChaK
import Derived.Test.YtmokpgmehaakgaaGreatDoorCtxI
import Derived.Test.YtmokpgmehaakgaaGreatDoorRdcJ
import Derived.Test.YtmokpgmehaakgaaGreatDoorRdcT
import Derived.Test.YtmokpgmehaakgaaGreatDoorCnfM
import Derived.Test.YtmokpgmehaakgaaGreatDoorSamI
import Derived.Test.YtmokpgmehaakgaaGreatDoorConK
import Derived.Test.YtmokpgmehaakgaaGreatDoorBig
import Derived.WalkKit
import Derived.ProofKit
import Derived.Below
set_option linter.unusedVariables false
namespace Go.Proofs.YtmokpgmehaakgaaGreatDoor.fnConfs
open Go.RowKit
open Plain

theorem strL_list (l : List UInt8) : (strL l).data.toList = l := by simp [strL]
theorem isRow_below {w w' : World} {a : Option Addr} {len cap : Nat} {zs : List Int} (h : IsRow .u8 w a len cap zs) (hb : Below w.heap.size w w') : IsRow .u8 w' a len cap zs := by
  rcases h with h | ⟨x, hx, h1, h2, h3, h4, h5⟩
  · exact .inl h
  · refine .inr ⟨x, hx, h1, h2, h3, fun i hi => ?_, h5⟩
    have hc := h4 i hi
    exact (hb.cell (p := x.add i) (lt_of_cell hc)).trans hc

set_option maxRecDepth 10000 in
set_option maxHeartbeats 2000000 in
theorem sameConf_calls (a1 : Option Addr) (c1 : Nat) (a2 : Option Addr) (c2 : Nat) (b1 : Option Addr) (e1 : Nat) (b2 : Option Addr) (e2 : Nat) (n m : Nat) (v l : List Int) (w : World) (hn : v.length = n) (hm : l.length = m) (zn : n ≤ 10000000) (zm : m ≤ 10000000) (h1 : RowAt i64E w a1 v) (h2 : RowAt i64E w a2 l) (h3 : RowAt i64E w b1 v) (h4 : RowAt i64E w b2 l) :
    Calls Tryz.prog 10 #[.agg #[.slice a1 n c1, .slice a2 m c2], .agg #[.slice b1 n e1, .slice b2 m e2]] w fun e w' => e = .returned (.bool true) ∧ Below w.heap.size w w' := by
  obtain ⟨W0, hW0⟩ : ∃ W0, W0 = (w.alloc (.cells #[.slice a1 n c1, .slice a2 m c2] 26)).alloc (.cells #[.slice b1 n e1, .slice b2 m e2] 26) := ⟨_, rfl⟩
  have hb0 : Below w.heap.size w W0 := by rw [hW0]; exact belOn (bel1 _ _) (bel1 _ _)
  have A0 : CB w.heap.size (.slice a1 n c1) (.slice a2 m c2) W0 := by rw [hW0]; exact (CB.new w _ _).below (bel1 _ _) (by simp)
  have B0 : CB (w.heap.size + 1) (.slice b1 n e1) (.slice b2 m e2) W0 := by rw [hW0, show w.heap.size + 1 = (w.alloc (.cells #[.slice a1 n c1, .slice a2 m c2] 26)).heap.size from by simp]; exact CB.new _ _ _
  have HS1 := hide (sameInts_calls a1 b1 c1 e1 n v W0 hn (by omega) (h1.below hb0) (h3.below hb0))
  have HS2 := hide (fun W (hW : Below W0.heap.size W0 W) => sameInts_calls a2 b2 c2 e2 m l W hm (by omega) (h2.below (belOn hb0 hW)) (h4.below (belOn hb0 hW)))
  have HC := hide (fun W (hW : Below W0.heap.size W0 W) => And.intro (A0.below hW A0.lt).c1 (B0.below hW B0.lt).c1)
  have HB := hide hb0
  have HW0 := hide hW0.symm
  clear h1 h2 h3 h4 hb0 hW0 A0 B0 hn hm
  go_enter Tryz.func10, Tryz.ntmps10
  go_wp2_with fail
  rw [unhide HW0]
  refine (unhide HS1).mono ?_
  rintro e w1 ⟨rfl, hb1⟩
  obtain ⟨q1, p1⟩ := unhide HC _ hb1
  have HX := hide hb1
  have HS3 := hide (unhide HS2 _ hb1)
  clear hb1
  go_wp2_with fail
  refine (unhide HS3).mono ?_
  rintro e w2 ⟨rfl, hb2⟩
  have HB2 := hide (belOn (unhide HB) (belOn (unhide HX) hb2))
  clear hb2
  go_wp2_with fail
  go_ret
  exact ⟨rfl, unhide HB2⟩

set_option maxRecDepth 10000 in
set_option maxHeartbeats 8000000 in
theorem walk0 (a0 : Option Addr) (len0 cap0 : Nat) (z0 : List Int) (a1 : Option Addr) (len1 cap1 : Nat) (z1 : List Int) (w : World) (r0 : IsRow .u8 w a0 len0 cap0 z0) (r1 : IsRow .u8 w a1 len1 cap1 z1) (hv : RdVars w) (hT : TzAt w) :
    Calls Tryz.prog 3 #[.slice a0 len0 cap0, .slice a1 len1 cap1] w fun e w' => e = .returned (.bool true) ∧ Below w.heap.size w w' := by
  have hl0 := r0.len
  have hl1 := r1.len
  by_cases hb0 : len0 ≤ 1048576
  · have d0 : decide (1048576 < (len0 : Int)) = false := by simp; omega
    by_cases hb1 : len1 ≤ 1048576
    · have d1 : decide (1048576 < (len1 : Int)) = false := by simp; omega
      have HBG := hide (fun W => big_calls a0 len0 cap0 W hl0)
      have HBH := hide (fun W => big_calls a1 len1 cap1 W hl1)
      rw [d0] at HBG
      rw [d1] at HBH
      have HV := hide (fun (W : World) (hW : Below w.heap.size w W) => And.intro (hv.at hW) (hT.below hW hT.2))
      have HDC := hide (DrawChanged_calls a0 len0 cap0 z0 w r0 hb0)
      have HDR := hide (fun (W : World) (hW : Below w.heap.size w W) => DrawReadConf_calls a1 len1 cap1 z1 W (isRow_below r1 hW) hb1)
      clear r0 r1 hv hT hl0 hl1 d0 d1 hb0 hb1
      go_enter Tryz.func3, Tryz.ntmps3
      go_wp2_with (first
        | (go_at_call_of 4 len0; refine (unhide HBG _).mono ?_; rintro e w1 ⟨rfl, rfl⟩)
        | (go_at_call_of 4 len1; refine (unhide HBH _).mono ?_; rintro e w1 ⟨rfl, rfl⟩))
      refine (unhide HDC).mono ?_
      rintro e w2 ⟨av, nv, cv, v, al, nl, cl, l, kind, id, rfl, -, -, hO, hb2⟩
      obtain ⟨hV, hL, hCA⟩ := unhide hO
      obtain ⟨W2, hW2⟩ : ∃ W2, W2 = w2.alloc (.cells #[.slice av nv cv, .slice al nl cl] 26) := ⟨_, rfl⟩
      have hbW2 : Below w2.heap.size w2 W2 := by rw [hW2]; exact bel1 _ _
      have C2 : CB w2.heap.size (.slice av nv cv) (.slice al nl cl) W2 := by rw [hW2]; exact CB.new w2 _ _
      have hCA2 := hCA.below hbW2
      have HC := hide (fun (W : World) (hW : Below W2.heap.size W2 W) => And.intro (C2.below hW C2.lt) (hCA2.below hW))
      have HB2 := hide (belOn hb2 hbW2)
      have HSP := hide (spec_ChangedA av nv cv v al nl cl l kind id W2 hCA2 hV.adG hL.adG)
      have HIM := hide (fun (W : World) (hW : Below W2.heap.size W2 W) => impl_Changed av nv cv v al nl cl l kind id W (hCA2.below hW) (unhide HV W (belOn (belOn hb2 hbW2) hW)).2)
      have HW2 := hide hW2.symm
      have HCF := hide (fun (h : (chgF kind id v l).2.2 = 0) => (show confB (chgF kind id v l).1 (chgF kind id v l).2.1 = true ∧ meetB v l (chgF kind id v l).1 (chgF kind id v l).2.1 = true ∧ meetB (chgF kind id v l).1 (chgF kind id v l).2.1 v l = true from by
        cases hc : confB v l with
        | false => rw [show chgF kind id v l = ([], [], 10) from by unfold chgF; rw [hc]; rfl] at h; simp at h
        | true =>
          rw [show chgF kind id v l = chgS kind id v l from by unfold chgF; rw [hc]; rfl] at h ⊢
          exact chg_meet kind id v l hc h))
      clear hO hV hL hCA hb2 hbW2 C2 hCA2 hW2 HDC HBG HBH
      generalize chgF kind id v l = cr at HSP HIM HCF
      obtain ⟨x, y, code⟩ := cr
      simp only at HSP HIM HCF
      go_wp2_with fail
      rw [unhide HW2]
      refine (unhide HSP).mono ?_
      rintro e w3 ⟨s1, t1, s2, t2, rfl, hcc⟩
      have hb3 := hcc.2.2.2.2
      obtain ⟨W4, hW4⟩ : ∃ W4, W4 = w3.alloc (.cells #[.slice s1 x.length t1, .slice s2 y.length t2] 26) := ⟨_, rfl⟩
      have hX4 : Below W2.heap.size W2 W4 := by rw [hW4]; exact belOn hb3 (bel1 _ _)
      have HX4 := hide hX4
      have HW4 := hide hW4.symm
      obtain ⟨cb4, ca4⟩ := unhide HC _ hX4
      have q0 := cb4.c0
      have q1 := cb4.c1
      rw [hW4] at q0 q1
      have HI4 := hide (unhide HIM _ hX4)
      clear hcc hb3 hW4 hX4 cb4 ca4 HSP HIM
      go_wp2_with fail
      rw [unhide HW4]
      refine (unhide HI4).mono ?_
      rintro e w5 ⟨u1, k1, u2, k2, rfl, hcf⟩
      obtain ⟨hx5, hy5, -, -, -, hb5⟩ := hcf
      obtain ⟨W6, hW6⟩ : ∃ W6, W6 = w5.alloc (.cells #[.slice u1 x.length k1, .slice u2 y.length k2] 26) := ⟨_, rfl⟩
      have hbW6 : Below w5.heap.size w5 W6 := by rw [hW6]; exact bel1 _ _
      have D6 : CB w5.heap.size (.slice u1 x.length k1) (.slice u2 y.length k2) W6 := by rw [hW6]; exact CB.new w5 _ _
      have hX6 : Below W2.heap.size W2 W6 := belOn (belOn (unhide HX4) hb5) hbW6
      have HX6 := hide hX6
      have HDD := hide (fun (W : World) (hW : Below W6.heap.size W6 W) => And.intro (D6.below hW D6.lt) (And.intro ((hx5.below hbW6).below hW) ((hy5.below hbW6).below hW)))
      have HW6 := hide hW6.symm
      clear hb5 hbW6 hx5 hy5 D6 hX6 hW6 HI4 q0 q1
      by_cases hc0 : code = 0
      case' neg =>
        have hc0b : (code == 0) = false := by rw [beq_eq_false_iff_ne]; exact hc0
        clear hc0 HCF
        go_wp2_with fail
        rw [unhide HW6]
        have HBT := hide (belOn (unhide HB2) (unhide HX6))
      case' pos =>
        obtain ⟨hcx, hm1, hm2⟩ := unhide HCF hc0
        subst hc0
        have hxl : x.length ≤ 1048576 ∧ y.length ≤ 1048576 := by
          have := cf_facts x y hcx
          omega
        obtain ⟨hxl1, hyl1⟩ := hxl
        have HCD := hide (fun (W : World) (hW : Below W6.heap.size W6 W) => (show ConfAt W u1 x.length x u2 y.length y from ⟨⟨(unhide HDD W hW).2.1, rfl, hxl1⟩, ⟨(unhide HDD W hW).2.2, rfl, hyl1⟩⟩))
        obtain ⟨db6, -, -⟩ := unhide HDD _ (Below.refl _ _)
        have p0 := db6.c0
        have p1 := db6.c1
        have HTX := hide (impl_ConfText u1 x.length k1 x u2 y.length k2 y W6 (unhide HCD _ (Below.refl _ _)))
        have hzs := confL_sz x y
        have HRC := hide (fun (W : World) (hW : Below W2.heap.size W2 W) => impl_ReadConf (strL (confL x y)) W (by omega) (unhide HV W (belOn (unhide HB2) hW)).1)
        rw [strL_list, conf_back numF numF_dec x y hcx] at HRC
        have hqa := quo_all hcx
        clear db6 hzs HCF
        generalize strL (confL x y) = tx at HTX HRC
        go_wp2_with fail
        rw [unhide HW6]
        refine (unhide HTX).mono ?_
        rintro e w7 ⟨rfl, hb7⟩
        have HX7 := hide (belOn (unhide HX6) hb7)
        have HY7 := hide hb7
        have HR7 := hide (unhide HRC _ (unhide HX7))
        clear hb7 HTX HRC p0 p1
        go_wp2_with fail
        refine (unhide HR7).mono ?_
        rintro e w8 ⟨f1, g1, f2, g2, rfl, hc8, -⟩
        simp only at hc8
        obtain ⟨rx8, ry8, -, -, hb8⟩ := hc8
        obtain ⟨W9, hW9⟩ : ∃ W9, W9 = w8.alloc (.cells #[.slice f1 x.length g1, .slice f2 y.length g2] 26) := ⟨_, rfl⟩
        have hbW9 : Below w8.heap.size w8 W9 := by rw [hW9]; exact bel1 _ _
        have E9 : CB w8.heap.size (.slice f1 x.length g1) (.slice f2 y.length g2) W9 := by rw [hW9]; exact CB.new w8 _ _
        have hY9 : Below W6.heap.size W6 W9 := belOn (belOn (unhide HY7) hb8) hbW9
        have HY9 := hide hY9
        have HW9 := hide hW9.symm
        obtain ⟨db9, rxd, ryd⟩ := unhide HDD _ hY9
        have p0 := db9.c0
        have p1 := db9.c1
        have o0 := E9.c0
        have o1 := E9.c1
        rw [hW9] at p0 p1 o0 o1
        have HSC := hide (sameConf_calls f1 g1 f2 g2 u1 k1 u2 k2 x.length y.length x y W9 rfl rfl (by omega) (by omega) (rx8.below hbW9) (ry8.below hbW9) rxd ryd)
        have HXX := hide (fun (W : World) (hW : Below W6.heap.size W6 W) => belOn (unhide HX6) hW)
        have HM1 := hide (fun (W : World) (hW : Below W6.heap.size W6 W) => impl_Meet av nv cv v al nl cl l u1 x.length k1 x u2 y.length k2 y W (unhide HC W (unhide HXX W hW)).2 (unhide HCD W hW))
        have HM2 := hide (fun (W : World) (hW : Below W6.heap.size W6 W) => impl_Meet u1 x.length k1 x u2 y.length k2 y av nv cv v al nl cl l W (unhide HCD W hW) (unhide HC W (unhide HXX W hW)).2)
        have HQU := hide (fun (W : World) (hW : Below W6.heap.size W6 W) => impl_Quorum u1 x.length k1 x u2 y.length k2 y u1 x.length k1 x W (unhide HCD W hW) ⟨(unhide HDD W hW).2.1, rfl, hxl1⟩)
        rw [hm1] at HM1
        rw [hm2] at HM2
        rw [hqa] at HQU
        clear rx8 ry8 hb8 hbW9 E9 hY9 hW9 db9 rxd ryd HR7 hm1 hm2 hqa hcx HX7 HY7
        go_wp2_with fail
        rw [unhide HW9]
        refine (unhide HSC).mono ?_
        rintro e w10 ⟨rfl, hb10⟩
        have hY10 := belOn (unhide HY9) hb10
        have HY10 := hide hY10
        obtain ⟨cb, -⟩ := unhide HC _ (unhide HXX _ hY10)
        obtain ⟨db, -, -⟩ := unhide HDD _ hY10
        have i0 := cb.c0
        have i1 := cb.c1
        have j0 := db.c0
        have j1 := db.c1
        have HN1 := hide (unhide HM1 _ hY10)
        clear hb10 hY10 cb db HSC o0 o1 p0 p1
        go_wp2_with fail
        refine (unhide HN1).mono ?_
        rintro e w11 ⟨rfl, hb11⟩
        have hY11 := belOn (unhide HY10) hb11
        have HY11 := hide hY11
        obtain ⟨cb, -⟩ := unhide HC _ (unhide HXX _ hY11)
        obtain ⟨db, -, -⟩ := unhide HDD _ hY11
        have m0 := cb.c0
        have m1 := cb.c1
        have n0 := db.c0
        have n1 := db.c1
        have HN2 := hide (unhide HM2 _ hY11)
        clear hb11 hY11 cb db HN1 i0 i1 j0 j1
        go_wp2_with fail
        refine (unhide HN2).mono ?_
        rintro e w12 ⟨rfl, hb12⟩
        have hY12 := belOn (unhide HY11) hb12
        have HY12 := hide hY12
        obtain ⟨db, -, -⟩ := unhide HDD _ hY12
        have i0 := db.c0
        have i1 := db.c1
        have HN3 := hide (unhide HQU _ hY12)
        clear hb12 hY12 db HN2 m0 m1 n0 n1
        go_wp2_with fail
        refine (unhide HN3).mono ?_
        rintro e w13 ⟨rfl, hb13⟩
        have HBT := hide (belOn (unhide HB2) (belOn (unhide HX6) (belOn (unhide HY12) hb13)))
        clear hb13 HN3 i0 i1
        go_wp2_with fail
      all_goals
        refine (unhide HDR _ (unhide HBT)).mono ?_
        rintro e w14 ⟨t, rfl, htz, hb14⟩
        have HB14 := hide (belOn (unhide HBT) hb14)
        have HS14 := hide (spec_ReadConf t w14 (by omega))
        have HI14 := hide (fun (W : World) (hW : Below w.heap.size w W) => impl_ReadConf t W (by omega) (unhide HV W hW).1)
        have HBK := hide (fun (h : (rdC numF t.data.toList).2.2 = true) => (show confB (rdC numF t.data.toList).1 (rdC numF t.data.toList).2.1 = true ∧ strL (confL (rdC numF t.data.toList).1 (rdC numF t.data.toList).2.1) = t from by
          obtain ⟨h1, h2⟩ := back_conf numF t.data.toList h
          exact ⟨h1, by rw [h2]; exact ByteArray.ext (by simp [strL])⟩))
        generalize rdC numF t.data.toList = rr at HS14 HI14 HBK
        obtain ⟨x2, y2, b⟩ := rr
        clear hb14
        go_wp2_with fail
        refine (unhide HS14).mono ?_
        rintro e w15 ⟨s1, t1, s2, t2, rfl, hc15⟩
        simp only at hc15
        obtain ⟨W16, hW16⟩ : ∃ W16, W16 = w15.alloc (.cells #[.slice s1 x2.length t1, .slice s2 y2.length t2] 26) := ⟨_, rfl⟩
        have HB16 := hide (show Below w.heap.size w W16 from by rw [hW16]; exact belOn (belOn (unhide HB14) hc15.2.2.2.2) (bel1 _ _))
        have HW16 := hide hW16.symm
        have HI16 := hide (unhide HI14 _ (unhide HB16))
        clear hc15 hW16 HS14 HI14
        go_wp2_with fail
        rw [unhide HW16]
        refine (unhide HI16).mono ?_
        rintro e w17 ⟨f1, g1, f2, g2, rfl, hc17, -⟩
        simp only at hc17
        obtain ⟨rx, ry, -, -, hb17⟩ := hc17
        obtain ⟨W18, hW18⟩ : ∃ W18, W18 = w17.alloc (.cells #[.slice f1 x2.length g1, .slice f2 y2.length g2] 26) := ⟨_, rfl⟩
        have hbW18 : Below w17.heap.size w17 W18 := by rw [hW18]; exact bel1 _ _
        have E18 : CB w17.heap.size (.slice f1 x2.length g1) (.slice f2 y2.length g2) W18 := by rw [hW18]; exact CB.new w17 _ _
        have HB18 := hide (belOn (belOn (unhide HB16) hb17) hbW18)
        have HW18 := hide hW18.symm
        have HEE := hide (fun (W : World) (hW : Below W18.heap.size W18 W) => And.intro (E18.below hW E18.lt) (And.intro ((rx.below hbW18).below hW) ((ry.below hbW18).below hW)))
        clear hb17 hbW18 E18 hW18 rx ry HI16
        cases b with
        | false =>
          go_wp2_with fail
          rw [unhide HW18]
          go_ret
          exact ⟨rfl, unhide HB18⟩
        | true =>
          obtain ⟨hcb, hct⟩ := unhide HBK (by first | rfl | trivial)
          have hfx := cf_facts x2 y2 hcb
          have HCE := hide (fun (W : World) (hW : Below W18.heap.size W18 W) => (show ConfAt W f1 x2.length x2 f2 y2.length y2 from ⟨⟨(unhide HEE W hW).2.1, rfl, by omega⟩, ⟨(unhide HEE W hW).2.2, rfl, by omega⟩⟩))
          have HTX := hide (impl_ConfText f1 x2.length g1 x2 f2 y2.length g2 y2 W18 (unhide HCE _ (Below.refl _ _)))
          have HOK := hide (fun (W : World) (hW : Below W18.heap.size W18 W) => impl_ConfOk f1 x2.length g1 x2 f2 y2.length g2 y2 W (unhide HCE W hW))
          rw [hct] at HTX
          rw [hcb] at HOK
          obtain ⟨eb, -, -⟩ := unhide HEE _ (Below.refl _ _)
          have p0 := eb.c0
          have p1 := eb.c1
          clear hcb hct hfx HBK eb
          go_wp2_with fail
          rw [unhide HW18]
          refine (unhide HTX).mono ?_
          rintro e w19 ⟨rfl, hb19⟩
          obtain ⟨eb, -, -⟩ := unhide HEE _ hb19
          have n0 := eb.c0
          have n1 := eb.c1
          have HB19 := hide (belOn (unhide HB18) hb19)
          have HO19 := hide (unhide HOK _ hb19)
          clear hb19 eb HTX p0 p1
          go_wp2_with fail
          refine (unhide HO19).mono ?_
          rintro e w20 ⟨rfl, hb20⟩
          have HB20 := hide (belOn (unhide HB19) hb20)
          clear hb20
          go_wp2_with fail
          go_ret
          exact ⟨rfl, unhide HB20⟩
    · have d1 : decide (1048576 < (len1 : Int)) = true := by simp; omega
      have HBG := hide (fun W => big_calls a0 len0 cap0 W hl0)
      have HBH := hide (fun W => big_calls a1 len1 cap1 W hl1)
      rw [d0] at HBG
      rw [d1] at HBH
      clear r0 r1 hv hT hl0 hl1 d0 d1 hb0 hb1
      go_enter Tryz.func3, Tryz.ntmps3
      go_wp2_with (first
        | (go_at_call_of 4 len0; refine (unhide HBG _).mono ?_; rintro e w1 ⟨rfl, rfl⟩)
        | (go_at_call_of 4 len1; refine (unhide HBH _).mono ?_; rintro e w1 ⟨rfl, rfl⟩))
      go_ret
      exact ⟨rfl, Below.refl _ _⟩
  · have d0 : decide (1048576 < (len0 : Int)) = true := by simp; omega
    have HBG := hide (fun W => big_calls a0 len0 cap0 W hl0)
    rw [d0] at HBG
    clear r0 r1 hv hT hl0 hl1 d0 hb0
    go_enter Tryz.func3, Tryz.ntmps3
    go_wp2_with (first
      | (go_at_call_of 4 len0; refine (unhide HBG _).mono ?_; rintro e w1 ⟨rfl, rfl⟩))
    go_ret
    exact ⟨rfl, Below.refl _ _⟩
end Go.Proofs.YtmokpgmehaakgaaGreatDoor.fnConfs
