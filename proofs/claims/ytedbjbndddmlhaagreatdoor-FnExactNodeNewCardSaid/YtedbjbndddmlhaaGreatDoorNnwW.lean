/- The walk of the law FnExactNodeNew. -/
import Derived.Test.YtedbjbndddmlhaaGreatDoorNnwP
import Derived.Test.YtedbjbndddmlhaaGreatDoorNnwV
import Derived.Test.YtedbjbndddmlhaaGreatDoorCbx
import Derived.Deep.DeepCutAuto
import Derived.Deep.RegionHeld3
import Derived.WalkKit
import Derived.ProofKit
import Derived.Below
set_option linter.unusedVariables false
namespace Go.Proofs.YtedbjbndddmlhaaGreatDoor
open Go.RowKit Plain
namespace Plain
theorem nnF_len (id : Int) (v l : List Int) : (nnF id v l).2.1.length ≤ v.length ∧ (nnF id v l).2.2.1.length ≤ l.length := by
  unfold nnF
  split
  · exact ⟨Nat.le_refl _, Nat.le_refl _⟩
  · exact ⟨Nat.zero_le _, Nat.zero_le _⟩
end Plain
end Go.Proofs.YtedbjbndddmlhaaGreatDoor
namespace Go.Proofs.YtedbjbndddmlhaaGreatDoor.fnExactNodeNew
open Go.RowKit
open Plain

set_option maxRecDepth 10000 in
set_option maxHeartbeats 8000000 in
theorem walk (av : Option Addr) (nv cv : Nat) (v : List Int) (al : Option Addr) (nl cl : Nat) (l : List Int) (id : Int) (w : World) (hv : ArgRow 1 intL goodI w av nv cv v) (hl : ArgRow 1 intL goodI w al nl cl l) (wi : (Lit.int .i64 id).wf = true) :
    Calls Tryz.prog 3 #[.int .i64 id, .agg #[.slice av nv cv, .slice al nl cl]] w fun e w' => e = .returned (.bool true) ∧ Below w.heap.size w w' := by
  obtain ⟨W0, hW0⟩ : ∃ W0, W0 = w.alloc (.cells #[.slice av nv cv, .slice al nl cl] 24) := ⟨_, rfl⟩
  have hb0 : Below w.heap.size w W0 := by rw [hW0]; exact bel1 _ _
  have hlt : w.heap.size < W0.heap.size := by rw [hW0]; simp
  have c0 : W0.cell? ⟨w.heap.size, 0, none⟩ = some (.slice av nv cv) := by rw [hW0]; simp [go_sem]
  have c2 : W0.cell? ⟨w.heap.size, 1, none⟩ = some (.slice al nl cl) := by rw [hW0]; simp [go_sem]
  have HD := hide (fun (W : World) (hW : Below W0.heap.size W0 W) => (show ConfArg w av nv cv v al nl cl l from ⟨hv, hl⟩).below (belOn hb0 hW))
  have HC := hide (fun (W : World) (hW : Below W0.heap.size W0 W) => And.intro (bcl hW hlt c0) (bcl hW hlt c2))
  have HFIN := hide (fun (W : World) (hW : Below W0.heap.size W0 W) => belOn hb0 hW)
  have HW0 := hide hW0.symm
  have lv := hv.le
  have ll := hl.le
  unfold maxLen at lv ll
  have HSZ := hide (szConf_calls av nv cv al nl cl 1048576 W0 (by omega) (by omega) (by decide))
  by_cases hbig : 1048576 < nv + nl
  · rw [purse_no (show ((1048576 : Nat) : Int) < ((nv + nl : Nat) : Int) by omega)] at HSZ
    clear hv hl hb0 hlt hW0 lv ll wi
    go_enter Tryz.func3, Tryz.ntmps3
    go_wp2_with fail
    rw [unhide HW0]
    refine (unhide HSZ).mono ?_
    rintro e w1 ⟨rfl, hb1⟩
    have HB1 := hide (unhide HFIN _ hb1)
    clear hb1
    go_wp2_with fail
    go_ret
    exact ⟨rfl, unhide HB1⟩
  · obtain ⟨r, hr⟩ : ∃ r : Nat, ((1048576 : Nat) : Int) - ((nv + nl : Nat) : Int) = (r : Int) := ⟨1048576 - (nv + nl), by omega⟩
    rw [purse_yes (show ¬ ((1048576 : Nat) : Int) < ((nv + nl : Nat) : Int) by omega), hr] at HSZ
    have bv : nv ≤ 1048576 := by omega
    have bl : nl ≤ 1048576 := by omega
    have HLV := hide hv.len
    have HLL := hide hl.len
    have HTO := hide (fun (W : World) (hW : Below W0.heap.size W0 W) => toConf_calls av nv cv v al nl cl l W (unhide HD _ hW) bv bl)
    have HCO := hide (fun (W : World) (B C g1 g2 : Nat) (h1 : OwnR i64E W B (.slice (some ⟨g1, 0, none⟩) nv nv) v) (h2 : OwnR i64E W C (.slice (some ⟨g2, 0, none⟩) nl nl) l) => (show ConfAt W (some ⟨g1, 0, none⟩) nv v (some ⟨g2, 0, none⟩) nl l from ⟨⟨h1.at, unhide HLV, bv⟩, ⟨h2.at, unhide HLL, bl⟩⟩))
    have HSP := hide (fun (W : World) (p1 p2 : Nat) (h : ConfAt W (some ⟨p1, 0, none⟩) nv v (some ⟨p2, 0, none⟩) nl l) => spec_NodeNew id p1 nv nv v p2 nl nl l W h)
    have HIM := hide (fun (W : World) (p1 p2 : Nat) (h : ConfAt W (some ⟨p1, 0, none⟩) nv v (some ⟨p2, 0, none⟩) nl l) => impl_NodeNew id p1 nv nv v p2 nl nl l W h)
    have hlen := nnF_len id v l
    rw [hv.len, hl.len] at hlen
    generalize nnF id v l = R at HSP HIM hlen
    obtain ⟨I, X, Y, C⟩ := R
    delta SwPost at HSP
    delta NwPost at HIM
    simp only [nnV] at HSP HIM hlen
    obtain ⟨m1, hm1⟩ : ∃ m, X.length = m := ⟨_, rfl⟩
    obtain ⟨m3, hm3⟩ : ∃ m, Y.length = m := ⟨_, rfl⟩
    rw [hm1, hm3] at hlen
    rw [hm1, hm3] at HSP HIM
    have z1 : m1 ≤ 1048576 := by omega
    have z3 : m3 ≤ 1048576 := by omega
    have HCF := hide (fun (W : World) (a b : Option Addr) (h1 : RowAt i64E W a X) (h2 : RowAt i64E W b Y) => (show ConfAt W a m1 X b m3 Y from ⟨⟨h1, hm1, z1⟩, ⟨h2, hm3, z3⟩⟩))
    clear hv hl hb0 hlt hW0 hbig hr c0 c2 lv ll wi hlen hm1 hm3
    go_enter Tryz.func3, Tryz.ntmps3
    go_wp2_with fail
    rw [unhide HW0]
    refine (unhide HSZ).mono ?_
    rintro e w1 ⟨rfl, hb1⟩
    have HB1 := hide hb1
    obtain ⟨q0, q2⟩ := unhide HC _ hb1
    clear hb1
    go_wp2_with fail
    refine (unhide HTO _ (unhide HB1)).mono ?_
    rintro e w2 ⟨g1, g2, rfl, -, o1, o2, hb2⟩
    have HB2 := hide (belOn (unhide HB1) hb2)
    have HA2 := hide (unhide HCO _ _ _ _ _ o1 o2)
    clear hb2 o1 o2 q0 q2
    go_wp2_with fail
    refine (unhide HSP w2 _ _ (unhide HA2)).mono ?_
    rintro e w3 ⟨xL, kL, xS, kS, rfl, o1, o2, -, -, hb3⟩
    obtain ⟨Wq, hWq⟩ : ∃ Wq, Wq = w3.alloc (.cells #[.int .i64 I, .int .i64 0, .int .i64 0, .int .i64 0, .int .i64 0, .slice xL m1 kL, .slice xS m3 kS, .string ⟨#[]⟩, .slice none 0 0, .int .i64 0, .int .i64 0, .int .i64 0, .slice none 0 0, .slice none 0 0] 30) := ⟨_, rfl⟩
    have hbq : Below w3.heap.size w3 Wq := by rw [hWq]; exact bel1 _ _
    have DW := hide (show NnC w3.heap.size I (.slice xL m1 kL) (.slice xS m3 kS) Wq from by rw [hWq]; exact NnC.new _ _ _ _ _)
    have HB3 := hide (belOn (belOn (unhide HB2) hb3) hbq)
    have hq3 : w3.heap.size < Wq.heap.size := (unhide DW).lt
    have HX := hide (And.intro (o1.below hbq) (o2.below hbq))
    have HWq := hide hWq.symm
    obtain ⟨q0, q2⟩ := unhide HC _ (unhide HB3)
    clear hb3 HA2 o1 o2 hWq hbq
    rw [← unhide HWq] at q0 q2
    go_wp2_with fail
    rw [unhide HWq]
    clear q0 q2
    refine (unhide HTO _ (unhide HB3)).mono ?_
    rintro e w4 ⟨g4, g5, rfl, d1, o1, o2, hb4⟩
    obtain ⟨W5, hW5⟩ : ∃ W5, W5 = w4.alloc (.cells #[.slice (some ⟨g4, 0, none⟩) nv nv, .slice (some ⟨g5, 0, none⟩) nl nl] 26) := ⟨_, rfl⟩
    have hb5 : Below w4.heap.size w4 W5 := by rw [hW5]; exact bel1 _ _
    have HT5 := hide (belOn hb4 hb5)
    have hz45 := hb4.size
    have hlt5 : w4.heap.size < W5.heap.size := by rw [hW5]; simp
    have DX := hide (show CB w4.heap.size (.slice (some ⟨g4, 0, none⟩) nv nv) (.slice (some ⟨g5, 0, none⟩) nl nl) W5 from by rw [hW5]; exact CB.new _ _ _)
    have DW5 := hide ((unhide DW).below (belOn hb4 hb5) (unhide DW).lt)
    have HA5 := hide ((unhide HCO _ _ _ _ _ o1 o2).below hb5)
    have hg4 := o1.bl g4 ⟨0, rfl⟩
    have hg5 := o2.bl g5 ⟨0, rfl⟩
    have HAP := hide (show ∀ g, inB (some ⟨g4, 0, none⟩) g → ¬ inB (some ⟨g5, 0, none⟩) g from fun g ha hb => by obtain ⟨o, e⟩ := ha; cases e; obtain ⟨o, e⟩ := hb; cases e; omega)
    have HWN := hide (show ¬ inC (some ⟨g4, 0, none⟩) (some ⟨g5, 0, none⟩) w3.heap.size from fun hg => by rcases hg with ⟨o, e⟩ | ⟨o, e⟩ <;> cases e <;> omega)
    have HING := hide (show ∀ g, inC (some ⟨g4, 0, none⟩) (some ⟨g5, 0, none⟩) g → Wq.heap.size ≤ g ∧ g < W5.heap.size from fun g hg => by rcases hg with ⟨o, e⟩ | ⟨o, e⟩ <;> cases e <;> omega)
    have HW5 := hide hW5.symm
    clear hb4 hb5 o1 o2 hW5 hg4 hg5 d1 DW
    have e0 := (unhide DX).c0
    have e1 := (unhide DX).c1
    go_wp2_with fail
    rw [unhide HW5]
    clear e0 e1
    refine (unhide HIM W5 _ _ (unhide HA5)).mono ?_
    rintro e w6 ⟨yL, jL, yS, jS, rfl, o1, o2, b1, b2, ap6, hb6⟩
    obtain ⟨Wg, hWg⟩ : ∃ Wg, Wg = w6.alloc (.cells #[.int .i64 I, .int .i64 0, .int .i64 0, .int .i64 0, .int .i64 0, .slice yL m1 jL, .slice yS m3 jS, .string ⟨#[]⟩, .slice none 0 0, .int .i64 0, .int .i64 0, .int .i64 0, .slice none 0 0, .slice none 0 0] 30) := ⟨_, rfl⟩
    have hbg : Below w6.heap.size w6 Wg := by rw [hWg]; exact bel1 _ _
    have hb6g := belOn hb6 hbg
    have DG := hide (show NnC w6.heap.size I (.slice yL m1 jL) (.slice yS m3 jS) Wg from by rw [hWg]; exact NnC.new _ _ _ _ _)
    have HT6 := hide (belOn (unhide HT5) hb6g)
    have HV6 := hide (show ∀ g, inC yL yS g → W5.heap.size ≤ g ∧ g < w6.heap.size from fun g hg => by
      rcases hg with h | h
      · exact b1 g h
      · exact b2 g h)
    have HY6 := hide (And.intro (o1.below hbg) (o2.below hbg))
    have HAY := hide ap6
    have HA6 := hide ((unhide HA5).below hb6g)
    have DX6 := hide ((unhide DX).below hb6g (unhide DX).lt)
    have DW6 := hide ((unhide DW5).below hb6g (unhide DW5).lt)
    have hz6 := hb6g.size
    have hz56 := hb6.size
    have hz6g : w6.heap.size < Wg.heap.size := (unhide DG).lt
    have HWg := hide hWg.symm
    obtain ⟨-, e0, e1, e2, e3, e4, e5, e6, e7, e8, e9, e10, e11, e12, e13, -⟩ := unhide DG
    obtain ⟨-, f0, f1, f2, f3, f4, f5, f6, f7, f8, f9, f10, f11, f12, f13, -⟩ := unhide DW6
    clear hb6 hbg hb6g o1 o2 b1 b2 ap6 HT5 HA5 DX DW5 hWg
    rw [← unhide HWg] at e0 e1 e2 e3 e4 e5 e6 e7 e8 e9 e10 e11 e12 e13 f0 f1 f2 f3 f4 f5 f6 f7 f8 f9 f10 f11 f12 f13
    go_wp2_with fail
    rw [unhide HWg]
    clear e0 e1 e2 e3 e4 e5 e6 e7 e8 e9 e10 e11 e12 e13 f0 f1 f2 f3 f4 f5 f6 f7 f8 f9 f10 f11 f12 f13
    refine (eqNode_calls I yL yS xL xS m1 m3 _ _ _ _ X Y _ (unhide HCF _ _ _ (unhide HY6).1 (unhide HY6).2) (unhide HCF _ _ _ ((unhide HX).1.below (unhide HT6)) ((unhide HX).2.below (unhide HT6)))).mono ?_
    rintro e w7 ⟨rfl, hb7⟩
    have HT7 := hide (belOn (unhide HT6) hb7)
    have DG7 := hide ((unhide DG).below hb7 (unhide DG).lt)
    have DX7 := hide ((unhide DX6).below hb7 (unhide DX6).lt)
    have DW7 := hide ((unhide DW6).below hb7 (unhide DW6).lt)
    have HA7 := hide ((unhide HA6).below hb7)
    have HYY := hide (And.intro ((unhide HY6).1.below hb7) ((unhide HY6).2.below hb7))
    have hz7 := hb7.size
    obtain ⟨q0, q2⟩ := unhide HC _ (belOn (unhide HB3) (unhide HT7))
    have p0 := (unhide DX7).c0
    have p2 := (unhide DX7).c1
    have l1 : w.heap.size < w7.heap.size := lt_of_cell q0
    have l2 : w4.heap.size < w7.heap.size := lt_of_cell p0
    have HT8 := hide (unhide HTO w7.drew (belDrew (belOn (unhide HB3) (unhide HT7))))
    clear hb7 HT6 HA6 HY6 DG DX6 DW6
    go_wp2_with fail
    go_cut [49] (fun s49 wx => s49 = .bool false ∧ Hid (Below w7.heap.size w7 wx))
    case first =>
      go_region_with (first
        | (go_at_call 6; refine (unhide HT8).mono ?_; rintro e w8 ⟨g7, g8, rfl, -, o1, o2, hb8⟩; have s0 := bcl (bOfDrew hb8) l1 q0; have s2 := bcl (bOfDrew hb8) l1 q2; have t0 := bcl (bOfDrew hb8) l2 p0; have t2 := bcl (bOfDrew hb8) l2 p2)
        | (go_at_call 9; refine (eqConf_calls _ _ _ _ nv nl _ _ _ _ v l _ ((unhide HA7).below (bOfDrew hb8)) (unhide HCO _ _ _ _ _ o1 o2)).mono ?_; rintro e w9 ⟨rfl, hb9⟩))
      all_goals (try go_wp2_with fail)
      all_goals go_meet
      all_goals exact ⟨rfl, hide (belOn (bOfDrew hb8) hb9)⟩
    case rest =>
    obtain ⟨w9, rfl⟩ : ∃ w9, w9 = wc := ⟨_, rfl⟩
    obtain ⟨rfl, HD9⟩ := hcut
    clear q0 q2 p0 p2
    have HT9 := hide (belOn (unhide HT7) (unhide HD9))
    have DG9 := hide ((unhide DG7).below (unhide HD9) (unhide DG7).lt)
    have DX9 := hide ((unhide DX7).below (unhide HD9) (unhide DX7).lt)
    have DW9 := hide ((unhide DW7).below (unhide HD9) (unhide DW7).lt)
    have HA9 := hide ((unhide HA7).below (unhide HD9))
    have HY9 := hide (And.intro ((unhide HYY).1.below (unhide HD9)) ((unhide HYY).2.below (unhide HD9)))
    have hz9 := (unhide HD9).size
    have p0 := (unhide DX9).c0
    have p2 := (unhide DX9).c1
    clear HYY
    go_wp2_with fail
    clear p0 p2
    refine (markConf_calls _ nv nv v _ nl nl l w9 (unhide HA9) (unhide HAP) (fun g hg => by have := unhide HING g hg; omega)).mono ?_
    rintro e wa ⟨rfl, -, hoa⟩
    have HTa := hide ((unhide HT9).trans (hoa.below (B := Wq.heap.size) (fun g hg => (unhide HING g hg).1) (unhide HT9).size))
    have HYa := hide (show RowAt i64E wa yL X ∧ RowAt i64E wa yS Y from ⟨(unhide HY9).1.offP hoa (fun g h h2 => by have := (unhide HV6 g (.inl h)).1; have := (unhide HING g h2).2; omega), (unhide HY9).2.offP hoa (fun g h h2 => by have := (unhide HV6 g (.inr h)).1; have := (unhide HING g h2).2; omega)⟩)
    have hza := hoa.size
    obtain ⟨M, hM⟩ : ∃ M, 1 + nv + nl = M := ⟨_, rfl⟩
    rw [hM]
    have DGa := hide ((unhide DG9).offP hoa (fun h2 => by have := (unhide HING _ h2).2; omega))
    have DWa := hide ((unhide DW9).offP hoa (unhide HWN))
    obtain ⟨-, e0, e1, e2, e3, e4, e5, e6, e7, e8, e9, e10, e11, e12, e13, -⟩ := unhide DGa
    obtain ⟨-, f0, f1, f2, f3, f4, f5, f6, f7, f8, f9, f10, f11, f12, f13, -⟩ := unhide DWa
    clear hoa hM HT9 HA9 HY9 DG9 DX9 DW9 DG7 DX7 DW7
    go_wp2_with fail
    clear e0 e1 e2 e3 e4 e5 e6 e7 e8 e9 e10 e11 e12 e13 f0 f1 f2 f3 f4 f5 f6 f7 f8 f9 f10 f11 f12 f13
    refine (eqNode_calls I yL yS xL xS m1 m3 _ _ _ _ X Y _ (unhide HCF _ _ _ (unhide HYa).1 (unhide HYa).2) (unhide HCF _ _ _ ((unhide HX).1.below (unhide HTa)) ((unhide HX).2.below (unhide HTa)))).mono ?_
    rintro e wb ⟨rfl, hbb⟩
    have HTb := hide (belOn (unhide HTa) hbb)
    have HYb := hide (And.intro ((unhide HYa).1.below hbb) ((unhide HYa).2.below hbb))
    have hzb := hbb.size
    have DGb := hide ((unhide DGa).below hbb (unhide DGa).lt)
    have DWb := hide ((unhide DWa).below hbb (unhide DWa).lt)
    obtain ⟨-, e0, e1, e2, e3, e4, e5, e6, e7, e8, e9, e10, e11, e12, e13, -⟩ := unhide DGb
    clear hbb HTa HYa DGa DWa
    go_wp2_with fail
    clear e0 e1 e2 e3 e4 e5 e6 e7 e8 e9 e10 e11 e12 e13
    refine (markNode_calls I yL m1 _ X yS m3 _ Y wb (unhide HCF _ _ _ (unhide HYb).1 (unhide HYb).2) (unhide HAY) (fun g hg => by have := unhide HV6 g hg; omega)).mono ?_
    rintro e wc ⟨rfl, hMc, hoc⟩
    have HTc := hide ((unhide HTb).trans (hoc.below (B := Wq.heap.size) (fun g hg => by have := unhide HV6 g hg; omega) (unhide HTb).size))
    have HKc := hide hMc
    have hzc := hoc.size
    have DGc := hide ((unhide DGb).offP hoc (fun h2 => by have := (unhide HV6 _ h2).2; omega))
    have DWc := hide ((unhide DWb).offP hoc (fun h2 => by have := (unhide HV6 _ h2).1; omega))
    obtain ⟨-, e0, e1, e2, e3, e4, e5, e6, e7, e8, e9, e10, e11, e12, e13, -⟩ := unhide DGc
    clear hoc hMc HTb HYb DGb DWb
    obtain ⟨K, hK⟩ : ∃ K, 1 + m1 + m3 = K := ⟨_, rfl⟩
    rw [hK]
    have HK := hide hK
    clear hK
    go_wp2_with fail
    clear e0 e1 e2 e3 e4 e5 e6 e7 e8 e9 e10 e11 e12 e13
    refine (heldNode_calls I yL m1 _ yS m3 _ wc z1 z3 (unhide HKc)).mono ?_
    rintro e wd ⟨rfl, hbd⟩
    rw [unhide HK]
    have HTd := hide (belOn (unhide HTc) hbd)
    have HKd := hide ((unhide HKc).below hbd)
    have DGd := hide ((unhide DGc).below hbd (unhide DGc).lt)
    have DWd := hide ((unhide DWc).below hbd (unhide DWc).lt)
    clear hbd HTc HKc DGc DWc
    obtain ⟨q0, q2⟩ := unhide HC _ (belOn (unhide HB3) (unhide HTd))
    go_wp2_with fail
    refine (unhide HTO _ (belOn (unhide HB3) (unhide HTd))).mono ?_
    rintro e we ⟨g9, g10, rfl, -, o1, o2, hbe⟩
    have HTe := hide (belOn (unhide HTd) hbe)
    have HKe := hide ((unhide HKd).below hbe)
    have HAe := hide (unhide HCO _ _ _ _ _ o1 o2)
    have DGe := hide ((unhide DGd).below hbe (unhide DGd).lt)
    have DWe := hide ((unhide DWd).below hbe (unhide DWd).lt)
    clear hbe o1 o2 q0 q2 HTd HKd DGd DWd
    go_wp2_with fail
    refine (unhide HIM we _ _ (unhide HAe)).mono ?_
    rintro e wf ⟨uL, iL, uS, iS, rfl, o1, o2, -, -, -, hbf⟩
    obtain ⟨Wh, hWh⟩ : ∃ Wh, Wh = wf.alloc (.cells #[.int .i64 I, .int .i64 0, .int .i64 0, .int .i64 0, .int .i64 0, .slice uL m1 iL, .slice uS m3 iS, .string ⟨#[]⟩, .slice none 0 0, .int .i64 0, .int .i64 0, .int .i64 0, .slice none 0 0, .slice none 0 0] 30) := ⟨_, rfl⟩
    have hbh : Below wf.heap.size wf Wh := by rw [hWh]; exact bel1 _ _
    have hbfh := belOn hbf hbh
    have DH := hide (show NnC wf.heap.size I (.slice uL m1 iL) (.slice uS m3 iS) Wh from by rw [hWh]; exact NnC.new _ _ _ _ _)
    have HTf := hide (belOn (unhide HTe) hbfh)
    have HKf := hide ((unhide HKe).below hbfh)
    have DGf := hide ((unhide DGe).below hbfh (unhide DGe).lt)
    have DWf := hide ((unhide DWe).below hbfh (unhide DWe).lt)
    have HU := hide (And.intro (o1.below hbh) (o2.below hbh))
    have HWh := hide hWh.symm
    obtain ⟨-, e0, e1, e2, e3, e4, e5, e6, e7, e8, e9, e10, e11, e12, e13, -⟩ := unhide DH
    obtain ⟨-, f0, f1, f2, f3, f4, f5, f6, f7, f8, f9, f10, f11, f12, f13, -⟩ := unhide DWf
    clear hbf hbh hbfh o1 o2 HTe HKe HAe hWh DGe DWe
    rw [← unhide HWh] at e0 e1 e2 e3 e4 e5 e6 e7 e8 e9 e10 e11 e12 e13 f0 f1 f2 f3 f4 f5 f6 f7 f8 f9 f10 f11 f12 f13
    go_wp2_with fail
    rw [unhide HWh]
    clear e0 e1 e2 e3 e4 e5 e6 e7 e8 e9 e10 e11 e12 e13 f0 f1 f2 f3 f4 f5 f6 f7 f8 f9 f10 f11 f12 f13
    refine (eqNode_calls I uL uS xL xS m1 m3 _ _ _ _ X Y _ (unhide HCF _ _ _ (unhide HU).1 (unhide HU).2) (unhide HCF _ _ _ ((unhide HX).1.below (unhide HTf)) ((unhide HX).2.below (unhide HTf)))).mono ?_
    rintro e wg ⟨rfl, hbg⟩
    have HTg := hide (belOn (unhide HTf) hbg)
    have HKg := hide ((unhide HKf).below hbg)
    have DGg := hide ((unhide DGf).below hbg (unhide DGf).lt)
    obtain ⟨-, e0, e1, e2, e3, e4, e5, e6, e7, e8, e9, e10, e11, e12, e13, -⟩ := unhide DGg
    clear hbg HTf HKf HU DGf DWf
    go_wp2_with fail
    clear e0 e1 e2 e3 e4 e5 e6 e7 e8 e9 e10 e11 e12 e13
    refine (heldNode_calls I yL m1 _ yS m3 _ wg z1 z3 (unhide HKg)).mono ?_
    rintro e wh ⟨rfl, hbh⟩
    rw [unhide HK]
    have HTh := hide (belOn (unhide HTg) hbh)
    clear hbh HTg HKg
    go_wp2_with fail
    go_ret
    exact ⟨rfl, unhide HFIN _ (belOn (unhide HB3) (unhide HTh))⟩
end Go.Proofs.YtedbjbndddmlhaaGreatDoor.fnExactNodeNew
