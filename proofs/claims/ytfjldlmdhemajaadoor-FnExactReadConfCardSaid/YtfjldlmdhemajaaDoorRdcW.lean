/- The walk of the law FnExactReadConf. -/
import Derived.Test.YtfjldlmdhemajaaDoorRdcJ
import Derived.Test.YtfjldlmdhemajaaDoorConR
import Derived.Test.YtfjldlmdhemajaaDoorMrkI
import Derived.WalkKit
import Derived.ProofKit
import Derived.Below
set_option linter.unusedVariables false
namespace Go.Proofs.YtfjldlmdhemajaaDoor
open Go.RowKit Plain
namespace Plain
theorem CB.offQ {p : Nat → Prop} {M : Nat} {v l : Value} {w w' : World} (h : CB M v l w) (ho : OnlyP p w w') (hn : ¬ p M) : CB M v l w' := (ho.block M h.lt hn).trans h
theorem rdC_len (N : List UInt8 → Int) (t : List UInt8) : (rdC N t).1.length ≤ 7 ∧ (rdC N t).2.1.length ≤ 7 := by
  unfold rdC
  split
  · rename_i h
    have hc := confL_ok h.1 h.2
    unfold confB at hc
    simp only [Bool.and_eq_true, decide_eq_true_iff] at hc
    exact ⟨hc.2.2.1, hc.2.2.2⟩
  · exact ⟨by decide, by decide⟩
end Plain
end Go.Proofs.YtfjldlmdhemajaaDoor
namespace Go.Proofs.YtfjldlmdhemajaaDoor.fnExactReadConf
open Go.RowKit
open Plain

set_option maxRecDepth 10000 in
set_option maxHeartbeats 8000000 in
theorem walk0 (s : ByteArray) (w : World) (hs : s.size ≤ maxLen) (hv : RdVars w) :
    Calls Tryd.prog 3 #[.string s] w fun e w' => e = .returned (.bool true) ∧ Below w.heap.size w w' := by
  unfold maxLen at hs
  by_cases hbig : 1048576 < s.size
  · go_enter Tryd.func3, Tryd.ntmps3
    go_wp2_with fail
    go_ret
    exact ⟨rfl, Below.refl _ _⟩
  · have HSP := hide (fun (W : World) => spec_ReadConf s W (by omega))
    have HIM := hide (fun (W : World) (hW : Below w.heap.size w W) => impl_ReadConf s W (by omega) (hv.at hW))
    have hlen := rdC_len numF s.data.toList
    generalize rdC numF s.data.toList = R at HSP HIM hlen
    obtain ⟨X, Y, G⟩ := R
    unfold RcPost at HSP
    unfold RcPa at HIM
    simp only at HSP HIM hlen
    obtain ⟨m1, hm1⟩ : ∃ m, X.length = m := ⟨_, rfl⟩
    obtain ⟨m3, hm3⟩ : ∃ m, Y.length = m := ⟨_, rfl⟩
    rw [hm1, hm3] at hlen
    rw [hm1, hm3] at HSP HIM
    have z1 : m1 ≤ 1048576 := by omega
    have z3 : m3 ≤ 1048576 := by omega
    have HCF := hide (fun (W : World) (a b : Option Addr) (h1 : RowAt i64E W a X) (h2 : RowAt i64E W b Y) => (show ConfAt W a m1 X b m3 Y from ⟨⟨h1, hm1, z1⟩, ⟨h2, hm3, z3⟩⟩))
    have hs2 : s.size ≤ 1048576 := by omega
    clear hbig hlen hm1 hm3 hv hs
    go_enter Tryd.func3, Tryd.ntmps3
    go_wp2_with fail
    refine (unhide HSP w).mono ?_
    rintro e w3 ⟨xL, kL, xS, kS, rfl, o1, o2, -, -, hb3⟩
    obtain ⟨Wq, hWq⟩ : ∃ Wq, Wq = w3.alloc (.cells #[.slice xL m1 kL, .slice xS m3 kS] 24) := ⟨_, rfl⟩
    have hbq : Below w3.heap.size w3 Wq := by rw [hWq]; exact bel1 _ _
    have DW := hide (show CB w3.heap.size (.slice xL m1 kL) (.slice xS m3 kS) Wq from by rw [hWq]; exact CB.new _ _ _)
    have HB3 := hide (belOn hb3 hbq)
    have hq3 : w3.heap.size < Wq.heap.size := (unhide DW).lt
    have HX := hide (And.intro (o1.below hbq) (o2.below hbq))
    have HWq := hide hWq.symm
    clear hb3 o1 o2 hWq hbq
    go_wp2_with fail
    rw [unhide HWq]
    refine (unhide HIM Wq (unhide HB3)).mono ?_
    rintro e w6 ⟨yL, jL, yS, jS, rfl, ⟨o1, o2, b1, b2, hb6⟩, ap6⟩
    obtain ⟨Wg, hWg⟩ : ∃ Wg, Wg = w6.alloc (.cells #[.slice yL m1 jL, .slice yS m3 jS] 24) := ⟨_, rfl⟩
    have hbg : Below w6.heap.size w6 Wg := by rw [hWg]; exact bel1 _ _
    have hb6g := belOn hb6 hbg
    have DG := hide (show CB w6.heap.size (.slice yL m1 jL) (.slice yS m3 jS) Wg from by rw [hWg]; exact CB.new _ _ _)
    have HT6 := hide hb6g
    have HV6 := hide (show ∀ g, inC yL yS g → Wq.heap.size ≤ g ∧ g < w6.heap.size from fun g hg => by
      rcases hg with h | h
      · exact b1 g h
      · exact b2 g h)
    have HY6 := hide (And.intro (o1.below hbg) (o2.below hbg))
    have HAY := hide ap6
    have DW6 := hide ((unhide DW).below hb6g (unhide DW).lt)
    have hz6 := hb6g.size
    have hz56 := hb6.size
    have hz6g : w6.heap.size < Wg.heap.size := (unhide DG).lt
    have HWg := hide hWg.symm
    have e0 := (unhide DG).c0
    have e1 := (unhide DG).c1
    have f0 := (unhide DW6).c0
    have f1 := (unhide DW6).c1
    clear hb6 hbg hb6g o1 o2 b1 b2 ap6 DW hWg
    rw [← unhide HWg] at e0 e1 f0 f1
    go_wp2_with fail
    rw [unhide HWg]
    clear e0 e1 f0 f1
    refine (eqConf_calls yL yS xL xS m1 m3 _ _ _ _ X Y _ (unhide HCF _ _ _ (unhide HY6).1 (unhide HY6).2) (unhide HCF _ _ _ ((unhide HX).1.below (unhide HT6)) ((unhide HX).2.below (unhide HT6)))).mono ?_
    rintro e wb ⟨rfl, hbb⟩
    have HTb := hide (belOn (unhide HT6) hbb)
    have HYb := hide (And.intro ((unhide HY6).1.below hbb) ((unhide HY6).2.below hbb))
    have hzb := hbb.size
    have DGb := hide ((unhide DG).below hbb (unhide DG).lt)
    have DWb := hide ((unhide DW6).below hbb (unhide DW6).lt)
    have e0 := (unhide DGb).c0
    have e1 := (unhide DGb).c1
    clear hbb HT6 HY6 DG DW6
    go_wp2_with fail
    clear e0 e1
    refine (markConf_calls yL m1 _ X yS m3 _ Y wb (unhide HCF _ _ _ (unhide HYb).1 (unhide HYb).2) (unhide HAY) (fun g hg => by have := unhide HV6 g hg; omega)).mono ?_
    rintro e wc ⟨rfl, hMc, hoc⟩
    have HTc := hide ((unhide HTb).trans (hoc.below (B := Wq.heap.size) (fun g hg => by have := unhide HV6 g hg; omega) (unhide HTb).size))
    have HKc := hide hMc
    have hzc := hoc.size
    have DGc := hide ((unhide DGb).offQ hoc (fun h2 => by have := (unhide HV6 _ h2).2; omega))
    have DWc := hide ((unhide DWb).offQ hoc (fun h2 => by have := (unhide HV6 _ h2).1; omega))
    have e0 := (unhide DGc).c0
    have e1 := (unhide DGc).c1
    clear hoc hMc HTb HYb DGb DWb
    obtain ⟨K, hK⟩ : ∃ K, 1 + m1 + m3 = K := ⟨_, rfl⟩
    rw [hK]
    have HK := hide hK
    clear hK
    go_wp2_with fail
    clear e0 e1
    refine (heldConf_calls yL m1 _ yS m3 _ wc z1 z3 (unhide HKc)).mono ?_
    rintro e wd ⟨rfl, hbd⟩
    rw [unhide HK]
    have HTd := hide (belOn (unhide HTc) hbd)
    have HKd := hide ((unhide HKc).below hbd)
    have DGd := hide ((unhide DGc).below hbd (unhide DGc).lt)
    have DWd := hide ((unhide DWc).below hbd (unhide DWc).lt)
    clear hbd HTc HKc DGc DWc
    go_wp2_with fail
    refine (unhide HIM wd (belOn (unhide HB3) (unhide HTd))).mono ?_
    rintro e wf ⟨uL, iL, uS, iS, rfl, ⟨o1, o2, -, -, hbf⟩, -⟩
    obtain ⟨Wh, hWh⟩ : ∃ Wh, Wh = wf.alloc (.cells #[.slice uL m1 iL, .slice uS m3 iS] 24) := ⟨_, rfl⟩
    have hbh : Below wf.heap.size wf Wh := by rw [hWh]; exact bel1 _ _
    have hbfh := belOn hbf hbh
    have DH := hide (show CB wf.heap.size (.slice uL m1 iL) (.slice uS m3 iS) Wh from by rw [hWh]; exact CB.new _ _ _)
    have HTf := hide (belOn (unhide HTd) hbfh)
    have HKf := hide ((unhide HKd).below hbfh)
    have DGf := hide ((unhide DGd).below hbfh (unhide DGd).lt)
    have DWf := hide ((unhide DWd).below hbfh (unhide DWd).lt)
    have HU := hide (And.intro (o1.below hbh) (o2.below hbh))
    have HWh := hide hWh.symm
    have e0 := (unhide DH).c0
    have e1 := (unhide DH).c1
    have f0 := (unhide DWf).c0
    have f1 := (unhide DWf).c1
    clear hbf hbh hbfh o1 o2 HTd HKd hWh DGd DWd
    rw [← unhide HWh] at e0 e1 f0 f1
    go_wp2_with fail
    rw [unhide HWh]
    clear e0 e1 f0 f1
    refine (eqConf_calls uL uS xL xS m1 m3 _ _ _ _ X Y _ (unhide HCF _ _ _ (unhide HU).1 (unhide HU).2) (unhide HCF _ _ _ ((unhide HX).1.below (unhide HTf)) ((unhide HX).2.below (unhide HTf)))).mono ?_
    rintro e wg ⟨rfl, hbg⟩
    have HTg := hide (belOn (unhide HTf) hbg)
    have HKg := hide ((unhide HKf).below hbg)
    have DGg := hide ((unhide DGf).below hbg (unhide DGf).lt)
    have e0 := (unhide DGg).c0
    have e1 := (unhide DGg).c1
    clear hbg HTf HKf HU DGf DWf
    go_wp2_with fail
    clear e0 e1
    refine (heldConf_calls yL m1 _ yS m3 _ wg z1 z3 (unhide HKg)).mono ?_
    rintro e wh ⟨rfl, hbh⟩
    rw [unhide HK]
    have HTh := hide (belOn (unhide HTg) hbh)
    clear hbh HTg HKg
    go_wp2_with fail
    go_ret
    exact ⟨rfl, belOn (unhide HB3) (unhide HTh)⟩
end Go.Proofs.YtfjldlmdhemajaaDoor.fnExactReadConf
