/- The walk of the law FnExactHolders. -/
import Derived.Test.YtbcfejplaffbnaaDoorHldJ
import Derived.Test.YtbcfejplaffbnaaDoorRzD
import Derived.WalkKit
import Derived.ProofKit
import Derived.Below
set_option linter.unusedVariables false
namespace Go.Proofs.YtbcfejplaffbnaaDoor.fnExactHolders
open Go.RowKit
open Plain

set_option maxRecDepth 10000 in
set_option maxHeartbeats 4000000 in
theorem walk0 (d : ByteArray) (a : Option Addr) (n c : Nat) (ls : List Int) (k : Int) (w : World) (wd : d.size ≤ maxLen) (hv : ArgRow 1 intL goodI w a n c ls) (wk : (Lit.int .i64 k).wf = true) (hK : KAt w) (hT : TzAt w) :
    Calls Tryd.prog 4 #[.string d, .slice a n c, .int .i64 k] w fun e w' => e = .returned (.bool true) ∧ Below w.heap.size w w' := by
  have h0 : 1 < w.heap.size := lt_of_cell (hK 0 (by omega))
  have lv := hv.le
  unfold maxLen at lv wd
  by_cases hbig : 1048576 < d.size
  · clear hv hK
    go_enter Tryd.func4, Tryd.ntmps4
    go_wp2_with fail
    go_ret
    exact ⟨rfl, Below.refl _ _⟩
  by_cases hbig2 : 1048576 < n
  · clear hv hK
    go_enter Tryd.func4, Tryd.ntmps4
    go_wp2_with fail
    go_ret
    exact ⟨rfl, Below.refl _ _⟩
  have hn : n ≤ 1048576 := by omega
  have HTO := hide (fun (W : World) (hW : Below w.heap.size w W) => toInt64S_calls a n c ls W hv.len hn (hv.row.below hW))
  have HIA := hide (fun (W : World) (B g : Nat) (h : OwnR i64E W B (.slice (some ⟨g, 0, none⟩) n n) ls) => (show IntsAt W (some ⟨g, 0, none⟩) n ls from ⟨h.at, hv.len, hn⟩))
  have HSP := hide (fun (W : World) (g : Nat) (h : IntsAt W (some ⟨g, 0, none⟩) n ls) => spec_Holders d (some ⟨g, 0, none⟩) n n ls k W h (by omega))
  have HIM := hide (fun (W : World) (hW : Below w.heap.size w W) (g : Nat) (h : IntsAt W (some ⟨g, 0, none⟩) n ls) => impl_Holders d (some ⟨g, 0, none⟩) n n ls k W h (by omega) (hK.below hW h0) (hT.below hW hT.2))
  have HEA := hide (fun (W : World) (g g' : Nat) (h : RowAt i64E W (some ⟨g, 0, none⟩) ls) (h' : RowAt i64E W (some ⟨g', 0, none⟩) ls) => eqInt64S_calls (some ⟨g, 0, none⟩) (some ⟨g', 0, none⟩) n n n ls W hv.len (by omega) h h')
  have HMA := hide (fun (W : World) (g : Nat) (h : RowAt i64E W (some ⟨g, 0, none⟩) ls) => markInt64S_calls 1 (some ⟨g, 0, none⟩) n n ls W (by decide) hv.len (by omega) h)
  have hRl : (hldL d ls k).length ≤ 1048576 := by have := hldL_len d ls k; have := hv.len; omega
  generalize hldL d ls k = R at HSP HIM hRl
  generalize hldB d ls k = b at HSP HIM
  obtain ⟨m, hm⟩ : ∃ m, R.length = m := ⟨_, rfl⟩
  rw [hm] at hRl
  have HFO := hide (fun (W : World) (B : Nat) (v : Value) (h : OwnR i64E W B v R) => (show ∃ x y, v = .slice x m y from by
    obtain ⟨x, y, e⟩ := h.form
    exact ⟨x, y, by rw [e, hm]⟩))
  have HEQ := hide (fun (W : World) (x y : Option Addr) (cx cy : Nat) (h : RowAt i64E W x R) (h' : RowAt i64E W y R) => eqInt64S_calls x y cx cy m R W hm (by omega) h h')
  have HMK := hide (fun (W : World) (x : Option Addr) (cx : Nat) (h : RowAt i64E W x R) => markInt64S_calls 1 x cx m R W (by decide) hm (by omega) h)
  have HHE := hide (fun (W : World) (x : Option Addr) (cx : Nat) (h : RowAt i64E W x (mkI 1 m)) => heldInt64S_calls 1 x cx m W (by decide) (by omega) h)
  obtain ⟨M, hM⟩ : ∃ M, 1 + m = M := ⟨_, rfl⟩
  rw [hM] at HMK HHE
  obtain ⟨M0, hM0⟩ : ∃ M0, 1 + n = M0 := ⟨_, rfl⟩
  rw [hM0] at HMA
  have HTR := hide hm
  clear hv hK hm hM hM0 lv wd hT wk
  go_enter Tryd.func4, Tryd.ntmps4
  go_wp2_with fail
  refine (unhide HTO w (Below.refl _ _)).mono ?_
  rintro e w1 ⟨g1, rfl, o1, hb1⟩
  have HB1 := hide hb1
  have HA1 := hide (unhide HIA _ _ _ o1)
  clear hb1 o1
  go_wp2_with fail
  refine (unhide HSP w1 g1 (unhide HA1)).mono ?_
  rintro e w2 ⟨vS, rfl, oS, hb2⟩
  obtain ⟨aS, cS, rfl⟩ := unhide HFO _ _ _ oS
  have HB2 := hide (belOnD (unhide HB1) hb2)
  have HRS := hide oS.at
  have HBS := hide oS.bl
  clear oS hb2 HA1
  go_wp2_with fail
  refine (unhide HTO w2 (unhide HB2)).mono ?_
  rintro e w3 ⟨g3, rfl, o3, hb3⟩
  have HB3 := hide (belOnD (unhide HB2) hb3)
  have HA3 := hide (unhide HIA _ _ _ o3)
  have HR3 := hide o3.at
  have hg3 := o3.bl g3 ⟨0, rfl⟩
  have HRS3 := hide ((unhide HRS).below hb3)
  clear o3 hb3
  go_wp2_with fail
  refine (unhide HIM w3 (unhide HB3) g3 (unhide HA3)).mono ?_
  rintro e w4 ⟨vI, rfl, oI, hb4⟩
  obtain ⟨aI, cI, rfl⟩ := unhide HFO _ _ _ oI
  have HB4 := hide (belOnD (unhide HB3) hb4)
  have HRI := hide oI.at
  have HBI := hide oI.bl
  have HR4 := hide ((unhide HR3).below hb4)
  have HRS4 := hide ((unhide HRS3).below hb4)
  have hz4 := hb4.size
  clear oI hb4 HRS3 HRS HA3
  go_wp2_with fail
  refine (unhide HEQ w4 aI aS cI cS (unhide HRI) (unhide HRS4)).mono ?_
  rintro e w5 ⟨rfl, hb5⟩
  have HB5 := hide (belOnD (unhide HB4) hb5)
  have HR5 := hide ((unhide HR4).below hb5)
  have HRI5 := hide ((unhide HRI).below hb5)
  have HRS5 := hide ((unhide HRS4).below hb5)
  have hz5 := hb5.size
  clear hb5 HR4 HRI HRS4
  go_wp2_with fail
  refine (unhide HTO w5 (unhide HB5)).mono ?_
  rintro e w6 ⟨g6, rfl, o6, hb6⟩
  have HB6 := hide (belOnD (unhide HB5) hb6)
  have HR6 := hide ((unhide HR5).below hb6)
  have HRI6 := hide ((unhide HRI5).below hb6)
  have HRS6 := hide ((unhide HRS5).below hb6)
  have HX6 := hide o6.at
  have hz6 := hb6.size
  clear hb6 o6 HR5 HRI5 HRS5
  go_wp2_with fail
  refine (unhide HEA w6 g3 g6 (unhide HR6) (unhide HX6)).mono ?_
  rintro e w7 ⟨rfl, hb7⟩
  have HB7 := hide (belOnD (unhide HB6) hb7)
  have HR7 := hide ((unhide HR6).below hb7)
  have HRI7 := hide ((unhide HRI6).below hb7)
  have HRS7 := hide ((unhide HRS6).below hb7)
  have hz7 := hb7.size
  clear hb7 HR6 HRI6 HRS6 HX6
  have hz2 := (unhide HB2).size
  go_wp2_with fail
  refine (unhide HMA w7 g3 (unhide HR7)).mono ?_
  rintro e w8 ⟨rfl, -, hoa⟩
  have hpa := OnlyP.row (p := inB (some ⟨g3, 0, none⟩)) hoa fun g o e => ⟨o, e⟩
  have HB8 := hide ((unhide HB7).trans (hpa.below (B := w.heap.size) (fun g hg => by obtain ⟨o, e⟩ := hg; cases e; omega) (unhide HB7).size))
  have HRI8 := hide ((unhide HRI7).offP hpa fun g h h2 => by have := unhide HBI g h; obtain ⟨o, e⟩ := h2; cases e; omega)
  have HRS8 := hide ((unhide HRS7).offP hpa fun g h h2 => by have := unhide HBS g h; obtain ⟨o, e⟩ := h2; cases e; omega)
  have hz8 := hoa.size
  clear hoa hpa HR7 HRI7 HRS7
  go_wp2_with fail
  refine (unhide HEQ w8 aI aS cI cS (unhide HRI8) (unhide HRS8)).mono ?_
  rintro e w9 ⟨rfl, hb9⟩
  have HB9 := hide (belOnD (unhide HB8) hb9)
  have HRI9 := hide ((unhide HRI8).below hb9)
  have HRS9 := hide ((unhide HRS8).below hb9)
  have hz9 := hb9.size
  clear hb9 HRI8 HRS8
  go_wp2_with fail
  refine (unhide HMK w9 aI cI (unhide HRI9)).mono ?_
  rintro e wa ⟨rfl, hmk, hob⟩
  have hpb := OnlyP.row (p := inB aI) hob fun g o e => ⟨o, e⟩
  have HBa := hide ((unhide HB9).trans (hpb.below (B := w.heap.size) (fun g hg => by have := unhide HBI g hg; have := (unhide HB3).size; omega) (unhide HB9).size))
  have HKa := hide hmk
  have HRSa := hide ((unhide HRS9).offP hpb fun g h h2 => by have := unhide HBS g h; have := unhide HBI g h2; omega)
  clear hob hpb hmk HRI9 HRS9
  go_wp2_with fail
  refine (unhide HHE wa aI cI (unhide HKa)).mono ?_
  rintro e wb ⟨rfl, hbb⟩
  have HBb := hide (belOnD (unhide HBa) hbb)
  have HKb := hide ((unhide HKa).below hbb)
  have HRSb := hide ((unhide HRSa).below hbb)
  clear hbb HKa HRSa
  go_wp2_with fail
  refine (unhide HTO wb (unhide HBb)).mono ?_
  rintro e wc ⟨gc, rfl, oc, hbc⟩
  have HBc := hide (belOnD (unhide HBb) hbc)
  have HAc := hide (unhide HIA _ _ _ oc)
  have HKc := hide ((unhide HKb).below hbc)
  have HRSc := hide ((unhide HRSb).below hbc)
  clear hbc oc HKb HRSb
  go_wp2_with fail
  refine (unhide HIM wc (unhide HBc) gc (unhide HAc)).mono ?_
  rintro e wd ⟨vJ, rfl, oJ, hbd⟩
  obtain ⟨aJ, cJ, rfl⟩ := unhide HFO _ _ _ oJ
  have HBd := hide (belOnD (unhide HBc) hbd)
  have HKd := hide ((unhide HKc).below hbd)
  have HRSd := hide ((unhide HRSc).below hbd)
  have HRJ := hide oJ.at
  clear hbd oJ HKc HRSc HAc
  go_wp2_with fail
  refine (unhide HEQ wd aJ aS cJ cS (unhide HRJ) (unhide HRSd)).mono ?_
  rintro e we ⟨rfl, hbe⟩
  have HBe := hide (belOnD (unhide HBd) hbe)
  have HKe := hide ((unhide HKd).below hbe)
  clear hbe HKd HRSd HRJ
  go_wp2_with fail
  refine (unhide HHE we aI cI (unhide HKe)).mono ?_
  rintro e wf ⟨rfl, hbf⟩
  have HBf := hide (belOnD (unhide HBe) hbf)
  clear hbf HKe
  go_wp2_with fail
  go_ret
  exact ⟨rfl, unhide HBf⟩
end Go.Proofs.YtbcfejplaffbnaaDoor.fnExactHolders
