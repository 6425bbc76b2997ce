/- The walk of the law FnExactLoads. -/
import Derived.Test.YtbcfejplaffbnaaDoorLdsI
import Derived.Test.YtbcfejplaffbnaaDoorRzD
import Derived.WalkKit
import Derived.ProofKit
import Derived.Below
set_option linter.unusedVariables false
namespace Go.Proofs.YtbcfejplaffbnaaDoor.fnExactLoads
open Go.RowKit
open Plain

set_option maxRecDepth 10000 in
set_option maxHeartbeats 8000000 in
theorem walk0 (ad : Option Addr) (nd cd : Nat) (ds : List ByteArray) (a : Option Addr) (n c : Nat) (ls : List Int) (k : Int) (w : World) (hp : StrsRow w ad nd cd ds) (hv : ArgRow 1 intL goodI w a n c ls) (wk : (Lit.int .i64 k).wf = true) (hK : KAt w) :
    Calls Tryd.prog 5 #[.slice ad nd cd, .slice a n c, .int .i64 k] w fun e w' => e = .returned (.bool true) ∧ Below w.heap.size w w' := by
  have h0 : 1 < w.heap.size := lt_of_cell (hK 0 (by omega))
  have lv := hv.le
  unfold maxLen at lv
  by_cases hbig2 : 1048576 < n
  · clear hv hK hp
    go_enter Tryd.func5, Tryd.ntmps5
    go_wp2_with fail
    go_ret
    exact ⟨rfl, Below.refl _ _⟩
  obtain ⟨hn, hn2, hs, hr⟩ := hp
  unfold maxLen at hn2 hs
  have HSZ := hide (szStringS_calls ad nd cd ds 1048576 w hn (by omega) (fun l hl => by have := hs l hl; omega) (by omega) (by omega) hr)
  unfold szL at HSZ
  rw [hn] at HSZ
  by_cases hbig : (1048576 : Int) < (nd : Int) + sumZ ds
  · rw [if_pos hbig] at HSZ
    clear hn hn2 hs hr hbig hv hK
    go_enter Tryd.func5, Tryd.ntmps5
    go_wp2_with fail
    refine (unhide HSZ).mono ?_
    rintro e w1 ⟨rfl, hb1⟩
    have HB1 := hide hb1
    clear hb1
    go_wp2_with fail
    go_ret
    exact ⟨rfl, unhide HB1⟩
  rw [if_neg hbig] at HSZ
  obtain ⟨r, hr2⟩ : ∃ r : Nat, (1048576 : Int) - ((nd : Int) + sumZ ds) = (r : Int) := ⟨1048576 - (nd + sumZ ds), by omega⟩
  rw [hr2] at HSZ
  have hz : ∀ s ∈ ds, s.size ≤ 1048576 := fun s hs => by have := sumZ_mem ds s hs; omega
  have hnd : nd ≤ 1048576 := by omega
  have hni : n ≤ 1048576 := by omega
  have HTS := hide (fun (W : World) (hW : Below w.heap.size w W) => toStringS_calls ad nd cd ds W hn hnd (hr.below hW))
  have HTO := hide (fun (W : World) (hW : Below w.heap.size w W) => toInt64S_calls a n c ls W hv.len hni (hv.row.below hW))
  have HSA := hide (fun (W : World) (B g : Nat) (h : OwnR strE W B (.slice (some ⟨g, 0, none⟩) nd nd) ds) => (show TxtsAt W (some ⟨g, 0, none⟩) nd ds from ⟨h.at, hn, hnd, fun s hs => by have := hz s hs; omega⟩))
  have HIA := hide (fun (W : World) (B g : Nat) (h : OwnR i64E W B (.slice (some ⟨g, 0, none⟩) n n) ls) => (show IntsAt W (some ⟨g, 0, none⟩) n ls from ⟨h.at, hv.len, hni⟩))
  have HSP := hide (fun (W : World) (g g' : Nat) (h : TxtsAt W (some ⟨g, 0, none⟩) nd ds) (h' : IntsAt W (some ⟨g', 0, none⟩) n ls) => spec_Loads (some ⟨g, 0, none⟩) nd nd ds (some ⟨g', 0, none⟩) n n ls k W h h')
  have HIM := hide (fun (W : World) (hW : Below w.heap.size w W) (g g' : Nat) (h : TxtsAt W (some ⟨g, 0, none⟩) nd ds) (h' : IntsAt W (some ⟨g', 0, none⟩) n ls) => impl_Loads (some ⟨g, 0, none⟩) nd nd ds (some ⟨g', 0, none⟩) n n ls k W h h' (hK.below hW h0))
  have HES := hide (fun (W : World) (g g' : Nat) (h : RowAt strE W (some ⟨g, 0, none⟩) ds) (h' : RowAt strE W (some ⟨g', 0, none⟩) ds) => eqStringS_calls (some ⟨g, 0, none⟩) (some ⟨g', 0, none⟩) nd nd nd ds W hn (by omega) h.strs h'.strs)
  have HEA := hide (fun (W : World) (g g' : Nat) (h : RowAt i64E W (some ⟨g, 0, none⟩) ls) (h' : RowAt i64E W (some ⟨g', 0, none⟩) ls) => eqInt64S_calls (some ⟨g, 0, none⟩) (some ⟨g', 0, none⟩) n n n ls W hv.len (by omega) h h')
  have HMS := hide (fun (W : World) (g : Nat) (h : RowAt strE W (some ⟨g, 0, none⟩) ds) => markStringS_calls 1 (some ⟨g, 0, none⟩) nd nd ds W (by decide) (by decide) hn (by omega) h)
  obtain ⟨M0, hM0⟩ : ∃ M0, 1 + nd = M0 := ⟨_, rfl⟩
  have HMA := hide (fun (W : World) (g : Nat) (h : RowAt i64E W (some ⟨g, 0, none⟩) ls) => markInt64S_calls M0 (some ⟨g, 0, none⟩) n n ls W (by omega) hv.len (by omega) h)
  rw [hM0] at HMS
  obtain ⟨M1, hM1⟩ : ∃ M1, M0 + n = M1 := ⟨_, rfl⟩
  rw [hM1] at HMA
  have hRl : (ldL ds ls k).length ≤ 1048576 := by have := ldL_len ds ls k; have := hv.len; omega
  generalize ldL ds ls k = R at HSP HIM hRl
  generalize ldB ds ls k = b at HSP HIM
  obtain ⟨m, hm⟩ : ∃ m, R.length = m := ⟨_, rfl⟩
  rw [hm] at hRl
  have HFO := hide (fun (W : World) (B : Nat) (v : Value) (h : OwnR i64E W B v R) => (show ∃ x y, v = .slice x m y from by
    obtain ⟨x, y, e⟩ := h.form
    exact ⟨x, y, by rw [e, hm]⟩))
  have HEQ := hide (fun (W : World) (x y : Option Addr) (cx cy : Nat) (h : RowAt i64E W x R) (h' : RowAt i64E W y R) => eqInt64S_calls x y cx cy m R W hm (by omega) h h')
  have HMK := hide (fun (W : World) (x : Option Addr) (cx : Nat) (h : RowAt i64E W x R) => markInt64S_calls 1 x cx m R W (by decide) hm (by omega) h)
  have HHE := hide (fun (W : World) (x : Option Addr) (cx : Nat) (h : RowAt i64E W x (mkI 1 m)) => heldInt64S_calls 1 x cx m W (by decide) (by omega) h)
  obtain ⟨M, hM⟩ : ∃ M, 1 + m = M := ⟨_, rfl⟩
  rw [hM] at HMK HHE
  clear hv hK hm hM hM0 hM1 lv wk hn hn2 hs hr hbig hr2 hz
  go_enter Tryd.func5, Tryd.ntmps5
  go_wp2_with fail
  refine (unhide HSZ).mono ?_
  rintro e w1 ⟨rfl, hb1⟩
  have HB1 := hide hb1
  clear hb1 HSZ
  go_wp2_with fail
  refine (unhide HTS w1 (unhide HB1)).mono ?_
  rintro e w2 ⟨gs2, rfl, o2, hb2⟩
  have HB2 := hide (belOnD (unhide HB1) hb2)
  have HT2 := hide (unhide HSA _ _ _ o2)
  clear o2 hb2
  go_wp2_with fail
  refine (unhide HTO w2 (unhide HB2)).mono ?_
  rintro e w3 ⟨gi3, rfl, o3, hb3⟩
  have HB3 := hide (belOnD (unhide HB2) hb3)
  have HT3 := hide ((unhide HT2).below hb3)
  have HI3 := hide (unhide HIA _ _ _ o3)
  clear o3 hb3 HT2
  go_wp2_with fail
  refine (unhide HSP w3 gs2 gi3 (unhide HT3) (unhide HI3)).mono ?_
  rintro e w4 ⟨vS, rfl, oS, hb4⟩
  obtain ⟨aS, cS, rfl⟩ := unhide HFO _ _ _ oS
  have HB4 := hide (belOnD (unhide HB3) hb4)
  have HS4 := hide oS.at
  have HBS := hide oS.bl
  clear oS hb4 HT3 HI3
  go_wp2_with fail
  refine (unhide HTS w4 (unhide HB4)).mono ?_
  rintro e w5 ⟨gx, rfl, ox, hb5⟩
  have HB5 := hide (belOnD (unhide HB4) hb5)
  have HS5 := hide ((unhide HS4).below hb5)
  have HX5 := hide ox.at
  have HTX5 := hide (unhide HSA _ _ _ ox)
  have hgx := ox.bl gx ⟨0, rfl⟩
  clear ox hb5 HS4
  go_wp2_with fail
  refine (unhide HTO w5 (unhide HB5)).mono ?_
  rintro e w6 ⟨gy, rfl, oy, hb6⟩
  have HB6 := hide (belOnD (unhide HB5) hb6)
  have HS6 := hide ((unhide HS5).below hb6)
  have HX6 := hide ((unhide HX5).below hb6)
  have HTX6 := hide ((unhide HTX5).below hb6)
  have HY6 := hide oy.at
  have HIY6 := hide (unhide HIA _ _ _ oy)
  have hgy := oy.bl gy ⟨0, rfl⟩
  have hz6 := hb6.size
  clear oy hb6 HS5 HX5 HTX5
  go_wp2_with fail
  refine (unhide HIM w6 (unhide HB6) gx gy (unhide HTX6) (unhide HIY6)).mono ?_
  rintro e w7 ⟨vI, rfl, oI, hb7⟩
  obtain ⟨aI, cI, rfl⟩ := unhide HFO _ _ _ oI
  have HB7 := hide (belOnD (unhide HB6) hb7)
  have HS7 := hide ((unhide HS6).below hb7)
  have HX7 := hide ((unhide HX6).below hb7)
  have HY7 := hide ((unhide HY6).below hb7)
  have HR7 := hide oI.at
  have HBI := hide oI.bl
  have hz7 := hb7.size
  clear oI hb7 HS6 HX6 HY6 HTX6 HIY6
  go_wp2_with fail
  refine (unhide HEQ w7 aI aS cI cS (unhide HR7) (unhide HS7)).mono ?_
  rintro e w8 ⟨rfl, hb8⟩
  have HB8 := hide (belOnD (unhide HB7) hb8)
  have HS8 := hide ((unhide HS7).below hb8)
  have HX8 := hide ((unhide HX7).below hb8)
  have HY8 := hide ((unhide HY7).below hb8)
  have HR8 := hide ((unhide HR7).below hb8)
  have hz8 := hb8.size
  clear hb8 HS7 HX7 HY7 HR7
  go_wp2_with fail
  refine (unhide HTS w8 (unhide HB8)).mono ?_
  rintro e w9 ⟨g9, rfl, o9, hb9⟩
  have HB9 := hide (belOnD (unhide HB8) hb9)
  have HS9 := hide ((unhide HS8).below hb9)
  have HX9 := hide ((unhide HX8).below hb9)
  have HY9 := hide ((unhide HY8).below hb9)
  have HR9 := hide ((unhide HR8).below hb9)
  have hz9 := hb9.size
  have HZ9 := hide o9.at
  clear hb9 HS8 HX8 HY8 HR8 o9
  go_wp2_with fail
  refine (unhide HES w9 gx g9 (unhide HX9) (unhide HZ9)).mono ?_
  rintro e wa ⟨rfl, hba⟩
  have HBa := hide (belOnD (unhide HB9) hba)
  have HSa := hide ((unhide HS9).below hba)
  have HXa := hide ((unhide HX9).below hba)
  have HYa := hide ((unhide HY9).below hba)
  have HRa := hide ((unhide HR9).below hba)
  have hza := hba.size
  clear hba HS9 HX9 HY9 HR9 HZ9
  go_wp2_with fail
  refine (unhide HTO wa (unhide HBa)).mono ?_
  rintro e wb ⟨gb, rfl, ob, hbb⟩
  have HBb := hide (belOnD (unhide HBa) hbb)
  have HSb := hide ((unhide HSa).below hbb)
  have HXb := hide ((unhide HXa).below hbb)
  have HYb := hide ((unhide HYa).below hbb)
  have HRb := hide ((unhide HRa).below hbb)
  have hzb := hbb.size
  have HZb := hide ob.at
  clear hbb HSa HXa HYa HRa ob
  go_wp2_with fail
  refine (unhide HEA wb gy gb (unhide HYb) (unhide HZb)).mono ?_
  rintro e wc ⟨rfl, hbc⟩
  have HBc := hide (belOnD (unhide HBb) hbc)
  have HSc := hide ((unhide HSb).below hbc)
  have HXc := hide ((unhide HXb).below hbc)
  have HYc := hide ((unhide HYb).below hbc)
  have HRc := hide ((unhide HRb).below hbc)
  have hzc := hbc.size
  clear hbc HSb HXb HYb HRb HZb
  go_wp2_with fail
  refine (unhide HMS wc gx (unhide HXc)).mono ?_
  rintro e wd ⟨rfl, -, hoa⟩
  have hpa := OnlyP.row (p := inB (some ⟨gx, 0, none⟩)) hoa fun g o e => ⟨o, e⟩
  have hw4 := (unhide HB4).size
  have HBd := hide ((unhide HBc).trans (hpa.below (B := w.heap.size) (fun g hg => by obtain ⟨o, e⟩ := hg; cases e; omega) (unhide HBc).size))
  have HSd := hide ((unhide HSc).offP hpa fun g h h2 => by have := unhide HBS g h; obtain ⟨o, e⟩ := h2; cases e; omega)
  have HYd := hide ((unhide HYc).offP hpa fun g h h2 => by obtain ⟨o, e⟩ := h; cases e; obtain ⟨o, e⟩ := h2; cases e; omega)
  have HRd := hide ((unhide HRc).offP hpa fun g h h2 => by have := unhide HBI g h; obtain ⟨o, e⟩ := h2; cases e; omega)
  have hzd := hoa.size
  clear hoa hpa HXc HSc HYc HRc
  go_wp2_with fail
  refine (unhide HMA wd gy (unhide HYd)).mono ?_
  rintro e we ⟨rfl, -, hoa⟩
  have hpa := OnlyP.row (p := inB (some ⟨gy, 0, none⟩)) hoa fun g o e => ⟨o, e⟩
  have hw5 := (unhide HB5).size
  have HBe := hide ((unhide HBd).trans (hpa.below (B := w.heap.size) (fun g hg => by obtain ⟨o, e⟩ := hg; cases e; omega) (unhide HBd).size))
  have HSe := hide ((unhide HSd).offP hpa fun g h h2 => by have := unhide HBS g h; obtain ⟨o, e⟩ := h2; cases e; omega)
  have HRe := hide ((unhide HRd).offP hpa fun g h h2 => by have := unhide HBI g h; obtain ⟨o, e⟩ := h2; cases e; omega)
  have hze := hoa.size
  clear hoa hpa HYd HSd HRd
  go_wp2_with fail
  refine (unhide HEQ we aI aS cI cS (unhide HRe) (unhide HSe)).mono ?_
  rintro e wf ⟨rfl, hbf⟩
  have HBf := hide (belOnD (unhide HBe) hbf)
  have HSf := hide ((unhide HSe).below hbf)
  have HRf := hide ((unhide HRe).below hbf)
  have hzf := hbf.size
  clear hbf HSe HRe
  go_wp2_with fail
  refine (unhide HMK wf aI cI (unhide HRf)).mono ?_
  rintro e wg ⟨rfl, hmk, hob⟩
  have hpb := OnlyP.row (p := inB aI) hob fun g o e => ⟨o, e⟩
  have hw6 := (unhide HB6).size
  have HBg := hide ((unhide HBf).trans (hpb.below (B := w.heap.size) (fun g hg => by have := unhide HBI g hg; omega) (unhide HBf).size))
  have HKg := hide hmk
  have HSg := hide ((unhide HSf).offP hpb fun g h h2 => by have := unhide HBS g h; have := unhide HBI g h2; omega)
  clear hob hpb hmk HRf HSf
  go_wp2_with fail
  refine (unhide HHE wg aI cI (unhide HKg)).mono ?_
  rintro e wh ⟨rfl, hbh⟩
  have HBh := hide (belOnD (unhide HBg) hbh)
  have HKh := hide ((unhide HKg).below hbh)
  have HSh := hide ((unhide HSg).below hbh)
  clear hbh HKg HSg
  go_wp2_with fail
  refine (unhide HTS wh (unhide HBh)).mono ?_
  rintro e wi ⟨gi, rfl, oi, hbi⟩
  have HBi := hide (belOnD (unhide HBh) hbi)
  have HKi := hide ((unhide HKh).below hbi)
  have HSi := hide ((unhide HSh).below hbi)
  have HTi := hide (unhide HSA _ _ _ oi)
  clear hbi oi HKh HSh
  go_wp2_with fail
  refine (unhide HTO wi (unhide HBi)).mono ?_
  rintro e wj ⟨gj, rfl, oj, hbj⟩
  have HBj := hide (belOnD (unhide HBi) hbj)
  have HKj := hide ((unhide HKi).below hbj)
  have HSj := hide ((unhide HSi).below hbj)
  have HTj := hide ((unhide HTi).below hbj)
  have HIj := hide (unhide HIA _ _ _ oj)
  clear hbj oj HKi HSi HTi
  go_wp2_with fail
  refine (unhide HIM wj (unhide HBj) gi gj (unhide HTj) (unhide HIj)).mono ?_
  rintro e wk ⟨vJ, rfl, oJ, hbk⟩
  obtain ⟨aJ, cJ, rfl⟩ := unhide HFO _ _ _ oJ
  have HBk := hide (belOnD (unhide HBj) hbk)
  have HKk := hide ((unhide HKj).below hbk)
  have HSk := hide ((unhide HSj).below hbk)
  have HJk := hide oJ.at
  clear hbk oJ HKj HSj HTj HIj
  go_wp2_with fail
  refine (unhide HEQ wk aJ aS cJ cS (unhide HJk) (unhide HSk)).mono ?_
  rintro e wl ⟨rfl, hbl⟩
  have HBl := hide (belOnD (unhide HBk) hbl)
  have HKl := hide ((unhide HKk).below hbl)
  clear hbl HKk HSk HJk
  go_wp2_with fail
  refine (unhide HHE wl aI cI (unhide HKl)).mono ?_
  rintro e wm ⟨rfl, hbm⟩
  have HBm := hide (belOnD (unhide HBl) hbm)
  clear hbm HKl
  go_wp2_with fail
  go_ret
  exact ⟨rfl, unhide HBm⟩
end Go.Proofs.YtbcfejplaffbnaaDoor.fnExactLoads
