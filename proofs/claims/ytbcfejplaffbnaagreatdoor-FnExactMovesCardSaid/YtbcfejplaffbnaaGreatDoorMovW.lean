/- The walk of the law FnExactMoves. -/
import Derived.Test.YtbcfejplaffbnaaGreatDoorRzM
import Derived.Test.YtbcfejplaffbnaaGreatDoorRzN
import Derived.Test.YtbcfejplaffbnaaGreatDoorRzD
import Derived.Test.YtbcfejplaffbnaaGreatDoorMrkC
import Derived.WalkKit
import Derived.ProofKit
import Derived.Below
set_option linter.unusedVariables false
namespace Go.Proofs.YtbcfejplaffbnaaGreatDoor.fnExactMoves
open Go.RowKit
open Plain

set_option maxRecDepth 10000 in
set_option maxHeartbeats 8000000 in
theorem walk0 (ad : Option Addr) (nd cd : Nat) (ds : List ByteArray) (a1 : Option Addr) (n1 c1 : Nat) (bs : List Int) (a2 : Option Addr) (n2 c2 : Nat) (zs : List Int) (k : Int) (w : World) (hp : StrsRow w ad nd cd ds) (hv1 : ArgRow 1 intL goodI w a1 n1 c1 bs) (hv2 : ArgRow 1 intL goodI w a2 n2 c2 zs) (wk : (Lit.int .i64 k).wf = true) (hK : KAt w) (hT : TzAt w) :
    Calls Tryz.prog 3 #[.slice ad nd cd, .slice a1 n1 c1, .slice a2 n2 c2, .int .i64 k] w fun e w' => e = .returned (.bool true) ∧ Below w.heap.size w w' := by
  have h0 : 1 < w.heap.size := lt_of_cell (hK 0 (by omega))
  have lv1 := hv1.le
  have lv2 := hv2.le
  unfold maxLen at lv1 lv2
  by_cases hbig1 : 1048576 < n1
  · clear hv1 hv2 hK hT hp
    go_enter Tryz.func3, Tryz.ntmps3
    go_wp2_with fail
    go_ret
    exact ⟨rfl, Below.refl _ _⟩
  by_cases hbig2 : 1048576 < n2
  · clear hv1 hv2 hK hT hp
    go_enter Tryz.func3, Tryz.ntmps3
    go_wp2_with fail
    go_ret
    exact ⟨rfl, Below.refl _ _⟩
  obtain ⟨hn, hn2, hs, hr⟩ := hp
  unfold maxLen at hn2 hs
  have HSZ := hide (szStringS_calls ad nd cd ds 1048576 w hn (by omega) (fun l hl => by have := hs l hl; omega) (by omega) (by omega) hr)
  unfold szL at HSZ
  rw [hn] at HSZ
  by_cases hbig : (1048576 : Int) < (nd : Int) + sumZ ds
  · rw [if_pos hbig] at HSZ
    clear hn hn2 hs hr hbig hv1 hv2 hK hT
    go_enter Tryz.func3, Tryz.ntmps3
    go_wp2_with fail
    refine (unhide HSZ).mono ?_
    rintro e w1 ⟨rfl, hb1⟩
    have HB1 := hide hb1
    clear hb1
    go_wp2_with fail
    go_ret
    exact ⟨rfl, unhide HB1⟩
  rw [if_neg hbig] at HSZ
  obtain ⟨r, hr2⟩ : ∃ r : Nat, (1048576 : Int) - ((nd : Int) + sumZ ds) = (r : Int) := ⟨1048576 - (nd + sumZ ds), by omega⟩
  rw [hr2] at HSZ
  have hz : ∀ s ∈ ds, s.size ≤ 1048576 := fun s hs => by have := sumZ_mem ds s hs; omega
  have hnd : nd ≤ 1048576 := by omega
  have hn1 : n1 ≤ 1048576 := by omega
  have hnn2 : n2 ≤ 1048576 := by omega
  have HTS := hide (fun (W : World) (hW : Below w.heap.size w W) => toStringS_calls ad nd cd ds W hn hnd (hr.below hW))
  have HTO := hide (fun (W : World) (hW : Below w.heap.size w W) => toInt64S_calls a1 n1 c1 bs W hv1.len hn1 (hv1.row.below hW))
  have HTP := hide (fun (W : World) (hW : Below w.heap.size w W) => toInt64S_calls a2 n2 c2 zs W hv2.len hnn2 (hv2.row.below hW))
  have HSA := hide (fun (W : World) (B g : Nat) (h : OwnR strE W B (.slice (some ⟨g, 0, none⟩) nd nd) ds) => (show TxtsAt W (some ⟨g, 0, none⟩) nd ds from ⟨h.at, hn, hnd, fun s hs => by have := hz s hs; omega⟩))
  have HIA := hide (fun (W : World) (B g : Nat) (h : OwnR i64E W B (.slice (some ⟨g, 0, none⟩) n1 n1) bs) => (show IntsAt W (some ⟨g, 0, none⟩) n1 bs from ⟨h.at, hv1.len, hn1⟩))
  have HIB := hide (fun (W : World) (B g : Nat) (h : OwnR i64E W B (.slice (some ⟨g, 0, none⟩) n2 n2) zs) => (show IntsAt W (some ⟨g, 0, none⟩) n2 zs from ⟨h.at, hv2.len, hnn2⟩))
  have HSP := hide (fun (W : World) (g g1 g2 : Nat) (h : TxtsAt W (some ⟨g, 0, none⟩) nd ds) (h1 : IntsAt W (some ⟨g1, 0, none⟩) n1 bs) (h2 : IntsAt W (some ⟨g2, 0, none⟩) n2 zs) => spec_Moves (some ⟨g, 0, none⟩) nd nd ds (some ⟨g1, 0, none⟩) n1 n1 bs (some ⟨g2, 0, none⟩) n2 n2 zs k W h h1 h2)
  have HIM := hide (fun (W : World) (hW : Below w.heap.size w W) (g g1 g2 : Nat) (h : TxtsAt W (some ⟨g, 0, none⟩) nd ds) (h1 : IntsAt W (some ⟨g1, 0, none⟩) n1 bs) (h2 : IntsAt W (some ⟨g2, 0, none⟩) n2 zs) => impl_Moves (some ⟨g, 0, none⟩) nd nd ds (some ⟨g1, 0, none⟩) n1 n1 bs (some ⟨g2, 0, none⟩) n2 n2 zs k W h h1 h2 (hK.below hW h0) (hT.below hW hT.2))
  have HES := hide (fun (W : World) (g g' : Nat) (h : RowAt strE W (some ⟨g, 0, none⟩) ds) (h' : RowAt strE W (some ⟨g', 0, none⟩) ds) => eqStringS_calls (some ⟨g, 0, none⟩) (some ⟨g', 0, none⟩) nd nd nd ds W hn (by omega) h.strs h'.strs)
  have HEA := hide (fun (W : World) (g g' : Nat) (h : RowAt i64E W (some ⟨g, 0, none⟩) bs) (h' : RowAt i64E W (some ⟨g', 0, none⟩) bs) => eqInt64S_calls (some ⟨g, 0, none⟩) (some ⟨g', 0, none⟩) n1 n1 n1 bs W hv1.len (by omega) h h')
  have HEB := hide (fun (W : World) (g g' : Nat) (h : RowAt i64E W (some ⟨g, 0, none⟩) zs) (h' : RowAt i64E W (some ⟨g', 0, none⟩) zs) => eqInt64S_calls (some ⟨g, 0, none⟩) (some ⟨g', 0, none⟩) n2 n2 n2 zs W hv2.len (by omega) h h')
  have HMS := hide (fun (W : World) (g : Nat) (h : RowAt strE W (some ⟨g, 0, none⟩) ds) => markStringS_calls 1 (some ⟨g, 0, none⟩) nd nd ds W (by decide) (by decide) hn (by omega) h)
  obtain ⟨M0, hM0⟩ : ∃ M0, 1 + nd = M0 := ⟨_, rfl⟩
  have HMA := hide (fun (W : World) (g : Nat) (h : RowAt i64E W (some ⟨g, 0, none⟩) bs) => markInt64S_calls M0 (some ⟨g, 0, none⟩) n1 n1 bs W (by omega) hv1.len (by omega) h)
  rw [hM0] at HMS
  obtain ⟨M1, hM1⟩ : ∃ M1, M0 + n1 = M1 := ⟨_, rfl⟩
  rw [hM1] at HMA
  have HMB := hide (fun (W : World) (g : Nat) (h : RowAt i64E W (some ⟨g, 0, none⟩) zs) => markInt64S_calls M1 (some ⟨g, 0, none⟩) n2 n2 zs W (by omega) hv2.len (by omega) h)
  obtain ⟨M2, hM2⟩ : ∃ M2, M1 + n2 = M2 := ⟨_, rfl⟩
  rw [hM2] at HMB
  have hRl : (mvL ds bs zs k).length ≤ 10000 := mvL_len ds bs zs k
  generalize mvL ds bs zs k = R at HSP HIM hRl
  generalize mvB ds bs zs k = b at HSP HIM
  obtain ⟨m, hm⟩ : ∃ m, R.length = m := ⟨_, rfl⟩
  rw [hm] at hRl
  have HFO := hide (fun (W : World) (B : Nat) (v : Value) (h : OwnR cpyE W B v R) => (show ∃ x y, v = .slice x m y from by
    obtain ⟨x, y, e⟩ := h.form
    exact ⟨x, y, by rw [e, hm]⟩))
  have HEQ := hide (fun (W : World) (x y : Option Addr) (cx cy : Nat) (h : RowAt cpyE W x R) (h' : RowAt cpyE W y R) => eqCopyS_calls x y cx cy m R W hm (by omega) h h')
  have HMK := hide (fun (W : World) (x : Option Addr) (cx : Nat) (h : RowAt cpyE W x R) => markCopyS_calls 1 x cx m R W (by decide) (by decide) hm (by omega) h)
  have HHE := hide (fun (W : World) (x : Option Addr) (cx : Nat) (h : RowAt cpyE W x (mkC 1 m)) => heldCopyS_calls 1 x cx m W (by decide) (by decide) (by omega) h)
  obtain ⟨M, hM⟩ : ∃ M, 1 + m * 3 = M := ⟨_, rfl⟩
  rw [hM] at HMK HHE
  clear hv1 hv2 hK hT hm hM hM0 hM1 hM2 lv1 lv2 wk hn hn2 hs hr hbig hr2 hz
  go_enter Tryz.func3, Tryz.ntmps3
  go_wp2_with fail
  refine (unhide HSZ).mono ?_
  rintro e w1 ⟨rfl, hb1⟩
  have HBw1 := hide hb1
  clear hb1 HSZ
  go_wp2_with fail
  refine (unhide HTS w1 (unhide HBw1)).mono ?_
  rintro e w2 ⟨gs0, rfl, o, hb⟩
  have HBw2 := hide (belOnD (unhide HBw1) hb)
  have HTaw2 := hide (unhide HSA _ _ _ o)
  have hzw2 := hb.size
  clear hb o HBw1
  go_wp2_with fail
  refine (unhide HTO w2 (unhide HBw2)).mono ?_
  rintro e w3 ⟨gs1, rfl, o, hb⟩
  have HBw3 := hide (belOnD (unhide HBw2) hb)
  have HTaw3 := hide ((unhide HTaw2).below hb)
  have HTbw3 := hide (unhide HIA _ _ _ o)
  have hzw3 := hb.size
  clear hb o HBw2 HTaw2
  go_wp2_with fail
  refine (unhide HTP w3 (unhide HBw3)).mono ?_
  rintro e w4 ⟨gs2, rfl, o, hb⟩
  have HBw4 := hide (belOnD (unhide HBw3) hb)
  have HTaw4 := hide ((unhide HTaw3).below hb)
  have HTbw4 := hide ((unhide HTbw3).below hb)
  have HTcw4 := hide (unhide HIB _ _ _ o)
  have hzw4 := hb.size
  clear hb o HBw3 HTaw3 HTbw3
  go_wp2_with fail
  refine (unhide HSP w4 gs0 gs1 gs2 (unhide HTaw4) (unhide HTbw4) (unhide HTcw4)).mono ?_
  rintro e w5 ⟨vS, rfl, oS, hb⟩
  obtain ⟨aS, cS, rfl⟩ := unhide HFO _ _ _ oS
  have HBw5 := hide (belOnD (unhide HBw4) hb)
  have HSw5 := hide (oS.at)
  have HBS := hide oS.bl
  have hszS : w4.heap.size ≤ w5.heap.size := hb.size
  have hzw5 := hb.size
  clear hb oS HBw4 HTaw4 HTbw4 HTcw4
  go_wp2_with fail
  refine (unhide HTS w5 (unhide HBw5)).mono ?_
  rintro e w6 ⟨gx0, rfl, o, hb⟩
  have HBw6 := hide (belOnD (unhide HBw5) hb)
  have HSw6 := hide ((unhide HSw5).below hb)
  have HTaw6 := hide (unhide HSA _ _ _ o)
  have HXw6 := hide (o.at)
  have hlgx0 := o.bl gx0 ⟨0, rfl⟩
  have hzw6 := hb.size
  clear hb o HSw5
  go_wp2_with fail
  refine (unhide HTO w6 (unhide HBw6)).mono ?_
  rintro e w7 ⟨gx1, rfl, o, hb⟩
  have HBw7 := hide (belOnD (unhide HBw6) hb)
  have HSw7 := hide ((unhide HSw6).below hb)
  have HTaw7 := hide ((unhide HTaw6).below hb)
  have HXw7 := hide ((unhide HXw6).below hb)
  have HTbw7 := hide (unhide HIA _ _ _ o)
  have HYw7 := hide (o.at)
  have hlgx1 := o.bl gx1 ⟨0, rfl⟩
  have hzw7 := hb.size
  clear hb o HBw6 HSw6 HTaw6 HXw6
  go_wp2_with fail
  refine (unhide HTP w7 (unhide HBw7)).mono ?_
  rintro e w8 ⟨gx2, rfl, o, hb⟩
  have HBw8 := hide (belOnD (unhide HBw7) hb)
  have HSw8 := hide ((unhide HSw7).below hb)
  have HTaw8 := hide ((unhide HTaw7).below hb)
  have HXw8 := hide ((unhide HXw7).below hb)
  have HTbw8 := hide ((unhide HTbw7).below hb)
  have HYw8 := hide ((unhide HYw7).below hb)
  have HTcw8 := hide (unhide HIB _ _ _ o)
  have HZw8 := hide (o.at)
  have hlgx2 := o.bl gx2 ⟨0, rfl⟩
  have hzw8 := hb.size
  clear hb o HBw7 HSw7 HTaw7 HXw7 HTbw7 HYw7
  go_wp2_with fail
  refine (unhide HIM w8 (unhide HBw8) gx0 gx1 gx2 (unhide HTaw8) (unhide HTbw8) (unhide HTcw8)).mono ?_
  rintro e w9 ⟨vI, rfl, oI, hb⟩
  obtain ⟨aI, cI, rfl⟩ := unhide HFO _ _ _ oI
  have HBw9 := hide (belOnD (unhide HBw8) hb)
  have HSw9 := hide ((unhide HSw8).below hb)
  have HXw9 := hide ((unhide HXw8).below hb)
  have HYw9 := hide ((unhide HYw8).below hb)
  have HZw9 := hide ((unhide HZw8).below hb)
  have HRw9 := hide (oI.at)
  have HBI := hide oI.bl
  have hzw9 := hb.size
  clear hb oI HBw8 HSw8 HTaw8 HXw8 HTbw8 HYw8 HTcw8 HZw8
  go_wp2_with fail
  refine (unhide HEQ w9 aI aS cI cS (unhide HRw9) (unhide HSw9)).mono ?_
  rintro e w10 ⟨rfl, hb⟩
  have HBw10 := hide (belOnD (unhide HBw9) hb)
  have HSw10 := hide ((unhide HSw9).below hb)
  have HXw10 := hide ((unhide HXw9).below hb)
  have HYw10 := hide ((unhide HYw9).below hb)
  have HZw10 := hide ((unhide HZw9).below hb)
  have HRw10 := hide ((unhide HRw9).below hb)
  have hzw10 := hb.size
  clear hb HBw9 HSw9 HXw9 HYw9 HZw9 HRw9
  go_wp2_with fail
  refine (unhide HTS w10 (unhide HBw10)).mono ?_
  rintro e w11 ⟨gy0, rfl, o, hb⟩
  have HBw11 := hide (belOnD (unhide HBw10) hb)
  have HSw11 := hide ((unhide HSw10).below hb)
  have HXw11 := hide ((unhide HXw10).below hb)
  have HYw11 := hide ((unhide HYw10).below hb)
  have HZw11 := hide ((unhide HZw10).below hb)
  have HRw11 := hide ((unhide HRw10).below hb)
  have HVw11 := hide (o.at)
  have hzw11 := hb.size
  clear hb o HBw10 HSw10 HXw10 HYw10 HZw10 HRw10
  go_wp2_with fail
  refine (unhide HES w11 gx0 gy0 (unhide HXw11) (unhide HVw11)).mono ?_
  rintro e w12 ⟨rfl, hb⟩
  have HBw12 := hide (belOnD (unhide HBw11) hb)
  have HSw12 := hide ((unhide HSw11).below hb)
  have HXw12 := hide ((unhide HXw11).below hb)
  have HYw12 := hide ((unhide HYw11).below hb)
  have HZw12 := hide ((unhide HZw11).below hb)
  have HRw12 := hide ((unhide HRw11).below hb)
  have hzw12 := hb.size
  clear hb HBw11 HSw11 HXw11 HYw11 HZw11 HRw11 HVw11
  go_wp2_with fail
  refine (unhide HTO w12 (unhide HBw12)).mono ?_
  rintro e w13 ⟨gy1, rfl, o, hb⟩
  have HBw13 := hide (belOnD (unhide HBw12) hb)
  have HSw13 := hide ((unhide HSw12).below hb)
  have HXw13 := hide ((unhide HXw12).below hb)
  have HYw13 := hide ((unhide HYw12).below hb)
  have HZw13 := hide ((unhide HZw12).below hb)
  have HRw13 := hide ((unhide HRw12).below hb)
  have HVw13 := hide (o.at)
  have hzw13 := hb.size
  clear hb o HBw12 HSw12 HXw12 HYw12 HZw12 HRw12
  go_wp2_with fail
  refine (unhide HEA w13 gx1 gy1 (unhide HYw13) (unhide HVw13)).mono ?_
  rintro e w14 ⟨rfl, hb⟩
  have HBw14 := hide (belOnD (unhide HBw13) hb)
  have HSw14 := hide ((unhide HSw13).below hb)
  have HXw14 := hide ((unhide HXw13).below hb)
  have HYw14 := hide ((unhide HYw13).below hb)
  have HZw14 := hide ((unhide HZw13).below hb)
  have HRw14 := hide ((unhide HRw13).below hb)
  have hzw14 := hb.size
  clear hb HBw13 HSw13 HXw13 HYw13 HZw13 HRw13 HVw13
  go_wp2_with fail
  refine (unhide HTP w14 (unhide HBw14)).mono ?_
  rintro e w15 ⟨gy2, rfl, o, hb⟩
  have HBw15 := hide (belOnD (unhide HBw14) hb)
  have HSw15 := hide ((unhide HSw14).below hb)
  have HXw15 := hide ((unhide HXw14).below hb)
  have HYw15 := hide ((unhide HYw14).below hb)
  have HZw15 := hide ((unhide HZw14).below hb)
  have HRw15 := hide ((unhide HRw14).below hb)
  have HVw15 := hide (o.at)
  have hzw15 := hb.size
  clear hb o HBw14 HSw14 HXw14 HYw14 HZw14 HRw14
  go_wp2_with fail
  refine (unhide HEB w15 gx2 gy2 (unhide HZw15) (unhide HVw15)).mono ?_
  rintro e w16 ⟨rfl, hb⟩
  have HBw16 := hide (belOnD (unhide HBw15) hb)
  have HSw16 := hide ((unhide HSw15).below hb)
  have HXw16 := hide ((unhide HXw15).below hb)
  have HYw16 := hide ((unhide HYw15).below hb)
  have HZw16 := hide ((unhide HZw15).below hb)
  have HRw16 := hide ((unhide HRw15).below hb)
  have hzw16 := hb.size
  clear hb HBw15 HSw15 HXw15 HYw15 HZw15 HRw15 HVw15
  go_wp2_with fail
  refine (unhide HMS w16 gx0 (unhide HXw16)).mono ?_
  rintro e w17 ⟨rfl, -, hoa⟩
  have hpa := OnlyP.row (p := inB (some ⟨gx0, 0, none⟩)) hoa fun g o e => ⟨o, e⟩
  have HBw17 := hide ((unhide HBw16).trans (hpa.below (B := w.heap.size) (fun g hg => by obtain ⟨o, e⟩ := hg; cases e; have := (unhide HBw5).size; omega) (unhide HBw16).size))
  have HSw17 := hide ((unhide HSw16).offP hpa fun g h h2 => by have := unhide HBS g h; obtain ⟨o, e⟩ := h2; cases e; omega)
  have HYw17 := hide ((unhide HYw16).offP hpa fun g h h2 => by obtain ⟨o, e⟩ := h; cases e; obtain ⟨o, e⟩ := h2; cases e; omega)
  have HZw17 := hide ((unhide HZw16).offP hpa fun g h h2 => by obtain ⟨o, e⟩ := h; cases e; obtain ⟨o, e⟩ := h2; cases e; omega)
  have HRw17 := hide ((unhide HRw16).offP hpa fun g h h2 => by have := unhide HBI g h; obtain ⟨o, e⟩ := h2; cases e; omega)
  have hzw17 := hoa.size
  clear hoa hpa HBw16 HSw16 HXw16 HYw16 HZw16 HRw16
  go_wp2_with fail
  refine (unhide HMA w17 gx1 (unhide HYw17)).mono ?_
  rintro e w18 ⟨rfl, -, hoa⟩
  have hpa := OnlyP.row (p := inB (some ⟨gx1, 0, none⟩)) hoa fun g o e => ⟨o, e⟩
  have HBw18 := hide ((unhide HBw17).trans (hpa.below (B := w.heap.size) (fun g hg => by obtain ⟨o, e⟩ := hg; cases e; have := (unhide HBw5).size; omega) (unhide HBw17).size))
  have HSw18 := hide ((unhide HSw17).offP hpa fun g h h2 => by have := unhide HBS g h; obtain ⟨o, e⟩ := h2; cases e; omega)
  have HZw18 := hide ((unhide HZw17).offP hpa fun g h h2 => by obtain ⟨o, e⟩ := h; cases e; obtain ⟨o, e⟩ := h2; cases e; omega)
  have HRw18 := hide ((unhide HRw17).offP hpa fun g h h2 => by have := unhide HBI g h; obtain ⟨o, e⟩ := h2; cases e; omega)
  have hzw18 := hoa.size
  clear hoa hpa HBw17 HSw17 HYw17 HZw17 HRw17
  go_wp2_with fail
  refine (unhide HMB w18 gx2 (unhide HZw18)).mono ?_
  rintro e w19 ⟨rfl, -, hoa⟩
  have hpa := OnlyP.row (p := inB (some ⟨gx2, 0, none⟩)) hoa fun g o e => ⟨o, e⟩
  have HBw19 := hide ((unhide HBw18).trans (hpa.below (B := w.heap.size) (fun g hg => by obtain ⟨o, e⟩ := hg; cases e; have := (unhide HBw5).size; omega) (unhide HBw18).size))
  have HSw19 := hide ((unhide HSw18).offP hpa fun g h h2 => by have := unhide HBS g h; obtain ⟨o, e⟩ := h2; cases e; omega)
  have HRw19 := hide ((unhide HRw18).offP hpa fun g h h2 => by have := unhide HBI g h; obtain ⟨o, e⟩ := h2; cases e; omega)
  have hzw19 := hoa.size
  clear hoa hpa HBw18 HSw18 HZw18 HRw18
  go_wp2_with fail
  refine (unhide HEQ w19 aI aS cI cS (unhide HRw19) (unhide HSw19)).mono ?_
  rintro e w20 ⟨rfl, hb⟩
  have HBw20 := hide (belOnD (unhide HBw19) hb)
  have HSw20 := hide ((unhide HSw19).below hb)
  have HRw20 := hide ((unhide HRw19).below hb)
  have hzw20 := hb.size
  clear hb HBw19 HSw19 HRw19
  go_wp2_with fail
  refine (unhide HMK w20 aI cI (unhide HRw20)).mono ?_
  rintro e w21 ⟨rfl, hmk, hob⟩
  have hpb := OnlyP.row (p := inB aI) hob fun g o e => ⟨o, e⟩
  have HBw21 := hide ((unhide HBw20).trans (hpb.below (B := w.heap.size) (fun g hg => by have := unhide HBI g hg; have := (unhide HBw5).size; omega) (unhide HBw20).size))
  have HKw21 := hide hmk
  have HSw21 := hide ((unhide HSw20).offP hpb fun g h h2 => by have := unhide HBS g h; have := unhide HBI g h2; omega)
  have hzw21 := hob.size
  clear hob hpb hmk HBw20 HSw20 HRw20
  go_wp2_with fail
  refine (unhide HHE w21 aI cI (unhide HKw21)).mono ?_
  rintro e w22 ⟨rfl, hb⟩
  have HBw22 := hide (belOnD (unhide HBw21) hb)
  have HKw22 := hide ((unhide HKw21).below hb)
  have HSw22 := hide ((unhide HSw21).below hb)
  have hzw22 := hb.size
  clear hb HBw21 HKw21 HSw21
  go_wp2_with fail
  refine (unhide HTS w22 (unhide HBw22)).mono ?_
  rintro e w23 ⟨gj0, rfl, o, hb⟩
  have HBw23 := hide (belOnD (unhide HBw22) hb)
  have HKw23 := hide ((unhide HKw22).below hb)
  have HSw23 := hide ((unhide HSw22).below hb)
  have HTaw23 := hide (unhide HSA _ _ _ o)
  have hzw23 := hb.size
  clear hb o HBw22 HKw22 HSw22
  go_wp2_with fail
  refine (unhide HTO w23 (unhide HBw23)).mono ?_
  rintro e w24 ⟨gj1, rfl, o, hb⟩
  have HBw24 := hide (belOnD (unhide HBw23) hb)
  have HKw24 := hide ((unhide HKw23).below hb)
  have HSw24 := hide ((unhide HSw23).below hb)
  have HTaw24 := hide ((unhide HTaw23).below hb)
  have HTbw24 := hide (unhide HIA _ _ _ o)
  have hzw24 := hb.size
  clear hb o HBw23 HKw23 HSw23 HTaw23
  go_wp2_with fail
  refine (unhide HTP w24 (unhide HBw24)).mono ?_
  rintro e w25 ⟨gj2, rfl, o, hb⟩
  have HBw25 := hide (belOnD (unhide HBw24) hb)
  have HKw25 := hide ((unhide HKw24).below hb)
  have HSw25 := hide ((unhide HSw24).below hb)
  have HTaw25 := hide ((unhide HTaw24).below hb)
  have HTbw25 := hide ((unhide HTbw24).below hb)
  have HTcw25 := hide (unhide HIB _ _ _ o)
  have hzw25 := hb.size
  clear hb o HBw24 HKw24 HSw24 HTaw24 HTbw24
  go_wp2_with fail
  refine (unhide HIM w25 (unhide HBw25) gj0 gj1 gj2 (unhide HTaw25) (unhide HTbw25) (unhide HTcw25)).mono ?_
  rintro e w26 ⟨vJ, rfl, oJ, hb⟩
  obtain ⟨aJ, cJ, rfl⟩ := unhide HFO _ _ _ oJ
  have HBw26 := hide (belOnD (unhide HBw25) hb)
  have HKw26 := hide ((unhide HKw25).below hb)
  have HSw26 := hide ((unhide HSw25).below hb)
  have HJw26 := hide (oJ.at)
  have hzw26 := hb.size
  clear hb oJ HBw25 HKw25 HSw25 HTaw25 HTbw25 HTcw25
  go_wp2_with fail
  refine (unhide HEQ w26 aJ aS cJ cS (unhide HJw26) (unhide HSw26)).mono ?_
  rintro e w27 ⟨rfl, hb⟩
  have HBw27 := hide (belOnD (unhide HBw26) hb)
  have HKw27 := hide ((unhide HKw26).below hb)
  have hzw27 := hb.size
  clear hb HBw26 HKw26 HSw26 HJw26
  go_wp2_with fail
  refine (unhide HHE w27 aI cI (unhide HKw27)).mono ?_
  rintro e w28 ⟨rfl, hb⟩
  have HBw28 := hide (belOnD (unhide HBw27) hb)
  have hzw28 := hb.size
  clear hb HBw27 HKw27
  go_wp2_with fail
  go_ret
  exact ⟨rfl, unhide HBw28⟩
end Go.Proofs.YtbcfejplaffbnaaGreatDoor.fnExactMoves
