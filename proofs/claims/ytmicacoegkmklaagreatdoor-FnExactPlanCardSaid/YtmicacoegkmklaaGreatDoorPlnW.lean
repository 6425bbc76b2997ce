/- The walk of the law FnExactPlan. -/
import Derived.Test.YtmicacoegkmklaaGreatDoorRzP
import Derived.Test.YtmicacoegkmklaaGreatDoorRzQ
import Derived.Test.YtmicacoegkmklaaGreatDoorHavR
import Derived.Test.YtmicacoegkmklaaGreatDoorRzD
import Derived.Test.YtmicacoegkmklaaGreatDoorMrkC
import Derived.WalkKit
import Derived.ProofKit
import Derived.Below
set_option linter.unusedVariables false
namespace Go.Proofs.YtmicacoegkmklaaGreatDoor.fnExactPlan
open Go.RowKit
open Plain

theorem ownApart {α β : Type} {e : Elem α} {e' : Elem β} {W : World} {B B' n n' c c' : Nat} {a a' : Option Addr} {xs : List α} {ys : List β} (h : OwnR e W B (.slice a n c) xs) (h' : OwnR e' W B' (.slice a' n' c') ys) (hne : e.E ≠ e'.E) : ∀ g, inB a g → ¬ inB a' g := by
  rintro g ⟨o, rfl⟩ ⟨o', rfl⟩
  rcases h.2 with ⟨q, _⟩ | ⟨g1, cap, cur, q, _, h3, _⟩
  · cases q
  · rcases h'.2 with ⟨q', _⟩ | ⟨g2, cap', cur', q', _, h3', _⟩
    · cases q'
    · have e1 : g = g1 := by simp at q; exact q.1.1
      have e2 : g = g2 := by simp at q'; exact q'.1.1
      subst e1
      subst e2
      rw [h3] at h3'
      simp at h3'
      exact hne h3'.2

set_option maxRecDepth 10000 in
set_option maxHeartbeats 8000000 in
theorem walk0 (ad : Option Addr) (nd cd : Nat) (ds : List ByteArray) (a1 : Option Addr) (n1 c1 : Nat) (ns : List Int) (a2 : Option Addr) (n2 c2 : Nat) (hs : List (List ByteArray)) (k : Int) (w : World) (hp : StrsRow w ad nd cd ds) (hv1 : ArgRow 1 intL goodI w a1 n1 c1 ns) (hv2 : StrssRow w a2 n2 c2 hs) (wk : (Lit.int .i64 k).wf = true) (hK : KAt w) (hT : TzAt w) :
    Calls Tryz.prog 3 #[.slice ad nd cd, .slice a1 n1 c1, .slice a2 n2 c2, .int .i64 k] w fun e w' => e = .returned (.bool true) ∧ Below w.heap.size w w' := by
  have h0 : 1 < w.heap.size := lt_of_cell (hK 0 (by omega))
  have lv1 := hv1.le
  unfold maxLen at lv1
  by_cases hbig1 : 1048576 < n1
  · clear hv1 hv2 hK hT hp
    go_enter Tryz.func3, Tryz.ntmps3
    go_wp2_with fail
    go_ret
    exact ⟨rfl, Below.refl _ _⟩
  obtain ⟨hn, hn2, hsz, hr⟩ := hp
  unfold maxLen at hn2 hsz
  have HSZ := hide (szStringS_calls ad nd cd ds 1048576 w hn (by omega) (fun l hl => by have := hsz l hl; omega) (by omega) (by omega) hr)
  unfold szL at HSZ
  rw [hn] at HSZ
  by_cases hbig : (1048576 : Int) < (nd : Int) + sumZ ds
  · rw [if_pos hbig] at HSZ
    clear hn hn2 hsz hr hbig hv1 hv2 hK hT
    go_enter Tryz.func3, Tryz.ntmps3
    go_wp2_with fail
    refine (unhide HSZ).mono ?_
    rintro e w1 ⟨rfl, hb1⟩
    have HB1 := hide hb1
    clear hb1
    go_wp2_with fail
    go_ret
    exact ⟨rfl, unhide HB1⟩
  rw [if_neg hbig] at HSZ
  obtain ⟨r, hr2⟩ : ∃ r : Nat, (1048576 : Int) - ((nd : Int) + sumZ ds) = (r : Int) := ⟨1048576 - (nd + sumZ ds), by omega⟩
  rw [hr2] at HSZ
  have hrl : r ≤ 1048576 := by omega
  have HZ2 := hide (fun (W : World) (hW : Below w.heap.size w W) => szStringSS_calls a2 n2 c2 hs (r : Int) W (by omega) (by omega) (hv2.below hW))
  by_cases hfit : ((n2 + totS hs : Nat) : Int) ≤ (r : Int)
  case neg =>
    have HZ3 := hide (fun (W : World) (hW : Below w.heap.size w W) => (unhide HZ2 W hW).mono (fun e w' h => (show e = .returned (.int .i64 (-1)) ∧ Below W.heap.size W w' from by
      obtain ⟨q, rfl, hq, hb⟩ := h
      rcases hq with rfl | hq
      · exact ⟨rfl, hb⟩
      · exact absurd hq.2.2 hfit)))
    clear hn hn2 hsz hr hbig hv1 hv2 hK hT HZ2 hfit hr2
    go_enter Tryz.func3, Tryz.ntmps3
    go_wp2_with fail
    refine (unhide HSZ).mono ?_
    rintro e w1 ⟨rfl, hb1⟩
    have HB1 := hide hb1
    clear hb1
    go_wp2_with fail
    refine (unhide HZ3 w1 (unhide HB1)).mono ?_
    rintro e w2 ⟨rfl, hb2⟩
    have HB2 := hide (belOnD (unhide HB1) hb2)
    clear hb2
    go_wp2_with fail
    go_ret
    exact ⟨rfl, unhide HB2⟩
  have hz2 : n2 + totS hs ≤ 1048576 := by omega
  have hz : ∀ s ∈ ds, s.size ≤ 1048576 := fun s hs => by have := sumZ_mem ds s hs; omega
  have hnd : nd ≤ 1048576 := by omega
  have hn1 : n1 ≤ 1048576 := by omega
  have HTS := hide (fun (W : World) (hW : Below w.heap.size w W) => toStringS_calls ad nd cd ds W hn hnd (hr.below hW))
  have HTO := hide (fun (W : World) (hW : Below w.heap.size w W) => toInt64S_calls a1 n1 c1 ns W hv1.len hn1 (hv1.row.below hW))
  have HTP := hide (fun (W : World) (hW : Below w.heap.size w W) => toStringSS_calls a2 n2 c2 hs W hz2 (hv2.below hW))
  have HSA := hide (fun (W : World) (B g : Nat) (h : OwnR strE W B (.slice (some ⟨g, 0, none⟩) nd nd) ds) => (show TxtsAt W (some ⟨g, 0, none⟩) nd ds from ⟨h.at, hn, hnd, fun s hs => by have := hz s hs; omega⟩))
  have HIA := hide (fun (W : World) (B g : Nat) (h : OwnR i64E W B (.slice (some ⟨g, 0, none⟩) n1 n1) ns) => (show IntsAt W (some ⟨g, 0, none⟩) n1 ns from ⟨h.at, hv1.len, hn1⟩))
  have HIB := hide (fun (W : World) (g : Nat) (gs : List Nat) (h : HavG W g gs hs) => (show HavAt W (some ⟨g, 0, none⟩) n2 hs from h.at hv2.1 hz2))
  have HSP := hide (fun (W : World) (g g1 g2 : Nat) (h : TxtsAt W (some ⟨g, 0, none⟩) nd ds) (h1 : IntsAt W (some ⟨g1, 0, none⟩) n1 ns) (h2 : HavAt W (some ⟨g2, 0, none⟩) n2 hs) => spec_Plan (some ⟨g, 0, none⟩) nd nd ds (some ⟨g1, 0, none⟩) n1 n1 ns (some ⟨g2, 0, none⟩) n2 n2 hs k W h h1 h2)
  have HIM := hide (fun (W : World) (hW : Below w.heap.size w W) (g g1 g2 : Nat) (h : TxtsAt W (some ⟨g, 0, none⟩) nd ds) (h1 : IntsAt W (some ⟨g1, 0, none⟩) n1 ns) (h2 : HavAt W (some ⟨g2, 0, none⟩) n2 hs) => impl_Plan (some ⟨g, 0, none⟩) nd nd ds (some ⟨g1, 0, none⟩) n1 n1 ns (some ⟨g2, 0, none⟩) n2 n2 hs k W h h1 h2 (hK.below hW h0) (hT.below hW hT.2))
  have HES := hide (fun (W : World) (g g' : Nat) (h : RowAt strE W (some ⟨g, 0, none⟩) ds) (h' : RowAt strE W (some ⟨g', 0, none⟩) ds) => eqStringS_calls (some ⟨g, 0, none⟩) (some ⟨g', 0, none⟩) nd nd nd ds W hn (by omega) h.strs h'.strs)
  have HEA := hide (fun (W : World) (g g' : Nat) (h : RowAt i64E W (some ⟨g, 0, none⟩) ns) (h' : RowAt i64E W (some ⟨g', 0, none⟩) ns) => eqInt64S_calls (some ⟨g, 0, none⟩) (some ⟨g', 0, none⟩) n1 n1 n1 ns W hv1.len (by omega) h h')
  have HEB := hide (fun (W : World) (g g' : Nat) (gs gs' : List Nat) (h : HavG W g gs hs) (h' : HavG W g' gs' hs) => eqStringSS_calls g g' n2 gs gs' hs W hv2.1 hz2 h h')
  have HMS := hide (fun (W : World) (g : Nat) (h : RowAt strE W (some ⟨g, 0, none⟩) ds) => markStringS_calls 1 (some ⟨g, 0, none⟩) nd nd ds W (by decide) (by decide) hn (by omega) h)
  obtain ⟨M0, hM0⟩ : ∃ M0, 1 + nd = M0 := ⟨_, rfl⟩
  have HMA := hide (fun (W : World) (g : Nat) (h : RowAt i64E W (some ⟨g, 0, none⟩) ns) => markInt64S_calls M0 (some ⟨g, 0, none⟩) n1 n1 ns W (by omega) hv1.len (by omega) h)
  rw [hM0] at HMS
  obtain ⟨M1, hM1⟩ : ∃ M1, M0 + n1 = M1 := ⟨_, rfl⟩
  rw [hM1] at HMA
  have HMB := hide (fun (W : World) (g : Nat) (gs : List Nat) (h : HavG W g gs hs) => markStringSS_calls M1 g n2 gs hs W (by omega) (by omega) hv2.1 hz2 h)
  have hRl : (plL ds ns hs k).length ≤ 10000 := plL_len ds ns hs k
  generalize plL ds ns hs k = R at HSP HIM hRl
  have hQl : (loL ds ns hs k).length ≤ 10000 := loL_len ds ns hs k
  generalize loL ds ns hs k = R2 at HSP HIM hQl
  generalize rpB ds ns hs k = b at HSP HIM
  obtain ⟨m, hm⟩ : ∃ m, R.length = m := ⟨_, rfl⟩
  rw [hm] at hRl
  have HFO := hide (fun (W : World) (B : Nat) (v : Value) (h : OwnR cpyE W B v R) => (show ∃ x y, v = .slice x m y from by
    obtain ⟨x, y, e⟩ := h.form
    exact ⟨x, y, by rw [e, hm]⟩))
  have HEQ := hide (fun (W : World) (x y : Option Addr) (cx cy : Nat) (h : RowAt cpyE W x R) (h' : RowAt cpyE W y R) => eqCopyS_calls x y cx cy m R W hm (by omega) h h')
  have HMK := hide (fun (W : World) (x : Option Addr) (cx : Nat) (h : RowAt cpyE W x R) => markCopyS_calls 1 x cx m R W (by decide) (by decide) hm (by omega) h)
  have HHE := hide (fun (W : World) (x : Option Addr) (cx : Nat) (h : RowAt cpyE W x (mkC 1 m)) => heldCopyS_calls 1 x cx m W (by decide) (by decide) (by omega) h)
  obtain ⟨M, hM⟩ : ∃ M, 1 + m * 3 = M := ⟨_, rfl⟩
  rw [hM] at HMK HHE
  obtain ⟨m2, hm2⟩ : ∃ m2, R2.length = m2 := ⟨_, rfl⟩
  rw [hm2] at hQl
  have HF2 := hide (fun (W : World) (B : Nat) (v : Value) (h : OwnR strE W B v R2) => (show ∃ x y, v = .slice x m2 y from by
    obtain ⟨x, y, e⟩ := h.form
    exact ⟨x, y, by rw [e, hm2]⟩))
  have HE2 := hide (fun (W : World) (x y : Option Addr) (cx cy : Nat) (h : RowAt strE W x R2) (h' : RowAt strE W y R2) => eqStringS_calls x y cx cy m2 R2 W hm2 (by omega) h.strs h'.strs)
  have HM2 := hide (fun (W : World) (x : Option Addr) (cx : Nat) (h : RowAt strE W x R2) => markStringS_calls M x cx m2 R2 W (by omega) (by omega) hm2 (by omega) h)
  have HH2 := hide (fun (W : World) (x : Option Addr) (cx : Nat) (h : RowAt strE W x (mkS M m2)) => heldStringS_calls M x cx m2 W (by omega) (by omega) (by omega) h)
  obtain ⟨N2, hN2⟩ : ∃ N2, M + m2 = N2 := ⟨_, rfl⟩
  rw [hN2] at HM2 HH2
  clear hv1 hv2 hK hT hm hM hM0 hM1 lv1 wk hn hn2 hsz hr hbig hr2 hz hz2 hfit hm2 hN2
  go_enter Tryz.func3, Tryz.ntmps3
  go_wp2_with fail
  refine (unhide HSZ).mono ?_
  rintro e w1 ⟨rfl, hb1⟩
  have HBw1 := hide hb1
  clear hb1 HSZ
  go_wp2_with fail
  refine (unhide HZ2 w1 (unhide HBw1)).mono ?_
  rintro e w2 ⟨q2, rfl, hq, hb⟩
  have hq2 : 0 ≤ q2 ∧ q2 ≤ 10000000 ∨ q2 = -1 := by rcases hq with q | q; exact .inr q; exact .inl ⟨q.1, q.2.1⟩
  have HBw2 := hide (belOnD (unhide HBw1) hb)
  clear hb hq HBw1 HZ2
  rcases hq2 with ⟨hq0, hq1⟩ | rfl
  case inr =>
    go_wp2_with fail
    go_ret
    exact ⟨rfl, unhide HBw2⟩
  go_wp2_with fail
  refine (unhide HTS w2 (unhide HBw2)).mono ?_
  rintro e w3 ⟨gs0, rfl, o, hb⟩
  have HBw3 := hide (belOnD (unhide HBw2) hb)
  have HTaw3 := hide (unhide HSA _ _ _ o)
  have hzw3 := hb.size
  clear hb o HBw2
  go_wp2_with fail
  refine (unhide HTO w3 (unhide HBw3)).mono ?_
  rintro e w4 ⟨gs1, rfl, o, hb⟩
  have HBw4 := hide (belOnD (unhide HBw3) hb)
  have HTaw4 := hide ((unhide HTaw3).below hb)
  have HTbw4 := hide (unhide HIA _ _ _ o)
  have hzw4 := hb.size
  clear hb o HBw3 HTaw3
  go_wp2_with fail
  refine (unhide HTP w4 (unhide HBw4)).mono ?_
  rintro e w5 ⟨qs2, rfl, o, hb⟩
  obtain ⟨gs2, hgs2⟩ : ∃ g, g = w4.heap.size := ⟨_, rfl⟩
  rw [← hgs2] at o ⊢
  clear hgs2
  have HBw5 := hide (belOnD (unhide HBw4) hb)
  have HTaw5 := hide ((unhide HTaw4).below hb)
  have HTbw5 := hide ((unhide HTbw4).below hb)
  have HTcw5 := hide (unhide HIB _ _ _ o)
  have hzw5 := hb.size
  clear hb o HBw4 HTaw4 HTbw4
  go_wp2_with fail
  refine (unhide HSP w5 gs0 gs1 gs2 (unhide HTaw5) (unhide HTbw5) (unhide HTcw5)).mono ?_
  rintro e w6 ⟨vS, uS, rfl, oS, oT, hb⟩
  obtain ⟨aS, cS, rfl⟩ := unhide HFO _ _ _ oS
  obtain ⟨aT, cT, rfl⟩ := unhide HF2 _ _ _ oT
  have HBS := hide oS.bl
  have HBT := hide oT.bl
  have hszS : w5.heap.size ≤ w6.heap.size := hb.size
  have HB5 := hide (belOnD (unhide HBw5) hb)
  have HBw6 := hide (belOnD (unhide HBw5) hb)
  have HSw6 := hide (oS.at)
  have HUw6 := hide (oT.at)
  have hzw6 := hb.size
  clear hb oS oT HBw5 HTaw5 HTbw5 HTcw5
  go_wp2_with fail
  refine (unhide HTS w6 (unhide HBw6)).mono ?_
  rintro e w7 ⟨gx0, rfl, o, hb⟩
  have hlgx0 := o.bl gx0 ⟨0, rfl⟩
  have HBw7 := hide (belOnD (unhide HBw6) hb)
  have HSw7 := hide ((unhide HSw6).below hb)
  have HUw7 := hide ((unhide HUw6).below hb)
  have HTaw7 := hide (unhide HSA _ _ _ o)
  have HXw7 := hide (o.at)
  have hzw7 := hb.size
  clear hb o HBw6 HSw6 HUw6
  go_wp2_with fail
  refine (unhide HTO w7 (unhide HBw7)).mono ?_
  rintro e w8 ⟨gx1, rfl, o, hb⟩
  have hlgx1 := o.bl gx1 ⟨0, rfl⟩
  have HBw8 := hide (belOnD (unhide HBw7) hb)
  have HSw8 := hide ((unhide HSw7).below hb)
  have HUw8 := hide ((unhide HUw7).below hb)
  have HTaw8 := hide ((unhide HTaw7).below hb)
  have HXw8 := hide ((unhide HXw7).below hb)
  have HTbw8 := hide (unhide HIA _ _ _ o)
  have HYw8 := hide (o.at)
  have hzw8 := hb.size
  clear hb o HBw7 HSw7 HUw7 HTaw7 HXw7
  go_wp2_with fail
  refine (unhide HTP w8 (unhide HBw8)).mono ?_
  rintro e w9 ⟨gsx, rfl, o, hb⟩
  obtain ⟨gx2, hgx2⟩ : ∃ g, g = w8.heap.size := ⟨_, rfl⟩
  have hlx2 : w8.heap.size ≤ gx2 := by omega
  rw [← hgx2] at o ⊢
  have HINB := hide o.inb
  have hltx2 := o.lt
  clear hgx2
  have HBw9 := hide (belOnD (unhide HBw8) hb)
  have HSw9 := hide ((unhide HSw8).below hb)
  have HUw9 := hide ((unhide HUw8).below hb)
  have HTaw9 := hide ((unhide HTaw8).below hb)
  have HXw9 := hide ((unhide HXw8).below hb)
  have HTbw9 := hide ((unhide HTbw8).below hb)
  have HYw9 := hide ((unhide HYw8).below hb)
  have HTcw9 := hide (unhide HIB _ _ _ o)
  have HZw9 := hide (o)
  have hzw9 := hb.size
  clear hb o HBw8 HSw8 HUw8 HTaw8 HXw8 HTbw8 HYw8
  go_wp2_with fail
  refine (unhide HIM w9 (unhide HBw9) gx0 gx1 gx2 (unhide HTaw9) (unhide HTbw9) (unhide HTcw9)).mono ?_
  rintro e w10 ⟨vI, uI, rfl, oI, oL, hb⟩
  obtain ⟨aI, cI, rfl⟩ := unhide HFO _ _ _ oI
  obtain ⟨aL, cL, rfl⟩ := unhide HF2 _ _ _ oL
  have HBI := hide oI.bl
  have HBL := hide oL.bl
  have HAP := hide (ownApart oI oL (by decide))
  have HBw10 := hide (belOnD (unhide HBw9) hb)
  have HSw10 := hide ((unhide HSw9).below hb)
  have HUw10 := hide ((unhide HUw9).below hb)
  have HXw10 := hide ((unhide HXw9).below hb)
  have HYw10 := hide ((unhide HYw9).below hb)
  have HZw10 := hide ((unhide HZw9).below hb)
  have HRw10 := hide (oI.at)
  have HQw10 := hide (oL.at)
  have hzw10 := hb.size
  clear hb oI oL HBw9 HSw9 HUw9 HTaw9 HXw9 HTbw9 HYw9 HTcw9 HZw9
  go_wp2_with fail
  refine (unhide HEQ w10 aI aS cI cS (unhide HRw10) (unhide HSw10)).mono ?_
  rintro e w11 ⟨rfl, hb⟩
  have HBw11 := hide (belOnD (unhide HBw10) hb)
  have HSw11 := hide ((unhide HSw10).below hb)
  have HUw11 := hide ((unhide HUw10).below hb)
  have HXw11 := hide ((unhide HXw10).below hb)
  have HYw11 := hide ((unhide HYw10).below hb)
  have HZw11 := hide ((unhide HZw10).below hb)
  have HRw11 := hide ((unhide HRw10).below hb)
  have HQw11 := hide ((unhide HQw10).below hb)
  have hzw11 := hb.size
  clear hb HBw10 HSw10 HUw10 HXw10 HYw10 HZw10 HRw10 HQw10
  go_wp2_with fail
  refine (unhide HE2 w11 aL aT cL cT (unhide HQw11) (unhide HUw11)).mono ?_
  rintro e w12 ⟨rfl, hb⟩
  have HBw12 := hide (belOnD (unhide HBw11) hb)
  have HSw12 := hide ((unhide HSw11).below hb)
  have HUw12 := hide ((unhide HUw11).below hb)
  have HXw12 := hide ((unhide HXw11).below hb)
  have HYw12 := hide ((unhide HYw11).below hb)
  have HZw12 := hide ((unhide HZw11).below hb)
  have HRw12 := hide ((unhide HRw11).below hb)
  have HQw12 := hide ((unhide HQw11).below hb)
  have hzw12 := hb.size
  clear hb HBw11 HSw11 HUw11 HXw11 HYw11 HZw11 HRw11 HQw11
  go_wp2_with fail
  refine (unhide HTS w12 (unhide HBw12)).mono ?_
  rintro e w13 ⟨gy0, rfl, o, hb⟩
  have HBw13 := hide (belOnD (unhide HBw12) hb)
  have HSw13 := hide ((unhide HSw12).below hb)
  have HUw13 := hide ((unhide HUw12).below hb)
  have HXw13 := hide ((unhide HXw12).below hb)
  have HYw13 := hide ((unhide HYw12).below hb)
  have HZw13 := hide ((unhide HZw12).below hb)
  have HRw13 := hide ((unhide HRw12).below hb)
  have HQw13 := hide ((unhide HQw12).below hb)
  have HVw13 := hide (o.at)
  have hzw13 := hb.size
  clear hb o HBw12 HSw12 HUw12 HXw12 HYw12 HZw12 HRw12 HQw12
  go_wp2_with fail
  refine (unhide HES w13 gx0 gy0 (unhide HXw13) (unhide HVw13)).mono ?_
  rintro e w14 ⟨rfl, hb⟩
  have HBw14 := hide (belOnD (unhide HBw13) hb)
  have HSw14 := hide ((unhide HSw13).below hb)
  have HUw14 := hide ((unhide HUw13).below hb)
  have HXw14 := hide ((unhide HXw13).below hb)
  have HYw14 := hide ((unhide HYw13).below hb)
  have HZw14 := hide ((unhide HZw13).below hb)
  have HRw14 := hide ((unhide HRw13).below hb)
  have HQw14 := hide ((unhide HQw13).below hb)
  have hzw14 := hb.size
  clear hb HBw13 HSw13 HUw13 HXw13 HYw13 HZw13 HRw13 HQw13 HVw13
  go_wp2_with fail
  refine (unhide HTO w14 (unhide HBw14)).mono ?_
  rintro e w15 ⟨gy1, rfl, o, hb⟩
  have HBw15 := hide (belOnD (unhide HBw14) hb)
  have HSw15 := hide ((unhide HSw14).below hb)
  have HUw15 := hide ((unhide HUw14).below hb)
  have HXw15 := hide ((unhide HXw14).below hb)
  have HYw15 := hide ((unhide HYw14).below hb)
  have HZw15 := hide ((unhide HZw14).below hb)
  have HRw15 := hide ((unhide HRw14).below hb)
  have HQw15 := hide ((unhide HQw14).below hb)
  have HVw15 := hide (o.at)
  have hzw15 := hb.size
  clear hb o HBw14 HSw14 HUw14 HXw14 HYw14 HZw14 HRw14 HQw14
  go_wp2_with fail
  refine (unhide HEA w15 gx1 gy1 (unhide HYw15) (unhide HVw15)).mono ?_
  rintro e w16 ⟨rfl, hb⟩
  have HBw16 := hide (belOnD (unhide HBw15) hb)
  have HSw16 := hide ((unhide HSw15).below hb)
  have HUw16 := hide ((unhide HUw15).below hb)
  have HXw16 := hide ((unhide HXw15).below hb)
  have HYw16 := hide ((unhide HYw15).below hb)
  have HZw16 := hide ((unhide HZw15).below hb)
  have HRw16 := hide ((unhide HRw15).below hb)
  have HQw16 := hide ((unhide HQw15).below hb)
  have hzw16 := hb.size
  clear hb HBw15 HSw15 HUw15 HXw15 HYw15 HZw15 HRw15 HQw15 HVw15
  go_wp2_with fail
  refine (unhide HTP w16 (unhide HBw16)).mono ?_
  rintro e w17 ⟨gsy, rfl, o, hb⟩
  obtain ⟨gy2, hgy2⟩ : ∃ g, g = w16.heap.size := ⟨_, rfl⟩
  rw [← hgy2] at o ⊢
  clear hgy2
  have HBw17 := hide (belOnD (unhide HBw16) hb)
  have HSw17 := hide ((unhide HSw16).below hb)
  have HUw17 := hide ((unhide HUw16).below hb)
  have HXw17 := hide ((unhide HXw16).below hb)
  have HYw17 := hide ((unhide HYw16).below hb)
  have HZw17 := hide ((unhide HZw16).below hb)
  have HRw17 := hide ((unhide HRw16).below hb)
  have HQw17 := hide ((unhide HQw16).below hb)
  have HVw17 := hide (o)
  have hzw17 := hb.size
  clear hb o HBw16 HSw16 HUw16 HXw16 HYw16 HZw16 HRw16 HQw16
  go_wp2_with fail
  refine (unhide HEB w17 gx2 gy2 gsx gsy (unhide HZw17) (unhide HVw17)).mono ?_
  rintro e w18 ⟨rfl, hb⟩
  have HBw18 := hide (belOnD (unhide HBw17) hb)
  have HSw18 := hide ((unhide HSw17).below hb)
  have HUw18 := hide ((unhide HUw17).below hb)
  have HXw18 := hide ((unhide HXw17).below hb)
  have HYw18 := hide ((unhide HYw17).below hb)
  have HZw18 := hide ((unhide HZw17).below hb)
  have HRw18 := hide ((unhide HRw17).below hb)
  have HQw18 := hide ((unhide HQw17).below hb)
  have hzw18 := hb.size
  clear hb HBw17 HSw17 HUw17 HXw17 HYw17 HZw17 HRw17 HQw17 HVw17
  go_wp2_with fail
  refine (unhide HMS w18 gx0 (unhide HXw18)).mono ?_
  rintro e w19 ⟨rfl, -, hoa⟩
  have hpa := OnlyP.row (p := inB (some ⟨gx0, 0, none⟩)) hoa fun g o e => ⟨o, e⟩
  have HBw19 := hide ((unhide HBw18).trans (hpa.below (B := w.heap.size) (fun g hg => by obtain ⟨o, e⟩ := hg; cases e; have := (unhide HB5).size; omega) (unhide HBw18).size))
  have HSw19 := hide ((unhide HSw18).offP hpa fun g h h2 => by have := unhide HBS g h; obtain ⟨o, e⟩ := h2; cases e; omega)
  have HUw19 := hide ((unhide HUw18).offP hpa fun g h h2 => by have := unhide HBT g h; obtain ⟨o, e⟩ := h2; cases e; omega)
  have HYw19 := hide ((unhide HYw18).offP hpa fun g h h2 => by obtain ⟨o, e⟩ := h; cases e; obtain ⟨o, e⟩ := h2; cases e; omega)
  have HZw19 := hide ((unhide HZw18).offP hpa (fun h2 => by obtain ⟨o, e⟩ := h2; cases e; omega) (fun b hb2 h2 => by have := unhide HINB b hb2; obtain ⟨o, e⟩ := h2; cases e; omega))
  have HRw19 := hide ((unhide HRw18).offP hpa fun g h h2 => by have := unhide HBI g h; obtain ⟨o, e⟩ := h2; cases e; omega)
  have HQw19 := hide ((unhide HQw18).offP hpa fun g h h2 => by have := unhide HBL g h; obtain ⟨o, e⟩ := h2; cases e; omega)
  have hzw19 := hoa.size
  clear hoa hpa HBw18 HSw18 HUw18 HXw18 HYw18 HZw18 HRw18 HQw18
  go_wp2_with fail
  refine (unhide HMA w19 gx1 (unhide HYw19)).mono ?_
  rintro e w20 ⟨rfl, -, hoa⟩
  have hpa := OnlyP.row (p := inB (some ⟨gx1, 0, none⟩)) hoa fun g o e => ⟨o, e⟩
  have HBw20 := hide ((unhide HBw19).trans (hpa.below (B := w.heap.size) (fun g hg => by obtain ⟨o, e⟩ := hg; cases e; have := (unhide HB5).size; omega) (unhide HBw19).size))
  have HSw20 := hide ((unhide HSw19).offP hpa fun g h h2 => by have := unhide HBS g h; obtain ⟨o, e⟩ := h2; cases e; omega)
  have HUw20 := hide ((unhide HUw19).offP hpa fun g h h2 => by have := unhide HBT g h; obtain ⟨o, e⟩ := h2; cases e; omega)
  have HZw20 := hide ((unhide HZw19).offP hpa (fun h2 => by obtain ⟨o, e⟩ := h2; cases e; omega) (fun b hb2 h2 => by have := unhide HINB b hb2; obtain ⟨o, e⟩ := h2; cases e; omega))
  have HRw20 := hide ((unhide HRw19).offP hpa fun g h h2 => by have := unhide HBI g h; obtain ⟨o, e⟩ := h2; cases e; omega)
  have HQw20 := hide ((unhide HQw19).offP hpa fun g h h2 => by have := unhide HBL g h; obtain ⟨o, e⟩ := h2; cases e; omega)
  have hzw20 := hoa.size
  clear hoa hpa HBw19 HSw19 HUw19 HYw19 HZw19 HRw19 HQw19
  go_wp2_with fail
  refine (unhide HMB w20 gx2 gsx (unhide HZw20)).mono ?_
  rintro e w21 ⟨mk, rfl, hpa⟩
  have HBw21 := hide ((unhide HBw20).trans (hpa.below (B := w.heap.size) (fun g hg => by have := unhide HINB g hg; have := (unhide HB5).size; omega) (unhide HBw20).size))
  have HSw21 := hide ((unhide HSw20).offP hpa fun g h h2 => by have := unhide HBS g h; have := unhide HINB g h2; omega)
  have HUw21 := hide ((unhide HUw20).offP hpa fun g h h2 => by have := unhide HBT g h; have := unhide HINB g h2; omega)
  have HRw21 := hide ((unhide HRw20).offP hpa fun g h h2 => by have := unhide HBI g h; have := unhide HINB g h2; omega)
  have HQw21 := hide ((unhide HQw20).offP hpa fun g h h2 => by have := unhide HBL g h; have := unhide HINB g h2; omega)
  have hzw21 := hpa.size
  clear hpa HBw20 HSw20 HUw20 HZw20 HRw20 HQw20
  go_wp2_with fail
  refine (unhide HEQ w21 aI aS cI cS (unhide HRw21) (unhide HSw21)).mono ?_
  rintro e w22 ⟨rfl, hb⟩
  have HBw22 := hide (belOnD (unhide HBw21) hb)
  have HSw22 := hide ((unhide HSw21).below hb)
  have HUw22 := hide ((unhide HUw21).below hb)
  have HRw22 := hide ((unhide HRw21).below hb)
  have HQw22 := hide ((unhide HQw21).below hb)
  have hzw22 := hb.size
  clear hb HBw21 HSw21 HUw21 HRw21 HQw21
  go_wp2_with fail
  refine (unhide HE2 w22 aL aT cL cT (unhide HQw22) (unhide HUw22)).mono ?_
  rintro e w23 ⟨rfl, hb⟩
  have HBw23 := hide (belOnD (unhide HBw22) hb)
  have HSw23 := hide ((unhide HSw22).below hb)
  have HUw23 := hide ((unhide HUw22).below hb)
  have HRw23 := hide ((unhide HRw22).below hb)
  have HQw23 := hide ((unhide HQw22).below hb)
  have hzw23 := hb.size
  clear hb HBw22 HSw22 HUw22 HRw22 HQw22
  go_wp2_with fail
  refine (unhide HMK w23 aI cI (unhide HRw23)).mono ?_
  rintro e w24 ⟨rfl, hmk, hob⟩
  have hpb := OnlyP.row (p := inB aI) hob fun g o e => ⟨o, e⟩
  have HBw24 := hide ((unhide HBw23).trans (hpb.below (B := w.heap.size) (fun g hg => by have := unhide HBI g hg; have := (unhide HB5).size; omega) (unhide HBw23).size))
  have HSw24 := hide ((unhide HSw23).offP hpb fun g h h2 => by have := unhide HBS g h; have := unhide HBI g h2; omega)
  have HUw24 := hide ((unhide HUw23).offP hpb fun g h h2 => by have := unhide HBT g h; have := unhide HBI g h2; omega)
  have HQw24 := hide ((unhide HQw23).offP hpb fun g h h2 => unhide HAP g h2 h)
  have HKw24 := hide (hmk)
  have hzw24 := hob.size
  clear hob hpb hmk HBw23 HSw23 HUw23 HRw23 HQw23
  go_wp2_with fail
  refine (unhide HM2 w24 aL cL (unhide HQw24)).mono ?_
  rintro e w25 ⟨rfl, hmk, hob⟩
  have hpb := OnlyP.row (p := inB aL) hob fun g o e => ⟨o, e⟩
  have HBw25 := hide ((unhide HBw24).trans (hpb.below (B := w.heap.size) (fun g hg => by have := unhide HBL g hg; have := (unhide HB5).size; omega) (unhide HBw24).size))
  have HSw25 := hide ((unhide HSw24).offP hpb fun g h h2 => by have := unhide HBS g h; have := unhide HBL g h2; omega)
  have HUw25 := hide ((unhide HUw24).offP hpb fun g h h2 => by have := unhide HBT g h; have := unhide HBL g h2; omega)
  have HKw25 := hide ((unhide HKw24).offP hpb fun g h h2 => unhide HAP g h h2)
  have HJw25 := hide (hmk)
  have hzw25 := hob.size
  clear hob hpb hmk HBw24 HSw24 HUw24 HQw24 HKw24
  go_wp2_with fail
  refine (unhide HHE w25 aI cI (unhide HKw25)).mono ?_
  rintro e w26 ⟨rfl, hb⟩
  have HBw26 := hide (belOnD (unhide HBw25) hb)
  have HSw26 := hide ((unhide HSw25).below hb)
  have HUw26 := hide ((unhide HUw25).below hb)
  have HKw26 := hide ((unhide HKw25).below hb)
  have HJw26 := hide ((unhide HJw25).below hb)
  have hzw26 := hb.size
  clear hb HBw25 HSw25 HUw25 HKw25 HJw25
  go_wp2_with fail
  refine (unhide HH2 w26 aL cL (unhide HJw26)).mono ?_
  rintro e w27 ⟨rfl, hb⟩
  have HBw27 := hide (belOnD (unhide HBw26) hb)
  have HSw27 := hide ((unhide HSw26).below hb)
  have HUw27 := hide ((unhide HUw26).below hb)
  have HKw27 := hide ((unhide HKw26).below hb)
  have HJw27 := hide ((unhide HJw26).below hb)
  have hzw27 := hb.size
  clear hb HBw26 HSw26 HUw26 HKw26 HJw26
  go_wp2_with fail
  refine (unhide HTS w27 (unhide HBw27)).mono ?_
  rintro e w28 ⟨gj0, rfl, o, hb⟩
  have HBw28 := hide (belOnD (unhide HBw27) hb)
  have HSw28 := hide ((unhide HSw27).below hb)
  have HUw28 := hide ((unhide HUw27).below hb)
  have HKw28 := hide ((unhide HKw27).below hb)
  have HJw28 := hide ((unhide HJw27).below hb)
  have HTaw28 := hide (unhide HSA _ _ _ o)
  have hzw28 := hb.size
  clear hb o HBw27 HSw27 HUw27 HKw27 HJw27
  go_wp2_with fail
  refine (unhide HTO w28 (unhide HBw28)).mono ?_
  rintro e w29 ⟨gj1, rfl, o, hb⟩
  have HBw29 := hide (belOnD (unhide HBw28) hb)
  have HSw29 := hide ((unhide HSw28).below hb)
  have HUw29 := hide ((unhide HUw28).below hb)
  have HKw29 := hide ((unhide HKw28).below hb)
  have HJw29 := hide ((unhide HJw28).below hb)
  have HTaw29 := hide ((unhide HTaw28).below hb)
  have HTbw29 := hide (unhide HIA _ _ _ o)
  have hzw29 := hb.size
  clear hb o HBw28 HSw28 HUw28 HKw28 HJw28 HTaw28
  go_wp2_with fail
  refine (unhide HTP w29 (unhide HBw29)).mono ?_
  rintro e w30 ⟨gsj, rfl, o, hb⟩
  obtain ⟨gj2, hgj2⟩ : ∃ g, g = w29.heap.size := ⟨_, rfl⟩
  rw [← hgj2] at o ⊢
  clear hgj2
  have HBw30 := hide (belOnD (unhide HBw29) hb)
  have HSw30 := hide ((unhide HSw29).below hb)
  have HUw30 := hide ((unhide HUw29).below hb)
  have HKw30 := hide ((unhide HKw29).below hb)
  have HJw30 := hide ((unhide HJw29).below hb)
  have HTaw30 := hide ((unhide HTaw29).below hb)
  have HTbw30 := hide ((unhide HTbw29).below hb)
  have HTcw30 := hide (unhide HIB _ _ _ o)
  have hzw30 := hb.size
  clear hb o HBw29 HSw29 HUw29 HKw29 HJw29 HTaw29 HTbw29
  go_wp2_with fail
  refine (unhide HIM w30 (unhide HBw30) gj0 gj1 gj2 (unhide HTaw30) (unhide HTbw30) (unhide HTcw30)).mono ?_
  rintro e w31 ⟨vJ, uJ, rfl, oJ, oK, hb⟩
  obtain ⟨aJ, cJ, rfl⟩ := unhide HFO _ _ _ oJ
  obtain ⟨aM, cM, rfl⟩ := unhide HF2 _ _ _ oK
  have HBw31 := hide (belOnD (unhide HBw30) hb)
  have HSw31 := hide ((unhide HSw30).below hb)
  have HUw31 := hide ((unhide HUw30).below hb)
  have HKw31 := hide ((unhide HKw30).below hb)
  have HJw31 := hide ((unhide HJw30).below hb)
  have HRw31 := hide (oJ.at)
  have HQw31 := hide (oK.at)
  have hzw31 := hb.size
  clear hb oJ oK HBw30 HSw30 HUw30 HKw30 HJw30 HTaw30 HTbw30 HTcw30
  go_wp2_with fail
  refine (unhide HEQ w31 aJ aS cJ cS (unhide HRw31) (unhide HSw31)).mono ?_
  rintro e w32 ⟨rfl, hb⟩
  have HBw32 := hide (belOnD (unhide HBw31) hb)
  have HSw32 := hide ((unhide HSw31).below hb)
  have HUw32 := hide ((unhide HUw31).below hb)
  have HKw32 := hide ((unhide HKw31).below hb)
  have HJw32 := hide ((unhide HJw31).below hb)
  have HRw32 := hide ((unhide HRw31).below hb)
  have HQw32 := hide ((unhide HQw31).below hb)
  have hzw32 := hb.size
  clear hb HBw31 HSw31 HUw31 HKw31 HJw31 HRw31 HQw31
  go_wp2_with fail
  refine (unhide HE2 w32 aM aT cM cT (unhide HQw32) (unhide HUw32)).mono ?_
  rintro e w33 ⟨rfl, hb⟩
  have HBw33 := hide (belOnD (unhide HBw32) hb)
  have HSw33 := hide ((unhide HSw32).below hb)
  have HUw33 := hide ((unhide HUw32).below hb)
  have HKw33 := hide ((unhide HKw32).below hb)
  have HJw33 := hide ((unhide HJw32).below hb)
  have HRw33 := hide ((unhide HRw32).below hb)
  have HQw33 := hide ((unhide HQw32).below hb)
  have hzw33 := hb.size
  clear hb HBw32 HSw32 HUw32 HKw32 HJw32 HRw32 HQw32
  go_wp2_with fail
  refine (unhide HHE w33 aI cI (unhide HKw33)).mono ?_
  rintro e w34 ⟨rfl, hb⟩
  have HBw34 := hide (belOnD (unhide HBw33) hb)
  have HSw34 := hide ((unhide HSw33).below hb)
  have HUw34 := hide ((unhide HUw33).below hb)
  have HKw34 := hide ((unhide HKw33).below hb)
  have HJw34 := hide ((unhide HJw33).below hb)
  have HRw34 := hide ((unhide HRw33).below hb)
  have HQw34 := hide ((unhide HQw33).below hb)
  have hzw34 := hb.size
  clear hb HBw33 HSw33 HUw33 HKw33 HJw33 HRw33 HQw33
  go_wp2_with fail
  refine (unhide HH2 w34 aL cL (unhide HJw34)).mono ?_
  rintro e w35 ⟨rfl, hb⟩
  have HBw35 := hide (belOnD (unhide HBw34) hb)
  have HSw35 := hide ((unhide HSw34).below hb)
  have HUw35 := hide ((unhide HUw34).below hb)
  have HKw35 := hide ((unhide HKw34).below hb)
  have HJw35 := hide ((unhide HJw34).below hb)
  have HRw35 := hide ((unhide HRw34).below hb)
  have HQw35 := hide ((unhide HQw34).below hb)
  have hzw35 := hb.size
  clear hb HBw34 HSw34 HUw34 HKw34 HJw34 HRw34 HQw34
  go_wp2_with fail
  go_ret
  exact ⟨rfl, unhide HBw35⟩
end Go.Proofs.YtmicacoegkmklaaGreatDoor.fnExactPlan
