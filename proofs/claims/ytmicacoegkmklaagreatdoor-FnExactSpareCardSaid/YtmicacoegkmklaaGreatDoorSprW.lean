/- The walk of the law FnExactSpare. -/
import Derived.Test.YtmicacoegkmklaaGreatDoorRzP
import Derived.Test.YtmicacoegkmklaaGreatDoorRzQ
import Derived.Test.YtmicacoegkmklaaGreatDoorHavR
import Derived.Test.YtmicacoegkmklaaGreatDoorRzD
import Derived.Test.YtmicacoegkmklaaGreatDoorMrkC
import Derived.WalkKit
import Derived.ProofKit
import Derived.Below
set_option linter.unusedVariables false
namespace Go.Proofs.YtmicacoegkmklaaGreatDoor.fnExactSpare
open Go.RowKit
open Plain

theorem ownApart {α β : Type} {e : Elem α} {e' : Elem β} {W : World} {B B' n n' c c' : Nat} {a a' : Option Addr} {xs : List α} {ys : List β} (h : OwnR e W B (.slice a n c) xs) (h' : OwnR e' W B' (.slice a' n' c') ys) (hne : e.E ≠ e'.E) : ∀ g, inB a g → ¬ inB a' g := by
  rintro g ⟨o, rfl⟩ ⟨o', rfl⟩
  rcases h.2 with ⟨q, _⟩ | ⟨g1, cap, cur, q, _, h3, _⟩
  · cases q
  · rcases h'.2 with ⟨q', _⟩ | ⟨g2, cap', cur', q', _, h3', _⟩
    · cases q'
    · have e1 : g = g1 := by simp at q; exact q.1.1
      have e2 : g = g2 := by simp at q'; exact q'.1.1
      subst e1
      subst e2
      rw [h3] at h3'
      simp at h3'
      exact hne h3'.2

set_option maxRecDepth 10000 in
set_option maxHeartbeats 8000000 in
theorem walk0 (ad : Option Addr) (nd cd : Nat) (ds : List ByteArray) (a1 : Option Addr) (n1 c1 : Nat) (ns : List Int) (a2 : Option Addr) (n2 c2 : Nat) (hs : List (List ByteArray)) (k : Int) (w : World) (hp : StrsRow w ad nd cd ds) (hv1 : ArgRow 1 intL goodI w a1 n1 c1 ns) (hv2 : StrssRow w a2 n2 c2 hs) (wk : (Lit.int .i64 k).wf = true) (hK : KAt w) (hT : TzAt w) :
    Calls Tryz.prog 4 #[.slice ad nd cd, .slice a1 n1 c1, .slice a2 n2 c2, .int .i64 k] w fun e w' => e = .returned (.bool true) ∧ Below w.heap.size w w' := by
  have h0 : 1 < w.heap.size := lt_of_cell (hK 0 (by omega))
  have lv1 := hv1.le
  unfold maxLen at lv1
  by_cases hbig1 : 1048576 < n1
  · clear hv1 hv2 hK hT hp
    go_enter Tryz.func4, Tryz.ntmps4
    go_wp2_with fail
    go_ret
    exact ⟨rfl, Below.refl _ _⟩
  obtain ⟨hn, hn2, hsz, hr⟩ := hp
  unfold maxLen at hn2 hsz
  have HSZ := hide (szStringS_calls ad nd cd ds 1048576 w hn (by omega) (fun l hl => by have := hsz l hl; omega) (by omega) (by omega) hr)
  unfold szL at HSZ
  rw [hn] at HSZ
  by_cases hbig : (1048576 : Int) < (nd : Int) + sumZ ds
  · rw [if_pos hbig] at HSZ
    clear hn hn2 hsz hr hbig hv1 hv2 hK hT
    go_enter Tryz.func4, Tryz.ntmps4
    go_wp2_with fail
    refine (unhide HSZ).mono ?_
    rintro e w1 ⟨rfl, hb1⟩
    have HB1 := hide hb1
    clear hb1
    go_wp2_with fail
    go_ret
    exact ⟨rfl, unhide HB1⟩
  rw [if_neg hbig] at HSZ
  obtain ⟨r, hr2⟩ : ∃ r : Nat, (1048576 : Int) - ((nd : Int) + sumZ ds) = (r : Int) := ⟨1048576 - (nd + sumZ ds), by omega⟩
  rw [hr2] at HSZ
  have hrl : r ≤ 1048576 := by omega
  have HZ2 := hide (fun (W : World) (hW : Below w.heap.size w W) => szStringSS_calls a2 n2 c2 hs (r : Int) W (by omega) (by omega) (hv2.below hW))
  by_cases hfit : ((n2 + totS hs : Nat) : Int) ≤ (r : Int)
  case neg =>
    have HZ3 := hide (fun (W : World) (hW : Below w.heap.size w W) => (unhide HZ2 W hW).mono (fun e w' h => (show e = .returned (.int .i64 (-1)) ∧ Below W.heap.size W w' from by
      obtain ⟨q, rfl, hq, hb⟩ := h
      rcases hq with rfl | hq
      · exact ⟨rfl, hb⟩
      · exact absurd hq.2.2 hfit)))
    clear hn hn2 hsz hr hbig hv1 hv2 hK hT HZ2 hfit hr2
    go_enter Tryz.func4, Tryz.ntmps4
    go_wp2_with fail
    refine (unhide HSZ).mono ?_
    rintro e w1 ⟨rfl, hb1⟩
    have HB1 := hide hb1
    clear hb1
    go_wp2_with fail
    refine (unhide HZ3 w1 (unhide HB1)).mono ?_
    rintro e w2 ⟨rfl, hb2⟩
    have HB2 := hide (belOnD (unhide HB1) hb2)
    clear hb2
    go_wp2_with fail
    go_ret
    exact ⟨rfl, unhide HB2⟩
  have hz2 : n2 + totS hs ≤ 1048576 := by omega
  have hz : ∀ s ∈ ds, s.size ≤ 1048576 := fun s hs => by have := sumZ_mem ds s hs; omega
  have hnd : nd ≤ 1048576 := by omega
  have hn1 : n1 ≤ 1048576 := by omega
  have HTS := hide (fun (W : World) (hW : Below w.heap.size w W) => toStringS_calls ad nd cd ds W hn hnd (hr.below hW))
  have HTO := hide (fun (W : World) (hW : Below w.heap.size w W) => toInt64S_calls a1 n1 c1 ns W hv1.len hn1 (hv1.row.below hW))
  have HTP := hide (fun (W : World) (hW : Below w.heap.size w W) => toStringSS_calls a2 n2 c2 hs W hz2 (hv2.below hW))
  have HSA := hide (fun (W : World) (B g : Nat) (h : OwnR strE W B (.slice (some ⟨g, 0, none⟩) nd nd) ds) => (show TxtsAt W (some ⟨g, 0, none⟩) nd ds from ⟨h.at, hn, hnd, fun s hs => by have := hz s hs; omega⟩))
  have HIA := hide (fun (W : World) (B g : Nat) (h : OwnR i64E W B (.slice (some ⟨g, 0, none⟩) n1 n1) ns) => (show IntsAt W (some ⟨g, 0, none⟩) n1 ns from ⟨h.at, hv1.len, hn1⟩))
  have HIB := hide (fun (W : World) (g : Nat) (gs : List Nat) (h : HavG W g gs hs) => (show HavAt W (some ⟨g, 0, none⟩) n2 hs from h.at hv2.1 hz2))
  have HSP := hide (fun (W : World) (g g1 g2 : Nat) (h : TxtsAt W (some ⟨g, 0, none⟩) nd ds) (h1 : IntsAt W (some ⟨g1, 0, none⟩) n1 ns) (h2 : HavAt W (some ⟨g2, 0, none⟩) n2 hs) => spec_Spare (some ⟨g, 0, none⟩) nd nd ds (some ⟨g1, 0, none⟩) n1 n1 ns (some ⟨g2, 0, none⟩) n2 n2 hs k W h h1 h2)
  have HIM := hide (fun (W : World) (hW : Below w.heap.size w W) (g g1 g2 : Nat) (h : TxtsAt W (some ⟨g, 0, none⟩) nd ds) (h1 : IntsAt W (some ⟨g1, 0, none⟩) n1 ns) (h2 : HavAt W (some ⟨g2, 0, none⟩) n2 hs) => impl_Spare (some ⟨g, 0, none⟩) nd nd ds (some ⟨g1, 0, none⟩) n1 n1 ns (some ⟨g2, 0, none⟩) n2 n2 hs k W h h1 h2 (hK.below hW h0) (hT.below hW hT.2))
  have HES := hide (fun (W : World) (g g' : Nat) (h : RowAt strE W (some ⟨g, 0, none⟩) ds) (h' : RowAt strE W (some ⟨g', 0, none⟩) ds) => eqStringS_calls (some ⟨g, 0, none⟩) (some ⟨g', 0, none⟩) nd nd nd ds W hn (by omega) h.strs h'.strs)
  have HEA := hide (fun (W : World) (g g' : Nat) (h : RowAt i64E W (some ⟨g, 0, none⟩) ns) (h' : RowAt i64E W (some ⟨g', 0, none⟩) ns) => eqInt64S_calls (some ⟨g, 0, none⟩) (some ⟨g', 0, none⟩) n1 n1 n1 ns W hv1.len (by omega) h h')
  have HEB := hide (fun (W : World) (g g' : Nat) (gs gs' : List Nat) (h : HavG W g gs hs) (h' : HavG W g' gs' hs) => eqStringSS_calls g g' n2 gs gs' hs W hv2.1 hz2 h h')
  have HMS := hide (fun (W : World) (g : Nat) (h : RowAt strE W (some ⟨g, 0, none⟩) ds) => markStringS_calls 1 (some ⟨g, 0, none⟩) nd nd ds W (by decide) (by decide) hn (by omega) h)
  obtain ⟨M0, hM0⟩ : ∃ M0, 1 + nd = M0 := ⟨_, rfl⟩
  have HMA := hide (fun (W : World) (g : Nat) (h : RowAt i64E W (some ⟨g, 0, none⟩) ns) => markInt64S_calls M0 (some ⟨g, 0, none⟩) n1 n1 ns W (by omega) hv1.len (by omega) h)
  rw [hM0] at HMS
  obtain ⟨M1, hM1⟩ : ∃ M1, M0 + n1 = M1 := ⟨_, rfl⟩
  rw [hM1] at HMA
  have HMB := hide (fun (W : World) (g : Nat) (gs : List Nat) (h : HavG W g gs hs) => markStringSS_calls M1 g n2 gs hs W (by omega) (by omega) hv2.1 hz2 h)
  have hRl : (spL ds ns hs k).length ≤ 10000 := spL_len ds ns hs k
  generalize spL ds ns hs k = R at HSP HIM hRl
  generalize rpB ds ns hs k = b at HSP HIM
  obtain ⟨m, hm⟩ : ∃ m, R.length = m := ⟨_, rfl⟩
  rw [hm] at hRl
  have HFO := hide (fun (W : World) (B : Nat) (v : Value) (h : OwnR cpyE W B v R) => (show ∃ x y, v = .slice x m y from by
    obtain ⟨x, y, e⟩ := h.form
    exact ⟨x, y, by rw [e, hm]⟩))
  have HEQ := hide (fun (W : World) (x y : Option Addr) (cx cy : Nat) (h : RowAt cpyE W x R) (h' : RowAt cpyE W y R) => eqCopyS_calls x y cx cy m R W hm (by omega) h h')
  have HMK := hide (fun (W : World) (x : Option Addr) (cx : Nat) (h : RowAt cpyE W x R) => markCopyS_calls 1 x cx m R W (by decide) (by decide) hm (by omega) h)
  have HHE := hide (fun (W : World) (x : Option Addr) (cx : Nat) (h : RowAt cpyE W x (mkC 1 m)) => heldCopyS_calls 1 x cx m W (by decide) (by decide) (by omega) h)
  obtain ⟨M, hM⟩ : ∃ M, 1 + m * 3 = M := ⟨_, rfl⟩
  rw [hM] at HMK HHE
  clear hv1 hv2 hK hT hm hM hM0 hM1 lv1 wk hn hn2 hsz hr hbig hr2 hz hz2 hfit
  go_enter Tryz.func4, Tryz.ntmps4
  go_wp2_with fail
  refine (unhide HSZ).mono ?_
  rintro e w1 ⟨rfl, hb1⟩
  have HBw1 := hide hb1
  clear hb1 HSZ
  go_wp2_with fail
  refine (unhide HZ2 w1 (unhide HBw1)).mono ?_
  rintro e w2 ⟨q2, rfl, hq, hb⟩
  have hq2 : 0 ≤ q2 ∧ q2 ≤ 10000000 ∨ q2 = -1 := by rcases hq with q | q; exact .inr q; exact .inl ⟨q.1, q.2.1⟩
  have HBw2 := hide (belOnD (unhide HBw1) hb)
  clear hb hq HBw1 HZ2
  rcases hq2 with ⟨hq0, hq1⟩ | rfl
  case inr =>
    go_wp2_with fail
    go_ret
    exact ⟨rfl, unhide HBw2⟩
  go_wp2_with fail
  refine (unhide HTS w2 (unhide HBw2)).mono ?_
  rintro e w3 ⟨gs0, rfl, o, hb⟩
  have HBw3 := hide (belOnD (unhide HBw2) hb)
  have HTaw3 := hide (unhide HSA _ _ _ o)
  have hzw3 := hb.size
  clear hb o HBw2
  go_wp2_with fail
  refine (unhide HTO w3 (unhide HBw3)).mono ?_
  rintro e w4 ⟨gs1, rfl, o, hb⟩
  have HBw4 := hide (belOnD (unhide HBw3) hb)
  have HTaw4 := hide ((unhide HTaw3).below hb)
  have HTbw4 := hide (unhide HIA _ _ _ o)
  have hzw4 := hb.size
  clear hb o HBw3 HTaw3
  go_wp2_with fail
  refine (unhide HTP w4 (unhide HBw4)).mono ?_
  rintro e w5 ⟨qs2, rfl, o, hb⟩
  obtain ⟨gs2, hgs2⟩ : ∃ g, g = w4.heap.size := ⟨_, rfl⟩
  rw [← hgs2] at o ⊢
  clear hgs2
  have HBw5 := hide (belOnD (unhide HBw4) hb)
  have HTaw5 := hide ((unhide HTaw4).below hb)
  have HTbw5 := hide ((unhide HTbw4).below hb)
  have HTcw5 := hide (unhide HIB _ _ _ o)
  have hzw5 := hb.size
  clear hb o HBw4 HTaw4 HTbw4
  go_wp2_with fail
  refine (unhide HSP w5 gs0 gs1 gs2 (unhide HTaw5) (unhide HTbw5) (unhide HTcw5)).mono ?_
  rintro e w6 ⟨vS, rfl, oS, hb⟩
  obtain ⟨aS, cS, rfl⟩ := unhide HFO _ _ _ oS
  have HBS := hide oS.bl
  have hszS : w5.heap.size ≤ w6.heap.size := hb.size
  have HB5 := hide (belOnD (unhide HBw5) hb)
  have HBw6 := hide (belOnD (unhide HBw5) hb)
  have HSw6 := hide (oS.at)
  have hzw6 := hb.size
  clear hb oS HBw5 HTaw5 HTbw5 HTcw5
  go_wp2_with fail
  refine (unhide HTS w6 (unhide HBw6)).mono ?_
  rintro e w7 ⟨gx0, rfl, o, hb⟩
  have hlgx0 := o.bl gx0 ⟨0, rfl⟩
  have HBw7 := hide (belOnD (unhide HBw6) hb)
  have HSw7 := hide ((unhide HSw6).below hb)
  have HTaw7 := hide (unhide HSA _ _ _ o)
  have HXw7 := hide (o.at)
  have hzw7 := hb.size
  clear hb o HBw6 HSw6
  go_wp2_with fail
  refine (unhide HTO w7 (unhide HBw7)).mono ?_
  rintro e w8 ⟨gx1, rfl, o, hb⟩
  have hlgx1 := o.bl gx1 ⟨0, rfl⟩
  have HBw8 := hide (belOnD (unhide HBw7) hb)
  have HSw8 := hide ((unhide HSw7).below hb)
  have HTaw8 := hide ((unhide HTaw7).below hb)
  have HXw8 := hide ((unhide HXw7).below hb)
  have HTbw8 := hide (unhide HIA _ _ _ o)
  have HYw8 := hide (o.at)
  have hzw8 := hb.size
  clear hb o HBw7 HSw7 HTaw7 HXw7
  go_wp2_with fail
  refine (unhide HTP w8 (unhide HBw8)).mono ?_
  rintro e w9 ⟨gsx, rfl, o, hb⟩
  obtain ⟨gx2, hgx2⟩ : ∃ g, g = w8.heap.size := ⟨_, rfl⟩
  have hlx2 : w8.heap.size ≤ gx2 := by omega
  rw [← hgx2] at o ⊢
  have HINB := hide o.inb
  have hltx2 := o.lt
  clear hgx2
  have HBw9 := hide (belOnD (unhide HBw8) hb)
  have HSw9 := hide ((unhide HSw8).below hb)
  have HTaw9 := hide ((unhide HTaw8).below hb)
  have HXw9 := hide ((unhide HXw8).below hb)
  have HTbw9 := hide ((unhide HTbw8).below hb)
  have HYw9 := hide ((unhide HYw8).below hb)
  have HTcw9 := hide (unhide HIB _ _ _ o)
  have HZw9 := hide (o)
  have hzw9 := hb.size
  clear hb o HBw8 HSw8 HTaw8 HXw8 HTbw8 HYw8
  go_wp2_with fail
  refine (unhide HIM w9 (unhide HBw9) gx0 gx1 gx2 (unhide HTaw9) (unhide HTbw9) (unhide HTcw9)).mono ?_
  rintro e w10 ⟨vI, rfl, oI, hb⟩
  obtain ⟨aI, cI, rfl⟩ := unhide HFO _ _ _ oI
  have HBI := hide oI.bl
  have HBw10 := hide (belOnD (unhide HBw9) hb)
  have HSw10 := hide ((unhide HSw9).below hb)
  have HXw10 := hide ((unhide HXw9).below hb)
  have HYw10 := hide ((unhide HYw9).below hb)
  have HZw10 := hide ((unhide HZw9).below hb)
  have HRw10 := hide (oI.at)
  have hzw10 := hb.size
  clear hb oI HBw9 HSw9 HTaw9 HXw9 HTbw9 HYw9 HTcw9 HZw9
  go_wp2_with fail
  refine (unhide HEQ w10 aI aS cI cS (unhide HRw10) (unhide HSw10)).mono ?_
  rintro e w11 ⟨rfl, hb⟩
  have HBw11 := hide (belOnD (unhide HBw10) hb)
  have HSw11 := hide ((unhide HSw10).below hb)
  have HXw11 := hide ((unhide HXw10).below hb)
  have HYw11 := hide ((unhide HYw10).below hb)
  have HZw11 := hide ((unhide HZw10).below hb)
  have HRw11 := hide ((unhide HRw10).below hb)
  have hzw11 := hb.size
  clear hb HBw10 HSw10 HXw10 HYw10 HZw10 HRw10
  go_wp2_with fail
  refine (unhide HTS w11 (unhide HBw11)).mono ?_
  rintro e w12 ⟨gy0, rfl, o, hb⟩
  have HBw12 := hide (belOnD (unhide HBw11) hb)
  have HSw12 := hide ((unhide HSw11).below hb)
  have HXw12 := hide ((unhide HXw11).below hb)
  have HYw12 := hide ((unhide HYw11).below hb)
  have HZw12 := hide ((unhide HZw11).below hb)
  have HRw12 := hide ((unhide HRw11).below hb)
  have HVw12 := hide (o.at)
  have hzw12 := hb.size
  clear hb o HBw11 HSw11 HXw11 HYw11 HZw11 HRw11
  go_wp2_with fail
  refine (unhide HES w12 gx0 gy0 (unhide HXw12) (unhide HVw12)).mono ?_
  rintro e w13 ⟨rfl, hb⟩
  have HBw13 := hide (belOnD (unhide HBw12) hb)
  have HSw13 := hide ((unhide HSw12).below hb)
  have HXw13 := hide ((unhide HXw12).below hb)
  have HYw13 := hide ((unhide HYw12).below hb)
  have HZw13 := hide ((unhide HZw12).below hb)
  have HRw13 := hide ((unhide HRw12).below hb)
  have hzw13 := hb.size
  clear hb HBw12 HSw12 HXw12 HYw12 HZw12 HRw12 HVw12
  go_wp2_with fail
  refine (unhide HTO w13 (unhide HBw13)).mono ?_
  rintro e w14 ⟨gy1, rfl, o, hb⟩
  have HBw14 := hide (belOnD (unhide HBw13) hb)
  have HSw14 := hide ((unhide HSw13).below hb)
  have HXw14 := hide ((unhide HXw13).below hb)
  have HYw14 := hide ((unhide HYw13).below hb)
  have HZw14 := hide ((unhide HZw13).below hb)
  have HRw14 := hide ((unhide HRw13).below hb)
  have HVw14 := hide (o.at)
  have hzw14 := hb.size
  clear hb o HBw13 HSw13 HXw13 HYw13 HZw13 HRw13
  go_wp2_with fail
  refine (unhide HEA w14 gx1 gy1 (unhide HYw14) (unhide HVw14)).mono ?_
  rintro e w15 ⟨rfl, hb⟩
  have HBw15 := hide (belOnD (unhide HBw14) hb)
  have HSw15 := hide ((unhide HSw14).below hb)
  have HXw15 := hide ((unhide HXw14).below hb)
  have HYw15 := hide ((unhide HYw14).below hb)
  have HZw15 := hide ((unhide HZw14).below hb)
  have HRw15 := hide ((unhide HRw14).below hb)
  have hzw15 := hb.size
  clear hb HBw14 HSw14 HXw14 HYw14 HZw14 HRw14 HVw14
  go_wp2_with fail
  refine (unhide HTP w15 (unhide HBw15)).mono ?_
  rintro e w16 ⟨gsy, rfl, o, hb⟩
  obtain ⟨gy2, hgy2⟩ : ∃ g, g = w15.heap.size := ⟨_, rfl⟩
  rw [← hgy2] at o ⊢
  clear hgy2
  have HBw16 := hide (belOnD (unhide HBw15) hb)
  have HSw16 := hide ((unhide HSw15).below hb)
  have HXw16 := hide ((unhide HXw15).below hb)
  have HYw16 := hide ((unhide HYw15).below hb)
  have HZw16 := hide ((unhide HZw15).below hb)
  have HRw16 := hide ((unhide HRw15).below hb)
  have HVw16 := hide (o)
  have hzw16 := hb.size
  clear hb o HBw15 HSw15 HXw15 HYw15 HZw15 HRw15
  go_wp2_with fail
  refine (unhide HEB w16 gx2 gy2 gsx gsy (unhide HZw16) (unhide HVw16)).mono ?_
  rintro e w17 ⟨rfl, hb⟩
  have HBw17 := hide (belOnD (unhide HBw16) hb)
  have HSw17 := hide ((unhide HSw16).below hb)
  have HXw17 := hide ((unhide HXw16).below hb)
  have HYw17 := hide ((unhide HYw16).below hb)
  have HZw17 := hide ((unhide HZw16).below hb)
  have HRw17 := hide ((unhide HRw16).below hb)
  have hzw17 := hb.size
  clear hb HBw16 HSw16 HXw16 HYw16 HZw16 HRw16 HVw16
  go_wp2_with fail
  refine (unhide HMS w17 gx0 (unhide HXw17)).mono ?_
  rintro e w18 ⟨rfl, -, hoa⟩
  have hpa := OnlyP.row (p := inB (some ⟨gx0, 0, none⟩)) hoa fun g o e => ⟨o, e⟩
  have HBw18 := hide ((unhide HBw17).trans (hpa.below (B := w.heap.size) (fun g hg => by obtain ⟨o, e⟩ := hg; cases e; have := (unhide HB5).size; omega) (unhide HBw17).size))
  have HSw18 := hide ((unhide HSw17).offP hpa fun g h h2 => by have := unhide HBS g h; obtain ⟨o, e⟩ := h2; cases e; omega)
  have HYw18 := hide ((unhide HYw17).offP hpa fun g h h2 => by obtain ⟨o, e⟩ := h; cases e; obtain ⟨o, e⟩ := h2; cases e; omega)
  have HZw18 := hide ((unhide HZw17).offP hpa (fun h2 => by obtain ⟨o, e⟩ := h2; cases e; omega) (fun b hb2 h2 => by have := unhide HINB b hb2; obtain ⟨o, e⟩ := h2; cases e; omega))
  have HRw18 := hide ((unhide HRw17).offP hpa fun g h h2 => by have := unhide HBI g h; obtain ⟨o, e⟩ := h2; cases e; omega)
  have hzw18 := hoa.size
  clear hoa hpa HBw17 HSw17 HXw17 HYw17 HZw17 HRw17
  go_wp2_with fail
  refine (unhide HMA w18 gx1 (unhide HYw18)).mono ?_
  rintro e w19 ⟨rfl, -, hoa⟩
  have hpa := OnlyP.row (p := inB (some ⟨gx1, 0, none⟩)) hoa fun g o e => ⟨o, e⟩
  have HBw19 := hide ((unhide HBw18).trans (hpa.below (B := w.heap.size) (fun g hg => by obtain ⟨o, e⟩ := hg; cases e; have := (unhide HB5).size; omega) (unhide HBw18).size))
  have HSw19 := hide ((unhide HSw18).offP hpa fun g h h2 => by have := unhide HBS g h; obtain ⟨o, e⟩ := h2; cases e; omega)
  have HZw19 := hide ((unhide HZw18).offP hpa (fun h2 => by obtain ⟨o, e⟩ := h2; cases e; omega) (fun b hb2 h2 => by have := unhide HINB b hb2; obtain ⟨o, e⟩ := h2; cases e; omega))
  have HRw19 := hide ((unhide HRw18).offP hpa fun g h h2 => by have := unhide HBI g h; obtain ⟨o, e⟩ := h2; cases e; omega)
  have hzw19 := hoa.size
  clear hoa hpa HBw18 HSw18 HYw18 HZw18 HRw18
  go_wp2_with fail
  refine (unhide HMB w19 gx2 gsx (unhide HZw19)).mono ?_
  rintro e w20 ⟨mk, rfl, hpa⟩
  have HBw20 := hide ((unhide HBw19).trans (hpa.below (B := w.heap.size) (fun g hg => by have := unhide HINB g hg; have := (unhide HB5).size; omega) (unhide HBw19).size))
  have HSw20 := hide ((unhide HSw19).offP hpa fun g h h2 => by have := unhide HBS g h; have := unhide HINB g h2; omega)
  have HRw20 := hide ((unhide HRw19).offP hpa fun g h h2 => by have := unhide HBI g h; have := unhide HINB g h2; omega)
  have hzw20 := hpa.size
  clear hpa HBw19 HSw19 HZw19 HRw19
  go_wp2_with fail
  refine (unhide HEQ w20 aI aS cI cS (unhide HRw20) (unhide HSw20)).mono ?_
  rintro e w21 ⟨rfl, hb⟩
  have HBw21 := hide (belOnD (unhide HBw20) hb)
  have HSw21 := hide ((unhide HSw20).below hb)
  have HRw21 := hide ((unhide HRw20).below hb)
  have hzw21 := hb.size
  clear hb HBw20 HSw20 HRw20
  go_wp2_with fail
  refine (unhide HMK w21 aI cI (unhide HRw21)).mono ?_
  rintro e w22 ⟨rfl, hmk, hob⟩
  have hpb := OnlyP.row (p := inB aI) hob fun g o e => ⟨o, e⟩
  have HBw22 := hide ((unhide HBw21).trans (hpb.below (B := w.heap.size) (fun g hg => by have := unhide HBI g hg; have := (unhide HB5).size; omega) (unhide HBw21).size))
  have HSw22 := hide ((unhide HSw21).offP hpb fun g h h2 => by have := unhide HBS g h; have := unhide HBI g h2; omega)
  have HKw22 := hide (hmk)
  have hzw22 := hob.size
  clear hob hpb hmk HBw21 HSw21 HRw21
  go_wp2_with fail
  refine (unhide HHE w22 aI cI (unhide HKw22)).mono ?_
  rintro e w23 ⟨rfl, hb⟩
  have HBw23 := hide (belOnD (unhide HBw22) hb)
  have HSw23 := hide ((unhide HSw22).below hb)
  have HKw23 := hide ((unhide HKw22).below hb)
  have hzw23 := hb.size
  clear hb HBw22 HSw22 HKw22
  go_wp2_with fail
  refine (unhide HTS w23 (unhide HBw23)).mono ?_
  rintro e w24 ⟨gj0, rfl, o, hb⟩
  have HBw24 := hide (belOnD (unhide HBw23) hb)
  have HSw24 := hide ((unhide HSw23).below hb)
  have HKw24 := hide ((unhide HKw23).below hb)
  have HTaw24 := hide (unhide HSA _ _ _ o)
  have hzw24 := hb.size
  clear hb o HBw23 HSw23 HKw23
  go_wp2_with fail
  refine (unhide HTO w24 (unhide HBw24)).mono ?_
  rintro e w25 ⟨gj1, rfl, o, hb⟩
  have HBw25 := hide (belOnD (unhide HBw24) hb)
  have HSw25 := hide ((unhide HSw24).below hb)
  have HKw25 := hide ((unhide HKw24).below hb)
  have HTaw25 := hide ((unhide HTaw24).below hb)
  have HTbw25 := hide (unhide HIA _ _ _ o)
  have hzw25 := hb.size
  clear hb o HBw24 HSw24 HKw24 HTaw24
  go_wp2_with fail
  refine (unhide HTP w25 (unhide HBw25)).mono ?_
  rintro e w26 ⟨gsj, rfl, o, hb⟩
  obtain ⟨gj2, hgj2⟩ : ∃ g, g = w25.heap.size := ⟨_, rfl⟩
  rw [← hgj2] at o ⊢
  clear hgj2
  have HBw26 := hide (belOnD (unhide HBw25) hb)
  have HSw26 := hide ((unhide HSw25).below hb)
  have HKw26 := hide ((unhide HKw25).below hb)
  have HTaw26 := hide ((unhide HTaw25).below hb)
  have HTbw26 := hide ((unhide HTbw25).below hb)
  have HTcw26 := hide (unhide HIB _ _ _ o)
  have hzw26 := hb.size
  clear hb o HBw25 HSw25 HKw25 HTaw25 HTbw25
  go_wp2_with fail
  refine (unhide HIM w26 (unhide HBw26) gj0 gj1 gj2 (unhide HTaw26) (unhide HTbw26) (unhide HTcw26)).mono ?_
  rintro e w27 ⟨vJ, rfl, oJ, hb⟩
  obtain ⟨aJ, cJ, rfl⟩ := unhide HFO _ _ _ oJ
  have HBw27 := hide (belOnD (unhide HBw26) hb)
  have HSw27 := hide ((unhide HSw26).below hb)
  have HKw27 := hide ((unhide HKw26).below hb)
  have HRw27 := hide (oJ.at)
  have hzw27 := hb.size
  clear hb oJ HBw26 HSw26 HKw26 HTaw26 HTbw26 HTcw26
  go_wp2_with fail
  refine (unhide HEQ w27 aJ aS cJ cS (unhide HRw27) (unhide HSw27)).mono ?_
  rintro e w28 ⟨rfl, hb⟩
  have HBw28 := hide (belOnD (unhide HBw27) hb)
  have HSw28 := hide ((unhide HSw27).below hb)
  have HKw28 := hide ((unhide HKw27).below hb)
  have HRw28 := hide ((unhide HRw27).below hb)
  have hzw28 := hb.size
  clear hb HBw27 HSw27 HKw27 HRw27
  go_wp2_with fail
  refine (unhide HHE w28 aI cI (unhide HKw28)).mono ?_
  rintro e w29 ⟨rfl, hb⟩
  have HBw29 := hide (belOnD (unhide HBw28) hb)
  have HSw29 := hide ((unhide HSw28).below hb)
  have HKw29 := hide ((unhide HKw28).below hb)
  have HRw29 := hide ((unhide HRw28).below hb)
  have hzw29 := hb.size
  clear hb HBw28 HSw28 HKw28 HRw28
  go_wp2_with fail
  go_ret
  exact ⟨rfl, unhide HBw29⟩
end Go.Proofs.YtmicacoegkmklaaGreatDoor.fnExactSpare
