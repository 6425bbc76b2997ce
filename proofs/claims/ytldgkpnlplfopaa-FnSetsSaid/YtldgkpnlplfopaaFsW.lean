/- The walk of the law FnSets. -/
import Derived.Test.YtldgkpnlplfopaaRzE
import Derived.Test.YtldgkpnlplfopaaLzA
import Derived.Test.YtldgkpnlplfopaaBig
import Derived.Test.YtldgkpnlplfopaaManY
import Derived.Deep.QuietTactic
import Derived.BigQuiet
import Derived.WalkKit
import Derived.ProofKit
import Derived.Below
set_option linter.unusedVariables false
namespace Go.Proofs.Ytldgkpnlplfopaa.fnSets
open Go.RowKit Go.Maps
open Plain
open Classical

theorem anyB_decS (ls : List ByteArray) (s : ByteArray) : anyB ls s = decide (s ∈ ls) := by
  rw [Bool.eq_iff_iff, decide_eq_true_eq]
  exact anyB_mem ls s
theorem hasTextS (a : Option Addr) (n c : Nat) (ls : List ByteArray) (s : ByteArray) (w : World) (hn : ls.length = n) (hn2 : n ≤ 100000000) (h : StrsAt w a ls) :
    Calls Try.prog 10 #[.slice a n c, .string s] w fun e w' => e = .returned (.bool (decide (s ∈ ls))) ∧ w = w' := by
  rw [← anyB_decS]
  exact hasText_calls a n c ls s w hn hn2 h

set_option maxRecDepth 10000 in
set_option maxHeartbeats 8000000 in
theorem walk0 (a0 : Option Addr) (len0 cap0 : Nat) (z0 : List Int) (w : World) (w0 : IsRow .u8 w a0 len0 cap0 z0) :
    Calls Try.prog 3 #[.slice a0 len0 cap0] w fun e w' => e = .returned (.bool true) ∧ Below w.heap.size w w' := by
  have hlen := w0.len
  have H := hide w0
  clear w0
  by_cases hbig : len0 ≤ 1048576
  case neg =>
    have hd : decide (1048576 < (len0 : Int)) = true := by simp; omega
    clear H
    go_enter Try.func3, Try.ntmps3
    go_wp2_with fail
    refine (big_calls a0 len0 cap0 _ hlen).mono ?_
    rintro e w1 ⟨rfl, rfl⟩
    rw [hd]
    go_wp2_with fail
    go_ret
    exact ⟨rfl, Below.refl _ _⟩
  case pos =>
    have hd : decide (1048576 < (len0 : Int)) = false := by simp; omega
    go_enter Try.func3, Try.ntmps3
    go_wp2_with fail
    refine (big_calls a0 len0 cap0 _ hlen).mono ?_
    rintro e w1 ⟨rfl, rfl⟩
    rw [hd]
    go_wp2_with fail
    refine (DrawAddTo_calls a0 len0 cap0 z0 _ (unhide H) hbig).mono ?_
    rintro e w1 ⟨v, ds, d, rfl, HoD, HfD, hdl, hds, hb1⟩
    have oD := unhide HoD
    have hfD := unhide HfD
    clear HoD HfD
    obtain ⟨aD, cD, hvD⟩ := oD.form
    obtain ⟨nd, hnd⟩ : ∃ nd, ds.length = nd := ⟨_, rfl⟩
    rw [hnd] at hvD hdl
    subst hvD
    have HTA := hide (fun (W : World) (hW : Below w1.heap.size w1 W) => (show TxtsAt W aD nd ds from ⟨oD.at.below hW, hnd, by omega, fun s hs => by have := hfD s hs; omega⟩))
    have HB1 := hide hb1
    have HSP := hide (spec_AddTo aD nd cD ds d w1 (unhide HTA _ (Below.refl _ _)) oD.adG (by omega))
    have HIM0 := hide (fun (W : World) (hW : Below w1.heap.size w1 W) => impl_AddTo aD nd cD ds d W (unhide HTA _ hW) (by omega))
    clear hb1 oD hfD hd H hbig hlen
    go_wp2_with fail
    refine (unhide HSP).mono ?_
    rintro e w2 ⟨vS, ok, out, rfl, oS, HP, hb2⟩
    have HB2 := hide hb2
    have HIM := hide (unhide HIM0 w2 (unhide HB2))
    clear hb2 HSP HIM0
    obtain ⟨aS, cS, hvS⟩ := oS.form
    have hol := add_len (unhide HP)
    obtain ⟨m, hm⟩ : ∃ m, out.length = m := ⟨_, rfl⟩
    rw [hm] at hvS hol
    subst hvS
    have HOS := hide oS.at
    have HMM := hide hm
    clear oS hm
    go_wp2_with fail
    refine (unhide HIM).mono ?_
    rintro e w3 ⟨vI, ok', out', rfl, oI, HP', hb3⟩
    obtain ⟨q1, q2⟩ := add_one (unhide HP') (unhide HP)
    subst q1
    subst q2
    obtain ⟨aI, cI, hvI⟩ := oI.form
    rw [unhide HMM] at hvI
    subst hvI
    have HB3 := hide ((unhide HB2).trans (hb3.mono (unhide HB2).size))
    have HOS3 := hide ((unhide HOS).below hb3)
    have HOI := hide oI.at
    have HST := hide (fun W (hW : Below w3.heap.size w3 W) => sameTexts_calls aI aS cI cS m out' W (unhide HMM) (by omega) ((unhide HOI).below hW).strs ((unhide HOS3).below hW).strs)
    clear hb3 oI HIM HOS HB2 HP'
    have hne : ((ok' : Bool) != ok') = false := by simp
    go_wp2_with fail
    refine (unhide HST _ (Below.refl _ _)).mono ?_
    rintro e w4 ⟨rfl, hb4⟩
    have HB4 := hide ((unhide HB3).trans (hb4.mono (unhide HB3).size))
    have HB14 := hide ((unhide HB1).trans ((unhide HB4).mono (unhide HB1).size))
    have HOI4 := hide ((unhide HOI).below hb4)
    clear hb4 HST HOI HOS3 HB3
    cases ok' with
    | false =>
      go_wp2_with fail
      go_ret
      exact ⟨rfl, unhide HB14⟩
    | true =>
      obtain ⟨hok, hS⟩ : addOk ds d ∧ out' = insB d ds := by
        rcases unhide HP with ⟨_, h1, h2⟩ | ⟨h0, _⟩
        · exact ⟨h1, h2⟩
        · cases h0
      subst hS
      have h71 : d.size = 71 := (digB_form hok.2.1).1
      have HTI := hide (fun (W : World) (hW : Below w4.heap.size w4 W) => (show TxtsAt W aI m (insB d ds) from ⟨(unhide HOI4).below hW, unhide HMM, by omega, fun s hs => by
        have := (digB_form ((setB_all (ins_set hok)).2.1 s hs)).1
        omega⟩))
      have HCU := hide (impl_CutFrom aI m cI (insB d ds) d w4 (unhide HTI _ (Below.refl _ _)) (by omega))
      have HU := hide (fun (W : World) (hW : Below w4.heap.size w4 W) (p : ByteArray) (hp : p.size ≤ 10) => impl_Under aI m cI (insB d ds) p W (unhide HTI _ hW) (by omega))
      have HUT := hide (fun (W W' : World) (k : Nat) (hk : k ≤ 2) (v : Value) (o : OwnR strE W W'.heap.size v (undL (insB d ds) (d.extract 7 (7 + k)))) => (show ∃ a n c, v = .slice a n c ∧ Calls Try.prog 10 #[.slice a n c, .string d] W fun e w' => e = .returned (.bool true) ∧ W = w' from by
        obtain ⟨a, c, hv⟩ := o.form
        refine ⟨a, _, c, hv, ?_⟩
        subst hv
        have := hasTextS a _ c _ d W rfl (by have := und_len (ins_set hok) (d.extract 7 (7 + k)); omega) o.at.strs
        rw [decide_eq_true (und_has hok hk)] at this
        exact this))
      have HCK := hide (cut_ins hok)
      have HDI := hide (fun hn => del_ins hok hn)
      clear HP hok HOI4
      go_wp2_with fail
      refine (unhide HCU).mono ?_
      rintro e w5 ⟨vT, okT, T, rfl, oT, HPT, hb5⟩
      obtain ⟨rfl, hT⟩ : okT = true ∧ T = delB d (insB d ds) := by
        rcases unhide HPT with ⟨h0, _, h2⟩ | ⟨_, h1, _⟩
        · exact ⟨h0, h2⟩
        · exact absurd (unhide HCK) h1
      have htl : T.length ≤ 200 := cut_len (unhide HPT)
      obtain ⟨aT, cT, hvT⟩ := oT.form
      obtain ⟨t, ht⟩ : ∃ t, T.length = t := ⟨_, rfl⟩
      rw [ht] at hvT htl
      subst hvT
      have HTR := hide oT.at
      have HTT := hide ht
      have HDT := hide (show decide (d ∈ T) = false from decide_eq_false (by rw [hT]; exact del_not))
      have HTE := hide hT
      have HB5 := hide hb5
      have HB45 := hide ((unhide HB4).trans (hb5.mono (unhide HB4).size))
      have HH1 := hide (hasTextS aT t cT T d w5 ht (by omega) oT.at.strs)
      rw [unhide HDT] at HH1
      have HH2 := hide (hasTextS aD nd cD ds d w5 hnd (by omega) (unhide HTA _ (unhide HB45)).row.strs)
      have HRA := hide (unhide HTA _ (unhide HB45)).row.strs
      have HB15 := hide ((unhide HB1).trans ((unhide HB45).mono (unhide HB1).size))
      clear oT HPT hT ht hb5 HCU HCK HDT HTA HB4
      have HUA := hide (fun (W : World) (hW : Below w5.heap.size w5 W) (k : Nat) (hk : k ≤ 2) => (show Calls Try.prog 11 #[.slice aI m cI, .string (d.extract 7 (7 + k))] W fun e w' => (∃ a n c, e = .returned (.slice a n c) ∧ Calls Try.prog 10 #[.slice a n c, .string d] w' fun e w'' => e = .returned (.bool true) ∧ w' = w'') ∧ Below W.heap.size W w' from by
        refine (unhide HU W ((unhide HB5).trans (hW.mono (unhide HB5).size)) _ (by rw [ByteArray.size_extract]; omega)).mono ?_
        rintro e w' ⟨v, rfl, o, hb⟩
        obtain ⟨a, n, c, rfl, hc⟩ := unhide HUT w' W k hk v o
        exact ⟨⟨a, n, c, rfl, hc⟩, hb⟩))
      have he0 : d.extract 7 (7 + 0) = ByteArray.empty := by apply ByteArray.ext; simp
      have HU0 := hide (fun (W : World) (hW : Below w5.heap.size w5 W) => unhide HUA W hW 0 (by omega))
      have HU1 := hide (fun (W : World) (hW : Below w5.heap.size w5 W) => unhide HUA W hW 1 (by omega))
      have HU2 := hide (fun (W : World) (hW : Below w5.heap.size w5 W) => unhide HUA W hW 2 (by omega))
      rw [he0] at HU0
      clear HUA HU HUT he0
      go_wp2_with fail
      refine (unhide HH1).mono ?_
      rintro e w6 ⟨rfl, rfl⟩
      go_wp2_with fail
      refine (unhide HH2).mono ?_
      rintro e w6 ⟨rfl, rfl⟩
      rw [show 7 + 1 = 8 from rfl] at HU1
      rw [show 7 + 2 = 9 from rfl] at HU2
      have i8 : (8 : Int) ≤ (d.size : Int) := by omega
      have i9 : (9 : Int) ≤ (d.size : Int) := by omega
      by_cases hdm : d ∈ ds
      · rw [decide_eq_true hdm]
        go_wp2_with fail
        refine (unhide HU0 w5 (Below.refl _ _)).mono ?_
        rintro e w7 ⟨⟨a7, n7, c7, rfl, hc7⟩, hb7⟩
        have HC7 := hide hc7
        have HB7 := hide ((show Below w5.heap.size w5 w5 from Below.refl _ _).trans (hb7.mono (Nat.le_refl _)))
        clear hc7 hb7 HU0
        go_wp2_with fail
        refine (unhide HC7).mono ?_
        rintro e w8 ⟨rfl, rfl⟩
        go_wp2_with fail
        refine (unhide HU1 w7 (unhide HB7)).mono ?_
        rintro e w8 ⟨⟨a8, n8, c8, rfl, hc8⟩, hb8⟩
        have HC8 := hide hc8
        have HB8 := hide ((unhide HB7).trans (hb8.mono (unhide HB7).size))
        clear hc8 hb8 HU1 HC7 HB7
        go_wp2_with fail
        refine (unhide HC8).mono ?_
        rintro e w9 ⟨rfl, rfl⟩
        go_wp2_with fail
        refine (unhide HU2 w8 (unhide HB8)).mono ?_
        rintro e w9 ⟨⟨a9, n9, c9, rfl, hc9⟩, hb9⟩
        have HC9 := hide hc9
        have HB9 := hide ((unhide HB8).trans (hb9.mono (unhide HB8).size))
        clear hc9 hb9 HU2 HC8 HB8
        go_wp2_with fail
        refine (unhide HC9).mono ?_
        rintro e w10 ⟨rfl, rfl⟩
        go_wp2_with fail
        go_ret
        exact ⟨rfl, (unhide HB15).trans ((unhide HB9).mono (unhide HB15).size)⟩
      · rw [decide_eq_false hdm]
        have HST := hide (sameTexts_calls aT aD cT cD nd ds w5 hnd (by omega) (by rw [← unhide HDI hdm, ← unhide HTE]; exact (unhide HTR).strs) (unhide HRA))
        have htn : t = nd := by rw [← unhide HTT, ← hnd, unhide HTE, unhide HDI hdm]
        subst htn
        go_wp2_with fail
        refine (unhide HST).mono ?_
        rintro e w6 ⟨rfl, hb6⟩
        have HB6 := hide hb6
        clear hb6 HST
        go_wp2_with fail
        refine (unhide HU0 w6 (unhide HB6)).mono ?_
        rintro e w7 ⟨⟨a7, n7, c7, rfl, hc7⟩, hb7⟩
        have HC7 := hide hc7
        have HB7 := hide ((unhide HB6).trans (hb7.mono (unhide HB6).size))
        clear hc7 hb7 HU0
        go_wp2_with fail
        refine (unhide HC7).mono ?_
        rintro e w8 ⟨rfl, rfl⟩
        go_wp2_with fail
        refine (unhide HU1 w7 (unhide HB7)).mono ?_
        rintro e w8 ⟨⟨a8, n8, c8, rfl, hc8⟩, hb8⟩
        have HC8 := hide hc8
        have HB8 := hide ((unhide HB7).trans (hb8.mono (unhide HB7).size))
        clear hc8 hb8 HU1 HC7 HB7
        go_wp2_with fail
        refine (unhide HC8).mono ?_
        rintro e w9 ⟨rfl, rfl⟩
        go_wp2_with fail
        refine (unhide HU2 w8 (unhide HB8)).mono ?_
        rintro e w9 ⟨⟨a9, n9, c9, rfl, hc9⟩, hb9⟩
        have HC9 := hide hc9
        have HB9 := hide ((unhide HB8).trans (hb9.mono (unhide HB8).size))
        clear hc9 hb9 HU2 HC8 HB8
        go_wp2_with fail
        refine (unhide HC9).mono ?_
        rintro e w10 ⟨rfl, rfl⟩
        go_wp2_with fail
        go_ret
        exact ⟨rfl, (unhide HB15).trans ((unhide HB9).mono (unhide HB15).size)⟩
end Go.Proofs.Ytldgkpnlplfopaa.fnSets
