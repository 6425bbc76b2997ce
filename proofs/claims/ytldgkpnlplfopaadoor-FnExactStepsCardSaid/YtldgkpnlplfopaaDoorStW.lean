/- The walk of the law FnExactSteps. -/
import Derived.Test.YtldgkpnlplfopaaDoorStJ
import Derived.Test.YtldgkpnlplfopaaDoorStS
import Derived.Test.YtldgkpnlplfopaaDoorRzE
namespace Go.Proofs.YtldgkpnlplfopaaDoor
open Go.RowKit Go.Maps Plain
set_option linter.unusedVariables false

theorem spec_Steps (a : Option Addr) (n c : Nat) (A : List ByteArray) (a' : Option Addr) (n' c' : Nat) (B : List ByteArray) (w : World) (h : TxtsAt w a n A) (h' : TxtsAt w a' n' B) :
    Calls Tryd.prog 10 #[.slice a n c, .slice a' n' c'] w (StpQ A B w) := by
  cases hno : stOk A B with
  | false => exact spec_StepsNo a n c A a' n' c' B w h h' hno
  | true =>
    unfold stOk at hno
    rw [Bool.and_eq_true] at hno
    exact spec_StepsYes a n c A a' n' c' B w h h' hno.1 hno.2
theorem impl_Steps (a : Option Addr) (n c : Nat) (A : List ByteArray) (a' : Option Addr) (n' c' : Nat) (B : List ByteArray) (w : World) (h : TxtsAt w a n A) (h' : TxtsAt w a' n' B) (hK : KAt w) :
    Calls Tryd.prog 11 #[.slice a n c, .slice a' n' c'] w (StpI A B w) := by
  cases hno : stOk A B with
  | false => exact impl_StepsNo a n c A a' n' c' B w h h' hno
  | true =>
    unfold stOk at hno
    rw [Bool.and_eq_true] at hno
    exact impl_StepsYes a n c A a' n' c' B w h h' hno.1 hno.2 hK
theorem Plain.st_len (A B : List ByteArray) : (asL A B).length ≤ 60000 ∧ (mrL A B).length ≤ 60000 ∧ (leL A B).length ≤ 60000 := by
  unfold asL mrL leL
  cases hno : stOk A B with
  | false => simp
  | true =>
    unfold stOk at hno
    rw [Bool.and_eq_true] at hno
    simp only [if_true]
    obtain ⟨f1, f2, f3, f4⟩ := ask_facts (dfB A B)
    have k2 := flat_le A B (setB_all hno.1).1 (unlB (dfB A B))
    have k3 := flat_le B A (setB_all hno.2).1 (unlB (dfB A B))
    rw [List.length_map]
    omega
theorem Plain.RowAt.onlyT {w w' : World} {a b : Option Addr} {ls : List ByteArray} (h : RowAt strE w a ls) (ho : OnlyRow b w w') (hne : ∀ g o, a = some ⟨g, o, none⟩ → ∀ o', b ≠ some ⟨g, o', none⟩) : RowAt strE w' a ls := h.onlyRowK ho hne
theorem OwnR.blkT {w : World} {B n c : Nat} {a : Option Addr} {ls : List ByteArray} (h : OwnR strE w B (.slice a n c) ls) : ∀ g o, a = some ⟨g, o, none⟩ → B ≤ g ∧ g < w.heap.size := h.blkK
theorem Plain.ApT.ne {a b : Option Addr} {n c n' c' : Nat} (h : ApT (.slice a n c) (.slice b n' c')) : ∀ g o, b = some ⟨g, o, none⟩ → ∀ o', a ≠ some ⟨g, o', none⟩ := by
  intro g o e o' e'
  exact h g (by rw [e']; rfl) (by rw [e]; rfl)

namespace fnExactSteps
set_option maxRecDepth 10000 in
set_option maxHeartbeats 16000000 in
theorem walk0 (a : Option Addr) (n c : Nat) (A : List ByteArray) (a' : Option Addr) (n' c' : Nat) (B : List ByteArray) (w : World) (w0 : StrsRow w a n c A) (w0' : StrsRow w a' n' c' B) (hK : KAt w) :
    Calls Tryd.prog 4 #[.slice a n c, .slice a' n' c'] w fun e w' => e = .returned (.bool true) ∧ Below w.heap.size w w' := by
  have h0 : 1 < w.heap.size := lt_of_cell (hK 0 (by omega))
  obtain ⟨hn, hn2, hs, hr⟩ := w0
  obtain ⟨hn', hn2', hs', hr'⟩ := w0'
  unfold maxLen at hn2 hs hn2' hs'
  have HSZ := hide (szStringS_calls a n c A 1048576 w hn (by omega) (fun l hl => by have := hs l hl; omega) (by omega) (by omega) hr)
  unfold szL at HSZ
  rw [hn] at HSZ
  by_cases hbig : (1048576 : Int) < (n : Int) + sumZ A
  · rw [if_pos hbig] at HSZ
    clear hs hn hr hbig hK hs' hn' hr'
    go_enter Tryd.func4, Tryd.ntmps4
    go_wp2_with fail
    refine (unhide HSZ).mono ?_
    rintro e w1 ⟨rfl, hb1⟩
    have HB1 := hide hb1
    clear hb1
    go_wp2_with fail
    go_ret
    exact ⟨rfl, unhide HB1⟩
  rw [if_neg hbig] at HSZ
  obtain ⟨r, hr2⟩ : ∃ r : Nat, (1048576 : Int) - ((n : Int) + sumZ A) = (r : Int) := ⟨1048576 - (n + sumZ A), by omega⟩
  rw [hr2] at HSZ
  have hrb : r ≤ 1048576 := by omega
  have f2 : n ≤ 1048576 := by omega
  have HF3 := hide (show ∀ l ∈ A, l.size ≤ 1048576 from fun l hl => by have := sumZ_mem A l hl; omega)
  have HTXA := hide (fun (W : World) (a : Option Addr) (q : RowAt strE W a A) => (show TxtsAt W a n A from ⟨q, hn, f2, fun s hs => by have := unhide HF3 s hs; omega⟩))
  have HSY := hide (fun (W : World) (hW : Below w.heap.size w W) => szStringS_calls a' n' c' B (r : Int) W hn' (by omega) (fun l hl => by have := hs' l hl; omega) (by omega) (by omega) (hr'.below hW))
  unfold szL at HSY
  rw [hn'] at HSY
  have hrn : ¬ ((r : Int) < 0) := by omega
  clear hr2 hbig
  by_cases hbig : (r : Int) < (n' : Int) + sumZ B
  · rw [if_pos hbig] at HSY
    clear hs hn hr hbig hK hs' hn' hr'
    go_enter Tryd.func4, Tryd.ntmps4
    go_wp2_with fail
    refine (unhide HSZ).mono ?_
    rintro e w1 ⟨rfl, hb1⟩
    have HB1 := hide hb1
    clear hb1
    go_wp2_with fail
    refine (unhide HSY _ (unhide HB1)).mono ?_
    rintro e w2 ⟨rfl, hb2⟩
    have HB2 := hide (belOnT (unhide HB1) hb2)
    clear hb2
    go_wp2_with fail
    go_ret
    exact ⟨rfl, unhide HB2⟩
  rw [if_neg hbig] at HSY
  obtain ⟨r2, hr3⟩ : ∃ r2 : Nat, (r : Int) - ((n' : Int) + sumZ B) = (r2 : Int) := ⟨r - (n' + sumZ B), by omega⟩
  rw [hr3] at HSY
  have hrn2 : ¬ ((r2 : Int) < 0) := by omega
  have f2' : n' ≤ 1048576 := by omega
  have HF3' := hide (show ∀ l ∈ B, l.size ≤ 1048576 from fun l hl => by have := sumZ_mem B l hl; omega)
  have HTXB := hide (fun (W : World) (a : Option Addr) (q : RowAt strE W a B) => (show TxtsAt W a n' B from ⟨q, hn', f2', fun s hs => by have := unhide HF3' s hs; omega⟩))
  have HSP := hide (fun (W : World) (a a' : Option Addr) (q : TxtsAt W a n A) (q' : TxtsAt W a' n' B) => spec_Steps a n n A a' n' n' B W q q')
  have HIM := hide (fun (W : World) (hW : Below w.heap.size w W) (a a' : Option Addr) (q : TxtsAt W a n A) (q' : TxtsAt W a' n' B) => impl_Steps a n n A a' n' n' B W q q' (hK.below hW h0))
  unfold StpQ at HSP
  unfold StpI at HIM
  obtain ⟨l1, l2, l3⟩ := st_len A B
  generalize asL A B = O1 at HSP HIM l1
  generalize mrL A B = O2 at HSP HIM l2
  generalize leL A B = O3 at HSP HIM l3
  generalize stOk A B = ok at HSP HIM
  obtain ⟨m1, hm1⟩ : ∃ m, O1.length = m := ⟨_, rfl⟩
  obtain ⟨m2, hm2⟩ : ∃ m, O2.length = m := ⟨_, rfl⟩
  obtain ⟨m3, hm3⟩ : ∃ m, O3.length = m := ⟨_, rfl⟩
  rw [hm1] at l1
  rw [hm2] at l2
  rw [hm3] at l3
  have HM1 := hide hm1
  have HM2 := hide hm2
  have HM3 := hide hm3
  have HNA := hide hn
  have HNB := hide hn'
  have HRA := hide (fun (W : World) (h : Below w.heap.size w W) => hr.below h)
  have HRB := hide (fun (W : World) (h : Below w.heap.size w W) => hr'.below h)
  have hokk : (ok != ok) = false := by simp
  clear hs hn hr hs' hn' hr' hbig hn2 hn2' hr3 hK hm1 hm2 hm3
  go_enter Tryd.func4, Tryd.ntmps4
  go_wp2_with fail
  refine (unhide HSZ).mono ?_
  rintro e w1 ⟨rfl, hb⟩
  have HA1 := hide hb
  clear hb HSZ
  go_wp2_with fail
  refine (unhide HSY _ (unhide HA1)).mono ?_
  rintro e w2 ⟨rfl, hb⟩
  have HA2 := hide (belOnT (unhide HA1) hb)
  clear hb HSY HA1
  go_wp2_with fail
  refine (toStringS_calls a n c A _ (unhide HNA) f2 (unhide HRA _ (unhide HA2))).mono ?_
  rintro e w3 ⟨g3, rfl, ho, hb⟩
  have HA3 := hide (belOnT (unhide HA2) hb)
  have HS3 := hide ho.at
  clear hb ho HA2
  go_wp2_with fail
  refine (toStringS_calls a' n' c' B _ (unhide HNB) f2' (unhide HRB _ (unhide HA3))).mono ?_
  rintro e w4 ⟨g4, rfl, ho, hb⟩
  have HA4 := hide (belOnT (unhide HA3) hb)
  have HS4 := hide ((unhide HS3).below hb)
  have HS4' := hide ho.at
  clear hb ho HA3 HS3
  go_wp2_with fail
  refine (unhide HSP _ _ _ (unhide HTXA _ _ (unhide HS4)) (unhide HTXB _ _ (unhide HS4'))).mono ?_
  rintro e wS ⟨u1, u2, u3, rfl, ho1, ho2, ho3, hb⟩
  obtain ⟨b1, d1, hv⟩ := ho1.form
  rw [unhide HM1] at hv
  subst hv
  obtain ⟨b2, d2, hv⟩ := ho2.form
  rw [unhide HM2] at hv
  subst hv
  obtain ⟨b3, d3, hv⟩ := ho3.form
  rw [unhide HM3] at hv
  subst hv
  have HAS := hide (belOnT (unhide HA4) hb)
  have HZ1 := hide ho1.at.strs
  have HZ2 := hide ho2.at.strs
  have HZ3 := hide ho3.at.strs
  clear hb ho1 ho2 ho3 HA4 HS4 HS4' HSP
  have HARA := hide (fun (W : World) (h : Below wS.heap.size wS W) => unhide HRA W (belOnT (unhide HAS) h))
  have HARB := hide (fun (W : World) (h : Below wS.heap.size wS W) => unhide HRB W (belOnT (unhide HAS) h))
  have HIMS := hide (fun (W : World) (h : Below wS.heap.size wS W) => unhide HIM W (belOnT (unhide HAS) h))
  clear HRA HRB HIM
  go_wp2_with fail
  refine (toStringS_calls a n c A _ (unhide HNA) f2 (unhide HARA _ (Below.refl _ _))).mono ?_
  rintro e w5 ⟨g5, rfl, ho, hb⟩
  have hg5 := ho.blkT g5 0 rfl
  have HT5 := hide hb
  have HG5 := hide ho.at
  clear hb ho
  go_wp2_with fail
  refine (toStringS_calls a' n' c' B _ (unhide HNB) f2' (unhide HARB _ (unhide HT5))).mono ?_
  rintro e w6 ⟨g6, rfl, ho, hb⟩
  have hg6 := ho.blkT g6 0 rfl
  have HT6 := hide (belOnT (unhide HT5) hb)
  have HG6 := hide ((unhide HG5).below hb)
  have HH6 := hide ho.at
  clear hb ho HT5 HG5
  go_wp2_with fail
  refine (unhide HIMS _ (unhide HT6) _ _ (unhide HTXA _ _ (unhide HG6)) (unhide HTXB _ _ (unhide HH6))).mono ?_
  rintro e w7 ⟨u1, u2, u3, rfl, ht, hb⟩
  obtain ⟨ho1, ho2, ho3, p12, p13, p23⟩ := ht
  obtain ⟨a1, k1, hv⟩ := ho1.form
  rw [unhide HM1] at hv
  subst hv
  obtain ⟨a2, k2, hv⟩ := ho2.form
  rw [unhide HM2] at hv
  subst hv
  obtain ⟨a3, k3, hv⟩ := ho3.form
  rw [unhide HM3] at hv
  subst hv
  have HV1 := hide ho1.blkT
  have HV2 := hide ho2.blkT
  have HV3 := hide ho3.blkT
  have HP12 := hide p12
  have HP13 := hide p13
  have HP23 := hide p23
  have HT7 := hide (belOnT (unhide HT6) hb)
  have HG7 := hide ((unhide HG6).below hb)
  have HH7 := hide ((unhide HH6).below hb)
  have HX7 := hide ho1.at
  have HY7 := hide ho2.at
  have HW7 := hide ho3.at
  clear hb ho1 ho2 ho3 p12 p13 p23 HT6 HG6 HH6
  go_wp2_with fail
  refine (eqStringS_calls a1 b1 k1 d1 m1 O1 _ (unhide HM1) (by omega) (unhide HX7).strs ((unhide HZ1).below (unhide HT7))).mono ?_
  rintro e w8 ⟨rfl, hb⟩
  have HT8 := hide (belOnT (unhide HT7) hb)
  have HG8 := hide ((unhide HG7).below hb)
  have HH8 := hide ((unhide HH7).below hb)
  have HX8 := hide ((unhide HX7).below hb)
  have HY8 := hide ((unhide HY7).below hb)
  have HW8 := hide ((unhide HW7).below hb)
  clear hb HT7 HG7 HH7 HX7 HY7 HW7
  go_wp2_with fail
  refine (eqStringS_calls a2 b2 k2 d2 m2 O2 _ (unhide HM2) (by omega) (unhide HY8).strs ((unhide HZ2).below (unhide HT8))).mono ?_
  rintro e w9 ⟨rfl, hb⟩
  have HT9 := hide (belOnT (unhide HT8) hb)
  have HG9 := hide ((unhide HG8).below hb)
  have HH9 := hide ((unhide HH8).below hb)
  have HX9 := hide ((unhide HX8).below hb)
  have HY9 := hide ((unhide HY8).below hb)
  have HW9 := hide ((unhide HW8).below hb)
  clear hb HT8 HG8 HH8 HX8 HY8 HW8
  go_wp2_with fail
  refine (eqStringS_calls a3 b3 k3 d3 m3 O3 _ (unhide HM3) (by omega) (unhide HW9).strs ((unhide HZ3).below (unhide HT9))).mono ?_
  rintro e w10 ⟨rfl, hb⟩
  have HT10 := hide (belOnT (unhide HT9) hb)
  have HG10 := hide ((unhide HG9).below hb)
  have HH10 := hide ((unhide HH9).below hb)
  have HX10 := hide ((unhide HX9).below hb)
  have HY10 := hide ((unhide HY9).below hb)
  have HW10 := hide ((unhide HW9).below hb)
  clear hb HT9 HG9 HH9 HX9 HY9 HW9
  go_wp2_with fail
  refine (toStringS_calls a n c A _ (unhide HNA) f2 (unhide HARA _ (unhide HT10))).mono ?_
  rintro e w11 ⟨gx, rfl, ho, hb⟩
  have HQ := hide ho.at
  have HT11 := hide (belOnT (unhide HT10) hb)
  have HG11 := hide ((unhide HG10).below hb)
  have HH11 := hide ((unhide HH10).below hb)
  have HX11 := hide ((unhide HX10).below hb)
  have HY11 := hide ((unhide HY10).below hb)
  have HW11 := hide ((unhide HW10).below hb)
  clear hb ho HT10 HG10 HH10 HX10 HY10 HW10
  go_wp2_with fail
  refine (eqStringS_calls _ _ n n n A _ (unhide HNA) (by omega) (unhide HG11).strs (unhide HQ).strs).mono ?_
  rintro e w12 ⟨rfl, hb⟩
  have HT12 := hide (belOnT (unhide HT11) hb)
  have HG12 := hide ((unhide HG11).below hb)
  have HH12 := hide ((unhide HH11).below hb)
  have HX12 := hide ((unhide HX11).below hb)
  have HY12 := hide ((unhide HY11).below hb)
  have HW12 := hide ((unhide HW11).below hb)
  clear hb HT11 HG11 HH11 HX11 HY11 HW11
  clear HQ
  go_wp2_with fail
  refine (toStringS_calls a' n' c' B _ (unhide HNB) f2' (unhide HARB _ (unhide HT12))).mono ?_
  rintro e w13 ⟨gx, rfl, ho, hb⟩
  have HQ := hide ho.at
  have HT13 := hide (belOnT (unhide HT12) hb)
  have HG13 := hide ((unhide HG12).below hb)
  have HH13 := hide ((unhide HH12).below hb)
  have HX13 := hide ((unhide HX12).below hb)
  have HY13 := hide ((unhide HY12).below hb)
  have HW13 := hide ((unhide HW12).below hb)
  clear hb ho HT12 HG12 HH12 HX12 HY12 HW12
  go_wp2_with fail
  refine (eqStringS_calls _ _ n' n' n' B _ (unhide HNB) (by omega) (unhide HH13).strs (unhide HQ).strs).mono ?_
  rintro e w14 ⟨rfl, hb⟩
  have HT14 := hide (belOnT (unhide HT13) hb)
  have HG14 := hide ((unhide HG13).below hb)
  have HH14 := hide ((unhide HH13).below hb)
  have HX14 := hide ((unhide HX13).below hb)
  have HY14 := hide ((unhide HY13).below hb)
  have HW14 := hide ((unhide HW13).below hb)
  clear hb HT13 HG13 HH13 HX13 HY13 HW13
  clear HQ
  obtain ⟨s1, hs1⟩ : ∃ s : Nat, 1 + n = s := ⟨_, rfl⟩
  obtain ⟨s2, hs2⟩ : ∃ s : Nat, s1 + n' = s := ⟨_, rfl⟩
  have HK1 := hide (markStringS_calls 1 (some ⟨g5, 0, none⟩) n n A w14 (by omega) (by omega) (unhide HNA) (by omega) (unhide HG14))
  rw [hs1] at HK1
  go_wp2_with fail
  refine (unhide HK1).mono ?_
  rintro e w15 ⟨rfl, -, hb⟩
  have HT15 := hide ((unhide HT14).trans (hb.below (B := wS.heap.size) (fun g o e => by cases e; omega) (unhide HT14).size))
  have HH15 := hide (RowAt.onlyT (unhide HH14) hb (fun g o e o' e' => by cases e; cases e'; omega))
  have HX15 := hide (RowAt.onlyT (unhide HX14) hb (fun g o e o' e' => by have := unhide HV1 g o e; cases e'; omega))
  have HY15 := hide (RowAt.onlyT (unhide HY14) hb (fun g o e o' e' => by have := unhide HV2 g o e; cases e'; omega))
  have HW15 := hide (RowAt.onlyT (unhide HW14) hb (fun g o e o' e' => by have := unhide HV3 g o e; cases e'; omega))
  clear hb HT14 HH14 HX14 HY14 HW14
  clear HG14 HK1
  have HK1 := hide (markStringS_calls s1 (some ⟨g6, 0, none⟩) n' n' B w15 (by omega) (by omega) (unhide HNB) (by omega) (unhide HH15))
  rw [hs2] at HK1
  have hs2n : ¬ ((s2 : Int) < 0) := by omega
  go_wp2_with fail
  refine (unhide HK1).mono ?_
  rintro e w16 ⟨rfl, -, hb⟩
  have HT16 := hide ((unhide HT15).trans (hb.below (B := wS.heap.size) (fun g o e => by cases e; omega) (unhide HT15).size))
  have HX16 := hide (RowAt.onlyT (unhide HX15) hb (fun g o e o' e' => by have := unhide HV1 g o e; cases e'; omega))
  have HY16 := hide (RowAt.onlyT (unhide HY15) hb (fun g o e o' e' => by have := unhide HV2 g o e; cases e'; omega))
  have HW16 := hide (RowAt.onlyT (unhide HW15) hb (fun g o e o' e' => by have := unhide HV3 g o e; cases e'; omega))
  clear hb HT15 HX15 HY15 HW15
  clear HH15 HK1
  go_wp2_with fail
  refine (eqStringS_calls a1 b1 k1 d1 m1 O1 _ (unhide HM1) (by omega) (unhide HX16).strs ((unhide HZ1).below (unhide HT16))).mono ?_
  rintro e w17 ⟨rfl, hb⟩
  have HT17 := hide (belOnT (unhide HT16) hb)
  have HX17 := hide ((unhide HX16).below hb)
  have HY17 := hide ((unhide HY16).below hb)
  have HW17 := hide ((unhide HW16).below hb)
  clear hb HT16 HX16 HY16 HW16
  go_wp2_with fail
  refine (eqStringS_calls a2 b2 k2 d2 m2 O2 _ (unhide HM2) (by omega) (unhide HY17).strs ((unhide HZ2).below (unhide HT17))).mono ?_
  rintro e w18 ⟨rfl, hb⟩
  have HT18 := hide (belOnT (unhide HT17) hb)
  have HX18 := hide ((unhide HX17).below hb)
  have HY18 := hide ((unhide HY17).below hb)
  have HW18 := hide ((unhide HW17).below hb)
  clear hb HT17 HX17 HY17 HW17
  go_wp2_with fail
  refine (eqStringS_calls a3 b3 k3 d3 m3 O3 _ (unhide HM3) (by omega) (unhide HW18).strs ((unhide HZ3).below (unhide HT18))).mono ?_
  rintro e w19 ⟨rfl, hb⟩
  have HT19 := hide (belOnT (unhide HT18) hb)
  have HX19 := hide ((unhide HX18).below hb)
  have HY19 := hide ((unhide HY18).below hb)
  have HW19 := hide ((unhide HW18).below hb)
  clear hb HT18 HX18 HY18 HW18
  obtain ⟨t1, ht1⟩ : ∃ t : Nat, 1 + m1 = t := ⟨_, rfl⟩
  obtain ⟨t2, ht2⟩ : ∃ t : Nat, t1 + m2 = t := ⟨_, rfl⟩
  obtain ⟨t3, ht3⟩ : ∃ t : Nat, t2 + m3 = t := ⟨_, rfl⟩
  have t1n : ¬ ((t1 : Int) < 0) := by omega
  have t2n : ¬ ((t2 : Int) < 0) := by omega
  have t3n : ¬ ((t3 : Int) < 0) := by omega
  have HE1 := hide ht1
  have HE2 := hide ht2
  have HE3 := hide ht3
  have hb2 : t1 ≤ 100000000 := by omega
  have hb3 : t2 ≤ 100000000 := by omega
  have hc2 : 1 ≤ t1 := by omega
  have hc3 : 1 ≤ t2 := by omega
  clear hs1 hs2 ht1 ht2 ht3
  have HK1 := hide (markStringS_calls 1 a1 k1 m1 O1 w19 (by omega) (by omega) (unhide HM1) (by omega) (unhide HX19))
  rw [unhide HE1] at HK1
  go_wp2_with fail
  refine (unhide HK1).mono ?_
  rintro e w20 ⟨rfl, hr1, hb⟩
  have HT20 := hide ((unhide HT19).trans (hb.below (B := wS.heap.size) (fun g o e => by have := unhide HV1 g o e; omega) (unhide HT19).size))
  have HY20 := hide (RowAt.onlyT (unhide HY19) hb (unhide HP12).ne)
  have HW20 := hide (RowAt.onlyT (unhide HW19) hb (unhide HP13).ne)
  have HX20 := hide hr1
  clear hb HT19 HY19 HW19
  clear hr1 HX19 HK1
  have HK1 := hide (markStringS_calls t1 a2 k2 m2 O2 w20 hc2 hb2 (unhide HM2) (by omega) (unhide HY20))
  rw [unhide HE2] at HK1
  go_wp2_with fail
  refine (unhide HK1).mono ?_
  rintro e w21 ⟨rfl, hr1, hb⟩
  have HT21 := hide ((unhide HT20).trans (hb.below (B := wS.heap.size) (fun g o e => by have := unhide HV2 g o e; omega) (unhide HT20).size))
  have HX21 := hide (RowAt.onlyT (unhide HX20) hb (unhide HP12).symm.ne)
  have HW21 := hide (RowAt.onlyT (unhide HW20) hb (unhide HP23).ne)
  have HY21 := hide hr1
  clear hb HT20 HX20 HW20
  clear hr1 HY20 HK1
  have HK1 := hide (markStringS_calls t2 a3 k3 m3 O3 w21 hc3 hb3 (unhide HM3) (by omega) (unhide HW21))
  rw [unhide HE3] at HK1
  go_wp2_with fail
  refine (unhide HK1).mono ?_
  rintro e w22 ⟨rfl, hr1, hb⟩
  have HT22 := hide ((unhide HT21).trans (hb.below (B := wS.heap.size) (fun g o e => by have := unhide HV3 g o e; omega) (unhide HT21).size))
  have HX22 := hide (RowAt.onlyT (unhide HX21) hb (unhide HP13).symm.ne)
  have HY22 := hide (RowAt.onlyT (unhide HY21) hb (unhide HP23).symm.ne)
  have HW22 := hide hr1
  clear hb HT21 HX21 HY21
  clear hr1 HW21 HK1
  have HK1 := hide (heldStringS_calls 1 a1 k1 m1 w22 (by omega) (by omega) (by omega) (unhide HX22))
  rw [unhide HE1] at HK1
  go_wp2_with fail
  refine (unhide HK1).mono ?_
  rintro e w23 ⟨rfl, hb⟩
  have HT23 := hide (belOnT (unhide HT22) hb)
  have HX23 := hide ((unhide HX22).below hb)
  have HY23 := hide ((unhide HY22).below hb)
  have HW23 := hide ((unhide HW22).below hb)
  clear hb HT22 HX22 HY22 HW22
  clear HK1
  have HK1 := hide (heldStringS_calls t1 a2 k2 m2 w23 (by omega) (by omega) (by omega) (unhide HY23))
  rw [unhide HE2] at HK1
  go_wp2_with fail
  refine (unhide HK1).mono ?_
  rintro e w24 ⟨rfl, hb⟩
  have HT24 := hide (belOnT (unhide HT23) hb)
  have HX24 := hide ((unhide HX23).below hb)
  have HY24 := hide ((unhide HY23).below hb)
  have HW24 := hide ((unhide HW23).below hb)
  clear hb HT23 HX23 HY23 HW23
  clear HK1
  have HK1 := hide (heldStringS_calls t2 a3 k3 m3 w24 (by omega) (by omega) (by omega) (unhide HW24))
  rw [unhide HE3] at HK1
  go_wp2_with fail
  refine (unhide HK1).mono ?_
  rintro e w25 ⟨rfl, hb⟩
  have HT25 := hide (belOnT (unhide HT24) hb)
  have HX25 := hide ((unhide HX24).below hb)
  have HY25 := hide ((unhide HY24).below hb)
  have HW25 := hide ((unhide HW24).below hb)
  clear hb HT24 HX24 HY24 HW24
  clear HK1
  go_wp2_with fail
  refine (toStringS_calls a n c A _ (unhide HNA) f2 (unhide HARA _ (unhide HT25))).mono ?_
  rintro e w26 ⟨gy, rfl, ho, hb⟩
  have HQ := hide ho.at
  have HT26 := hide (belOnT (unhide HT25) hb)
  have HX26 := hide ((unhide HX25).below hb)
  have HY26 := hide ((unhide HY25).below hb)
  have HW26 := hide ((unhide HW25).below hb)
  clear hb ho HT25 HX25 HY25 HW25
  go_wp2_with fail
  refine (toStringS_calls a' n' c' B _ (unhide HNB) f2' (unhide HARB _ (unhide HT26))).mono ?_
  rintro e w27 ⟨gz, rfl, ho, hb⟩
  have HQ2 := hide ((unhide HQ).below hb)
  have HQ2' := hide ho.at
  have HT27 := hide (belOnT (unhide HT26) hb)
  have HX27 := hide ((unhide HX26).below hb)
  have HY27 := hide ((unhide HY26).below hb)
  have HW27 := hide ((unhide HW26).below hb)
  clear hb ho HQ HT26 HX26 HY26 HW26
  go_wp2_with fail
  refine (unhide HIMS _ (unhide HT27) _ _ (unhide HTXA _ _ (unhide HQ2)) (unhide HTXB _ _ (unhide HQ2'))).mono ?_
  rintro e w28 ⟨u1, u2, u3, rfl, ht, hb⟩
  obtain ⟨ho1, ho2, ho3, -, -, -⟩ := ht
  obtain ⟨z1, y1, hv⟩ := ho1.form
  rw [unhide HM1] at hv
  subst hv
  obtain ⟨z2, y2, hv⟩ := ho2.form
  rw [unhide HM2] at hv
  subst hv
  obtain ⟨z3, y3, hv⟩ := ho3.form
  rw [unhide HM3] at hv
  subst hv
  have HR28 := hide ho1.at
  have HS28 := hide ho2.at
  have HU28 := hide ho3.at
  have HT28 := hide (belOnT (unhide HT27) hb)
  have HX28 := hide ((unhide HX27).below hb)
  have HY28 := hide ((unhide HY27).below hb)
  have HW28 := hide ((unhide HW27).below hb)
  clear hb ho1 ho2 ho3 HQ2 HQ2' HT27 HX27 HY27 HW27
  go_wp2_with fail
  refine (eqStringS_calls z1 b1 y1 d1 m1 O1 _ (unhide HM1) (by omega) (unhide HR28).strs ((unhide HZ1).below (unhide HT28))).mono ?_
  rintro e w29 ⟨rfl, hb⟩
  have HT29 := hide (belOnT (unhide HT28) hb)
  have HX29 := hide ((unhide HX28).below hb)
  have HY29 := hide ((unhide HY28).below hb)
  have HW29 := hide ((unhide HW28).below hb)
  have HR29 := hide ((unhide HR28).below hb)
  have HS29 := hide ((unhide HS28).below hb)
  have HU29 := hide ((unhide HU28).below hb)
  clear hb HT28 HX28 HY28 HW28 HR28 HS28 HU28
  go_wp2_with fail
  refine (eqStringS_calls z2 b2 y2 d2 m2 O2 _ (unhide HM2) (by omega) (unhide HS29).strs ((unhide HZ2).below (unhide HT29))).mono ?_
  rintro e w30 ⟨rfl, hb⟩
  have HT30 := hide (belOnT (unhide HT29) hb)
  have HX30 := hide ((unhide HX29).below hb)
  have HY30 := hide ((unhide HY29).below hb)
  have HW30 := hide ((unhide HW29).below hb)
  have HR30 := hide ((unhide HR29).below hb)
  have HS30 := hide ((unhide HS29).below hb)
  have HU30 := hide ((unhide HU29).below hb)
  clear hb HT29 HX29 HY29 HW29 HR29 HS29 HU29
  go_wp2_with fail
  refine (eqStringS_calls z3 b3 y3 d3 m3 O3 _ (unhide HM3) (by omega) (unhide HU30).strs ((unhide HZ3).below (unhide HT30))).mono ?_
  rintro e w31 ⟨rfl, hb⟩
  have HT31 := hide (belOnT (unhide HT30) hb)
  have HX31 := hide ((unhide HX30).below hb)
  have HY31 := hide ((unhide HY30).below hb)
  have HW31 := hide ((unhide HW30).below hb)
  clear hb HT30 HX30 HY30 HW30 HR30 HS30 HU30
  have HK1 := hide (heldStringS_calls 1 a1 k1 m1 w31 (by omega) (by omega) (by omega) (unhide HX31))
  rw [unhide HE1] at HK1
  go_wp2_with fail
  refine (unhide HK1).mono ?_
  rintro e w32 ⟨rfl, hb⟩
  have HT32 := hide (belOnT (unhide HT31) hb)
  have HX32 := hide ((unhide HX31).below hb)
  have HY32 := hide ((unhide HY31).below hb)
  have HW32 := hide ((unhide HW31).below hb)
  clear hb HT31 HX31 HY31 HW31
  clear HK1
  have HK1 := hide (heldStringS_calls t1 a2 k2 m2 w32 (by omega) (by omega) (by omega) (unhide HY32))
  rw [unhide HE2] at HK1
  go_wp2_with fail
  refine (unhide HK1).mono ?_
  rintro e w33 ⟨rfl, hb⟩
  have HT33 := hide (belOnT (unhide HT32) hb)
  have HX33 := hide ((unhide HX32).below hb)
  have HY33 := hide ((unhide HY32).below hb)
  have HW33 := hide ((unhide HW32).below hb)
  clear hb HT32 HX32 HY32 HW32
  clear HK1
  have HK1 := hide (heldStringS_calls t2 a3 k3 m3 w33 (by omega) (by omega) (by omega) (unhide HW33))
  rw [unhide HE3] at HK1
  go_wp2_with fail
  refine (unhide HK1).mono ?_
  rintro e w34 ⟨rfl, hb⟩
  have HT34 := hide (belOnT (unhide HT33) hb)
  have HX34 := hide ((unhide HX33).below hb)
  have HY34 := hide ((unhide HY33).below hb)
  have HW34 := hide ((unhide HW33).below hb)
  clear hb HT33 HX33 HY33 HW33
  clear HK1
  go_wp2_with fail
  go_ret
  exact ⟨rfl, belOnT (unhide HAS) (unhide HT34)⟩
end fnExactSteps
end Go.Proofs.YtldgkpnlplfopaaDoor
