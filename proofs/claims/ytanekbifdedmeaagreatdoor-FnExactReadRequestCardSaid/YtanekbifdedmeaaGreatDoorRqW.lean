/- The walk of the law FnExactReadRequest. -/
import Derived.Test.YtanekbifdedmeaaGreatDoorRqC
import Derived.Test.YtanekbifdedmeaaGreatDoorMrkH
import Derived.Test.YtanekbifdedmeaaGreatDoorGAM
import Derived.Test.YtanekbifdedmeaaGreatDoorReqR
import Derived.WalkKit
import Derived.ProofKit
import Derived.Below
set_option linter.unusedVariables false
namespace Go.Proofs.YtanekbifdedmeaaGreatDoor
open Go.RowKit Plain

namespace Plain
theorem reqF_fit {S : List UInt8} {m p : ByteArray} {qs hh : List Hd} {bd : List UInt8} (h : reqF S = (0, (m, p, qs), hh, bd)) : qs.length ≤ 20 ∧ hh.length ≤ 20 := by
  by_cases h40 : 40000 < S.length
  · rw [reqF_long h40] at h
    exact absurd (show (1 : Int) = 0 from congrArg Prod.fst h) (by decide)
  rcases ix_room [13, 10] S with q | ⟨K, q, _⟩
  · rw [reqF_noline h40 q] at h
    exact absurd (show (2 : Int) = 0 from congrArg Prod.fst h) (by decide)
  · cases ha : askF (S.take K) with
    | none =>
      rw [reqF_noask h40 q ha] at h
      exact absurd (show (2 : Int) = 0 from congrArg Prod.fst h) (by decide)
    | some x =>
      obtain ⟨T, hT⟩ : ∃ T, talF (numG 20000) (S.drop (K + 2)) = T := ⟨_, rfl⟩
      by_cases h1 : T.1 = 0
      · rw [reqF_good h40 q ha hT h1] at h
        obtain ⟨m', p', qs'⟩ := x
        simp only [Prod.mk.injEq] at h
        obtain ⟨_, ⟨rfl, rfl, rfl⟩, h2⟩ := h
        have hk := ask_facts ha
        unfold askB at hk
        rw [Bool.and_eq_true] at hk
        refine ⟨(qrw_fit hk.2).1, ?_⟩
        obtain ⟨t0, t1, t2⟩ := T
        simp only at h1 h2
        subst h1
        cases h2
        exact (hrw_fit (tal_fit hT).1).1
      · rw [reqF_bad h40 q ha hT h1] at h
        exact absurd (show T.1 = 0 from congrArg Prod.fst h) h1
/-- Both readers answer so. -/
theorem reqA_form (S : List UInt8) : ∃ (cd : Int) (m p : ByteArray) (qs hh : List Hd) (bd : ByteArray), qs.length ≤ 20 ∧ hh.length ≤ 20 ∧ ∀ B e w', ReqAns (reqF S) B e w' → ∃ a1 c1 a2 c2, e = .returned (.tuple #[.agg #[.string m, .string p, .slice a1 qs.length c1, .slice a2 hh.length c2, .string bd], .int .i64 cd]) ∧ OwnR hdrE w' B (.slice a1 qs.length c1) qs ∧ OwnR hdrE w' B (.slice a2 hh.length c2) hh ∧ ∀ g, (Value.slice a1 qs.length c1).ownBlock = some g → (Value.slice a2 hh.length c2).ownBlock ≠ some g := by
  obtain ⟨r, hr⟩ : ∃ r, reqF S = r := ⟨_, rfl⟩
  rw [hr]
  obtain ⟨cd, ⟨m, p, qs⟩, hh, bd⟩ := r
  by_cases h0 : cd = 0
  · subst h0
    obtain ⟨h1, h2⟩ := reqF_fit hr
    refine ⟨0, m, p, qs, hh, bU bd, h1, h2, ?_⟩
    rintro B e w' (⟨_, a1, c1, a2, c2, he, o1, o2, o3⟩ | ⟨h, _⟩)
    · exact ⟨a1, c1, a2, c2, he, o1, o2, o3⟩
    · exact absurd rfl h
  · refine ⟨cd, ⟨#[]⟩, ⟨#[]⟩, [], [], ⟨#[]⟩, by simp, by simp, ?_⟩
    rintro B e w' (⟨h, _⟩ | ⟨_, he⟩)
    · exact absurd h h0
    · exact ⟨none, 0, none, 0, he, ownR_nil _ _ _, ownR_nil _ _ _, fun g hg => by cases hg⟩
def inR (aq ah : Option Addr) (g : Nat) : Prop := ∃ o, aq = some ⟨g, o, none⟩ ∨ ah = some ⟨g, o, none⟩
end Plain
theorem Plain.Blk.rowQ {W W' : World} {b : Nat} {vs : List Value} {a : Option Addr} (h : Blk W b vs) (ho : OnlyRow a W W') (hne : ∀ o, a ≠ some ⟨b, o, none⟩) : Blk W' b vs :=
  ⟨Nat.lt_of_lt_of_le h.lt ho.size, fun i hi => (ho.cell h.lt hne).trans (h.c i hi), fun i hi => (ho.frozen h.lt hne).trans (h.f i hi)⟩
theorem rowAt_other {W W' : World} {a b : Option Addr} {xs : List Hd} (h : RowAt hdrE W a xs) (ho : OnlyRow b W W') (hne : ∀ g o o', a = some ⟨g, o, none⟩ → b ≠ some ⟨g, o', none⟩) : RowAt hdrE W' a xs := fun i hi => by
  obtain ⟨g, e1, hl, hc⟩ := h i hi
  exact ⟨g, e1, Nat.lt_of_lt_of_le hl ho.size, fun j hj => ⟨(ho.cell hl (fun o => hne g 0 o e1)).trans (hc j hj).1, (ho.frozen hl (fun o => hne g 0 o e1)).trans (hc j hj).2⟩⟩
theorem own_geQ {W : World} {B n c : Nat} {a : Option Addr} {xs : List Hd} (h : OwnR hdrE W B (.slice a n c) xs) : ∀ g o, a = some ⟨g, o, none⟩ → B ≤ g ∧ g < W.heap.size := by
  rintro g o rfl
  rcases h.2 with ⟨e1, _⟩ | ⟨g', cap, cur, e1, _, _⟩
  · simp at e1
  · simp at e1
    obtain ⟨⟨rfl, rfl⟩, _⟩ := e1
    exact World.ownsRow.lt h g rfl
theorem ap_of {a1 a2 : Option Addr} {n1 c1 n2 c2 : Nat} {W : World} {B1 B2 : Nat} {xs ys : List Hd} (h1 : OwnR hdrE W B1 (.slice a1 n1 c1) xs) (h2 : OwnR hdrE W B2 (.slice a2 n2 c2) ys) (h : ∀ g, (Value.slice a1 n1 c1).ownBlock = some g → (Value.slice a2 n2 c2).ownBlock ≠ some g) : ∀ g o o', a1 = some ⟨g, o, none⟩ → a2 ≠ some ⟨g, o', none⟩ := by
  rintro g o o' rfl rfl
  rcases h1.2 with ⟨e1, _⟩ | ⟨g', cap, cur, e1, _, _⟩
  · simp at e1
  · simp at e1
    obtain ⟨⟨rfl, rfl⟩, _⟩ := e1
    rcases h2.2 with ⟨e2, _⟩ | ⟨g2, cap2, cur2, e2, _, _⟩
    · simp at e2
    · simp at e2
      obtain ⟨⟨rfl, rfl⟩, _⟩ := e2
      exact h g rfl rfl

set_option maxHeartbeats 1000000 in
theorem markRequest_calls (m p : ByteArray) (aq ah : Option Addr) (nq cq nh ch : Nat) (qs hs : List Hd) (bd : ByteArray) (b : Nat) (w : World) (hb1 : 1 ≤ b) (hb2 : b ≤ 1000) (hq : qs.length = nq) (hh : hs.length = nh) (zq : nq ≤ 1048576) (zh : nh ≤ 1048576) (h1 : RowAt hdrE w aq qs) (h2 : RowAt hdrE w ah hs) (hap : ∀ g o o', aq = some ⟨g, o, none⟩ → ah ≠ some ⟨g, o', none⟩) (hlq : ∀ g o, aq = some ⟨g, o, none⟩ → g < w.heap.size) :
    Calls Tryz.prog 25 #[.agg #[.string m, .string p, .slice aq nq cq, .slice ah nh ch, .string bd], .int .i64 b] w fun e w' => e = .returned (.int .i64 ((b + nq * 2 + nh * 2 : Nat) : Int)) ∧ (RowAt hdrE w' aq (mkH b nq) ∧ RowAt hdrE w' ah (mkH (b + nq * 2) nh)) ∧ OnlyP (inR aq ah) w w' := by
  obtain ⟨W0, hW0⟩ : ∃ W0, W0 = w.alloc (.cells #[.string m, .string p, .slice aq nq cq, .slice ah nh ch, .string bd] 26) := ⟨_, rfl⟩
  have hb0 : Below w.heap.size w W0 := by rw [hW0]; exact bel1 _ _
  have hB0 : Blk W0 w.heap.size [.string m, .string p, .slice aq nq cq, .slice ah nh ch, .string bd] := by rw [hW0]; exact Blk.new w _ _
  obtain ⟨c0, c1, c2, c3, c4⟩ := hB0.five
  have hr1 := h1.below hb0
  have hr2 := h2.below hb0
  have HM := hide (markHeaderS_calls b aq cq nq qs W0 hb1 (by omega) hq (by omega) hr1)
  have HO := hide (OnlyP.of (p := inR aq ah) hb0)
  have HR2 := hide hr2
  have HW0 := hide hW0.symm
  have HB0 := hide hB0
  obtain ⟨K, hK⟩ : ∃ K, b + nq * 2 = K := ⟨_, rfl⟩
  rw [hK] at HM ⊢
  have hK1 : K ≤ 100000000 := by omega
  have hK0 : 1 ≤ K := by omega
  clear hb0 hW0 h1 h2 hB0 hr1 hr2 hK
  go_enter Tryz.func25, Tryz.ntmps25
  go_wp2_with fail
  rw [unhide HW0]
  refine (unhide HM).mono ?_
  rintro e w1 ⟨rfl, r1, o1⟩
  have HB1 := hide ((unhide HB0).rowQ o1 (fun o q => by have := hlq _ o q; omega))
  have HR3 := hide (rowAt_other (unhide HR2) o1 (fun g o o' q1 q2 => hap g o' o q2 q1))
  have HO1 := hide ((unhide HO).trans (OnlyP.row (p := inR aq ah) o1 (fun g o q => ⟨o, .inl q⟩)))
  have HRQ := hide r1
  obtain ⟨d0, d1, d2, d3, d4⟩ := (unhide HB1).five
  have HM2 := hide (markHeaderS_calls K ah ch nh hs w1 hK0 hK1 hh (by omega) (unhide HR3))
  clear r1 o1 HB0 HR2 HO HW0 HM c0 c1 c2 c3 c4
  go_wp2_with fail
  refine (unhide HM2).mono ?_
  rintro e w2 ⟨rfl, r2, o2⟩
  have HRQ2 := hide (rowAt_other (unhide HRQ) o2 (fun g o o' q1 q2 => hap g o o' q1 q2))
  have HO2 := hide ((unhide HO1).trans (OnlyP.row (p := inR aq ah) o2 (fun g o q => ⟨o, .inr q⟩)))
  have HR4 := hide r2
  clear r2 o2 d0 d1 d2 d3 d4 HM2
  go_wp2_with fail
  go_ret
  exact ⟨rfl, ⟨unhide HRQ2, unhide HR4⟩, unhide HO2⟩

set_option maxHeartbeats 1000000 in
theorem heldRequest_calls (m p : ByteArray) (aq ah : Option Addr) (nq cq nh ch : Nat) (bd : ByteArray) (b : Nat) (w : World) (hb1 : 1 ≤ b) (hb2 : b ≤ 1000) (zq : nq ≤ 1048576) (zh : nh ≤ 1048576) (h1 : RowAt hdrE w aq (mkH b nq)) (h2 : RowAt hdrE w ah (mkH (b + nq * 2) nh)) :
    Calls Tryz.prog 26 #[.agg #[.string m, .string p, .slice aq nq cq, .slice ah nh ch, .string bd], .int .i64 b] w fun e w' => e = .returned (.int .i64 ((b + nq * 2 + nh * 2 : Nat) : Int)) ∧ Below w.heap.size w w' := by
  obtain ⟨W0, hW0⟩ : ∃ W0, W0 = w.alloc (.cells #[.string m, .string p, .slice aq nq cq, .slice ah nh ch, .string bd] 26) := ⟨_, rfl⟩
  have hb0 : Below w.heap.size w W0 := by rw [hW0]; exact bel1 _ _
  have hB0 : Blk W0 w.heap.size [.string m, .string p, .slice aq nq cq, .slice ah nh ch, .string bd] := by rw [hW0]; exact Blk.new w _ _
  obtain ⟨c0, c1, c2, c3, c4⟩ := hB0.five
  have HM := hide (heldHeaderS_calls b aq cq nq W0 hb1 (by omega) (by omega) (h1.below hb0))
  have HR2 := hide (h2.below hb0)
  have HO := hide hb0
  have HW0 := hide hW0.symm
  have HB0 := hide hB0
  obtain ⟨K, hK⟩ : ∃ K, b + nq * 2 = K := ⟨_, rfl⟩
  rw [hK] at HM HR2 ⊢
  have hK1 : K ≤ 100000000 := by omega
  have hK0 : 1 ≤ K := by omega
  clear hb0 hW0 h1 h2 hB0 hK
  go_enter Tryz.func26, Tryz.ntmps26
  go_wp2_with fail
  rw [unhide HW0]
  refine (unhide HM).mono ?_
  rintro e w1 ⟨rfl, o1⟩
  have HB1 := hide ((unhide HB0).call o1)
  have HR3 := hide ((unhide HR2).below o1)
  have HO1 := hide (belOn (unhide HO) o1)
  obtain ⟨d0, d1, d2, d3, d4⟩ := (unhide HB1).five
  have HM2 := hide (heldHeaderS_calls K ah ch nh w1 hK0 hK1 (by omega) (unhide HR3))
  clear o1 HB0 HR2 HO HW0 HM c0 c1 c2 c3 c4
  go_wp2_with fail
  refine (unhide HM2).mono ?_
  rintro e w2 ⟨rfl, o2⟩
  have HO2 := hide (belOn (unhide HO1) o2)
  clear o2 d0 d1 d2 d3 d4 HM2
  go_wp2_with fail
  go_ret
  exact ⟨rfl, unhide HO2⟩

set_option maxRecDepth 10000 in
set_option maxHeartbeats 8000000 in
theorem rq_walk (s : ByteArray) (w : World) (hs : s.size ≤ maxLen) (hv : RrV w ∧ P10 w ∧ ErV w) :
    Calls Tryz.prog 5 #[.string s] w fun e w' => e = .returned (.bool true) ∧ Below w.heap.size w w' := by
  unfold maxLen at hs
  by_cases hbig : 1048576 < s.size
  · go_enter Tryz.func5, Tryz.ntmps5
    go_wp2_with fail
    go_ret
    exact ⟨rfl, Below.refl _ _⟩
  · obtain ⟨cd, me, pa, Q, H, bd, hlq, hlen, hans⟩ := reqA_form s.data.toList
    obtain ⟨m, hm⟩ : ∃ m, H.length = m := ⟨_, rfl⟩
    obtain ⟨n, hn⟩ : ∃ n, Q.length = n := ⟨_, rfl⟩
    rw [hm] at hlen hans
    rw [hn] at hlq hans
    have HSP := hide (fun (W : World) => (spec_ReadRequest s W (by omega)).mono fun e w' h => And.intro (hans _ _ _ h.1) h.2)
    have HIM := hide (fun (W : World) (hW : Below w.heap.size w W) => (impl_ReadRequest s W (by omega) (hv.1.below hW) (hv.2.1.below hW) (hv.2.2.below hW)).mono fun e w' h => And.intro (hans _ _ _ h.1) h.2)
    have z1 : m ≤ 1048576 := by omega
    have z2 : n ≤ 1048576 := by omega
    have HM := hide hm
    have HN := hide hn
    have hs2 : s.size ≤ 1048576 := by omega
    clear hbig hlen hlq hm hn hv hs hans
    go_enter Tryz.func5, Tryz.ntmps5
    go_wp2_with fail
    refine (unhide HSP w).mono ?_
    rintro e w3 ⟨⟨x', k', x, k, rfl, o0, o1, -⟩, hb3⟩
    obtain ⟨Wq, hWq⟩ : ∃ Wq, Wq = w3.alloc (.cells #[.string me, .string pa, .slice x' n k', .slice x m k, .string bd] 26) := ⟨_, rfl⟩
    have hbq : Below w3.heap.size w3 Wq := by rw [hWq]; exact bel1 _ _
    have DW := hide (show Blk Wq w3.heap.size [.string me, .string pa, .slice x' n k', .slice x m k, .string bd] from by rw [hWq]; exact Blk.new w3 _ _)
    have HB3 := hide (belOn hb3 hbq)
    have HX := hide (show ReqRow Wq x' x Q H from ⟨o0.at.below hbq, o1.at.below hbq⟩)
    have HWq := hide hWq.symm
    clear hb3 o0 o1 hWq hbq
    go_upto_region 4 with fail
    rw [unhide HWq]
    go_wp2_with fail
    refine (unhide HIM Wq (unhide HB3)).mono ?_
    rintro e w6 ⟨⟨y', j', y, j, rfl, o0, o1, hap6⟩, hb6⟩
    obtain ⟨Wg, hWg⟩ : ∃ Wg, Wg = w6.alloc (.cells #[.string me, .string pa, .slice y' n j', .slice y m j, .string bd] 26) := ⟨_, rfl⟩
    have hbg : Below w6.heap.size w6 Wg := by rw [hWg]; exact bel1 _ _
    have hb6g := belOn hb6 hbg
    have DG := hide (show Blk Wg w6.heap.size [.string me, .string pa, .slice y' n j', .slice y m j, .string bd] from by rw [hWg]; exact Blk.new w6 _ _)
    have HT6 := hide hb6g
    have HV6 := hide (own_geQ o1)
    have HV5 := hide (own_geQ o0)
    have HAP := hide (ap_of o0 o1 hap6)
    have HY6 := hide (show ReqRow Wg y' y Q H from ⟨o0.at.below hbg, o1.at.below hbg⟩)
    have DW6 := hide ((unhide DW).call hb6g)
    have hz6 : w3.heap.size < Wq.heap.size := (unhide DW).lt
    have HWg := hide hWg.symm
    obtain ⟨e0, e1, e2, e3, e4⟩ := (unhide DG).five
    obtain ⟨f0, f1, f2, f3, f4⟩ := (unhide DW6).five
    clear hb6 hbg hb6g o0 o1 hap6 DW hWg
    go_upto_region 5 with fail
    rw [unhide HWg]
    go_wp2_with fail
    refine (eqRequest_calls me pa y' y x' x n m j' j k' k Q H bd Wg (unhide HN) (unhide HM) (by omega) (by omega) (unhide HY6) ((unhide HX).below (unhide HT6))).mono ?_
    rintro e wb ⟨rfl, hbb⟩
    have HTb := hide (belOn (unhide HT6) hbb)
    have HYb := hide ((unhide HY6).below hbb)
    have DGb := hide ((unhide DG).call hbb)
    have DWb := hide ((unhide DW6).call hbb)
    clear e0 e1 e2 e3 e4 f0 f1 f2 f3 f4 hbb HT6 HY6 DG DW6
    obtain ⟨e0, e1, e2, e3, e4⟩ := (unhide DGb).five
    go_wp2_with fail
    refine (markRequest_calls me pa y' y n j' m j Q H bd 1 wb (by omega) (by omega) (unhide HN) (unhide HM) z2 z1 (unhide HYb).q (unhide HYb).h (unhide HAP) (fun g o q => by have := (unhide HV5 g o q).2; have := (unhide DGb).lt; omega)).mono ?_
    rintro e wc ⟨rfl, hMc, hoc⟩
    have HTc := hide ((unhide HTb).trans (hoc.below (B := Wq.heap.size) (fun g hg => by obtain ⟨o, q | q⟩ := hg; exact (unhide HV5 g o q).1; exact (unhide HV6 g o q).1) (unhide HTb).size))
    have HKc := hide hMc
    have DGc := hide ((unhide DGb).onlyP hoc (fun hg => by obtain ⟨o, q | q⟩ := hg; have := (unhide HV5 _ o q).2; omega; have := (unhide HV6 _ o q).2; omega))
    have DWc := hide ((unhide DWb).onlyP hoc (fun hg => by obtain ⟨o, q | q⟩ := hg; have := (unhide HV5 _ o q).1; omega; have := (unhide HV6 _ o q).1; omega))
    clear e0 e1 e2 e3 e4 hoc hMc HTb HYb DGb DWb
    obtain ⟨e0, e1, e2, e3, e4⟩ := (unhide DGc).five
    obtain ⟨K, hK⟩ : ∃ K, 1 + n * 2 + m * 2 = K := ⟨_, rfl⟩
    rw [hK]
    have HK := hide hK
    clear hK
    go_wp2_with fail
    refine (heldRequest_calls me pa y' y n j' m j bd 1 wc (by omega) (by omega) z2 z1 (unhide HKc).1 (unhide HKc).2).mono ?_
    rintro e wd ⟨rfl, hbd⟩
    rw [unhide HK]
    have HTd := hide (belOn (unhide HTc) hbd)
    have HKd := hide (And.intro ((unhide HKc).1.below hbd) ((unhide HKc).2.below hbd))
    have DGd := hide ((unhide DGc).call hbd)
    have DWd := hide ((unhide DWc).call hbd)
    clear e0 e1 e2 e3 e4 hbd HTc HKc DGc DWc
    go_wp2_with fail
    refine (unhide HIM wd (belOn (unhide HB3) (unhide HTd))).mono ?_
    rintro e wf ⟨⟨u', i', u, i, rfl, o0, o1, -⟩, hbf⟩
    obtain ⟨Wh, hWh⟩ : ∃ Wh, Wh = wf.alloc (.cells #[.string me, .string pa, .slice u' n i', .slice u m i, .string bd] 26) := ⟨_, rfl⟩
    have hbh : Below wf.heap.size wf Wh := by rw [hWh]; exact bel1 _ _
    have hbfh := belOn hbf hbh
    have DH := hide (show Blk Wh wf.heap.size [.string me, .string pa, .slice u' n i', .slice u m i, .string bd] from by rw [hWh]; exact Blk.new wf _ _)
    have HTf := hide (belOn (unhide HTd) hbfh)
    have HKf := hide (And.intro ((unhide HKd).1.below hbfh) ((unhide HKd).2.below hbfh))
    have DGf := hide ((unhide DGd).call hbfh)
    have DWf := hide ((unhide DWd).call hbfh)
    have HU := hide (show ReqRow Wh u' u Q H from ⟨o0.at.below hbh, o1.at.below hbh⟩)
    have HWh := hide hWh.symm
    obtain ⟨e0, e1, e2, e3, e4⟩ := (unhide DH).five
    obtain ⟨f0, f1, f2, f3, f4⟩ := (unhide DWf).five
    clear hbf hbh hbfh o0 o1 HTd HKd hWh DGd DWd
    rw [← unhide HWh] at e0 e1 e2 e3 e4 f0 f1 f2 f3 f4
    go_wp2_with fail
    rw [unhide HWh]
    refine (eqRequest_calls me pa u' u x' x n m i' i k' k Q H bd Wh (unhide HN) (unhide HM) (by omega) (by omega) (unhide HU) ((unhide HX).below (unhide HTf))).mono ?_
    rintro e wg ⟨rfl, hbg⟩
    have HTg := hide (belOn (unhide HTf) hbg)
    have HKg := hide (And.intro ((unhide HKf).1.below hbg) ((unhide HKf).2.below hbg))
    have DGg := hide ((unhide DGf).call hbg)
    clear e0 e1 e2 e3 e4 f0 f1 f2 f3 f4 hbg HTf HKf HU DGf DWf
    obtain ⟨e0, e1, e2, e3, e4⟩ := (unhide DGg).five
    go_wp2_with fail
    refine (heldRequest_calls me pa y' y n j' m j bd 1 wg (by omega) (by omega) z2 z1 (unhide HKg).1 (unhide HKg).2).mono ?_
    rintro e wh ⟨rfl, hbh⟩
    rw [unhide HK]
    have HTh := hide (belOn (unhide HTg) hbh)
    clear e0 e1 e2 e3 e4 hbh HTg HKg
    go_wp2_with fail
    go_ret
    exact ⟨rfl, belOn (unhide HB3) (unhide HTh)⟩
end Go.Proofs.YtanekbifdedmeaaGreatDoor
