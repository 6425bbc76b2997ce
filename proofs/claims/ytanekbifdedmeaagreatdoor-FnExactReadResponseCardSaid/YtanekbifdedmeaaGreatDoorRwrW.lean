/- The walk of the law FnExactReadResponse. -/
import Derived.Test.YtanekbifdedmeaaGreatDoorRrV
import Derived.Test.YtanekbifdedmeaaGreatDoorMrkH
import Derived.WalkKit
import Derived.ProofKit
import Derived.Below
set_option linter.unusedVariables false
namespace Go.Proofs.YtanekbifdedmeaaGreatDoor
open Go.RowKit Plain

namespace Plain
/-- Both readers answer so. -/
theorem ans_form (S : List UInt8) : ∃ (P : Int × List Hd × List UInt8) (G : Bool), P.2.1.length ≤ 20 ∧ ∀ B e w', RspAns S B e w' → ∃ a c, e = .returned (.tuple #[.agg #[.int .i64 P.1, .slice a P.2.1.length c, .string (bU P.2.2)], .bool G]) ∧ OwnR hdrE w' B (.slice a P.2.1.length c) P.2.1 := by
  by_cases h : ∃ p, IsR S p
  · obtain ⟨p, hp⟩ := h
    refine ⟨p, true, (hrw_fit (tal_fit (isR_tail hp).1).1).1, ?_⟩
    rintro B e w' (⟨q, hq, a, c, rfl, ho⟩ | ⟨hno, _⟩)
    · obtain rfl := isR_one hp hq
      exact ⟨a, c, rfl, ho⟩
    · exact absurd hp (hno p)
  · refine ⟨(0, [], []), false, by simp, ?_⟩
    rintro B e w' (⟨q, hq, _⟩ | ⟨_, rfl⟩)
    · exact absurd ⟨q, hq⟩ h
    · exact ⟨none, 0, rfl, ownR_nil _ _ _⟩
end Plain

set_option maxHeartbeats 1000000 in
theorem markResponse_calls (st : Int) (ah : Option Addr) (nh ch : Nat) (hs : List Hd) (bd : ByteArray) (b : Nat) (w : World) (hb1 : 1 ≤ b) (hb2 : b ≤ 100000000) (hn : hs.length = nh) (hn2 : nh ≤ 1048576) (h : RowAt hdrE w ah hs) :
    Calls Tryz.prog 28 #[.agg #[.int .i64 st, .slice ah nh ch, .string bd], .int .i64 b] w fun e w' => e = .returned (.int .i64 ((b + nh * 2 : Nat) : Int)) ∧ RowAt hdrE w' ah (mkH b nh) ∧ OnlyRow ah w w' := by
  obtain ⟨W0, hW0⟩ : ∃ W0, W0 = w.alloc (.cells #[.int .i64 st, .slice ah nh ch, .string bd] 36) := ⟨_, rfl⟩
  have hb0 : Below w.heap.size w W0 := by rw [hW0]; exact bel1 _ _
  have hB0 : Blk W0 w.heap.size [.int .i64 st, .slice ah nh ch, .string bd] := by rw [hW0]; exact Blk.new w _ _
  obtain ⟨c0, c1, c2, _, _, _⟩ := hB0.three
  have HM := hide (markHeaderS_calls b ah ch nh hs W0 hb1 hb2 hn (by omega) (h.below hb0))
  have HO := hide (OnlyRow.of (a := ah) hb0)
  have HW0 := hide hW0.symm
  clear hB0 hb0 hW0 h
  go_enter Tryz.func28, Tryz.ntmps28
  go_wp2_with fail
  rw [unhide HW0]
  refine (unhide HM).mono ?_
  rintro e w1 ⟨rfl, h1, h2⟩
  go_wp2_with fail
  go_ret
  exact ⟨rfl, h1, (unhide HO).trans h2⟩

set_option maxHeartbeats 1000000 in
theorem heldResponse_calls (st : Int) (ah : Option Addr) (nh ch : Nat) (bd : ByteArray) (b : Nat) (w : World) (hb1 : 1 ≤ b) (hb2 : b ≤ 100000000) (hn2 : nh ≤ 1048576) (h : RowAt hdrE w ah (mkH b nh)) :
    Calls Tryz.prog 29 #[.agg #[.int .i64 st, .slice ah nh ch, .string bd], .int .i64 b] w fun e w' => e = .returned (.int .i64 ((b + nh * 2 : Nat) : Int)) ∧ Below w.heap.size w w' := by
  obtain ⟨W0, hW0⟩ : ∃ W0, W0 = w.alloc (.cells #[.int .i64 st, .slice ah nh ch, .string bd] 36) := ⟨_, rfl⟩
  have hb0 : Below w.heap.size w W0 := by rw [hW0]; exact bel1 _ _
  have hB0 : Blk W0 w.heap.size [.int .i64 st, .slice ah nh ch, .string bd] := by rw [hW0]; exact Blk.new w _ _
  obtain ⟨c0, c1, c2, _, _, _⟩ := hB0.three
  have HM := hide (heldHeaderS_calls b ah ch nh W0 hb1 hb2 (by omega) (h.below hb0))
  have HO := hide hb0
  have HW0 := hide hW0.symm
  clear hB0 hb0 hW0 h
  go_enter Tryz.func29, Tryz.ntmps29
  go_wp2_with fail
  rw [unhide HW0]
  refine (unhide HM).mono ?_
  rintro e w1 ⟨rfl, h1⟩
  have h3 := belOn (unhide HO) h1
  have HB3 := hide h3
  clear h1 h3
  go_wp2_with fail
  go_ret
  exact ⟨rfl, unhide HB3⟩

theorem Plain.Blk.row {W W' : World} {b : Nat} {vs : List Value} {a : Option Addr} (h : Blk W b vs) (ho : OnlyRow a W W') (hne : ∀ o, a ≠ some ⟨b, o, none⟩) : Blk W' b vs :=
  ⟨Nat.lt_of_lt_of_le h.lt ho.size, fun i hi => (ho.cell h.lt hne).trans (h.c i hi), fun i hi => (ho.frozen h.lt hne).trans (h.f i hi)⟩
theorem own_ge {W : World} {B n c : Nat} {a : Option Addr} {xs : List Hd} (h : OwnR hdrE W B (.slice a n c) xs) : ∀ g o, a = some ⟨g, o, none⟩ → B ≤ g ∧ g < W.heap.size := by
  rintro g o rfl
  obtain ⟨a', c', he⟩ := h.form
  rcases h.2 with ⟨e1, _⟩ | ⟨g', cap, cur, e1, _, _⟩
  · simp at e1
  · simp at e1
    obtain ⟨⟨rfl, rfl⟩, _⟩ := e1
    exact World.ownsRow.lt h g rfl

set_option maxRecDepth 10000 in
set_option maxHeartbeats 8000000 in
theorem rr_walk (s : ByteArray) (w : World) (hs : s.size ≤ maxLen) (hv : RrV w ∧ P10 w) :
    Calls Tryz.prog 6 #[.string s] w fun e w' => e = .returned (.bool true) ∧ Below w.heap.size w w' := by
  unfold maxLen at hs
  by_cases hbig : 1048576 < s.size
  · go_enter Tryz.func6, Tryz.ntmps6
    go_wp2_with fail
    go_ret
    exact ⟨rfl, Below.refl _ _⟩
  · obtain ⟨P, G, hlen, hans⟩ := ans_form s.data.toList
    obtain ⟨st, H, bdl⟩ := P
    simp only at hlen hans
    generalize bU bdl = bd at hans
    obtain ⟨m, hm⟩ : ∃ m, H.length = m := ⟨_, rfl⟩
    rw [hm] at hlen hans
    have HSP := hide (fun (W : World) => (spec_ReadResponse s W (by omega)).mono fun e w' h => And.intro (hans _ _ _ h.1) h.2)
    have HIM := hide (fun (W : World) (hW : Below w.heap.size w W) => (impl_ReadResponse s W (by omega) (hv.1.below hW) (hv.2.below hW)).mono fun e w' h => And.intro (hans _ _ _ h.1) h.2)
    have z1 : m ≤ 1048576 := by omega
    have HM := hide hm
    have hs2 : s.size ≤ 1048576 := by omega
    clear hbig hlen hm hv hs hans
    go_enter Tryz.func6, Tryz.ntmps6
    go_wp2_with fail
    refine (unhide HSP w).mono ?_
    rintro e w3 ⟨⟨x, k, rfl, o1⟩, hb3⟩
    obtain ⟨Wq, hWq⟩ : ∃ Wq, Wq = w3.alloc (.cells #[.int .i64 st, .slice x m k, .string bd] 36) := ⟨_, rfl⟩
    have hbq : Below w3.heap.size w3 Wq := by rw [hWq]; exact bel1 _ _
    have DW := hide (show Blk Wq w3.heap.size [.int .i64 st, .slice x m k, .string bd] from by rw [hWq]; exact Blk.new w3 _ _)
    have HB3 := hide (belOn hb3 hbq)
    have HX := hide (o1.at.below hbq)
    have HWq := hide hWq.symm
    clear hb3 o1 hWq hbq
    go_upto_region 4 with fail
    rw [unhide HWq]
    go_wp2_with fail
    refine (unhide HIM Wq (unhide HB3)).mono ?_
    rintro e w6 ⟨⟨y, j, rfl, o1⟩, hb6⟩
    obtain ⟨Wg, hWg⟩ : ∃ Wg, Wg = w6.alloc (.cells #[.int .i64 st, .slice y m j, .string bd] 36) := ⟨_, rfl⟩
    have hbg : Below w6.heap.size w6 Wg := by rw [hWg]; exact bel1 _ _
    have hb6g := belOn hb6 hbg
    have DG := hide (show Blk Wg w6.heap.size [.int .i64 st, .slice y m j, .string bd] from by rw [hWg]; exact Blk.new w6 _ _)
    have HT6 := hide hb6g
    have HV6 := hide (own_ge o1)
    have HY6 := hide (o1.at.below hbg)
    have DW6 := hide ((unhide DW).call hb6g)
    have hz6 : w3.heap.size < Wq.heap.size := (unhide DW).lt
    have HWg := hide hWg.symm
    obtain ⟨e0, e1, e2, _, _, _⟩ := (unhide DG).three
    obtain ⟨f0, f1, f2, _, _, _⟩ := (unhide DW6).three
    clear hb6 hbg hb6g o1 DW hWg
    go_upto_region 5 with fail
    rw [unhide HWg]
    go_wp2_with fail
    refine (eqResponse_calls st y x m j k H bd Wg (unhide HM) (by omega) (unhide HY6) ((unhide HX).below (unhide HT6))).mono ?_
    rintro e wb ⟨rfl, hbb⟩
    have HTb := hide (belOn (unhide HT6) hbb)
    have HYb := hide ((unhide HY6).below hbb)
    have DGb := hide ((unhide DG).call hbb)
    have DWb := hide ((unhide DW6).call hbb)
    clear e0 e1 e2 f0 f1 f2 hbb HT6 HY6 DG DW6
    obtain ⟨e0, e1, e2, _, _, _⟩ := (unhide DGb).three
    go_wp2_with fail
    refine (markResponse_calls st y m j H bd 1 wb (by omega) (by omega) (unhide HM) z1 (unhide HYb)).mono ?_
    rintro e wc ⟨rfl, hMc, hoc⟩
    have HTc := hide ((unhide HTb).trans (hoc.below (B := Wq.heap.size) (fun g o hg => (unhide HV6 g o hg).1) (unhide HTb).size))
    have HKc := hide hMc
    have DGc := hide ((unhide DGb).row hoc (fun o q => by have := (unhide HV6 _ o q).2; omega))
    have DWc := hide ((unhide DWb).row hoc (fun o q => by have := (unhide HV6 _ o q).1; omega))
    clear e0 e1 e2 hoc hMc HTb HYb DGb DWb
    obtain ⟨e0, e1, e2, _, _, _⟩ := (unhide DGc).three
    obtain ⟨K, hK⟩ : ∃ K, 1 + m * 2 = K := ⟨_, rfl⟩
    rw [hK]
    have HK := hide hK
    clear hK
    go_wp2_with fail
    refine (heldResponse_calls st y m j bd 1 wc (by omega) (by omega) z1 (unhide HKc)).mono ?_
    rintro e wd ⟨rfl, hbd⟩
    rw [unhide HK]
    have HTd := hide (belOn (unhide HTc) hbd)
    have HKd := hide ((unhide HKc).below hbd)
    have DGd := hide ((unhide DGc).call hbd)
    have DWd := hide ((unhide DWc).call hbd)
    clear e0 e1 e2 hbd HTc HKc DGc DWc
    go_wp2_with fail
    refine (unhide HIM wd (belOn (unhide HB3) (unhide HTd))).mono ?_
    rintro e wf ⟨⟨u, i, rfl, o1⟩, hbf⟩
    obtain ⟨Wh, hWh⟩ : ∃ Wh, Wh = wf.alloc (.cells #[.int .i64 st, .slice u m i, .string bd] 36) := ⟨_, rfl⟩
    have hbh : Below wf.heap.size wf Wh := by rw [hWh]; exact bel1 _ _
    have hbfh := belOn hbf hbh
    have DH := hide (show Blk Wh wf.heap.size [.int .i64 st, .slice u m i, .string bd] from by rw [hWh]; exact Blk.new wf _ _)
    have HTf := hide (belOn (unhide HTd) hbfh)
    have HKf := hide ((unhide HKd).below hbfh)
    have DGf := hide ((unhide DGd).call hbfh)
    have DWf := hide ((unhide DWd).call hbfh)
    have HU := hide (o1.at.below hbh)
    have HWh := hide hWh.symm
    obtain ⟨e0, e1, e2, _, _, _⟩ := (unhide DH).three
    obtain ⟨f0, f1, f2, _, _, _⟩ := (unhide DWf).three
    clear hbf hbh hbfh o1 HTd HKd hWh DGd DWd
    rw [← unhide HWh] at e0 e1 e2 f0 f1 f2
    go_wp2_with fail
    rw [unhide HWh]
    refine (eqResponse_calls st u x m i k H bd Wh (unhide HM) (by omega) (unhide HU) ((unhide HX).below (unhide HTf))).mono ?_
    rintro e wg ⟨rfl, hbg⟩
    have HTg := hide (belOn (unhide HTf) hbg)
    have HKg := hide ((unhide HKf).below hbg)
    have DGg := hide ((unhide DGf).call hbg)
    clear e0 e1 e2 f0 f1 f2 hbg HTf HKf HU DGf DWf
    obtain ⟨e0, e1, e2, _, _, _⟩ := (unhide DGg).three
    go_wp2_with fail
    refine (heldResponse_calls st y m j bd 1 wg (by omega) (by omega) z1 (unhide HKg)).mono ?_
    rintro e wh ⟨rfl, hbh⟩
    rw [unhide HK]
    have HTh := hide (belOn (unhide HTg) hbh)
    clear e0 e1 e2 hbh HTg HKg
    go_wp2_with fail
    go_ret
    exact ⟨rfl, belOn (unhide HB3) (unhide HTh)⟩
end Go.Proofs.YtanekbifdedmeaaGreatDoor
