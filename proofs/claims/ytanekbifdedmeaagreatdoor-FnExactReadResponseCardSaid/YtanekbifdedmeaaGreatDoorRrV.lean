/- ReadResponse, by the specification. -/
import Derived.Test.YtanekbifdedmeaaGreatDoorRrR
namespace Go.Proofs.YtanekbifdedmeaaGreatDoor
open Go.RowKit Plain
set_option linter.unusedVariables false

namespace Plain
theorem spec_one {s : List UInt8} {L : Nat} {t : Int × List Hd × List UInt8} (hi : Lib.index s [13, 10] = L) (ht : talF (numG 20000) (s.drop (L + 2)) = t) (p : Int × List Hd × List UInt8) (q : IsR s p) : t = (0, p.2) ∧ numG 999 ((s.drop 9).take 3) = p.1 := by
  obtain ⟨_, _, ⟨L', a1, a2⟩, _, a4, _⟩ := wrs_facts q
  rw [hi] at a1
  obtain rfl : L = L' := by omega
  rw [ht] at a2
  exact ⟨a2, a4⟩
theorem ext_912 (s : ByteArray) (h : 12 ≤ s.size) : (s.extract 9 12).data.toList = (s.data.toList.drop 9).take 3 := by
  rw [ByteArray.data_extract, Array.toList_extract, List.extract_eq_take_drop]
end Plain

set_option maxRecDepth 10000 in
set_option maxHeartbeats 8000000 in
theorem spec_ReadResponse (s : ByteArray) (w : World) (hs : s.size ≤ 2000000) :
    Calls Tryz.prog 23 #[.string s] w fun e w' => RspAns s.data.toList w.heap.size e w' ∧ Below w.heap.size w w' := by
  obtain ⟨W2, hW2⟩ : ∃ W2, W2 = (w.alloc (.cells #[.int .i64 0, .slice none 0 0, .string ⟨#[]⟩] 36)).alloc (.cells #[.int .i64 0, .slice none 0 0, .string ⟨#[]⟩] 36) := ⟨_, rfl⟩
  have hb2 : Below w.heap.size w W2 := by rw [hW2]; exact belOn (bel1 _ _) (bel1 _ _)
  have hz2 : W2.heap.size = w.heap.size + 2 := by rw [hW2]; simp
  have hB2 : Blk W2 w.heap.size [.int .i64 0, .slice none 0 0, .string ⟨#[]⟩] := by rw [hW2]; exact (Blk.new w _ _).alloc _
  have hN2 : Blk W2 (w.heap.size + 1) [.int .i64 0, .slice none 0 0, .string ⟨#[]⟩] := by
    have hn := Blk.new (w.alloc (.cells #[.int .i64 0, .slice none 0 0, .string ⟨#[]⟩] 36)) [.int .i64 0, .slice none 0 0, .string ⟨#[]⟩] 36
    rw [show (w.alloc (.cells #[.int .i64 0, .slice none 0 0, .string ⟨#[]⟩] 36)).heap.size = w.heap.size + 1 from by simp] at hn
    rw [hW2]
    exact hn
  have hsl := len_dataR s
  have HB2 := hide hB2
  have HN2 := hide hN2
  have HBW := hide hb2
  have HW2 := hide hW2.symm
  obtain ⟨b0, b1, b2, z0, z1, z2⟩ := hB2.three
  obtain ⟨n0, n1, n2, _, _, _⟩ := hN2.three
  have HEND := hide (fun (W : World) (hW : Below W2.heap.size W2 W) (u v x : Value) => out3_facts ((unhide HB2).call hW) (OnlyAt.of_below (a := ⟨0, 0, none⟩) (belOn (unhide HBW) hW)) u v x)
  clear hB2 hN2 hb2 hW2
  by_cases h40 : 40000 < s.size
  · have HI := hide (show ∀ p, ¬ IsR s.data.toList p from fun p q => by obtain ⟨a1, a2, _⟩ := wrs_facts q; omega)
    obtain ⟨r0, r1, r2, HZ⟩ := unhide HEND W2 (Below.refl _ _) (.int .i64 0) (.slice none 0 0) (.string ⟨#[]⟩)
    clear hsl
    go_enter Tryz.func23, Tryz.ntmps23
    go_upto_region 2 with fail
    rw [unhide HW2]
    go_wp2_with fail
    exact bodyPost_ret (v := .tuple #[.agg #[.int .i64 0, .slice none 0 0, .string ⟨#[]⟩], .bool false]) (by simp [results, Tryz.results23, go_sem, r0, r1, r2]) rfl ⟨.inr ⟨unhide HI, rfl⟩, (unhide HBW).trans (out3_below _ _ _ _ _)⟩
  by_cases h12 : s.size < 12
  · have HI := hide (show ∀ p, ¬ IsR s.data.toList p from fun p q => by obtain ⟨a1, a2, _⟩ := wrs_facts q; omega)
    obtain ⟨r0, r1, r2, HZ⟩ := unhide HEND W2 (Below.refl _ _) (.int .i64 0) (.slice none 0 0) (.string ⟨#[]⟩)
    clear hsl
    go_enter Tryz.func23, Tryz.ntmps23
    go_upto_region 2 with fail
    rw [unhide HW2]
    go_wp2_with fail
    exact bodyPost_ret (v := .tuple #[.agg #[.int .i64 0, .slice none 0 0, .string ⟨#[]⟩], .bool false]) (by simp [results, Tryz.results23, go_sem, r0, r1, r2]) rfl ⟨.inr ⟨unhide HI, rfl⟩, (unhide HBW).trans (out3_below _ _ _ _ _)⟩
  have HF := hide (fun W => l16Find_calls s ⟨#[13, 10]⟩ W (by omega) (by decide) (by decide))
  rw [ByteArray.toList_eq, show (⟨#[13, 10]⟩ : ByteArray).toList = [13, 10] from by rw [ByteArray.toList_eq]] at HF
  rcases ix_room [13, 10] s.data.toList with q | ⟨K, q, hK⟩
  · rw [q] at HF
    have HI := hide (show ∀ p, ¬ IsR s.data.toList p from fun p q2 => by
      obtain ⟨_, _, ⟨L, a1, _⟩, _⟩ := wrs_facts q2
      rw [q] at a1
      omega)
    obtain ⟨r0, r1, r2, HZ⟩ := unhide HEND W2 (Below.refl _ _) (.int .i64 0) (.slice none 0 0) (.string ⟨#[]⟩)
    clear hsl q
    go_enter Tryz.func23, Tryz.ntmps23
    go_upto_region 2 with fail
    rw [unhide HW2]
    go_wp2_with (go_at_call 44; refine (unhide HF _).mono ?_; rintro e w' ⟨rfl, rfl⟩)
    exact bodyPost_ret (v := .tuple #[.agg #[.int .i64 0, .slice none 0 0, .string ⟨#[]⟩], .bool false]) (by simp [results, Tryz.results23, go_sem, r0, r1, r2]) rfl ⟨.inr ⟨unhide HI, rfl⟩, (unhide HBW).trans (out3_below _ _ _ _ _)⟩
  have hKs : K + 2 ≤ s.size := by
    rw [hsl] at hK
    exact hK
  rw [q] at HF
  have ht : (s.extract (K + 2) s.size).data.toList = s.data.toList.drop (K + 2) := ext_drop s (K + 2)
  have HTL := hide (fun W => l16Tail_calls (s.extract (K + 2) s.size) W (by rw [ByteArray.size_extract]; omega))
  rw [ht] at HTL
  have HNU := hide (fun W => l1NumberG_calls (s.extract 9 12) 999 W (by rw [ByteArray.size_extract]; omega))
  rw [ext_912 s (by omega)] at HNU
  obtain ⟨T, hT⟩ : ∃ T, talF (numG 20000) (s.data.toList.drop (K + 2)) = T := ⟨_, rfl⟩
  obtain ⟨N, hN⟩ : ∃ N, numG 999 ((s.data.toList.drop 9).take 3) = N := ⟨_, rfl⟩
  rw [hT] at HTL
  rw [hN] at HNU
  have HONE := hide (fun p (hp : IsR s.data.toList p) => by
    have := spec_one q hT p hp
    rw [hN] at this
    exact this)
  have HT := hide hT
  obtain ⟨J, hJ⟩ : ∃ J : Nat, K + 2 = J := ⟨_, rfl⟩
  have hw : IntKind.i64.wrap ((K : Int) + 2) = (J : Int) := by rw [IntKind.wrap_i64]; omega
  have j0 : (0 : Int) ≤ (J : Int) := by omega
  have j1 : (J : Int) ≤ (s.size : Int) := by omega
  have HLEN := hide (show (s.data.toList.drop (K + 2)).length ≤ 2000000 from by rw [List.length_drop]; omega)
  rw [hJ] at HTL HT HLEN
  have hnn : s.data.toList ≠ [] := by
    intro q3
    rw [q3] at hsl
    simp at hsl
    omega
  have HNN := hide hnn
  have k0 : (0 : Int) ≤ (K : Int) := by omega
  have HEND0 := hide (unhide HEND)
  clear hsl q hK hKs ht hT hN hJ hnn HEND
  go_enter Tryz.func23, Tryz.ntmps23
  go_upto_region 2 with fail
  rw [unhide HW2]
  go_wp2_with (go_at_call 44; refine (unhide HF _).mono ?_; rintro e w' ⟨rfl, rfl⟩)
  refine (unhide HTL W2).mono ?_
  rintro e w3 ⟨htp, hb3⟩
  have HEND3 := hide (fun (W : World) (hW : Below w3.heap.size w3 W) (u v x : Value) => unhide HEND0 W (hb3.trans (hW.mono hb3.size)) u v x)
  have HBW3 := hide (belOn (unhide HBW) hb3)
  have HN3 := hide ((unhide HN2).call hb3)
  have HR3 := hide ((unhide HB2).call hb3)
  have hz3 : w.heap.size + 2 ≤ w3.heap.size := by have := hb3.size; omega
  by_cases h1 : T.1 = 0
  · obtain ⟨a, c, rfl, hown⟩ := htp.1 h1
    obtain ⟨W5, hW5⟩ : ∃ W5, W5 = w3.alloc (.cells #[.int .i64 N, .slice a T.2.1.length c, .string (bU T.2.2)] 36) := ⟨_, rfl⟩
    have hb5 : Below w3.heap.size w3 W5 := by rw [hW5]; exact bel1 _ _
    have hB5 : Blk W5 w3.heap.size [.int .i64 N, .slice a T.2.1.length c, .string (bU T.2.2)] := by rw [hW5]; exact Blk.new w3 _ _
    have hTT : talF (numG 20000) (s.data.toList.drop J) = (0, T.2.1, T.2.2) := by rw [unhide HT, ← h1]
    have hown5 := hown.keep hb5
    have HWR := hide (spec_WriteResponse N a T.2.1.length c T.2.1 (bU T.2.2) W5 (rsp_at hTT (unhide HLEN) hown5))
    obtain ⟨p0, p1, p2, _, _, _⟩ := hB5.three
    have HB5 := hide hB5
    have HR5 := hide ((unhide HR3).call hb5)
    have HN5 := hide ((unhide HN3).call hb5)
    have HBW5 := hide (belOn (unhide HBW3) hb5)
    have HOWN5 := hide hown5
    have HW5 := hide hW5.symm
    have HEND5 := hide (fun (W : World) (hW : Below W5.heap.size W5 W) (u v x : Value) => unhide HEND3 W (belOn hb5 hW) u v x)
    have HNO := hide (fun (q : wrsT N T.2.1 (bU T.2.2) ≠ s) (p : Int × List Hd × List UInt8) (hp : IsR s.data.toList p) => by
      obtain ⟨e1, e4⟩ := unhide HONE p hp
      have e2 := hp.1
      have e5 : T.2 = p.2 := by rw [e1]
      rw [← e4, ← e5] at e2
      apply q
      rw [← bU_self s, ← e2, bU_self])
    have HYES := hide (fun (q : wrsT N T.2.1 (bU T.2.2) = s) => (⟨by show (wrsT N T.2.1 (bU T.2.2)).data.toList = _; rw [q], unhide HNN⟩ : IsR s.data.toList (N, T.2)))
    clear hB5 hown5 hW5 hown hb5 hTT HT HW2 HTL HONE HLEN HNN HN3 HR3 HBW3 HEND3 HEND0 HN2 HB2 HBW htp hb3 b0 b1 b2 z0 z1 z2 n0 n1 n2
    go_upto_region 9 with (go_at_call 56; refine (unhide HNU _).mono ?_; rintro e w' ⟨rfl, rfl⟩)
    rw [unhide HW5]
    cases hq : ((wrsT N T.2.1 (bU T.2.2)).toList == s.toList) with
    | true =>
      have hqn : ((wrsT N T.2.1 (bU T.2.2)).toList != s.toList) = false := by rw [bne, hq]; rfl
      have HI := hide (unhide HYES (by
        rw [ByteArray.toList_eq, ByteArray.toList_eq, beq_iff_eq] at hq
        rw [bU_of hq, bU_self]))
      generalize wrsT N T.2.1 (bU T.2.2) = X at hq hqn HWR HNO HYES
      clear HNO HYES
      go_wp2_with (go_at_call 18; refine (unhide HWR).mono ?_; rintro e w6 ⟨rfl, hb6⟩; have HB6 := hide ((unhide HB5).call hb6); obtain ⟨q0, q1, q2, _, _, _⟩ := (unhide HB6).three; have HR6 := hide ((unhide HR5).call hb6); obtain ⟨b0, b1, b2, z0, z1, z2⟩ := (unhide HR6).three; have HBW6 := hide (belOn (unhide HBW5) hb6); have HOWN6 := hide ((unhide HOWN5).keep hb6); clear hb6)
      obtain ⟨r0, r1, r2, HZ⟩ := out3_facts (unhide HR6) (OnlyAt.of_below (a := ⟨0, 0, none⟩) (unhide HBW6)) (.int .i64 N) (.slice a T.2.1.length c) (.string (bU T.2.2))
      exact bodyPost_ret (v := .tuple #[.agg #[.int .i64 N, .slice a T.2.1.length c, .string (bU T.2.2)], .bool true]) (by simp [results, Tryz.results23, go_sem, r0, r1, r2]) rfl ⟨.inl ⟨(N, T.2), unhide HI, a, c, rfl, own_lowR (out3_own (B := 0) (own_lowR (unhide HOWN6) (by omega))) (by omega)⟩, (unhide HBW6).trans (out3_below _ _ _ _ _)⟩
    | false =>
      have hqn : ((wrsT N T.2.1 (bU T.2.2)).toList != s.toList) = true := by rw [bne, hq]; rfl
      have HI := hide (unhide HNO (by
        intro q
        rw [q, beq_self_eq_true] at hq
        cases hq))
      generalize wrsT N T.2.1 (bU T.2.2) = X at hq hqn HWR HNO HYES
      clear HNO HYES
      go_wp2_with (go_at_call 18; refine (unhide HWR).mono ?_; rintro e w6 ⟨rfl, hb6⟩; have HR6 := hide ((unhide HR5).call hb6); obtain ⟨b0, b1, b2, z0, z1, z2⟩ := (unhide HR6).three; have HN6 := hide ((unhide HN5).call hb6); obtain ⟨n0, n1, n2, _, _, _⟩ := (unhide HN6).three; have HBW6 := hide (belOn (unhide HBW5) hb6); clear hb6)
      obtain ⟨r0, r1, r2, HZ⟩ := out3_facts (unhide HR6) (OnlyAt.of_below (a := ⟨0, 0, none⟩) (unhide HBW6)) (.int .i64 0) (.slice none 0 0) (.string ⟨#[]⟩)
      exact bodyPost_ret (v := .tuple #[.agg #[.int .i64 0, .slice none 0 0, .string ⟨#[]⟩], .bool false]) (by simp [results, Tryz.results23, go_sem, r0, r1, r2]) rfl ⟨.inr ⟨unhide HI, rfl⟩, (unhide HBW6).trans (out3_below _ _ _ _ _)⟩
  · obtain ⟨a, n, c, rfl⟩ := htp.2 h1
    obtain ⟨W5, hW5⟩ : ∃ W5, W5 = w3.alloc (.cells #[.int .i64 N, .slice a n c, .string ⟨#[]⟩] 36) := ⟨_, rfl⟩
    have hb5 : Below w3.heap.size w3 W5 := by rw [hW5]; exact bel1 _ _
    have hB5 : Blk W5 w3.heap.size [.int .i64 N, .slice a n c, .string ⟨#[]⟩] := by rw [hW5]; exact Blk.new w3 _ _
    obtain ⟨p0, p1, p2, _, _, _⟩ := hB5.three
    have HR6 := hide ((unhide HR3).call hb5)
    have HN6 := hide ((unhide HN3).call hb5)
    have HBW6 := hide (belOn (unhide HBW3) hb5)
    have HW5 := hide hW5.symm
    have HI := hide (show ∀ p, ¬ IsR s.data.toList p from fun p hp => by
      obtain ⟨e1, _⟩ := unhide HONE p hp
      exact h1 (congrArg Prod.fst e1))
    clear hB5 hW5 hb5 HT HW2 HTL HONE HLEN HNN HN3 HR3 HBW3 HEND3 HEND0 HN2 HB2 HBW htp hb3 b0 b1 b2 z0 z1 z2 n0 n1 n2
    obtain ⟨b0, b1, b2, z0, z1, z2⟩ := (unhide HR6).three
    obtain ⟨n0, n1, n2, _, _, _⟩ := (unhide HN6).three
    go_upto_region 9 with (go_at_call 56; refine (unhide HNU _).mono ?_; rintro e w' ⟨rfl, rfl⟩)
    rw [unhide HW5]
    go_wp2_with fail
    obtain ⟨r0, r1, r2, HZ⟩ := out3_facts (unhide HR6) (OnlyAt.of_below (a := ⟨0, 0, none⟩) (unhide HBW6)) (.int .i64 0) (.slice none 0 0) (.string ⟨#[]⟩)
    exact bodyPost_ret (v := .tuple #[.agg #[.int .i64 0, .slice none 0 0, .string ⟨#[]⟩], .bool false]) (by simp [results, Tryz.results23, go_sem, r0, r1, r2]) rfl ⟨.inr ⟨unhide HI, rfl⟩, (unhide HBW6).trans (out3_below _ _ _ _ _)⟩
end Go.Proofs.YtanekbifdedmeaaGreatDoor
