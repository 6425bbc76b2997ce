/- ReadRequest, by the specification. -/
import Derived.Test.YtanekbifdedmeaaGreatDoorRqS
namespace Go.Proofs.YtanekbifdedmeaaGreatDoor
open Go.RowKit Plain
set_option linter.unusedVariables false

namespace Plain
/-- What ReadRequest answers. -/
def ReqAns (r : Int × (ByteArray × ByteArray × List Hd) × List Hd × List UInt8) (B : Nat) (e : Ending) (w' : World) : Prop :=
  (r.1 = 0 ∧ ∃ a1 c1 a2 c2, e = .returned (.tuple #[.agg #[.string r.2.1.1, .string r.2.1.2.1, .slice a1 r.2.1.2.2.length c1, .slice a2 r.2.2.1.length c2, .string (bU r.2.2.2)], .int .i64 0]) ∧ OwnR hdrE w' B (.slice a1 r.2.1.2.2.length c1) r.2.1.2.2 ∧ OwnR hdrE w' B (.slice a2 r.2.2.1.length c2) r.2.2.1 ∧ ∀ g, (Value.slice a1 r.2.1.2.2.length c1).ownBlock = some g → (Value.slice a2 r.2.2.1.length c2).ownBlock ≠ some g) ∨
  (r.1 ≠ 0 ∧ e = .returned (.tuple #[.agg #[.string ⟨#[]⟩, .string ⟨#[]⟩, .slice none 0 0, .slice none 0 0, .string ⟨#[]⟩], .int .i64 r.1]))
theorem reqF_long {s : List UInt8} (h : 40000 < s.length) : reqF s = (1, (⟨#[]⟩, ⟨#[]⟩, []), [], []) := by
  unfold reqF
  rw [if_pos h]
theorem reqF_noline {s : List UInt8} (h : ¬ 40000 < s.length) (hi : Lib.index s [13, 10] = -1) : reqF s = (2, (⟨#[]⟩, ⟨#[]⟩, []), [], []) := by
  unfold reqF
  rw [if_neg h, hi, if_pos (by decide)]
theorem reqF_noask {s : List UInt8} {K : Nat} (h : ¬ 40000 < s.length) (hi : Lib.index s [13, 10] = (K : Nat)) (ha : askF (s.take K) = none) : reqF s = (2, (⟨#[]⟩, ⟨#[]⟩, []), [], []) := by
  unfold reqF
  rw [if_neg h, hi, if_neg (by omega), Int.toNat_natCast, ha]
theorem reqF_good {s : List UInt8} {K : Nat} {q : ByteArray × ByteArray × List Hd} {t : Int × List Hd × List UInt8} (h : ¬ 40000 < s.length) (hi : Lib.index s [13, 10] = (K : Nat)) (ha : askF (s.take K) = some q) (ht : talF (numG 20000) (s.drop (K + 2)) = t) (h0 : t.1 = 0) : reqF s = (0, q, t.2) := by
  unfold reqF
  rw [if_neg h, hi, if_neg (by omega), Int.toNat_natCast, ha, ht]
  simp only
  rw [if_pos h0]
theorem reqF_bad {s : List UInt8} {K : Nat} {q : ByteArray × ByteArray × List Hd} {t : Int × List Hd × List UInt8} (h : ¬ 40000 < s.length) (hi : Lib.index s [13, 10] = (K : Nat)) (ha : askF (s.take K) = some q) (ht : talF (numG 20000) (s.drop (K + 2)) = t) (h0 : t.1 ≠ 0) : reqF s = (t.1, (⟨#[]⟩, ⟨#[]⟩, []), [], []) := by
  unfold reqF
  rw [if_neg h, hi, if_neg (by omega), Int.toNat_natCast, ha, ht]
  simp only
  rw [if_neg h0]
theorem ReqAns.bad {r : Int × (ByteArray × ByteArray × List Hd) × List Hd × List UInt8} {B : Nat} {e : Ending} {w' : World} {c : Int} (h : r = (c, (⟨#[]⟩, ⟨#[]⟩, []), [], [])) (hc : c ≠ 0) (he : e = .returned (.tuple #[.agg #[.string ⟨#[]⟩, .string ⟨#[]⟩, .slice none 0 0, .slice none 0 0, .string ⟨#[]⟩], .int .i64 c])) : ReqAns r B e w' := by
  subst h
  exact .inr ⟨hc, he⟩
theorem apart_of {W : World} {D : Nat} {v u : Value} {xs : List Hd} (h1 : OwnR hdrE W D v xs) (h2 : ∀ g, u.ownBlock = some g → g < D) : ∀ g, u.ownBlock = some g → v.ownBlock ≠ some g := fun g hg hv => by
  have := (World.ownsRow.lt h1 g hv).1
  have := h2 g hg
  omega
end Plain

set_option maxRecDepth 10000 in
set_option maxHeartbeats 8000000 in
theorem spec_ReadRequest (s : ByteArray) (w : World) (hs : s.size ≤ 2000000) :
    Calls Tryz.prog 15 #[.string s] w fun e w' => ReqAns (reqF s.data.toList) w.heap.size e w' ∧ Below w.heap.size w w' := by
  obtain ⟨W2, hW2⟩ : ∃ W2, W2 = (w.alloc (.cells #[.string ⟨#[]⟩, .string ⟨#[]⟩, .slice none 0 0, .slice none 0 0, .string ⟨#[]⟩] 26)).alloc (.cells #[.string ⟨#[]⟩, .string ⟨#[]⟩, .slice none 0 0, .slice none 0 0, .string ⟨#[]⟩] 26) := ⟨_, rfl⟩
  have hb2 : Below w.heap.size w W2 := by rw [hW2]; exact belOn (bel1 _ _) (bel1 _ _)
  have hz2 : W2.heap.size = w.heap.size + 2 := by rw [hW2]; simp
  have hB2 : Blk W2 w.heap.size [.string ⟨#[]⟩, .string ⟨#[]⟩, .slice none 0 0, .slice none 0 0, .string ⟨#[]⟩] := by rw [hW2]; exact (Blk.new w _ _).alloc _
  have hN2 : Blk W2 (w.heap.size + 1) [.string ⟨#[]⟩, .string ⟨#[]⟩, .slice none 0 0, .slice none 0 0, .string ⟨#[]⟩] := by
    have hn := Blk.new (w.alloc (.cells #[.string ⟨#[]⟩, .string ⟨#[]⟩, .slice none 0 0, .slice none 0 0, .string ⟨#[]⟩] 26)) [.string ⟨#[]⟩, .string ⟨#[]⟩, .slice none 0 0, .slice none 0 0, .string ⟨#[]⟩] 26
    rw [show (w.alloc (.cells #[.string ⟨#[]⟩, .string ⟨#[]⟩, .slice none 0 0, .slice none 0 0, .string ⟨#[]⟩] 26)).heap.size = w.heap.size + 1 from by simp] at hn
    rw [hW2]
    exact hn
  have hsl := len_dataR s
  obtain ⟨RR, hRR⟩ : ∃ RR, reqF s.data.toList = RR := ⟨_, rfl⟩
  rw [hRR]
  have HRR := hide hRR
  clear hRR
  have HB2 := hide hB2
  have HN2 := hide hN2
  have HBW := hide hb2
  have HW2 := hide hW2.symm
  have HEND := hide (fun (W : World) (hW : Below W2.heap.size W2 W) => And.intro (((unhide HB2).call hW)) (And.intro ((unhide HN2).call hW) (belOn (unhide HBW) hW)))
  clear hB2 hN2 hb2 hW2
  by_cases h40 : 40000 < s.size
  · have HI := hide ((unhide HRR).symm.trans (reqF_long (s := s.data.toList) (by omega)))
    obtain ⟨b0, b1, b2, b3, b4⟩ := (unhide HB2).five
    obtain ⟨z0, z1, z2, z3, z4⟩ := (unhide HB2).fiveZ
    obtain ⟨n0, n1, n2, n3, n4⟩ := (unhide HN2).five
    clear hsl HRR
    go_enter Tryz.func15, Tryz.ntmps15
    go_upto_region 2 with fail
    rw [unhide HW2]
    go_wp2_with fail
    obtain ⟨r0, r1, r2, r3, r4⟩ := (out5_blk (unhide HB2) (.string ⟨#[]⟩) (.string ⟨#[]⟩) (.slice none 0 0) (.slice none 0 0) (.string ⟨#[]⟩)).five
    unfold out5 at r0 r1 r2 r3 r4
    exact bodyPost_ret (v := .tuple #[.agg #[.string ⟨#[]⟩, .string ⟨#[]⟩, .slice none 0 0, .slice none 0 0, .string ⟨#[]⟩], .int .i64 1]) (by simp [results, Tryz.results15, go_sem, r0, r1, r2, r3, r4]) rfl ⟨ReqAns.bad (unhide HI) (by decide) rfl, (unhide HBW).trans (out5_below _ _ _ _ _ _ _)⟩
  have hnl : ¬ 40000 < s.data.toList.length := by omega
  have HF := hide (fun W => l16Find_calls s ⟨#[13, 10]⟩ W (by omega) (by decide) (by decide))
  rw [ByteArray.toList_eq, show (⟨#[13, 10]⟩ : ByteArray).toList = [13, 10] from by rw [ByteArray.toList_eq]] at HF
  rcases ix_room [13, 10] s.data.toList with q | ⟨K, q, hK⟩
  · rw [q] at HF
    have HI := hide ((unhide HRR).symm.trans (reqF_noline hnl q))
    obtain ⟨b0, b1, b2, b3, b4⟩ := (unhide HB2).five
    obtain ⟨z0, z1, z2, z3, z4⟩ := (unhide HB2).fiveZ
    obtain ⟨n0, n1, n2, n3, n4⟩ := (unhide HN2).five
    clear hsl q hnl HRR
    go_enter Tryz.func15, Tryz.ntmps15
    go_upto_region 2 with fail
    rw [unhide HW2]
    go_wp2_with (go_at_call 44; refine (unhide HF _).mono ?_; rintro e w' ⟨rfl, rfl⟩)
    obtain ⟨r0, r1, r2, r3, r4⟩ := (out5_blk (unhide HB2) (.string ⟨#[]⟩) (.string ⟨#[]⟩) (.slice none 0 0) (.slice none 0 0) (.string ⟨#[]⟩)).five
    unfold out5 at r0 r1 r2 r3 r4
    exact bodyPost_ret (v := .tuple #[.agg #[.string ⟨#[]⟩, .string ⟨#[]⟩, .slice none 0 0, .slice none 0 0, .string ⟨#[]⟩], .int .i64 2]) (by simp [results, Tryz.results15, go_sem, r0, r1, r2, r3, r4]) rfl ⟨ReqAns.bad (unhide HI) (by decide) rfl, (unhide HBW).trans (out5_below _ _ _ _ _ _ _)⟩
  have hKs : K + 2 ≤ s.size := by
    rw [hsl] at hK
    exact hK
  rw [q] at HF
  have ht : (s.extract (K + 2) s.size).data.toList = s.data.toList.drop (K + 2) := ext_drop s (K + 2)
  have hx : (s.extract 0 K).data.toList = s.data.toList.take K := extR_take s K
  have HLN := hide (fun W => l16Line_calls (s.extract 0 K) W (by rw [ByteArray.size_extract]; omega))
  rw [hx] at HLN
  have HTL := hide (fun W => l16Tail_calls (s.extract (K + 2) s.size) W (by rw [ByteArray.size_extract]; omega))
  rw [ht] at HTL
  obtain ⟨T, hT⟩ : ∃ T, talF (numG 20000) (s.data.toList.drop (K + 2)) = T := ⟨_, rfl⟩
  obtain ⟨R, hR⟩ : ∃ R, askF (s.data.toList.take K) = R := ⟨_, rfl⟩
  have HNO := hide (fun (h : R = none) => (unhide HRR).symm.trans (reqF_noask hnl q (hR.trans h)))
  have HYES := hide (fun (x : ByteArray × ByteArray × List Hd) (h : R = some x) (h0 : T.1 = 0) => (unhide HRR).symm.trans (reqF_good hnl q (hR.trans h) hT h0))
  have HBAD := hide (fun (x : ByteArray × ByteArray × List Hd) (h : R = some x) (h0 : T.1 ≠ 0) => (unhide HRR).symm.trans (reqF_bad hnl q (hR.trans h) hT h0))
  rw [hT] at HTL
  rw [hR] at HLN
  obtain ⟨J, hJ⟩ : ∃ J : Nat, K + 2 = J := ⟨_, rfl⟩
  have hw : IntKind.i64.wrap ((K : Int) + 2) = (J : Int) := by rw [IntKind.wrap_i64]; omega
  have j0 : (0 : Int) ≤ (J : Int) := by omega
  have j1 : (J : Int) ≤ (s.size : Int) := by omega
  have k0 : (0 : Int) ≤ (K : Int) := by omega
  have k1 : (K : Int) ≤ (s.size : Int) := by omega
  rw [hJ] at HTL
  clear hsl q hK hKs ht hx hT hR hJ hnl HRR
  go_enter Tryz.func15, Tryz.ntmps15
  go_upto_region 2 with fail
  rw [unhide HW2]
  go_wp2_with (go_at_call 44; refine (unhide HF _).mono ?_; rintro e w' ⟨rfl, rfl⟩)
  refine (unhide HLN W2).mono ?_
  rintro e w3 ⟨hln, hb3⟩
  cases R with
  | none =>
    obtain ⟨m, p, a, n, c, rfl⟩ := hln
    have hb5 : Below w3.heap.size w3 (w3.alloc (.cells #[.string m, .string p, .slice a n c, .slice none 0 0, .string ⟨#[]⟩] 26)) := bel1 _ _
    have HB5 := hide ((unhide HEND _ (belOn hb3 hb5)).1)
    have HN5 := hide ((unhide HEND _ (belOn hb3 hb5)).2.1)
    have HBX := hide ((unhide HEND _ (belOn hb3 hb5)).2.2)
    have HI := hide (unhide HNO rfl)
    clear hb3 hb5 HNO HYES HBAD HEND HTL
    go_upto_region 8 with fail
    generalize w3.alloc (.cells #[.string m, .string p, .slice a n c, .slice none 0 0, .string ⟨#[]⟩] 26) = W5 at HB5 HN5 HBX ⊢
    obtain ⟨b0, b1, b2, b3, b4⟩ := (unhide HB5).five
    obtain ⟨z0, z1, z2, z3, z4⟩ := (unhide HB5).fiveZ
    obtain ⟨n0, n1, n2, n3, n4⟩ := (unhide HN5).five
    go_wp2_with fail
    obtain ⟨r0, r1, r2, r3, r4⟩ := (out5_blk (unhide HB5) (.string ⟨#[]⟩) (.string ⟨#[]⟩) (.slice none 0 0) (.slice none 0 0) (.string ⟨#[]⟩)).five
    unfold out5 at r0 r1 r2 r3 r4
    exact bodyPost_ret (v := .tuple #[.agg #[.string ⟨#[]⟩, .string ⟨#[]⟩, .slice none 0 0, .slice none 0 0, .string ⟨#[]⟩], .int .i64 2]) (by simp [results, Tryz.results15, go_sem, r0, r1, r2, r3, r4]) rfl ⟨ReqAns.bad (unhide HI) (by decide) rfl, (unhide HBX).trans (out5_below _ _ _ _ _ _ _)⟩
  | some x =>
    obtain ⟨m, p, qs⟩ := x
    obtain ⟨a, c, rfl, hown⟩ := hln
    obtain ⟨N, hN⟩ : ∃ N, qs.length = N := ⟨_, rfl⟩
    rw [hN] at hown ⊢
    have hb5 : Below w3.heap.size w3 (w3.alloc (.cells #[.string m, .string p, .slice a N c, .slice none 0 0, .string ⟨#[]⟩] 26)) := bel1 _ _
    have HQ5 := hide (Blk.new w3 [.string m, .string p, .slice a N c, .slice none 0 0, .string ⟨#[]⟩] 26)
    have HB5 := hide ((unhide HEND _ (belOn hb3 hb5)).1)
    have HN5 := hide ((unhide HEND _ (belOn hb3 hb5)).2.1)
    have HBX := hide ((unhide HEND _ (belOn hb3 hb5)).2.2)
    have HOW := hide (hown.keep hb5)
    have hz3 : w.heap.size + 2 ≤ w3.heap.size := by have := hb3.size; omega
    have HGL := hide (fun g hg => (World.ownsRow.lt hown g hg))
    have HNN := hide hN
    have HN2' := hide (show W2.heap.size = w.heap.size + 2 from hz2)
    clear hb3 hb5 HNO HEND hown hN
    go_upto_region 8 with fail
    generalize hW5 : w3.alloc (.cells #[.string m, .string p, .slice a N c, .slice none 0 0, .string ⟨#[]⟩] 26) = W5 at HB5 HN5 HBX HQ5 HOW ⊢
    have hz5 : w3.heap.size < W5.heap.size := by rw [← hW5]; simp
    clear hW5
    go_wp2_with fail
    refine (unhide HTL W5).mono ?_
    rintro e w6 ⟨htp, hb6⟩
    have HB6 := hide ((unhide HB5).call hb6)
    have HN6 := hide ((unhide HN5).call hb6)
    have HQ6 := hide ((unhide HQ5).call hb6)
    have HBX6 := hide (belOn (unhide HBX) hb6)
    have HOW6 := hide ((unhide HOW).keep hb6)
    have hz6 := hb6.size
    obtain ⟨b0, b1, b2, b3, b4⟩ := (unhide HB6).five
    obtain ⟨z0, z1, z2, z3, z4⟩ := (unhide HB6).fiveZ
    by_cases h1 : T.1 = 0
    · obtain ⟨a2, c2, rfl, hown2⟩ := htp.1 h1
      have HI := hide (unhide HYES _ rfl h1)
      have HAP := hide (apart_of hown2 (u := .slice a N c) (fun g hg => by have := (unhide HGL g hg).2; omega))
      have HOW2 := hide hown2
      obtain ⟨q0, q1, q2, q3, q4⟩ := (unhide HQ6).five
      obtain ⟨y0, y1, y2, y3, y4⟩ := (unhide HQ6).fiveZ
      obtain ⟨M, hM⟩ : ∃ M, T.2.1.length = M := ⟨_, rfl⟩
      have HM := hide hM
      clear hb6 htp hown2 HYES HBAD HTL HLN HF HB5 HN5 HQ5 HBX HOW
      rw [hM] at HOW2 HAP
      clear hM
      rw [unhide HM]
      have hqr : w3.heap.size ≠ w.heap.size := by omega
      go_upto_region 15 with fail
      have hQ7 := ((unhide HQ6).set 3 (by simp) (.slice a2 M c2)).set 4 (by simp) (.string (bU T.2.2))
      have hB7 := ((unhide HB6).off (i := 3) (g := w3.heap.size) hqr (.slice a2 M c2)).off (i := 4) (g := w3.heap.size) hqr (.string (bU T.2.2))
      have hb7 : Below w.heap.size w ((w6.setCell ⟨w3.heap.size, 3, none⟩ (.slice a2 M c2)).setCell ⟨w3.heap.size, 4, none⟩ (.string (bU T.2.2))) := ((unhide HBX6).setCell (p := ⟨w3.heap.size, 3, none⟩) (by show w.heap.size ≤ w3.heap.size; omega) _).setCell (p := ⟨w3.heap.size, 4, none⟩) (by show w.heap.size ≤ w3.heap.size; omega) _
      have ho7 : OwnR hdrE ((w6.setCell ⟨w3.heap.size, 3, none⟩ (.slice a2 M c2)).setCell ⟨w3.heap.size, 4, none⟩ (.string (bU T.2.2))) W2.heap.size (.slice a N c) qs := own_otherQ (own_otherQ (unhide HOW6) (fun g hg => heap_set2 (by have := (unhide HGL g hg).2; omega))) (fun g hg => heap_set2 (by have := (unhide HGL g hg).2; omega))
      have ho8 : OwnR hdrE ((w6.setCell ⟨w3.heap.size, 3, none⟩ (.slice a2 M c2)).setCell ⟨w3.heap.size, 4, none⟩ (.string (bU T.2.2))) W5.heap.size (.slice a2 M c2) T.2.1 := ownsRow_setCell_below (ownsRow_setCell_below (unhide HOW2) (show w3.heap.size < W5.heap.size from hz5) _) (show w3.heap.size < W5.heap.size from hz5) _
      clear q0 q1 q2 q3 q4 y0 y1 y2 y3 y4 b0 b1 b2 b3 b4 z0 z1 z2 z3 z4
      generalize ((w6.setCell ⟨w3.heap.size, 3, none⟩ (.slice a2 M c2)).setCell ⟨w3.heap.size, 4, none⟩ (.string (bU T.2.2))) = w7 at hQ7 hB7 hb7 ho7 ho8 ⊢
      have HB7 := hide hB7
      have HBX7 := hide hb7
      have HO7 := hide ho7
      have HO8 := hide ho8
      obtain ⟨q0, q1, q2, q3, q4⟩ := hQ7.five
      obtain ⟨b0, b1, b2, b3, b4⟩ := hB7.five
      obtain ⟨z0, z1, z2, z3, z4⟩ := hB7.fiveZ
      simp only [List.set_cons_zero, List.set_cons_succ] at hQ7
      clear hQ7 hB7 hb7 ho7 ho8
      go_wp2_with fail
      obtain ⟨r0, r1, r2, r3, r4⟩ := (out5_blk (unhide HB7) (.string m) (.string p) (.slice a N c) (.slice a2 M c2) (.string (bU T.2.2))).five
      unfold out5 at r0 r1 r2 r3 r4
      refine bodyPost_ret (v := .tuple #[.agg #[.string m, .string p, .slice a N c, .slice a2 M c2, .string (bU T.2.2)], .int .i64 0]) ?_ rfl ⟨?_, (unhide HBX7).trans (out5_below _ _ _ _ _ _ _)⟩
      · simp [results, Tryz.results15, go_sem, r0, r1, r2, r3, r4]
      · rw [unhide HI]
        have hN := unhide HNN
        have hM := unhide HM
        subst hN hM
        exact .inl ⟨rfl, a, c, a2, c2, rfl, own_lowQ (out5_own (unhide HO7) (by omega)) (by omega), own_lowQ (out5_own (unhide HO8) (by omega)) (by omega), unhide HAP⟩
    · obtain ⟨a2, n2, c2, rfl⟩ := htp.2 h1
      have HI := hide (unhide HBAD _ rfl h1)
      have hcn : (T.1 != 0) = true := by rw [bne_iff_ne]; exact h1
      have hce : (T.1 == 0) = false := by rw [beq_eq_false_iff_ne]; exact h1
      obtain ⟨n0, n1, n2', n3, n4⟩ := (unhide HN6).five
      clear hb6 htp HYES HBAD HTL HLN HF HB5 HN5 HQ5 HBX HOW
      go_wp2_with fail
      obtain ⟨r0, r1, r2, r3, r4⟩ := (out5_blk (unhide HB6) (.string ⟨#[]⟩) (.string ⟨#[]⟩) (.slice none 0 0) (.slice none 0 0) (.string ⟨#[]⟩)).five
      unfold out5 at r0 r1 r2 r3 r4
      exact bodyPost_ret (v := .tuple #[.agg #[.string ⟨#[]⟩, .string ⟨#[]⟩, .slice none 0 0, .slice none 0 0, .string ⟨#[]⟩], .int .i64 T.1]) (by simp [results, Tryz.results15, go_sem, r0, r1, r2, r3, r4]) rfl ⟨ReqAns.bad (unhide HI) h1 rfl, (unhide HBX6).trans (out5_below _ _ _ _ _ _ _)⟩
end Go.Proofs.YtanekbifdedmeaaGreatDoor
