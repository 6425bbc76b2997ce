/- A request, as the program reads it. -/
import Derived.Test.YtanekbifdedmeaaGreatDoorRqA
import Derived.Test.YtanekbifdedmeaaGreatDoorRqT
import Derived.Test.YtanekbifdedmeaaGreatDoorGAM
namespace Go.Proofs.YtanekbifdedmeaaGreatDoor
open Go.RowKit Plain
set_option linter.unusedVariables false

namespace Plain
/-- What reading a request leaves, ahead of the answer. -/
def RqP (B b : Nat) (r : Int × (ByteArray × ByteArray × List Hd) × List Hd × List UInt8) (w : World) (e : Ending) (w' : World) : Prop := OnlyAt ⟨b, 1, none⟩ w w' ∧
  ((r.1 = 0 ∧ ∃ a1 c1 a2 c2, e = .returned (.tuple #[.agg #[.string r.2.1.1, .string r.2.1.2.1, .slice a1 r.2.1.2.2.length c1, .slice a2 r.2.2.1.length c2, .string (bU r.2.2.2)], .nilIface]) ∧ OwnR hdrE w' B (.slice a1 r.2.1.2.2.length c1) r.2.1.2.2 ∧ OwnR hdrE w' B (.slice a2 r.2.2.1.length c2) r.2.2.1 ∧ ∀ g, (Value.slice a1 r.2.1.2.2.length c1).ownBlock = some g → (Value.slice a2 r.2.2.1.length c2).ownBlock ≠ some g) ∨
   (r.1 ≠ 0 ∧ ∃ m p a n c, ∃ at' : Int, e = .returned (.tuple #[.agg #[.string m, .string p, .slice a n c, .slice none 0 0, .string ⟨#[]⟩], .iface 66 (.agg #[.int .i64 r.1, .int .i64 at'])])))
theorem RqP.bad {B b : Nat} {r : Int × (ByteArray × ByteArray × List Hd) × List Hd × List UInt8} {w : World} {e : Ending} {w' : World} {k : Int} {q : (ByteArray × ByteArray × List Hd) × List Hd × List UInt8} (ho : OnlyAt ⟨b, 1, none⟩ w w') (h : r = (k, q)) (hk : k ≠ 0) (m p : ByteArray) (a : Option Addr) (n c : Nat) (at' : Int) (he : e = .returned (.tuple #[.agg #[.string m, .string p, .slice a n c, .slice none 0 0, .string ⟨#[]⟩], .iface 66 (.agg #[.int .i64 k, .int .i64 at'])])) : RqP B b r w e w' := by
  subst h
  exact ⟨ho, .inr ⟨hk, m, p, a, n, c, at', he⟩⟩
end Plain

set_option maxRecDepth 10000 in
set_option maxHeartbeats 8000000 in
theorem request_calls (b : Nat) (s : ByteArray) (w w0 : World) (h : RdA b s 0 w) (hs : s.size ≤ 2000000) (hb0 : Below w0.heap.size w0 w) (hbl : w0.heap.size ≤ b) (hv : RrV w0) (hP : P10 w0) :
    Calls Tryz.prog 38 #[.pointer (some ⟨b, 0, none⟩)] w (RqP w.heap.size b (reqF s.data.toList) w) := by
  have hbw : b < w.heap.size := lt_of_cell h.c0
  have hsl := len_dataR s
  obtain ⟨W2, hW2⟩ : ∃ W2, W2 = w.alloc (.cells #[.string ⟨#[]⟩, .string ⟨#[]⟩, .slice none 0 0, .slice none 0 0, .string ⟨#[]⟩] 26) := ⟨_, rfl⟩
  have hb2 : Below w.heap.size w W2 := by rw [hW2]; exact bel1 _ _
  have hz2 : W2.heap.size = w.heap.size + 1 := by rw [hW2]; simp
  have hB2 : Blk W2 w.heap.size [.string ⟨#[]⟩, .string ⟨#[]⟩, .slice none 0 0, .slice none 0 0, .string ⟨#[]⟩] := by rw [hW2]; exact Blk.new w _ _
  have hbw2 := hb0.trans (hb2.mono hb0.size)
  obtain ⟨RR, hRR⟩ : ∃ RR, reqF s.data.toList = RR := ⟨_, rfl⟩
  rw [hRR]
  have HRR := hide hRR
  have hA2 := h.call hb2
  have HLN := hide (line_calls b s 0 W2 hA2 hs (Nat.zero_le _) (hv.below hbw2))
  have HAK := hide (fun (u : ByteArray) (W : World) (hW : Below w0.heap.size w0 W) (hu : u.size ≤ 100000) => readAsk_calls u W hu (hv.below hW))
  have HTL := hide (fun (p : Nat) W (hW : Below w0.heap.size w0 W) (hA : RdA b s p W) (hp : p ≤ s.size) => tail_calls b s p W w0 hA hs hp hW hbl hv hP)
  have HO2 := hide (OnlyAt.of_below (a := ⟨b, 1, none⟩) hb2)
  have HB2 := hide hB2
  have HW2 := hide hW2.symm
  have HB0 := hide hb0
  have c0 := hA2.c0
  have h0 : restL s 0 = s.data.toList := by unfold restL; rw [List.drop_zero]
  by_cases h40 : 40000 < s.size
  · have HI := hide ((unhide HRR).symm.trans (reqF_long (s := s.data.toList) (by omega)))
    clear hsl HRR hRR h hb2 hB2 hW2 hb0 hbw2 hv hP HLN HAK HTL h0 hA2
    go_enter Tryz.func38, Tryz.ntmps38
    go_upto_region 1 with fail
    rw [unhide HW2]
    obtain ⟨b0, b1, b2, b3, b4⟩ := (unhide HB2).five
    obtain ⟨z0, z1, z2, z3, z4⟩ := (unhide HB2).fiveZ
    go_wp2_with fail
    obtain ⟨r0, r1, r2, r3, r4⟩ := (out5_blk (unhide HB2) (.string ⟨#[]⟩) (.string ⟨#[]⟩) (.slice none 0 0) (.slice none 0 0) (.string ⟨#[]⟩)).five
    unfold out5 at r0 r1 r2 r3 r4
    exact bodyPost_ret (v := .tuple #[.agg #[.string ⟨#[]⟩, .string ⟨#[]⟩, .slice none 0 0, .slice none 0 0, .string ⟨#[]⟩], .iface 66 (.agg #[.int .i64 1, .int .i64 40000])]) (by simp [results, Tryz.results38, go_sem, r0, r1, r2, r3, r4]) rfl (RqP.bad ((unhide HO2).next (out5_below _ _ _ _ _ _ _) (Nat.le_refl _)) (unhide HI) (by decide) _ _ _ _ _ _ rfl)
  have hnl : ¬ 40000 < s.data.toList.length := by omega
  clear hRR h hb2 hB2 hW2 hb0 hbw2 hv hP hA2
  go_enter Tryz.func38, Tryz.ntmps38
  go_upto_region 1 with fail
  rw [unhide HW2]
  go_wp2_with fail
  refine (unhide HLN).mono ?_
  rintro e w1 ⟨ho1, hx⟩
  rw [h0] at hx
  have HO1 := hide ((unhide HO2).trans ho1)
  have HB1 := hide ((unhide HB2).onlyR ho1 (by omega))
  have HWB := hide ((unhide HB0).trans ((unhide HO1).below hbl (unhide HB0).size))
  have hz1 := ho1.size
  clear ho1 HLN HW2 c0 HO2 HB2
  rcases hx with ⟨hi, rfl, hA1⟩ | ⟨t, hi, ht, rfl, hle, hA1⟩
  · have HI := hide ((unhide HRR).symm.trans (reqF_noline hnl hi))
    have hAS := unhide HAK (s.extract 0 s.size) w1 (unhide HWB) (by rw [ByteArray.size_extract]; omega)
    obtain ⟨ln, hln⟩ : ∃ ln, s.extract 0 s.size = ln := ⟨_, rfl⟩
    rw [hln] at hAS ⊢
    have HAS := hide hAS
    clear hAS hln hA1 hi hsl hnl HRR HAK HTL h0
    go_wp2_with fail
    refine (unhide HAS).mono ?_
    rintro e w3 ⟨hans, hb3⟩
    obtain ⟨m, p, a, n, c, ok, rfl⟩ : ∃ m p a n c ok, e = .returned (.tuple #[.agg #[.string m, .string p, .slice a n c, .slice none 0 0, .string ⟨#[]⟩], .bool ok]) := by
      cases hq : askF ln.data.toList with
      | none => rw [hq] at hans; obtain ⟨m, p, a, n, c, he⟩ := hans; exact ⟨m, p, a, n, c, false, he⟩
      | some x => rw [hq] at hans; obtain ⟨m, p, qs⟩ := x; obtain ⟨a, c, he, _⟩ := hans; exact ⟨m, p, a, qs.length, c, true, he⟩
    have hb5 := belOn hb3 (bel1 w3 (.cells #[.string m, .string p, .slice a n c, .slice none 0 0, .string ⟨#[]⟩] 26))
    have HB5 := hide ((unhide HB1).call hb5)
    have HO5 := hide ((unhide HO1).next hb5 (unhide HO1).size)
    clear hans hb3 hb5
    go_upto_region 5 with fail
    generalize (w3.alloc (.cells #[.string m, .string p, .slice a n c, .slice none 0 0, .string ⟨#[]⟩] 26)) = w5 at HB5 HO5 ⊢
    obtain ⟨b0, b1, b2, b3, b4⟩ := (unhide HB5).five
    obtain ⟨z0, z1, z2, z3, z4⟩ := (unhide HB5).fiveZ
    go_wp2_with fail
    obtain ⟨r0, r1, r2, r3, r4⟩ := (out5_blk (unhide HB5) (.string ⟨#[]⟩) (.string ⟨#[]⟩) (.slice none 0 0) (.slice none 0 0) (.string ⟨#[]⟩)).five
    unfold out5 at r0 r1 r2 r3 r4
    exact bodyPost_ret (v := .tuple #[.agg #[.string ⟨#[]⟩, .string ⟨#[]⟩, .slice none 0 0, .slice none 0 0, .string ⟨#[]⟩], .iface 66 (.agg #[.int .i64 2, .int .i64 0])]) (by simp [results, Tryz.results38, go_sem, r0, r1, r2, r3, r4]) rfl (RqP.bad ((unhide HO5).next (out5_below _ _ _ _ _ _ _) (Nat.le_refl _)) (unhide HI) (by decide) _ _ _ _ _ _ rfl)
  · have hAS := unhide HAK t w1 (unhide HWB) (by omega)
    rw [ht] at hAS
    obtain ⟨R, hR⟩ : ∃ R, askF (s.data.toList.take t.size) = R := ⟨_, rfl⟩
    rw [hR] at hAS
    have HAS := hide hAS
    cases R with
    | none =>
      have HI := hide ((unhide HRR).symm.trans (reqF_noask hnl hi hR))
      clear hAS hR ht hA1 hi hsl hnl HRR HAK HTL h0
      go_wp2_with fail
      refine (unhide HAS).mono ?_
      rintro e w3 ⟨⟨m, p, a, n, c, rfl⟩, hb3⟩
      have hb5 := belOn hb3 (bel1 w3 (.cells #[.string m, .string p, .slice a n c, .slice none 0 0, .string ⟨#[]⟩] 26))
      have HB5 := hide ((unhide HB1).call hb5)
      have HO5 := hide ((unhide HO1).next hb5 (unhide HO1).size)
      clear hb3 hb5
      go_upto_region 5 with fail
      generalize (w3.alloc (.cells #[.string m, .string p, .slice a n c, .slice none 0 0, .string ⟨#[]⟩] 26)) = w5 at HB5 HO5 ⊢
      obtain ⟨b0, b1, b2, b3, b4⟩ := (unhide HB5).five
      obtain ⟨z0, z1, z2, z3, z4⟩ := (unhide HB5).fiveZ
      go_wp2_with fail
      obtain ⟨r0, r1, r2, r3, r4⟩ := (out5_blk (unhide HB5) (.string ⟨#[]⟩) (.string ⟨#[]⟩) (.slice none 0 0) (.slice none 0 0) (.string ⟨#[]⟩)).five
      unfold out5 at r0 r1 r2 r3 r4
      exact bodyPost_ret (v := .tuple #[.agg #[.string ⟨#[]⟩, .string ⟨#[]⟩, .slice none 0 0, .slice none 0 0, .string ⟨#[]⟩], .iface 66 (.agg #[.int .i64 2, .int .i64 0])]) (by simp [results, Tryz.results38, go_sem, r0, r1, r2, r3, r4]) rfl (RqP.bad ((unhide HO5).next (out5_below _ _ _ _ _ _ _) (Nat.le_refl _)) (unhide HI) (by decide) _ _ _ _ _ _ rfl)
    | some x =>
      obtain ⟨m, p, qs⟩ := x
      obtain ⟨T, hT⟩ : ∃ T, talF (numG 20000) (s.data.toList.drop (t.size + 2)) = T := ⟨_, rfl⟩
      have HYES := hide (fun (h0 : T.1 = 0) => (unhide HRR).symm.trans (reqF_good hnl hi hR hT h0))
      have HBAD := hide (fun (h0 : T.1 ≠ 0) => (unhide HRR).symm.trans (reqF_bad hnl hi hR hT h0))
      have hrl : restL s (t.size + 2) = s.data.toList.drop (t.size + 2) := rfl
      have HTT := hide (fun W hW hA => unhide HTL (0 + t.size + 2) W hW hA hle)
      rw [Nat.zero_add, hrl, hT] at HTT
      have HA1 := hide hA1
      rw [Nat.zero_add] at HA1
      clear hAS hR ht hA1 hi hsl hnl HRR HAK HTL h0 hT hrl
      go_wp2_with fail
      refine (unhide HAS).mono ?_
      rintro e w3 ⟨⟨a, c, rfl, hown⟩, hb3⟩
      obtain ⟨N, hN⟩ : ∃ N, qs.length = N := ⟨_, rfl⟩
      rw [hN] at hown ⊢
      have HNN := hide hN
      have hb45 := bel1 w3 (.cells #[.string m, .string p, .slice a N c, .slice none 0 0, .string ⟨#[]⟩] 26)
      have hb5 := belOn hb3 hb45
      have HQ5 := hide (Blk.new w3 [.string m, .string p, .slice a N c, .slice none 0 0, .string ⟨#[]⟩] 26)
      have HB5 := hide ((unhide HB1).call hb5)
      have HO5 := hide ((unhide HO1).next hb5 (unhide HO1).size)
      have HA5 := hide ((unhide HA1).call hb5)
      have HOW5 := hide (hown.keep hb45)
      have HGL := hide (fun g hg => (World.ownsRow.lt hown g hg))
      have hz3 := hb3.size
      clear hb3 hb5 hb45 hown hN HA1
      go_upto_region 5 with fail
      generalize (w3.alloc (.cells #[.string m, .string p, .slice a N c, .slice none 0 0, .string ⟨#[]⟩] 26)) = w5 at HB5 HO5 HQ5 HA5 HOW5 ⊢
      obtain ⟨qb, hqb⟩ : ∃ qb, w3.heap.size = qb := ⟨_, rfl⟩
      have HGQ := hide (fun g hg => show g < qb from by rw [← hqb]; exact (unhide HGL g hg).2)
      have hqn : w.heap.size < qb := by omega
      have hq5 : qb < w5.heap.size := by rw [← hqb]; exact (unhide HQ5).lt
      rw [hqb] at HQ5 ⊢
      have HW5 := hide ((unhide HB0).trans ((unhide HO5).below hbl (unhide HB0).size))
      have HT5 := hide (unhide HTT w5 (unhide HW5) (unhide HA5))
      clear HTT hqb HAS
      go_wp2_with fail
      refine (unhide HT5).mono ?_
      rintro e w6 ⟨ho6, ⟨h1, a2, c2, rfl, hown2⟩ | ⟨h1, at', rfl⟩⟩
      · have HB6 := hide ((unhide HB5).onlyR ho6 (by omega))
        have HQ6 := hide ((unhide HQ5).onlyR ho6 (by omega))
        have HO6 := hide ((unhide HO5).trans ho6)
        have HOW6 := hide (own_otherQ (unhide HOW5) (fun g hg => ho6.block g (World.ownsRow.lt (unhide HOW5) g hg).2 (by have := (World.ownsRow.lt (unhide HOW5) g hg).1; show g ≠ b; omega)))
        have HI := hide (unhide HYES h1)
        have HAP := hide (apart_of hown2 (u := .slice a N c) (fun g hg => by have := unhide HGQ g hg; omega))
        have HOW2 := hide hown2
        obtain ⟨M, hM⟩ : ∃ M, T.2.1.length = M := ⟨_, rfl⟩
        have HM := hide hM
        rw [hM] at HOW2 HAP
        have hz6 := ho6.size
        clear hM ho6 hown2 HYES HBAD HT5 HA5 HW5 HB5 HQ5 HO5 HOW5
        rw [unhide HM]
        obtain ⟨q0, q1, q2, q3, q4⟩ := (unhide HQ6).five
        obtain ⟨y0, y1, y2, y3, y4⟩ := (unhide HQ6).fiveZ
        obtain ⟨b0, b1, b2, b3, b4⟩ := (unhide HB6).five
        obtain ⟨z0, z1, z2, z3, z4⟩ := (unhide HB6).fiveZ
        go_upto_region 9 with fail
        have hQ7 := ((unhide HQ6).set 3 (by simp) (.slice a2 M c2)).set 4 (by simp) (.string (bU T.2.2))
        have hB7 := ((unhide HB6).off (i := 3) (g := qb) (by omega) (.slice a2 M c2)).off (i := 4) (g := qb) (by omega) (.string (bU T.2.2))
        have hb7 := ((Below.refl w.heap.size w6).setCell (p := ⟨qb, 3, none⟩) (by show w.heap.size ≤ qb; omega) (.slice a2 M c2)).setCell (p := ⟨qb, 4, none⟩) (by show w.heap.size ≤ qb; omega) (.string (bU T.2.2))
        have ho7 : OwnR hdrE ((w6.setCell ⟨qb, 3, none⟩ (.slice a2 M c2)).setCell ⟨qb, 4, none⟩ (.string (bU T.2.2))) w1.heap.size (.slice a N c) qs := own_otherQ (own_otherQ (unhide HOW6) (fun g hg => heap_set2 (by have := unhide HGQ g hg; omega))) (fun g hg => heap_set2 (by have := unhide HGQ g hg; omega))
        have ho8 : OwnR hdrE ((w6.setCell ⟨qb, 3, none⟩ (.slice a2 M c2)).setCell ⟨qb, 4, none⟩ (.string (bU T.2.2))) w5.heap.size (.slice a2 M c2) T.2.1 := ownsRow_setCell_below (ownsRow_setCell_below (unhide HOW2) (show qb < w5.heap.size from hq5) _) (show qb < w5.heap.size from hq5) _
        clear q0 q1 q2 q3 q4 y0 y1 y2 y3 y4 b0 b1 b2 b3 b4 z0 z1 z2 z3 z4
        generalize ((w6.setCell ⟨qb, 3, none⟩ (.slice a2 M c2)).setCell ⟨qb, 4, none⟩ (.string (bU T.2.2))) = w7 at hQ7 hB7 hb7 ho7 ho8 ⊢
        have HB7 := hide hB7
        have HO7 := hide ((unhide HO6).next hb7 (Nat.le_refl _))
        have HW7 := hide ho7
        obtain ⟨q0, q1, q2, q3, q4⟩ := hQ7.five
        obtain ⟨b0, b1, b2, b3, b4⟩ := hB7.five
        obtain ⟨z0, z1, z2, z3, z4⟩ := hB7.fiveZ
        have HW8 := hide ho8
        clear hQ7 hB7 hb7 ho7 ho8
        go_wp2_with fail
        obtain ⟨r0, r1, r2, r3, r4⟩ := (out5_blk (unhide HB7) (.string m) (.string p) (.slice a N c) (.slice a2 M c2) (.string (bU T.2.2))).five
        unfold out5 at r0 r1 r2 r3 r4
        refine bodyPost_ret (v := .tuple #[.agg #[.string m, .string p, .slice a N c, .slice a2 M c2, .string (bU T.2.2)], .nilIface]) ?_ rfl ?_
        · simp [results, Tryz.results38, go_sem, r0, r1, r2, r3, r4]
        · have hI := unhide HI
          have hN := unhide HNN
          have hM := unhide HM
          subst hN hM hI
          exact ⟨(unhide HO7).next (out5_below _ _ _ _ _ _ _) (Nat.le_refl _), .inl ⟨rfl, a, c, a2, c2, rfl, own_lowQ (out5_own (unhide HW7) (by omega)) (by omega), own_lowQ (out5_own (unhide HW8) (by omega)) (by omega), unhide HAP⟩⟩
      · have HB6 := hide ((unhide HB5).onlyR ho6 (by omega))
        have HQ6 := hide ((unhide HQ5).onlyR ho6 (by omega))
        have HO6 := hide ((unhide HO5).trans ho6)
        have HOW6 := hide (own_otherQ (unhide HOW5) (fun g hg => ho6.block g (World.ownsRow.lt (unhide HOW5) g hg).2 (by have := (World.ownsRow.lt (unhide HOW5) g hg).1; show g ≠ b; omega)))
        have HI := hide (unhide HBAD h1)
        clear ho6 HYES HBAD HT5 HA5 HW5 HB5 HQ5 HO5 HOW5
        obtain ⟨q0, q1, q2, q3, q4⟩ := (unhide HQ6).five
        obtain ⟨y0, y1, y2, y3, y4⟩ := (unhide HQ6).fiveZ
        obtain ⟨b0, b1, b2, b3, b4⟩ := (unhide HB6).five
        obtain ⟨z0, z1, z2, z3, z4⟩ := (unhide HB6).fiveZ
        go_upto_region 9 with fail
        have hQ7 := ((unhide HQ6).set 3 (by simp) (.slice none 0 0)).set 4 (by simp) (.string ⟨#[]⟩)
        have hB7 := ((unhide HB6).off (i := 3) (g := qb) (by omega) (.slice none 0 0)).off (i := 4) (g := qb) (by omega) (.string ⟨#[]⟩)
        have hb7 := ((Below.refl w.heap.size w6).setCell (p := ⟨qb, 3, none⟩) (by show w.heap.size ≤ qb; omega) (.slice none 0 0)).setCell (p := ⟨qb, 4, none⟩) (by show w.heap.size ≤ qb; omega) (.string ⟨#[]⟩)
        have ho7 : OwnR hdrE ((w6.setCell ⟨qb, 3, none⟩ (.slice none 0 0)).setCell ⟨qb, 4, none⟩ (.string ⟨#[]⟩)) w1.heap.size (.slice a N c) qs := own_otherQ (own_otherQ (unhide HOW6) (fun g hg => heap_set2 (by have := unhide HGQ g hg; omega))) (fun g hg => heap_set2 (by have := unhide HGQ g hg; omega))
        clear q0 q1 q2 q3 q4 y0 y1 y2 y3 y4 b0 b1 b2 b3 b4 z0 z1 z2 z3 z4
        generalize ((w6.setCell ⟨qb, 3, none⟩ (.slice none 0 0)).setCell ⟨qb, 4, none⟩ (.string ⟨#[]⟩)) = w7 at hQ7 hB7 hb7 ho7 ⊢
        have HB7 := hide hB7
        have HO7 := hide ((unhide HO6).next hb7 (Nat.le_refl _))
        have HW7 := hide ho7
        obtain ⟨q0, q1, q2, q3, q4⟩ := hQ7.five
        obtain ⟨b0, b1, b2, b3, b4⟩ := hB7.five
        obtain ⟨z0, z1, z2, z3, z4⟩ := hB7.fiveZ
        clear hQ7 hB7 hb7 ho7
        go_wp2_with fail
        obtain ⟨r0, r1, r2, r3, r4⟩ := (out5_blk (unhide HB7) (.string m) (.string p) (.slice a N c) (.slice none 0 0) (.string ⟨#[]⟩)).five
        unfold out5 at r0 r1 r2 r3 r4
        exact bodyPost_ret (v := .tuple #[.agg #[.string m, .string p, .slice a N c, .slice none 0 0, .string ⟨#[]⟩], .iface 66 (.agg #[.int .i64 T.1, .int .i64 at'])]) (by simp [results, Tryz.results38, go_sem, r0, r1, r2, r3, r4]) rfl (RqP.bad ((unhide HO7).next (out5_below _ _ _ _ _ _ _) (Nat.le_refl _)) (unhide HI) h1 _ _ _ _ _ _ rfl)
end Go.Proofs.YtanekbifdedmeaaGreatDoor
