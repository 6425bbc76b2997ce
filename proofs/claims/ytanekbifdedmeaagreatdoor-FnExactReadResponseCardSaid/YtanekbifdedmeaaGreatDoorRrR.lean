/- ReadResponse, by the program: the test against the text. -/
import Derived.Test.YtanekbifdedmeaaGreatDoorRrQ
namespace Go.Proofs.YtanekbifdedmeaaGreatDoor
open Go.RowKit Plain
set_option linter.unusedVariables false

namespace Plain
theorem isR_pos {s : List UInt8} {p : Int × List Hd × List UInt8} (h : IsR s p) : 0 ≤ p.1 := by
  obtain ⟨h1, h2⟩ := h
  rcases reaT_or p.1 with hr | ⟨_, _, r3, _⟩
  · rw [wrsT_no1 hr] at h1
    exact absurd h1.symm h2
  · omega
theorem isR_tail {s : List UInt8} {p : Int × List Hd × List UInt8} (h : IsR s p) : talF (numG 20000) (s.drop (startP s)) = (0, p.2) ∧ stsP s = p.1 := by
  obtain ⟨_, _, ⟨L, a1, a2⟩, a3, _, a4⟩ := wrs_facts h
  rw [a1, Int.toNat_natCast] at a3
  rw [a3]
  exact ⟨a2, a4⟩
theorem prog_no {s : List UInt8} {N : Int} {t : Int × List Hd × List UInt8} (hN : stsP s = N) (ht : talF (numG 20000) (s.drop (startP s)) = t) (h : N < 0 ∨ t.1 ≠ 0) (p : Int × List Hd × List UInt8) : ¬ IsR s p := by
  intro q
  obtain ⟨a1, a2⟩ := isR_tail q
  have a3 := isR_pos q
  rw [hN] at a2
  rw [ht] at a1
  rcases h with h | h
  · omega
  · rw [a1] at h
    exact h rfl
theorem prog_one {s : List UInt8} {N : Int} {t : Int × List Hd × List UInt8} (hN : stsP s = N) (ht : talF (numG 20000) (s.drop (startP s)) = t) (p : Int × List Hd × List UInt8) (q : IsR s p) : p = (N, t.2) := by
  obtain ⟨a1, a2⟩ := isR_tail q
  rw [hN] at a2
  rw [ht] at a1
  rw [a1, a2]
theorem sts_nil : stsP [] = -1 := rfl
theorem prog_yes {s : List UInt8} {N : Int} {t : Int × List Hd × List UInt8} (hN : stsP s = N) (h0 : 0 ≤ N) (h : wrsT N t.2.1 (bU t.2.2) = bU s) : IsR s (N, t.2) := by
  refine ⟨?_, ?_⟩
  · show (wrsT N t.2.1 (bU t.2.2)).data.toList = s
    rw [h, bU_data]
  · rintro rfl
    rw [sts_nil] at hN
    omega
theorem tal_fit {num : List UInt8 → Int} {s : List UInt8} {hs : List Hd} {b : List UInt8} (h : talF num s = (0, hs, b)) : fitB hrwB hs = true ∧ b.length ≤ s.length := by
  rcases linF_is (s.length + 1) s (Nat.lt_succ_self _) with ⟨_, q⟩ | ⟨ls, b', q, q2, _, _⟩
  · rw [tal_none q] at h
    exact absurd (show (3 : Int) = 0 from congrArg Prod.fst h) (by decide)
  · rw [tal_some q] at h
    cases ho : okS (fldF num ls ⟨[], 0, false⟩) with
    | none =>
      rw [ho] at h
      exact absurd (show (3 : Int) = 0 from congrArg Prod.fst h) (by decide)
    | some st =>
      rw [ho] at h
      simp only at h
      split at h
      · have h2 := congrArg Prod.snd h
        simp only [Prod.mk.injEq] at h2
        obtain ⟨rfl, rfl⟩ := h2
        refine ⟨?_, by rw [q2]; simp <;> omega⟩
        unfold okS at ho
        split at ho
        · cases ho
        · split at ho
          · rename_i hf
            cases ho
            exact hf
          · cases ho
      · exact absurd (show (4 : Int) = 0 from congrArg Prod.fst h) (by decide)
/-- What ReadResponse answers. -/
def RspAns (S : List UInt8) (B : Nat) (e : Ending) (w' : World) : Prop :=
  (∃ p, IsR S p ∧ ∃ a c, e = .returned (.tuple #[.agg #[.int .i64 p.1, .slice a p.2.1.length c, .string (bU p.2.2)], .bool true]) ∧ OwnR hdrE w' B (.slice a p.2.1.length c) p.2.1) ∨
  ((∀ p, ¬ IsR S p) ∧ e = .returned (.tuple #[.agg #[.int .i64 0, .slice none 0 0, .string ⟨#[]⟩], .bool false]))
theorem rsp_at {W : World} {N : Int} {a : Option Addr} {B c : Nat} {S : List UInt8} {hs : List Hd} {b : List UInt8} (h : talF (numG 20000) S = (0, hs, b)) (hS : S.length ≤ 2000000) (ho : OwnR hdrE W B (.slice a hs.length c) hs) : RspAt W N a hs.length hs (bU b) := by
  obtain ⟨h1, h2⟩ := tal_fit h
  obtain ⟨h3, h4⟩ := hrw_fit h1
  exact ⟨rfl, by omega, fun x hx => by have := h4 x hx; omega, by rw [bU_size]; omega, ho.at⟩
end Plain

set_option maxRecDepth 10000 in
set_option maxHeartbeats 8000000 in
theorem impl_ReadResponse (s : ByteArray) (w : World) (hs : s.size ≤ 2000000) (hv : RrV w) (hP : P10 w) :
    Calls Tryz.prog 19 #[.string s] w fun e w' => RspAns s.data.toList w.heap.size e w' ∧ Below w.heap.size w w' := by
  obtain ⟨W3, hW3⟩ : ∃ W3, W3 = (w.alloc (.cells #[.int .i64 0, .slice none 0 0, .string ⟨#[]⟩] 36)).alloc (.cells #[.string s, .int .i64 0] 60) := ⟨_, rfl⟩
  have hb3 : Below w.heap.size w W3 := by rw [hW3]; exact belOn (bel1 _ _) (bel1 _ _)
  have hz3 : W3.heap.size = w.heap.size + 2 := by rw [hW3]; simp
  have hB3 : Blk W3 w.heap.size [.int .i64 0, .slice none 0 0, .string ⟨#[]⟩] := by rw [hW3]; exact (Blk.new w _ _).alloc _
  have hA3 : RdA (w.heap.size + 1) s 0 W3 := by
    have hn := Blk.new (w.alloc (.cells #[.int .i64 0, .slice none 0 0, .string ⟨#[]⟩] 36)) [.string s, .int .i64 0] 60
    rw [show (w.alloc (.cells #[.int .i64 0, .slice none 0 0, .string ⟨#[]⟩] 36)).heap.size = w.heap.size + 1 from by simp] at hn
    rw [hW3]
    exact ⟨hn.c 0 (by simp), hn.c 1 (by simp), hn.f 1 (by simp)⟩
  have HRP := hide (response_calls (w.heap.size + 1) s W3 w hA3 hs hb3 (Nat.le_succ _) hv hP)
  have hsl := len_dataR s
  have hrl : restL s (startP s.data.toList) = s.data.toList.drop (startP s.data.toList) := rfl
  have hrz : (restL s (startP s.data.toList)).length ≤ 2000000 := by rw [hrl, List.length_drop]; omega
  obtain ⟨T, hT⟩ : ∃ T, talF (numG 20000) (restL s (startP s.data.toList)) = T := ⟨_, rfl⟩
  obtain ⟨N, hN⟩ : ∃ N, stsP s.data.toList = N := ⟨_, rfl⟩
  rw [hT, hN] at HRP
  have HT := hide hT
  have HN := hide hN
  have HB3 := hide hB3
  have HBW := hide hb3
  have HP0 := hide hP
  have HW3 := hide hW3.symm
  have HRZ := hide hrz
  clear hT hN hrl hsl hB3 hA3 hb3 hW3 hv hP hrz
  go_enter Tryz.func19, Tryz.ntmps19
  go_wp2_with fail
  rw [unhide HW3]
  refine (unhide HRP).mono ?_
  rintro e w4 ⟨ho4, ⟨h0, h1, a, c, rfl, hown⟩ | ⟨hno, x, te, pe, rfl⟩⟩
  · obtain ⟨W5, hW5⟩ : ∃ W5, W5 = w4.alloc (.cells #[.int .i64 N, .slice a T.2.1.length c, .string (bU T.2.2)] 36) := ⟨_, rfl⟩
    have hb5 : Below w4.heap.size w4 W5 := by rw [hW5]; exact bel1 _ _
    have hB5 : Blk W5 w4.heap.size [.int .i64 N, .slice a T.2.1.length c, .string (bU T.2.2)] := by rw [hW5]; exact Blk.new w4 _ _
    have hB5' : Blk W5 w.heap.size [.int .i64 0, .slice none 0 0, .string ⟨#[]⟩] := ((unhide HB3).onlyR ho4 (by omega)).call hb5
    have hTT : talF (numG 20000) (restL s (startP s.data.toList)) = (0, T.2.1, T.2.2) := by rw [unhide HT, ← h1]
    have hown5 := hown.keep hb5
    have hBW5 : Below w.heap.size w W5 := ((unhide HBW).trans (ho4.below (B := w.heap.size) (Nat.le_succ _) (unhide HBW).size)).trans (hb5.mono (Nat.le_trans (unhide HBW).size ho4.size))
    have HWR := hide (impl_WriteResponse N a T.2.1.length c T.2.1 (bU T.2.2) W5 (rsp_at hTT (unhide HRZ) hown5) ((unhide HP0).below hBW5))
    obtain ⟨p0, p1, p2, _, _, _⟩ := hB5.three
    have HB5 := hide hB5
    have HB5' := hide hB5'
    have HBW5 := hide hBW5
    have HOWN5 := hide hown5
    have HW5 := hide hW5.symm
    have hz34 := ho4.size
    have HZ3 := hide hz3
    have HZ34 := hide hz34
    have HNO := hide (fun (q : wrsT N T.2.1 (bU T.2.2) ≠ s) (p : Int × List Hd × List UInt8) (hp : IsR s.data.toList p) => by
      have e1 := prog_one (unhide HN) (unhide HT) p hp
      have e2 := hp.1
      rw [e1] at e2
      apply q
      have e3 : (wrsT N T.2.1 (bU T.2.2)).data.toList = s.data.toList := e2
      rw [← bU_self s, ← e3, bU_self])
    have HYES := hide (fun (q : wrsT N T.2.1 (bU T.2.2) = s) => prog_yes (t := T) (unhide HN) h0 (by rw [q, bU_self]))
    clear hB5 hB5' hBW5 hown5 hW5 ho4 hown hb5 hTT hz3 hz34 HRZ HT HN HBW HW3 HRP
    go_upto_region 3 with fail
    rw [unhide HW5]
    cases hq : ((wrsT N T.2.1 (bU T.2.2)).toList == s.toList) with
    | true =>
      have hqn : ((wrsT N T.2.1 (bU T.2.2)).toList != s.toList) = false := by rw [bne, hq]; rfl
      have HI := hide (unhide HYES (by
        rw [ByteArray.toList_eq, ByteArray.toList_eq, beq_iff_eq] at hq
        rw [bU_of hq, bU_self]))
      generalize wrsT N T.2.1 (bU T.2.2) = X at hq hqn HWR HNO HYES
      clear HNO HYES
      go_wp2_with (go_at_call 17; refine (unhide HWR).mono ?_; rintro e w6 ⟨rfl, hb6⟩; have HB6 := hide ((unhide HB5).call hb6); obtain ⟨q0, q1, q2, _, _, _⟩ := (unhide HB6).three; have HR6 := hide ((unhide HB5').call hb6); obtain ⟨b0, b1, b2, z0, z1, z2⟩ := (unhide HR6).three; have HBW6 := hide (belOn (unhide HBW5) hb6); have HOWN6 := hide ((unhide HOWN5).keep hb6); clear hb6)
      obtain ⟨r0, r1, r2, HZ⟩ := out3_facts (unhide HR6) (OnlyAt.of_below (a := ⟨0, 0, none⟩) (unhide HBW6)) (.int .i64 N) (.slice a T.2.1.length c) (.string (bU T.2.2))
      exact bodyPost_ret (v := .tuple #[.agg #[.int .i64 N, .slice a T.2.1.length c, .string (bU T.2.2)], .bool true]) (by simp [results, Tryz.results19, go_sem, r0, r1, r2]) rfl ⟨.inl ⟨(N, T.2), unhide HI, a, c, rfl, own_lowR (out3_own (B := 0) (own_lowR (unhide HOWN6) (by have := unhide HZ3; omega))) (by omega)⟩, (unhide HBW6).trans (out3_below _ _ _ _ _)⟩
    | false =>
      have hqn : ((wrsT N T.2.1 (bU T.2.2)).toList != s.toList) = true := by rw [bne, hq]; rfl
      have HI := hide (unhide HNO (by
        intro q
        rw [q, beq_self_eq_true] at hq
        cases hq))
      generalize wrsT N T.2.1 (bU T.2.2) = X at hq hqn HWR HNO HYES
      clear HNO HYES
      go_wp2_with (go_at_call 17; refine (unhide HWR).mono ?_; rintro e w6 ⟨rfl, hb6⟩; have HR6 := hide ((unhide HB5').call hb6); obtain ⟨b0, b1, b2, z0, z1, z2⟩ := (unhide HR6).three; have HBW6 := hide (belOn (unhide HBW5) hb6); clear hb6)
      obtain ⟨r0, r1, r2, HZ⟩ := out3_facts (unhide HR6) (OnlyAt.of_below (a := ⟨0, 0, none⟩) (unhide HBW6)) (.int .i64 0) (.slice none 0 0) (.string ⟨#[]⟩)
      exact bodyPost_ret (v := .tuple #[.agg #[.int .i64 0, .slice none 0 0, .string ⟨#[]⟩], .bool false]) (by simp [results, Tryz.results19, go_sem, r0, r1, r2]) rfl ⟨.inr ⟨unhide HI, rfl⟩, (unhide HBW6).trans (out3_below _ _ _ _ _)⟩
  · obtain ⟨W5, hW5⟩ : ∃ W5, W5 = w4.alloc (.cells #[.int .i64 x, .slice none 0 0, .string ⟨#[]⟩] 36) := ⟨_, rfl⟩
    have hb5 : Below w4.heap.size w4 W5 := by rw [hW5]; exact bel1 _ _
    have hB5 : Blk W5 w4.heap.size [.int .i64 x, .slice none 0 0, .string ⟨#[]⟩] := by rw [hW5]; exact Blk.new w4 _ _
    have HR6 := hide (((unhide HB3).onlyR ho4 (by omega)).call hb5)
    have HBW6 := hide (((unhide HBW).trans (ho4.below (B := w.heap.size) (Nat.le_succ _) (unhide HBW).size)).trans (hb5.mono (Nat.le_trans (unhide HBW).size ho4.size)))
    obtain ⟨p0, p1, p2, _, _, _⟩ := hB5.three
    obtain ⟨b0, b1, b2, z0, z1, z2⟩ := (unhide HR6).three
    have HI := hide (fun p => prog_no (unhide HN) (unhide HT) hno p)
    have HW5 := hide hW5.symm
    clear hb5 hB5 hno ho4 hW5 HRZ HT HN HBW HW3 HRP
    go_upto_region 3 with fail
    rw [unhide HW5]
    go_wp2_with fail
    obtain ⟨r0, r1, r2, HZ⟩ := out3_facts (unhide HR6) (OnlyAt.of_below (a := ⟨0, 0, none⟩) (unhide HBW6)) (.int .i64 0) (.slice none 0 0) (.string ⟨#[]⟩)
    exact bodyPost_ret (v := .tuple #[.agg #[.int .i64 0, .slice none 0 0, .string ⟨#[]⟩], .bool false]) (by simp [results, Tryz.results19, go_sem, r0, r1, r2]) rfl ⟨.inr ⟨unhide HI, rfl⟩, (unhide HBW6).trans (out3_below _ _ _ _ _)⟩
end Go.Proofs.YtanekbifdedmeaaGreatDoor
