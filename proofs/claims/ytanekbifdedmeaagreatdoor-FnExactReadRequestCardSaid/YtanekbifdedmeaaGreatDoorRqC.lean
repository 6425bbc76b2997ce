/- ReadRequest, by the program. -/
import Derived.Test.YtanekbifdedmeaaGreatDoorRqB
import Derived.Test.YtanekbifdedmeaaGreatDoorErrA
namespace Go.Proofs.YtanekbifdedmeaaGreatDoor
open Go.RowKit Plain
set_option linter.unusedVariables false

namespace Plain
/-- The library's variable that errors.As reads. -/
def ErV (w : World) : Prop := w.cell? ⟨0, 0, none⟩ = some (.iface 146 (.agg #[.pointer (some ⟨9, 62, none⟩)]))
theorem ErV.below {w w' : World} (h : ErV w) (hb : Below w.heap.size w w') : ErV w' := bcl hb (lt_of_cell h) h
end Plain
theorem as_hitR (ta : Nat) (x y : Int) (w : World) (hg : ErV w) (ht : Blk w ta [.int .i64 0, .int .i64 0]) :
    Calls Tryz.prog 39 #[.iface 66 (.agg #[.int .i64 x, .int .i64 y]), .iface 68 (.pointer (some ⟨ta, 0, none⟩))] w fun ev w' => ev = .returned (.bool true) ∧ w'.cell? ⟨ta, 0, none⟩ = some (.int .i64 x) ∧ OnlyP (fun k => k = ta) w w' := by
  refine (as_hit ta x y _ _ w hg (ht.c 0 (by simp)) (ht.c 1 (by simp)) (ht.f 0 (by simp)) (ht.f 1 (by simp))).mono ?_
  rintro e w' ⟨rfl, rfl⟩
  have hb : Below w.heap.size w ((((w.alloc (.cells #[.pointer (some ⟨ta, 0, none⟩)] 68)).alloc (.cells #[.pointer (some ⟨9, 68, none⟩), .pointer (some ⟨w.heap.size, 0, none⟩), .int .u64 150] 109)).alloc (.cells #[.pointer (some ⟨9, 68, none⟩), .pointer (some ⟨w.heap.size, 0, none⟩), .int .u64 150] 109)).alloc (.cells #[.int .i64 x, .int .i64 y] 66)) := belOn (belOn (belOn (bel1 _ _) (bel1 _ _)) (bel1 _ _)) (bel1 _ _)
  have hB := ht.call hb
  have o1 : ∀ (X : World) (i : Nat) (v : Value), OnlyP (fun k => k = ta) X (X.setCell ⟨ta, i, none⟩ v) := fun X i v => have h := OnlyAt.setCell ⟨ta, i, none⟩ X v; ⟨h.os, h.tape, h.output, h.size, fun k hk hn => h.block k hk hn⟩
  refine ⟨rfl, ?_, ((OnlyP.of hb).trans (o1 _ _ _)).trans (o1 _ _ _)⟩
  exact ((hB.set 0 (by simp) (.int .i64 x)).set 1 (by simp) (.int .i64 y)).c 0 (by simp)

set_option maxRecDepth 10000 in
set_option maxHeartbeats 8000000 in
theorem impl_ReadRequest (s : ByteArray) (w : World) (hs : s.size ≤ 2000000) (hv : RrV w) (hP : P10 w) (hE : ErV w) :
    Calls Tryz.prog 12 #[.string s] w fun e w' => ReqAns (reqF s.data.toList) w.heap.size e w' ∧ Below w.heap.size w w' := by
  obtain ⟨W3, hW3⟩ : ∃ W3, W3 = (w.alloc (.cells #[.string ⟨#[]⟩, .string ⟨#[]⟩, .slice none 0 0, .slice none 0 0, .string ⟨#[]⟩] 26)).alloc (.cells #[.string s, .int .i64 0] 60) := ⟨_, rfl⟩
  have hb3 : Below w.heap.size w W3 := by rw [hW3]; exact belOn (bel1 _ _) (bel1 _ _)
  have hz3 : W3.heap.size = w.heap.size + 2 := by rw [hW3]; simp
  have hB3 : Blk W3 w.heap.size [.string ⟨#[]⟩, .string ⟨#[]⟩, .slice none 0 0, .slice none 0 0, .string ⟨#[]⟩] := by rw [hW3]; exact (Blk.new w _ _).alloc _
  have hA3 : RdA (w.heap.size + 1) s 0 W3 := by
    have hn := Blk.new (w.alloc (.cells #[.string ⟨#[]⟩, .string ⟨#[]⟩, .slice none 0 0, .slice none 0 0, .string ⟨#[]⟩] 26)) [.string s, .int .i64 0] 60
    rw [show (w.alloc (.cells #[.string ⟨#[]⟩, .string ⟨#[]⟩, .slice none 0 0, .slice none 0 0, .string ⟨#[]⟩] 26)).heap.size = w.heap.size + 1 from by simp] at hn
    rw [hW3]
    exact ⟨hn.c 0 (by simp), hn.c 1 (by simp), hn.f 1 (by simp)⟩
  have HRP := hide (request_calls (w.heap.size + 1) s W3 w hA3 hs hb3 (Nat.le_succ _) hv hP)
  obtain ⟨RR, hRR⟩ : ∃ RR, reqF s.data.toList = RR := ⟨_, rfl⟩
  rw [hRR] at HRP ⊢
  obtain ⟨cd, ⟨m0, p0, qs⟩, hh, bd⟩ := RR
  have HB3 := hide hB3
  have HBW := hide hb3
  have HE := hide hE
  have HW3 := hide hW3.symm
  clear hRR hB3 hA3 hb3 hW3 hv hP hE
  go_enter Tryz.func12, Tryz.ntmps12
  go_upto_region 2 with fail
  rw [unhide HW3]
  go_wp2_with fail
  refine (unhide HRP).mono ?_
  rintro e w4 ⟨ho4, ⟨h1, a1, c1, a2, c2, rfl, hown1, hown2, hap⟩ | ⟨h1, m, p, a, n, c, at', rfl⟩⟩
  · simp only at h1 hown1 hown2 hap ⊢
    subst h1
    obtain ⟨N, hN⟩ : ∃ N, qs.length = N := ⟨_, rfl⟩
    obtain ⟨M, hM⟩ : ∃ M, hh.length = M := ⟨_, rfl⟩
    rw [hN] at hown1 hap
    rw [hM] at hown2 hap
    rw [hN, hM]
    have HNM := hide (And.intro hN hM)
    have hb5 := bel1 w4 (.cells #[.string m0, .string p0, .slice a1 N c1, .slice a2 M c2, .string (bU bd)] 26)
    have HQ5 := hide (Blk.new w4 [.string m0, .string p0, .slice a1 N c1, .slice a2 M c2, .string (bU bd)] 26)
    have hb4 : Below w.heap.size W3 w4 := ho4.below (B := w.heap.size) (Nat.le_succ _) (unhide HBW).size
    have HB5 := hide (((unhide HB3).onlyR ho4 (by omega)).call hb5)
    have HBX5 := hide (((unhide HBW).trans hb4).trans (hb5.mono (Nat.le_trans (unhide HBW).size ho4.size)))
    have HO1 := hide (hown1.keep hb5)
    have HO2 := hide (hown2.keep hb5)
    have HAP := hide hap
    have hz4 := ho4.size
    clear hb5 hb4 ho4 hown1 hown2 hap hN hM
    go_upto_region 3 with fail
    generalize hW5 : (w4.alloc (.cells #[.string m0, .string p0, .slice a1 N c1, .slice a2 M c2, .string (bU bd)] 26)) = w5 at HQ5 HB5 HBX5 HO1 HO2 ⊢
    clear hW5
    have hb6 := bel1 w5 (.cells #[.int .i64 0, .int .i64 0] 66)
    have HQ6 := hide ((unhide HQ5).call hb6)
    have HB6 := hide ((unhide HB5).call hb6)
    have HBX6 := hide (belOn (unhide HBX5) hb6)
    have HO3 := hide ((unhide HO1).keep hb6)
    have HO4 := hide ((unhide HO2).keep hb6)
    clear hb6 HQ5 HB5 HBX5 HO1 HO2
    go_upto_region 4 with fail
    have HNI := hide (fun t W => as_nil t W)
    generalize (w5.alloc (.cells #[.int .i64 0, .int .i64 0] 66)) = w6 at HQ6 HB6 HBX6 HO3 HO4 ⊢
    obtain ⟨q0, q1, q2, q3, q4⟩ := (unhide HQ6).five
    obtain ⟨b0, b1, b2, b3, b4⟩ := (unhide HB6).five
    obtain ⟨z0, z1, z2, z3, z4⟩ := (unhide HB6).fiveZ
    go_wp2_with (go_at_call 39; refine (unhide HNI _ _).mono ?_; rintro e w' ⟨rfl, rfl⟩)
    obtain ⟨r0, r1, r2, r3, r4⟩ := (out5_blk (unhide HB6) (.string m0) (.string p0) (.slice a1 N c1) (.slice a2 M c2) (.string (bU bd))).five
    unfold out5 at r0 r1 r2 r3 r4
    refine bodyPost_ret (v := .tuple #[.agg #[.string m0, .string p0, .slice a1 N c1, .slice a2 M c2, .string (bU bd)], .int .i64 0]) ?_ rfl ⟨?_, (unhide HBX6).trans (out5_below _ _ _ _ _ _ _)⟩
    · simp [results, Tryz.results12, go_sem, r0, r1, r2, r3, r4]
    · obtain ⟨hN, hM⟩ := unhide HNM
      subst hN hM
      exact .inl ⟨rfl, a1, c1, a2, c2, rfl, own_lowQ (out5_own (unhide HO3) (by omega)) (by omega), own_lowQ (out5_own (unhide HO4) (by omega)) (by omega), unhide HAP⟩
  · simp only at h1 ⊢
    have hb5 := bel1 w4 (.cells #[.string m, .string p, .slice a n c, .slice none 0 0, .string ⟨#[]⟩] 26)
    have hb4 : Below w.heap.size W3 w4 := ho4.below (B := w.heap.size) (Nat.le_succ _) (unhide HBW).size
    have HB5 := hide (((unhide HB3).onlyR ho4 (by omega)).call hb5)
    have HBX5 := hide (((unhide HBW).trans hb4).trans (hb5.mono (Nat.le_trans (unhide HBW).size ho4.size)))
    have hz4 := ho4.size
    clear hb5 hb4 ho4
    go_upto_region 3 with fail
    generalize (w4.alloc (.cells #[.string m, .string p, .slice a n c, .slice none 0 0, .string ⟨#[]⟩] 26)) = w5 at HB5 HBX5 ⊢
    have hb6 := bel1 w5 (.cells #[.int .i64 0, .int .i64 0] 66)
    have HF6 := hide (Blk.new w5 [.int .i64 0, .int .i64 0] 66)
    have HB6 := hide ((unhide HB5).call hb6)
    have HBX6 := hide (belOn (unhide HBX5) hb6)
    have hn5 : w.heap.size < w5.heap.size := (unhide HB5).lt
    clear hb6 HB5 HBX5
    go_upto_region 4 with fail
    generalize (w5.alloc (.cells #[.int .i64 0, .int .i64 0] 66)) = w6 at HF6 HB6 HBX6 ⊢
    obtain ⟨ta, hta⟩ : ∃ ta, w5.heap.size = ta := ⟨_, rfl⟩
    rw [hta] at HF6 hn5 ⊢
    have HAS := hide (as_hitR ta cd at' w6 ((unhide HE).below (unhide HBX6)) (unhide HF6))
    go_wp2_with fail
    refine (unhide HAS).mono ?_
    rintro e w7 ⟨rfl, f0, ho7⟩
    have HB7 := hide ((unhide HB6).onlyP ho7 (by omega))
    have HBX7 := hide ((unhide HBX6).trans (ho7.below (B := w.heap.size) (fun g hg => by omega) (unhide HBX6).size))
    obtain ⟨b0, b1, b2, b3, b4⟩ := (unhide HB7).five
    obtain ⟨z0, z1, z2, z3, z4⟩ := (unhide HB7).fiveZ
    clear ho7 HAS
    go_wp2_with fail
    have hne : w.heap.size ≠ ta := by omega
    have hne2 : ta ≠ w.heap.size := by omega
    go_region
    all_goals (try go_wp2)
    all_goals
      obtain ⟨r0, r1, r2, r3, r4⟩ := (out5_blk (unhide HB7) (.string ⟨#[]⟩) (.string ⟨#[]⟩) (.slice none 0 0) (.slice none 0 0) (.string ⟨#[]⟩)).five
      unfold out5 at r0 r1 r2 r3 r4
      refine bodyPost_ret (v := .tuple #[.agg #[.string ⟨#[]⟩, .string ⟨#[]⟩, .slice none 0 0, .slice none 0 0, .string ⟨#[]⟩], .int .i64 cd]) ?_ rfl ⟨.inr ⟨h1, rfl⟩, belDrew ((unhide HBX7).trans (out5_below _ _ _ _ _ _ _))⟩
      simp [results, Tryz.results12, go_sem, r0, r1, r2, r3, r4]
end Go.Proofs.YtanekbifdedmeaaGreatDoor
