/- ReadCmd of the program. -/
import Derived.Test.YtnkjdojpegmlcaaDoorRcI
namespace Go.Proofs.YtnkjdojpegmlcaaDoor
open Go.RowKit Plain
set_option linter.unusedVariables false

namespace Plain
/-- A block of seven cells, nought, that may be written. -/
structure Zer (C : Nat) (W : World) : Prop where
  c : Sev C 0 0 0 ⟨#[]⟩ ⟨#[]⟩ ⟨#[]⟩ ⟨#[]⟩ W
  f : ∀ i, W.frozen? ⟨C, i, none⟩ = false
theorem Zer.below {C K : Nat} {W W' : World} (h : Zer C W) (hb : Below K W W') (hK : C < K) : Zer C W' :=
  ⟨⟨(hb.cell (p := ⟨C, 0, none⟩) hK).trans h.c.c0, (hb.cell (p := ⟨C, 1, none⟩) hK).trans h.c.c1, (hb.cell (p := ⟨C, 2, none⟩) hK).trans h.c.c2, (hb.cell (p := ⟨C, 3, none⟩) hK).trans h.c.c3, (hb.cell (p := ⟨C, 4, none⟩) hK).trans h.c.c4, (hb.cell (p := ⟨C, 5, none⟩) hK).trans h.c.c5, (hb.cell (p := ⟨C, 6, none⟩) hK).trans h.c.c6⟩,
   fun i => (hb.frozen (p := ⟨C, i, none⟩) hK).trans (h.f i)⟩
theorem Zer.drewN {C : Nat} {W : World} (h : Zer C W) (k : Nat) : Zer C (W.drewN k) := ⟨⟨h.c.c0, h.c.c1, h.c.c2, h.c.c3, h.c.c4, h.c.c5, h.c.c6⟩, h.f⟩
theorem Zer.new (w : World) (T : TypeId) : Zer w.heap.size (w.alloc (.cells #[.int .i64 0, .int .i64 0, .int .i64 0, .string ⟨#[]⟩, .string ⟨#[]⟩, .string ⟨#[]⟩, .string ⟨#[]⟩] T)) := ⟨Sev.new w 0 0 0 _ _ _ _ T, fun i => by simp [go_sem]⟩
theorem RSt.new (w : World) (s : ByteArray) (T U : TypeId) : RSt ((w.alloc (.cells #[.string s, .int .i64 0, .bool false] T)).alloc (.cells #[.int .i64 0, .int .i64 0, .int .i64 0, .string ⟨#[]⟩, .string ⟨#[]⟩, .string ⟨#[]⟩, .string ⟨#[]⟩] U)) w.heap.size (w.heap.size + 1) s 0 false 0 0 0 ⟨#[]⟩ ⟨#[]⟩ ⟨#[]⟩ ⟨#[]⟩ := by
  have e : (w.alloc (.cells #[.string s, .int .i64 0, .bool false] T)).heap.size = w.heap.size + 1 := by simp
  have h2 := Zer.new (w.alloc (.cells #[.string s, .int .i64 0, .bool false] T)) U
  rw [e] at h2
  have hb := bel1 (w.alloc (.cells #[.string s, .int .i64 0, .bool false] T)) (.cells #[.int .i64 0, .int .i64 0, .int .i64 0, .string ⟨#[]⟩, .string ⟨#[]⟩, .string ⟨#[]⟩, .string ⟨#[]⟩] U)
  have hl : w.heap.size < (w.alloc (.cells #[.string s, .int .i64 0, .bool false] T)).heap.size := by omega
  exact ⟨bcl hb hl (by simp [go_sem]), bcl hb hl (by simp [go_sem]), bcl hb hl (by simp [go_sem]), (hb.frozen (p := ⟨w.heap.size, 1, none⟩) hl).trans (by simp [go_sem]), (hb.frozen (p := ⟨w.heap.size, 2, none⟩) hl).trans (by simp [go_sem]), h2.c.c0, h2.c.c1, h2.c.c2, h2.c.c3, h2.c.c4, h2.c.c5, h2.c.c6, h2.f 0, h2.f 1, h2.f 2, h2.f 3, h2.f 4, h2.f 5, h2.f 6, by omega⟩
theorem seven_below {K : Nat} {w w' : World} {C : Nat} (h : Below K w w') (hC : K ≤ C) (v0 v1 v2 v3 v4 v5 v6 : Value) : Below K w (((((((w'.setCell ⟨C, 0, none⟩ v0).setCell ⟨C, 1, none⟩ v1).setCell ⟨C, 2, none⟩ v2).setCell ⟨C, 3, none⟩ v3).setCell ⟨C, 4, none⟩ v4).setCell ⟨C, 5, none⟩ v5).setCell ⟨C, 6, none⟩ v6) :=
  ((((((h.setCell (p := ⟨C, 0, none⟩) hC _).setCell (p := ⟨C, 1, none⟩) hC _).setCell (p := ⟨C, 2, none⟩) hC _).setCell (p := ⟨C, 3, none⟩) hC _).setCell (p := ⟨C, 4, none⟩) hC _).setCell (p := ⟨C, 5, none⟩) hC _).setCell (p := ⟨C, 6, none⟩) hC _
end Plain

theorem rowReaderOf_calls (s : ByteArray) (w : World) : Calls Tryd.prog 20 #[.string s] w fun e w' => e = .returned (.pointer (some ⟨w.heap.size, 0, none⟩)) ∧ w' = w.alloc (.cells #[.string s, .int .i64 0, .bool false] 65) := by
  go_enter Tryd.func20, Tryd.ntmps20
  go_wp2
  go_ret
  exact ⟨rfl, rfl⟩

set_option maxRecDepth 10000 in
theorem ended_calls (R B : Nat) (s : ByteArray) (p : Nat) (f : Bool) (a b c : Int) (r t d x : ByteArray) (w : World) (h : RSt w R B s p f a b c r t d x) (hp : p ≤ s.size) (hs : s.size ≤ 1000000000000) :
    Calls Tryd.prog 23 #[.pointer (some ⟨R, 0, none⟩)] w fun e w' => e = .returned (.bool (!f && decide (p = s.size))) ∧ ∃ k, w' = w.drewN k := by
  have c2 := h.t2
  have HN := hide (rest_ok R 0 s p w h.t0 h.t1 hs hp)
  have HE := hide (rest_nil s p hp)
  clear h
  generalize s.extract p s.size = T at HN HE
  cases f with
  | true =>
    go_enter Tryd.func23, Tryd.ntmps23
    go_wp2_with fail
    go_ret
    exact ⟨rfl, 0, rfl⟩
  | false =>
    by_cases hT : T.toList = []
    · have hpe := (unhide HE).1 hT
      go_enter Tryd.func23, Tryd.ntmps23
      go_wp2_with fail
      refine (unhide HN).mono ?_
      rintro e w1 ⟨rfl, k, rfl⟩
      go_wp2_with fail
      go_ret
      exact ⟨by rw [decide_eq_true hpe]; rfl, k, rfl⟩
    · have hpe : ¬ p = s.size := fun e => hT ((unhide HE).2 e)
      have hT2 : T.toList.isEmpty = false := by simpa using hT
      go_enter Tryd.func23, Tryd.ntmps23
      go_wp2_with fail
      refine (unhide HN).mono ?_
      rintro e w1 ⟨rfl, k, rfl⟩
      go_wp2_with fail
      go_ret
      exact ⟨by rw [decide_eq_false hpe]; rfl, k, rfl⟩

set_option maxRecDepth 10000 in
set_option maxHeartbeats 4000000 in
theorem impl_ReadCmd (s : ByteArray) (w : World) (hs : s.size ≤ 1000000000) :
    Calls Tryd.prog 10 #[.string s] w fun e w' => e = .returned (cmdV s) ∧ Below w.heap.size w w' := by
  obtain ⟨W1, hW1⟩ : ∃ W1, W1 = w.alloc (.cells #[.int .i64 0, .int .i64 0, .int .i64 0, .string ⟨#[]⟩, .string ⟨#[]⟩, .string ⟨#[]⟩, .string ⟨#[]⟩] 26) := ⟨_, rfl⟩
  have hz1 : Zer w.heap.size W1 := by rw [hW1]; exact Zer.new w _
  have hs1 : W1.heap.size = w.heap.size + 1 := by rw [hW1]; simp
  obtain ⟨W2, hW2⟩ : ∃ W2, W2 = (W1.alloc (.cells #[.string s, .int .i64 0, .bool false] 65)).alloc (.cells #[.int .i64 0, .int .i64 0, .int .i64 0, .string ⟨#[]⟩, .string ⟨#[]⟩, .string ⟨#[]⟩, .string ⟨#[]⟩] 26) := ⟨_, rfl⟩
  have hr2 : RSt W2 W1.heap.size (W1.heap.size + 1) s 0 false 0 0 0 ⟨#[]⟩ ⟨#[]⟩ ⟨#[]⟩ ⟨#[]⟩ := by rw [hW2]; exact RSt.new W1 s 65 26
  have hb2 : Below W1.heap.size W1 W2 := by rw [hW2]; exact bel2C _ _ _
  have hs2 : W2.heap.size = W1.heap.size + 2 := by rw [hW2]; simp
  obtain ⟨W3, hW3⟩ : ∃ W3, W3 = W2.alloc (.cells #[.pointer (some ⟨W1.heap.size + 1, 0, none⟩), .pointer (some ⟨W1.heap.size + 1, 1, none⟩), .pointer (some ⟨W1.heap.size + 1, 2, none⟩)] 44) := ⟨_, rfl⟩
  have hr3 : RSt W3 W1.heap.size (W1.heap.size + 1) s 0 false 0 0 0 ⟨#[]⟩ ⟨#[]⟩ ⟨#[]⟩ ⟨#[]⟩ := by rw [hW3]; exact hr2.keep (bel1 _ _)
  have hz3 : Zer w.heap.size W3 := (hz1.below hb2 (by omega)).below (by rw [hW3]; exact bel1 _ _) (by omega)
  have k0 : W3.cell? ⟨W1.heap.size + 2, 0, none⟩ = some (.pointer (some ⟨W1.heap.size + 1, 0, none⟩)) := by rw [hW3, ← hs2]; simp [go_sem]
  have k1 : W3.cell? ⟨W1.heap.size + 2, 1, none⟩ = some (.pointer (some ⟨W1.heap.size + 1, 1, none⟩)) := by rw [hW3, ← hs2]; simp [go_sem]
  have k2 : W3.cell? ⟨W1.heap.size + 2, 2, none⟩ = some (.pointer (some ⟨W1.heap.size + 1, 2, none⟩)) := by rw [hW3, ← hs2]; simp [go_sem]
  have HN := hide (numbers_calls W1.heap.size (W1.heap.size + 1) (W1.heap.size + 2) W1.heap.size s 0 false 0 0 0 ⟨#[]⟩ ⟨#[]⟩ ⟨#[]⟩ ⟨#[]⟩ W3 hr3 (by omega) (by omega) k0 k1 k2 (by omega) (by omega) (by omega) (by omega))
  have h01 : Below w.heap.size w W1 := by rw [hW1]; exact bel1 _ _
  have h23 : Below W2.heap.size W2 W3 := by rw [hW3]; exact bel1 _ _
  have HB3 := hide ((h01.trans (hb2.mono (by omega))).trans (h23.mono (show w.heap.size ≤ W2.heap.size by omega)))
  have HZ3 := hide hz3
  have HW1 := hide hW1.symm
  have HW2 := hide hW2.symm
  have HW3 := hide hW3.symm
  have HS1 := hide hs1
  have HS2 := hide hs2
  clear hz1 hr2 hb2 hr3 hz3 k0 k1 k2 hW1 hW2 hW3 hs1 hs2 h01 h23
  go_enter Tryd.func10, Tryd.ntmps10
  go_wp2_with fail
  rw [unhide HW1]
  refine (rowReaderOf_calls s W1).mono ?_
  rintro e w0 ⟨rfl, rfl⟩
  go_wp2_with fail
  rw [unhide HW2, unhide HW3]
  refine (unhide HN).mono ?_
  rintro e w4 ⟨p3, f3, a, b, c, rfl, hp3, hr4, hch3, hb4⟩
  have hz4 : Zer w.heap.size w4 := (unhide HZ3).below hb4 (by have := unhide HS1; omega)
  have HH3 := hide (hch3.num HasR.start)
  have hb04 : Below w.heap.size w w4 := (unhide HB3).trans (hb4.mono (by have := unhide HS1; omega))
  have lB : W1.heap.size + 1 < w4.heap.size := lt_of_cell hr4.c0
  obtain ⟨W5, hW5⟩ : ∃ W5, W5 = w4.alloc (.cells #[.pointer (some ⟨W1.heap.size + 1, 3, none⟩), .pointer (some ⟨W1.heap.size + 1, 4, none⟩), .pointer (some ⟨W1.heap.size + 1, 5, none⟩), .pointer (some ⟨W1.heap.size + 1, 6, none⟩)] 46) := ⟨_, rfl⟩
  have h45 : Below w4.heap.size w4 W5 := by rw [hW5]; exact bel1 _ _
  have k0 : W5.cell? ⟨w4.heap.size, 0, none⟩ = some (.pointer (some ⟨W1.heap.size + 1, 3, none⟩)) := by rw [hW5]; simp [go_sem]
  have k1 : W5.cell? ⟨w4.heap.size, 1, none⟩ = some (.pointer (some ⟨W1.heap.size + 1, 4, none⟩)) := by rw [hW5]; simp [go_sem]
  have k2 : W5.cell? ⟨w4.heap.size, 2, none⟩ = some (.pointer (some ⟨W1.heap.size + 1, 5, none⟩)) := by rw [hW5]; simp [go_sem]
  have k3 : W5.cell? ⟨w4.heap.size, 3, none⟩ = some (.pointer (some ⟨W1.heap.size + 1, 6, none⟩)) := by rw [hW5]; simp [go_sem]
  have HT := hide (texts_calls W1.heap.size (W1.heap.size + 1) w4.heap.size W1.heap.size s p3 f3 a b c ⟨#[]⟩ ⟨#[]⟩ ⟨#[]⟩ ⟨#[]⟩ W5 (hr4.keep h45) hp3 (by omega) k0 k1 k2 k3 (by omega) (by omega) (by omega) (by omega) (by decide) (by decide) (by decide) (by decide))
  have HZ5 := hide (hz4.below h45 (by have := unhide HS1; omega))
  have HB5 := hide (belOn hb04 h45)
  have HW5 := hide hW5.symm
  have HLB := hide lB
  clear hp3 hr4 hch3 hb4 hz4 hb04 lB h45 k0 k1 k2 k3 hW5 HN HZ3 HB3 HW1 HW2 HW3 HS2
  go_wp2_with fail
  rw [unhide HW5]
  refine (unhide HT).mono ?_
  rintro e w6 ⟨p7, f7, r, t, d, x, rfl, hp7, hr6, hch7, s1, s2, s3, s4, hb6⟩
  have hz6 : Zer w.heap.size w6 := (unhide HZ5).below hb6 (by have := unhide HS1; omega)
  have HH7 := hide (hch7.txt (unhide HH3))
  have HB6 := hide ((unhide HB5).trans (hb6.mono (show w.heap.size ≤ W1.heap.size by have := unhide HS1; omega)))
  have HE := hide (ended_calls W1.heap.size (W1.heap.size + 1) s p7 f7 a b c r t d x w6 hr6 hp7 (by omega))
  have HR6 := hide hr6
  have HZ6 := hide hz6
  clear hp7 hr6 hch7 hb6 hz6 HT HZ5 HB5 HW5 HH3
  have HFM := hide (fun W => formed_calls a b c r t d x W (by omega) (by omega) (by omega) (by omega))
  clear s1 s2 s3 s4 hs
  cases f7 with
  | true =>
    have hv := cmdV_fail (unhide HH7)
    have HV := hide hv
    clear hv HH7
    obtain ⟨⟨x0, x1, x2, x3, x4, x5, x6⟩, xf⟩ := unhide HZ6
    go_wp2_with fail
    refine (unhide HE).mono ?_
    rintro e w7 ⟨rfl, k, rfl⟩
    have hk : (!true && decide (p7 = s.size)) = false := rfl
    rw [hk]
    go_wp2_with fail
    exact bodyPost_ret (v := cmdZ) (by simp [results, Tryd.results10, go_sem, x0, x1, x2, x3, x4, x5, x6, cmdZ, cmdA]) rfl ⟨by rw [unhide HV], seven_below (belowDrewN (unhide HB6) k) (Nat.le_refl _) _ _ _ _ _ _ _⟩
  | false =>
    by_cases hpe : p7 = s.size
    · rw [decide_eq_true hpe] at HE
      cases hfm : fmB a b c r t d x with
      | false =>
        have hv := cmdV_form (unhide HH7) hfm
        have HV := hide hv
        rw [hfm] at HFM
        clear hv HH7 hpe hfm
        obtain ⟨t0, t1, t2, z1, z2, c0, c1, c2, c3, c4, c5, c6, y0, y1, y2, y3, y4, y5, y6, ne⟩ := unhide HR6
        clear t0 t1 t2 z1 z2 y0 y1 y2 y3 y4 y5 y6 ne
        go_wp2_with fail
        refine (unhide HE).mono ?_
        rintro e w7 ⟨rfl, k, rfl⟩
        go_wp2_with fail
        refine (unhide HFM _).mono ?_
        rintro e w8 ⟨rfl, hb8⟩
        have lz : w.heap.size < (w6.drewN k).heap.size := lt_of_cell (unhide HZ6).c.c0
        obtain ⟨⟨x0, x1, x2, x3, x4, x5, x6⟩, xf⟩ := ((unhide HZ6).drewN k).below hb8 lz
        have HB8 := hide (belOn (belowDrewN (unhide HB6) k) hb8)
        clear hb8 lz
        go_wp2_with fail
        exact bodyPost_ret (v := cmdZ) (by simp [results, Tryd.results10, go_sem, x0, x1, x2, x3, x4, x5, x6, cmdZ, cmdA]) rfl ⟨by rw [unhide HV], seven_below (unhide HB8) (Nat.le_refl _) _ _ _ _ _ _ _⟩
      | true =>
        have hv := cmdV_good (unhide HH7) hpe hfm
        have HV := hide hv
        rw [hfm] at HFM
        clear hv HH7 hpe hfm
        obtain ⟨t0, t1, t2, z1, z2, c0, c1, c2, c3, c4, c5, c6, y0, y1, y2, y3, y4, y5, y6, ne⟩ := unhide HR6
        clear t0 t1 t2 z1 z2 y0 y1 y2 y3 y4 y5 y6 ne
        go_wp2_with fail
        refine (unhide HE).mono ?_
        rintro e w7 ⟨rfl, k, rfl⟩
        go_wp2_with fail
        refine (unhide HFM _).mono ?_
        rintro e w8 ⟨rfl, hb8⟩
        have lz : w.heap.size < (w6.drewN k).heap.size := lt_of_cell (unhide HZ6).c.c0
        obtain ⟨⟨x0, x1, x2, x3, x4, x5, x6⟩, xf⟩ := ((unhide HZ6).drewN k).below hb8 lz
        obtain ⟨c0, c1, c2, c3, c4, c5, c6⟩ := (show Sev (W1.heap.size + 1) a b c r t d x (w6.drewN k) from ⟨c0, c1, c2, c3, c4, c5, c6⟩).keep hb8
        have HB8 := hide (belOn (belowDrewN (unhide HB6) k) hb8)
        clear hb8 lz
        go_wp2_with fail
        exact bodyPost_ret (v := .tuple #[cmdA a b c r t d x, .bool true]) (by simp [results, Tryd.results10, go_sem, x0, x1, x2, x3, x4, x5, x6, cmdA]) rfl ⟨by rw [unhide HV], seven_below (unhide HB8) (Nat.le_refl _) _ _ _ _ _ _ _⟩
    · rw [decide_eq_false hpe] at HE
      have hv := cmdV_rest (unhide HH7) hpe
      have HV := hide hv
      clear hv HH7 hpe
      obtain ⟨⟨x0, x1, x2, x3, x4, x5, x6⟩, xf⟩ := unhide HZ6
      go_wp2_with fail
      refine (unhide HE).mono ?_
      rintro e w7 ⟨rfl, k, rfl⟩
      go_wp2_with fail
      exact bodyPost_ret (v := cmdZ) (by simp [results, Tryd.results10, go_sem, x0, x1, x2, x3, x4, x5, x6, cmdZ, cmdA]) rfl ⟨by rw [unhide HV], seven_below (belowDrewN (unhide HB6) k) (Nat.le_refl _) _ _ _ _ _ _ _⟩
end Go.Proofs.YtnkjdojpegmlcaaDoor
