/- Pieces of the program. -/
import Derived.Test.YtnkjdojpegmlcaaPcI
namespace Go.Proofs.Ytnkjdojpegmlcaa
open Go.RowKit Plain
set_option linter.unusedVariables false

set_option maxRecDepth 10000 in
set_option maxHeartbeats 2000000 in
theorem pieceText_calls (i c : Int) (X : ByteArray) (w : World) (hX : X.size ≤ 1000000) :
    Calls Try.prog 29 #[.agg #[.int .i64 i, .int .i64 c, .string X]] w fun e w' => e = .returned (.string (frameB 3 (putS i ++ putS c ++ putT X))) ∧ Below w.heap.size w w' := by
  obtain ⟨W0, hW0⟩ : ∃ W0, W0 = w.alloc (.cells #[.int .i64 i, .int .i64 c, .string X] 54) := ⟨_, rfl⟩
  have HB0 := hide (show Below w.heap.size w W0 by rw [hW0]; exact bel1 _ _)
  have c0 : W0.cell? ⟨w.heap.size, 0, none⟩ = some (.int .i64 i) := by rw [hW0]; simp [go_sem]
  have c1 : W0.cell? ⟨w.heap.size, 1, none⟩ = some (.int .i64 c) := by rw [hW0]; simp [go_sem]
  have c2 : W0.cell? ⟨w.heap.size, 2, none⟩ = some (.string X) := by rw [hW0]; simp [go_sem]
  have l0 := lt_of_cell c0
  have s1 := putS_size i
  have s2 := putS_size c
  have s3 := putT_lp X
  have HN1 := hide (fun W => impl_PutNumber i W)
  have HN2 := hide (fun W => impl_PutNumber c W)
  have HN3 := hide (fun W => impl_PutText X W (by omega))
  generalize putS i = A1 at s1 HN1 ⊢
  generalize putS c = A2 at s2 HN2 ⊢
  generalize putT X = A3 at s3 HN3 ⊢
  have hz : (A1 ++ A2).size ≤ 12 := by rw [ByteArray.size_append]; omega
  have HN4 := hide (fun W => impl_WriteFrame 3 (A1 ++ A2 ++ A3) W (by rw [ByteArray.size_append]; omega))
  have e1 := fun W => strP_add (a := A1) (b := A2) W (by omega)
  have e2 := fun W => strP_add (a := A1 ++ A2) (b := A3) W (by omega)
  have NE : Nonempty (Grown W0) := ⟨⟨W0, Below.refl _ _⟩⟩
  have G0 := Grown.cell c0 l0
  have G1 := Grown.cell c1 l0
  have G2 := Grown.cell c2 l0
  have HW0 := hide hW0.symm
  clear c0 c1 c2 l0 hW0 s1 s2 s3 hz hX
  go_enter Try.func29, Try.ntmps29
  go_wp2_with fail
  rw [unhide HW0]
  refine region_grown (by kernel_rfl) (by kernel_rfl) W0 (Below.refl _ _) ?_
  repeat (go_big_quiet_step (first
    | (go_at_call_of 40 i; exact calls_grown _ (unhide HN1 _))
    | (go_at_call_of 40 c; exact calls_grown _ (unhide HN2 _))
    | (go_at_call 41; exact calls_grown _ (unhide HN3 _))
    | (go_at_call 39; exact calls_grown _ (unhide HN4 _))))
  refine wpQuiet_nil ?_
  rintro _ ⟨y, rfl⟩
  all_goals (try go_wp2_with fail)
  all_goals (try go_ret)
  all_goals exact ⟨rfl, belOn (unhide HB0) y.ok⟩

set_option maxRecDepth 10000 in
set_option maxHeartbeats 4000000 in
theorem impl_Pieces (t : ByteArray) (n : Int) (w : World) (ht : t.size ≤ 1000000000) (hn0 : (Lit.int .i64 n).wf = true) : Calls Try.prog 9 #[.string t, .int .i64 n] w (PcPost (pcR t n) w) := by
  have hwf := wf_i64 hn0
  by_cases hok : 1 ≤ n ∧ n ≤ 4000 ∧ t.size ≤ 20000
  · have hr : pcR t n = (pcL t n.toNat (pcN t n.toNat), true) := by unfold pcR; rw [if_pos hok]
    rw [hr]
    obtain ⟨h1, h2, h3⟩ := hok
    obtain ⟨m, rfl⟩ := Int.eq_ofNat_of_zero_le (show 0 ≤ n by omega)
    rw [Int.toNat_natCast]
    have hm1 : 1 ≤ m := by omega
    have hm2 : m ≤ 4000 := by omega
    obtain ⟨c, hc⟩ : ∃ c, pcN t m = c := ⟨_, rfl⟩
    have hcl : c ≤ 20000 := by rw [← hc]; exact pcN_le t m hm1 h3
    obtain ⟨cap, w1, hcv, hown, hb1⟩ := bytes_own t w
    have HI := hide (inParts_calls w.heap.size w.heap.size cap t w1 hown h3 m hm1 hm2)
    have HB1 := hide hb1
    rw [hc] at HI ⊢
    have HCC := hide hc
    clear hr hc h1 h2 hown hb1 hn0 hwf
    go_enter Try.func9, Try.ntmps9
    go_wp2_with fail
    refine (unhide HI).mono ?_
    rintro e w2 ⟨v2, ps, rfl, ho2, hl2, hp2, hb2⟩
    obtain ⟨a2, c2, hf⟩ := ho2.form
    subst hf
    have HR2 := hide ho2.at
    have HP2 := hide hp2
    have HB2 := hide (belOn (unhide HB1) hb2)
    have HL2 := hide hl2
    rw [hl2]
    clear ho2 hp2 hb2 hl2 hcv
    go_wp2_with fail
    go_loopw [7, 28] (fun o i wr => ∃ k : Nat, i = .int .i64 k ∧ k ≤ c ∧ Hid (OwnR strE wr w2.heap.size o (pcL t m k)) ∧ Hid (Below w2.heap.size w2 wr)) (fun _ i _ => c - (intOf i).toNat)
    case atStart => exact ⟨0, rfl, by omega, hide (ownR_nil _ _ _), hide (Below.refl _ _)⟩
    case round =>
      obtain ⟨k, rfl, hk, HO, HB⟩ := hrel
      by_cases hkc : k < c
      · have hkl : k < ps.length := by rw [unhide HL2]; exact hkc
        have hPk : PtAt wr ps[k] (pcP t m k) := (unhide HP2 k hkl).keep (unhide HB)
        obtain ⟨g, eg, lg, pg⟩ := ((unhide HR2).below (unhide HB)) k hkl
        have pg0 := (pg 0 (by decide)).1
        rw [show k * slE.n + 0 = k from Nat.mul_one k] at pg0
        have pg1 : wr.cell? ⟨g, k, none⟩ = some (.slice ps[k].1 ps[k].2.1 ps[k].2.2) := pg0
        generalize ps[k] = y at hPk pg1
        obtain ⟨y1, y2, y3⟩ := y
        have hcv : (convert 22 9 (.slice y1 y2 y3)).run Try.prog wr = .ok (.string (pcP t m k)) wr := by
          have := conv_ownB wr 0 (.slice y1 y2 y3) (bL (pcP t m k)) hPk
          rw [strOfNums_bL] at this
          exact this
        have hX : (pcP t m k).size ≤ 1000000 := by unfold pcP; rw [ByteArray.size_extract]; omega
        have HT := hide (show pcT t m k = frameB 3 (putS (k : Int) ++ putS (c : Int) ++ putT (pcP t m k)) by unfold pcT; rw [unhide HCC])
        have HN := hide (fun W => pieceText_calls (k : Int) (c : Int) (pcP t m k) W hX)
        generalize frameB 3 (putS (k : Int) ++ putS (c : Int) ++ putT (pcP t m k)) = F at HT HN
        generalize pcP t m k = X at hcv HN
        subst eg
        obtain ⟨a, cp, hf⟩ := (unhide HO).form
        subst hf
        rw [pcL_len] at HO
        have hlk : (pcL t m k).length < 100000000 := by rw [pcL_len]; omega
        have HLK := hide hlk
        have i0 : (0 : Int) ≤ (k : Int) := by omega
        have i1 : (k : Int) < (c : Int) := by omega
        clear hPk pg pg0 hX hkl hlk
        go_wp2_with fail
        rw [pcL_len]
        refine (unhide HN _).mono ?_
        rintro e w5 ⟨rfl, hb5⟩
        have hb45 := belOn (bel1 wr (.cells #[.int .i64 k, .int .i64 c, .string X] 54)) hb5
        have HO5 := hide ((unhide HO).keep hb45)
        have HB5 := hide (belOn (unhide HB) hb45)
        have hBs : w2.heap.size ≤ w5.heap.size := (unhide HB5).size
        clear hb5 hb45 pg1 hcv
        go_wp2_with (at_builtin; go_must (refine appR (e := strE) rfl _ _ rfl (unhide HO5) rfl F rfl _ rfl rfl (unhide HLK) hBs ?_); intro v' w6 hown6 hb6 hg6)
        go_roundw
        case rel => exact ⟨k + 1, by go_num, by omega, hide (by rw [pcL_next, unhide HT]; exact hown6), hide ((unhide HB5).trans hb6)⟩
        case measure => simp [intOf]; omega
      · obtain rfl : k = c := by omega
        go_wp2_with fail
        go_ret2
        exact ⟨_, rfl, (unhide HO).le (unhide HB2).size, belOn (unhide HB2) (unhide HB)⟩
  · have hr : pcR t n = ([], false) := by unfold pcR; rw [if_neg hok]
    rw [hr]
    by_cases h1 : 1 ≤ n
    · by_cases h2 : n ≤ 4000
      · have h3 : 20000 < t.size := by omega
        clear hok hr hn0
        go_enter Try.func9, Try.ntmps9
        go_wp2_with fail
        go_ret2
        exact ⟨_, rfl, ownR_nil _ _ _, Below.refl _ _⟩
      · clear hok hr hn0
        go_enter Try.func9, Try.ntmps9
        go_wp2_with fail
        go_ret2
        exact ⟨_, rfl, ownR_nil _ _ _, Below.refl _ _⟩
    · clear hok hr hn0
      go_enter Try.func9, Try.ntmps9
      go_wp2_with fail
      go_ret2
      exact ⟨_, rfl, ownR_nil _ _ _, Below.refl _ _⟩
end Go.Proofs.Ytnkjdojpegmlcaa
