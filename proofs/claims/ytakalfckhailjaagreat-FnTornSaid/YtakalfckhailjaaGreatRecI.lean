/- Recover of the program. -/
import Derived.Test.YtakalfckhailjaaGreatGAT
import Derived.Test.YtakalfckhailjaaGreatLogI
import Derived.Test.YtakalfckhailjaaGreatGAU
namespace Go.Proofs.YtakalfckhailjaaGreat
open Go.RowKit Go.Maps Plain
set_option linter.unusedVariables false

theorem field_fl (n d : ByteArray) (W : World) : (Instr.field 67 (.agg #[.string n, .string d]) 1).run Tryz.prog W = .ok (.string d) W := by
  simp [Instr.field, go_sem, run_underlying Tryz.underlying67, asAgg]
theorem Plain.below3 {w X : World} {b : Nat} {u0 u1 u2 : Value} (h : Below w.heap.size w X) (hb : w.heap.size ≤ b) : Below w.heap.size w (((X.setCell ⟨b, 0, none⟩ u0).setCell ⟨b, 1, none⟩ u1).setCell ⟨b, 2, none⟩ u2) := ((h.setCell (p := ⟨b, 0, none⟩) hb _).setCell (p := ⟨b, 1, none⟩) hb _).setCell (p := ⟨b, 2, none⟩) hb _

set_option maxRecDepth 10000 in
set_option maxHeartbeats 4000000 in
theorem impl_Recover (aL : Option Addr) (nL cL : Nat) (live : List Fl) (aS : Option Addr) (nS cS : Nat) (safe : List Fl) (aO : Option Addr) (nO cO : Nat) (ops : List Dop) (w : World) (h : DiskAt w aL nL cL live aS nS cS safe aO nO cO ops) :
    Calls Tryz.prog 11 #[.agg #[.slice aL nL cL, .slice aS nS cS, .slice aO nO cO]] w fun e w' => ∃ sl, e = .returned (.tuple #[.agg #[.int .i64 (recT live safe ops).2.1, .int .i64 (recT live safe ops).2.2.1, sl], .bool (recT live safe ops).1]) ∧ OwnR entE w' w.heap.size sl (recT live safe ops).2.2.2 ∧ Below w.heap.size w w' := by
  obtain ⟨W0, hW0⟩ : ∃ W0, W0 = (w.alloc (.cells #[.slice aL nL cL, .slice aS nS cS, .slice aO nO cO] 27)).alloc (.cells #[.int .i64 0, .int .i64 0, .slice none 0 0] 34) := ⟨_, rfl⟩
  have hb0 : Below w.heap.size w W0 := by rw [hW0]; exact belOn (bel1 _ _) (bel1 _ _)
  have hz0 : W0.heap.size = w.heap.size + 2 := by rw [hW0]; simp
  have c0 : W0.cell? ⟨w.heap.size, 0, none⟩ = some (.slice aL nL cL) := by rw [hW0]; simp [go_sem]
  have c1 : W0.cell? ⟨w.heap.size, 1, none⟩ = some (.slice aS nS cS) := by rw [hW0]; simp [go_sem]
  have c2 : W0.cell? ⟨w.heap.size, 2, none⟩ = some (.slice aO nO cO) := by rw [hW0]; simp [go_sem]
  have r0 : W0.cell? ⟨w.heap.size + 1, 0, none⟩ = some (.int .i64 0) := by rw [hW0]; simp [go_sem]
  have r1 : W0.cell? ⟨w.heap.size + 1, 1, none⟩ = some (.int .i64 0) := by rw [hW0]; simp [go_sem]
  have r2 : W0.cell? ⟨w.heap.size + 1, 2, none⟩ = some (.slice none 0 0) := by rw [hW0]; simp [go_sem]
  have y0 : W0.frozen? ⟨w.heap.size + 1, 0, none⟩ = false := by rw [hW0]; simp [go_sem]
  have y1 : W0.frozen? ⟨w.heap.size + 1, 1, none⟩ = false := by rw [hW0]; simp [go_sem]
  have y2 : W0.frozen? ⟨w.heap.size + 1, 2, none⟩ = false := by rw [hW0]; simp [go_sem]
  have HD := hide (fun (W : World) (hW : Below W0.heap.size W0 W) => (h.below hb0).below hW)
  have HC := hide (fun (W : World) (hW : Below W0.heap.size W0 W) => And.intro (bcl hW (by omega) c0) (And.intro (bcl hW (by omega) c1) (bcl hW (by omega) c2)))
  have HR := hide (fun (W : World) (hW : Below W0.heap.size W0 W) => And.intro (And.intro (bcl hW (by omega) r0) (And.intro (bcl hW (by omega) r1) (bcl hW (by omega) r2))) (And.intro ((hW.frozen (p := ⟨w.heap.size + 1, 0, none⟩) (by show w.heap.size + 1 < _; omega)).trans y0) (And.intro ((hW.frozen (p := ⟨w.heap.size + 1, 1, none⟩) (by show w.heap.size + 1 < _; omega)).trans y1) ((hW.frozen (p := ⟨w.heap.size + 1, 2, none⟩) (by show w.heap.size + 1 < _; omega)).trans y2))))
  have HFIN := hide (fun (W : World) (hW : Below W0.heap.size W0 W) => belOn hb0 hW)
  have HZ0 := hide hz0
  have HW0 := hide hW0.symm
  have HH := hide h
  clear h hb0 c0 c1 c2 r0 r1 r2 y0 y1 y2 hW0 hz0
  unfold recT
  cases hd : diskB live safe ops with
  | false =>
    rw [if_neg (by simp)]
    have HX := hide hd
    clear hd
    go_enter Tryz.func11, Tryz.ntmps11
    go_wp2_with fail
    rw [unhide HW0]
    refine (impl_DiskOk aL nL cL live aS nS cS safe aO nO cO ops W0 (unhide HD _ (Below.refl _ _))).mono ?_
    rintro e w1 ⟨rfl, hb1⟩
    rw [unhide HX]
    have HB1 := hide (unhide HFIN _ hb1)
    obtain ⟨⟨r0, r1, r2⟩, y0, y1, y2⟩ := unhide HR _ hb1
    clear hb1
    go_wp2_with fail
    refine bodyPost_ret (v := .tuple #[.agg #[.int .i64 0, .int .i64 0, .slice none 0 0], .bool false]) (by simp [results, Tryz.results11, go_sem, r0, r1, r2]) rfl ⟨_, rfl, ownR_nil _ _ _, ?_⟩
    exact below3 (unhide HB1) (Nat.le_succ _)
  | true =>
    rw [if_pos rfl]
    have HX := hide hd
    have hfl := dk_live hd
    have hln := (files_small hfl).1
    have hfit := small_fit hfl
    rw [(unhide HH).ll] at hln
    have HLS := hide (tab_size' hfl logN)
    have HVS := hide (tab_size' hfl voteN)
    clear hd
    have HLV := hide (fun (W : World) (b m : Nat) (hT : Tab W b m (tabF live)) => hT.look_ok (nm := voteN) (by decide))
    have HLL := hide (fun (W : World) (b m : Nat) (hT : Tab W b m (tabF live)) => hT.look (nm := logN) (by decide))
    obtain ⟨n', hfa⟩ := fileAt_any (tabF live) logN
    rw [hfa] at HLL
    unfold votD logD
    have HLG := hide (fun (t : Int) (W : World) => readLog_calls ((tabF live logN).getD ⟨#[]⟩) t W (Nat.le_trans (unhide HLS) (by decide)))
    generalize (tabF live logN).getD ⟨#[]⟩ = dl at HLL HLG HLS ⊢
    clear hfa
    have hZ := unhide HZ0
    cases hv : tabF live voteN with
    | none =>
      rw [hv, fileAt_none hv] at HLV
      simp only [Option.isSome] at HLV ⊢
      have HLG0 := hide (unhide HLG 0)
      generalize logF dl 0 = es at HLG0 ⊢
      clear HLG hv
      go_enter Tryz.func11, Tryz.ntmps11
      go_wp2_with fail
      rw [unhide HW0]
      refine (impl_DiskOk aL nL cL live aS nS cS safe aO nO cO ops W0 (unhide HD _ (Below.refl _ _))).mono ?_
      rintro e w1 ⟨rfl, hb1⟩
      rw [unhide HX]
      obtain ⟨q0, q1, q2⟩ := unhide HC _ (frOn hb1 (newB w1 (.cells #[.int .i64 0, .int .i64 0, .slice none 0 0] 34)))
      have HB1 := hide hb1
      clear hb1
      go_wp2_with fail
      obtain ⟨W2, hW2⟩ : ∃ W2, W2 = w1.alloc (.cells #[.int .i64 0, .int .i64 0, .slice none 0 0] 34) := ⟨_, rfl⟩
      rw [← hW2]
      have HB2 := hide (show Below W0.heap.size W0 W2 from by rw [hW2]; exact frOn (unhide HB1) (newB _ _))
      have hz2 : w1.heap.size < W2.heap.size := by rw [hW2]; simp
      have hz1 := (unhide HB1).size
      have j0 : W2.cell? ⟨w1.heap.size, 0, none⟩ = some (.int .i64 0) := by rw [hW2]; simp [go_sem]
      have j1 : W2.cell? ⟨w1.heap.size, 1, none⟩ = some (.int .i64 0) := by rw [hW2]; simp [go_sem]
      have j2 : W2.cell? ⟨w1.heap.size, 2, none⟩ = some (.slice none 0 0) := by rw [hW2]; simp [go_sem]
      have k2 : W2.frozen? ⟨w1.heap.size, 2, none⟩ = false := by rw [hW2]; simp [go_sem]
      clear hW2
      refine (tableOf_calls aL nL cL live W2 (unhide HH).ll (by omega) hfit (unhide HD _ (unhide HB2)).rl).mono ?_
      rintro e w3 ⟨b, m, rfl, hbb, hm, HT, hb3⟩
      have hlk := unhide HLV _ _ _ HT
      have hl2 := unhide HLL _ _ _ (HT.blk (X := w3.alloc (.cells #[.string ⟨#[]⟩, .string ⟨#[]⟩] 67)) ((newB w3 _).block b HT.lt))
      have HB4 := hide (frOn (unhide HB2) (frOn hb3 (newB w3 (.cells #[.string ⟨#[]⟩, .string ⟨#[]⟩] 67))))
      have hb4 : Below W2.heap.size W2 (w3.alloc (.cells #[.string ⟨#[]⟩, .string ⟨#[]⟩] 67)) := frOn hb3 (newB w3 _)
      have p0 := bcl hb4 hz2 j0
      have HP := hide (fun (W : World) (hW : Below (w3.alloc (.cells #[.string ⟨#[]⟩, .string ⟨#[]⟩] 67)).heap.size (w3.alloc (.cells #[.string ⟨#[]⟩, .string ⟨#[]⟩] 67)) W) => And.intro (bcl (frOn hb4 hW) hz2 j0) (And.intro (bcl (frOn hb4 hW) hz2 j1) (And.intro (bcl (frOn hb4 hW) hz2 j2) (((frOn hb4 hW).frozen (p := ⟨w1.heap.size, 2, none⟩) hz2).trans k2))))
      have hne : w1.heap.size ≠ w.heap.size + 1 := by omega
      have hne2 : w.heap.size + 1 ≠ w1.heap.size := by omega
      have hz4 := hb4.size
      have hfd := field_fl n' dl (w3.alloc (.cells #[.string ⟨#[]⟩, .string ⟨#[]⟩] 67))
      unfold voteN at hlk
      unfold logN at hl2
      clear hb3 hb4 HT hbb hm q0 q1 q2 j0 j1 j2 k2
      go_wp2_with fail
      refine (unhide HLG0 _).mono ?_
      rintro e w5 ⟨v5, rfl, ho5, hb5⟩
      obtain ⟨a5, c5, rfl⟩ := ho5.form
      obtain ⟨s0, s1, s2, kk2⟩ := unhide HP _ hb5
      obtain ⟨⟨r0, r1, r2⟩, y0, y1, y2⟩ := unhide HR _ (frOn (unhide HB4) hb5)
      have HO5 := hide ho5
      have HB5 := hide (unhide HFIN _ (frOn (unhide HB4) hb5))
      clear ho5 hb5 p0
      go_wp2_with fail
      refine bodyPost_ret (v := .tuple #[.agg #[.int .i64 0, .int .i64 0, .slice a5 es.length c5], .bool true]) (by simp [results, Tryz.results11, go_sem, r0, r1, r2]) rfl ⟨_, rfl, ?_, ?_⟩
      · refine (ownKeepL (unhide HO5) (fun g hg => ?_)).le (by omega)
        have := own_from (unhide HO5) hg
        rw [heap_set (by omega), heap_set (by omega), heap_set (by omega), heap_set (by omega)]
      · exact below3 ((unhide HB5).setCell (p := ⟨w1.heap.size, 2, none⟩) (by show w.heap.size ≤ w1.heap.size; omega) _) (Nat.le_succ _)
    | some dv =>
      rw [hv, fileAt_some hv] at HLV
      rw [hv] at HVS
      simp only [Option.isSome, Option.getD_some] at HLV HVS ⊢
      have HRV := hide (fun (W : World) => readVote_calls dv W (Nat.le_trans (unhide HVS) (by decide)))
      clear hv
      generalize votF dv = V at HRV ⊢
      cases V with
      | none =>
        simp only [votV] at HRV ⊢
        go_enter Tryz.func11, Tryz.ntmps11
        go_wp2_with fail
        rw [unhide HW0]
        refine (impl_DiskOk aL nL cL live aS nS cS safe aO nO cO ops W0 (unhide HD _ (Below.refl _ _))).mono ?_
        rintro e w1 ⟨rfl, hb1⟩
        rw [unhide HX]
        obtain ⟨q0, q1, q2⟩ := unhide HC _ (frOn hb1 (newB w1 (.cells #[.int .i64 0, .int .i64 0, .slice none 0 0] 34)))
        have HB1 := hide hb1
        clear hb1
        go_wp2_with fail
        obtain ⟨W2, hW2⟩ : ∃ W2, W2 = w1.alloc (.cells #[.int .i64 0, .int .i64 0, .slice none 0 0] 34) := ⟨_, rfl⟩
        rw [← hW2]
        have HB2 := hide (show Below W0.heap.size W0 W2 from by rw [hW2]; exact frOn (unhide HB1) (newB _ _))
        have hz2 : w1.heap.size < W2.heap.size := by rw [hW2]; simp
        have hz1 := (unhide HB1).size
        have j0 : W2.cell? ⟨w1.heap.size, 0, none⟩ = some (.int .i64 0) := by rw [hW2]; simp [go_sem]
        have j1 : W2.cell? ⟨w1.heap.size, 1, none⟩ = some (.int .i64 0) := by rw [hW2]; simp [go_sem]
        have j2 : W2.cell? ⟨w1.heap.size, 2, none⟩ = some (.slice none 0 0) := by rw [hW2]; simp [go_sem]
        have k0 : W2.frozen? ⟨w1.heap.size, 0, none⟩ = false := by rw [hW2]; simp [go_sem]
        have k1 : W2.frozen? ⟨w1.heap.size, 1, none⟩ = false := by rw [hW2]; simp [go_sem]
        have k2 : W2.frozen? ⟨w1.heap.size, 2, none⟩ = false := by rw [hW2]; simp [go_sem]
        clear hW2
        refine (tableOf_calls aL nL cL live W2 (unhide HH).ll (by omega) hfit (unhide HD _ (unhide HB2)).rl).mono ?_
        rintro e w3 ⟨b, m, rfl, hbb, hm, HT, hb3⟩
        have hlk := unhide HLV _ _ _ HT
        obtain ⟨W4, hW4⟩ : ∃ W4, W4 = w3.alloc (.cells #[.string voteN, .string dv] 67) := ⟨_, rfl⟩
        have hb34 : Below w3.heap.size w3 W4 := by rw [hW4]; exact newB _ _
        have HB4 := hide (frOn (unhide HB2) (frOn hb3 hb34))
        have hb4 : Below W2.heap.size W2 W4 := frOn hb3 hb34
        have hT4 : Tab W4 b m (tabF live) := HT.blk (hb34.block b HT.lt)
        have f1 : W4.cell? ⟨w3.heap.size, 1, none⟩ = some (.string dv) := by rw [hW4]; simp [go_sem]
        have HP := hide (fun (W : World) (hW : Below W4.heap.size W4 W) => And.intro (And.intro (bcl (frOn hb4 hW) hz2 j0) (And.intro (bcl (frOn hb4 hW) hz2 j1) (bcl (frOn hb4 hW) hz2 j2))) (And.intro (((frOn hb4 hW).frozen (p := ⟨w1.heap.size, 0, none⟩) hz2).trans k0) (And.intro (((frOn hb4 hW).frozen (p := ⟨w1.heap.size, 1, none⟩) hz2).trans k1) (((frOn hb4 hW).frozen (p := ⟨w1.heap.size, 2, none⟩) hz2).trans k2))))
        have HLL4 := hide (fun (X : World) (hX : X.heap[b]? = W4.heap[b]?) => unhide HLL _ _ _ (hT4.blk hX))
        have hbw4 := hT4.lt
        have hne : w1.heap.size ≠ w.heap.size + 1 := by omega
        have hne2 : w.heap.size + 1 ≠ w1.heap.size := by omega
        have hne3 : w1.heap.size ≠ b := by omega
        have hz4 := hb4.size
        have HW4 := hide hW4.symm
        unfold voteN at hlk HW4
        clear hb3 hb4 HT hm q0 q1 q2 j0 j1 j2 k0 k1 k2 hb34 hT4 hW4

        go_wp2_with fail
        rw [unhide HW4]
        refine (unhide HRV _).mono ?_
        rintro e w5 ⟨rfl, hb5⟩
        obtain ⟨⟨r0, r1, r2⟩, y0, y1, y2⟩ := unhide HR _ (frOn (unhide HB4) hb5)
        have HB5 := hide (unhide HFIN _ (frOn (unhide HB4) hb5))
        clear hb5
        go_wp2_with fail
        refine bodyPost_ret (v := .tuple #[.agg #[.int .i64 0, .int .i64 0, .slice none 0 0], .bool false]) (by simp [results, Tryz.results11, go_sem, r0, r1, r2]) rfl ⟨_, rfl, ownR_nil _ _ _, ?_⟩
        exact below3 (unhide HB5) (Nat.le_succ _)
      | some tv =>
        obtain ⟨tm, vt⟩ := tv
        simp only [votV] at HRV ⊢
        have HLG0 := hide (unhide HLG tm)
        generalize logF dl tm = es at HLG0 ⊢
        clear HLG
        go_enter Tryz.func11, Tryz.ntmps11
        go_wp2_with fail
        rw [unhide HW0]
        refine (impl_DiskOk aL nL cL live aS nS cS safe aO nO cO ops W0 (unhide HD _ (Below.refl _ _))).mono ?_
        rintro e w1 ⟨rfl, hb1⟩
        rw [unhide HX]
        obtain ⟨q0, q1, q2⟩ := unhide HC _ (frOn hb1 (newB w1 (.cells #[.int .i64 0, .int .i64 0, .slice none 0 0] 34)))
        have HB1 := hide hb1
        clear hb1
        go_wp2_with fail
        obtain ⟨W2, hW2⟩ : ∃ W2, W2 = w1.alloc (.cells #[.int .i64 0, .int .i64 0, .slice none 0 0] 34) := ⟨_, rfl⟩
        rw [← hW2]
        have HB2 := hide (show Below W0.heap.size W0 W2 from by rw [hW2]; exact frOn (unhide HB1) (newB _ _))
        have hz2 : w1.heap.size < W2.heap.size := by rw [hW2]; simp
        have hz1 := (unhide HB1).size
        have j0 : W2.cell? ⟨w1.heap.size, 0, none⟩ = some (.int .i64 0) := by rw [hW2]; simp [go_sem]
        have j1 : W2.cell? ⟨w1.heap.size, 1, none⟩ = some (.int .i64 0) := by rw [hW2]; simp [go_sem]
        have j2 : W2.cell? ⟨w1.heap.size, 2, none⟩ = some (.slice none 0 0) := by rw [hW2]; simp [go_sem]
        have k0 : W2.frozen? ⟨w1.heap.size, 0, none⟩ = false := by rw [hW2]; simp [go_sem]
        have k1 : W2.frozen? ⟨w1.heap.size, 1, none⟩ = false := by rw [hW2]; simp [go_sem]
        have k2 : W2.frozen? ⟨w1.heap.size, 2, none⟩ = false := by rw [hW2]; simp [go_sem]
        clear hW2
        refine (tableOf_calls aL nL cL live W2 (unhide HH).ll (by omega) hfit (unhide HD _ (unhide HB2)).rl).mono ?_
        rintro e w3 ⟨b, m, rfl, hbb, hm, HT, hb3⟩
        have hlk := unhide HLV _ _ _ HT
        obtain ⟨W4, hW4⟩ : ∃ W4, W4 = w3.alloc (.cells #[.string voteN, .string dv] 67) := ⟨_, rfl⟩
        have hb34 : Below w3.heap.size w3 W4 := by rw [hW4]; exact newB _ _
        have HB4 := hide (frOn (unhide HB2) (frOn hb3 hb34))
        have hb4 : Below W2.heap.size W2 W4 := frOn hb3 hb34
        have hT4 : Tab W4 b m (tabF live) := HT.blk (hb34.block b HT.lt)
        have f1 : W4.cell? ⟨w3.heap.size, 1, none⟩ = some (.string dv) := by rw [hW4]; simp [go_sem]
        have HP := hide (fun (W : World) (hW : Below W4.heap.size W4 W) => And.intro (And.intro (bcl (frOn hb4 hW) hz2 j0) (And.intro (bcl (frOn hb4 hW) hz2 j1) (bcl (frOn hb4 hW) hz2 j2))) (And.intro (((frOn hb4 hW).frozen (p := ⟨w1.heap.size, 0, none⟩) hz2).trans k0) (And.intro (((frOn hb4 hW).frozen (p := ⟨w1.heap.size, 1, none⟩) hz2).trans k1) (((frOn hb4 hW).frozen (p := ⟨w1.heap.size, 2, none⟩) hz2).trans k2))))
        have HLL4 := hide (fun (X : World) (hX : X.heap[b]? = W4.heap[b]?) => unhide HLL _ _ _ (hT4.blk hX))
        have hbw4 := hT4.lt
        have hne : w1.heap.size ≠ w.heap.size + 1 := by omega
        have hne2 : w.heap.size + 1 ≠ w1.heap.size := by omega
        have hne3 : w1.heap.size ≠ b := by omega
        have hz4 := hb4.size
        have HW4 := hide hW4.symm
        unfold voteN at hlk HW4
        clear hb3 hb4 HT hm q0 q1 q2 j0 j1 j2 k0 k1 k2 hb34 hT4 hW4

        go_wp2_with fail
        rw [unhide HW4]
        refine (unhide HRV _).mono ?_
        rintro e w5 ⟨rfl, hb5⟩
        obtain ⟨⟨s0, s1, s2⟩, kk0, kk1, kk2⟩ := unhide HP _ hb5
        have hl5 := unhide HLL4 ((w5.setCell ⟨w1.heap.size, 0, none⟩ (.int .i64 tm)).setCell ⟨w1.heap.size, 1, none⟩ (.int .i64 vt)) (by rw [heap_set hne3, heap_set hne3]; exact hb5.block b hbw4)
        have hfd := field_fl n' dl ((w5.setCell ⟨w1.heap.size, 0, none⟩ (.int .i64 tm)).setCell ⟨w1.heap.size, 1, none⟩ (.int .i64 vt))
        unfold logN at hl5
        have HB5 := hide (frOn (unhide HB4) hb5)
        have HR5 := hide (unhide HR _ (frOn (unhide HB4) hb5))
        have hz5 := hb5.size
        clear hb5
        obtain ⟨X, hX⟩ : ∃ X, X = (w5.setCell ⟨w1.heap.size, 0, none⟩ (.int .i64 tm)).setCell ⟨w1.heap.size, 1, none⟩ (.int .i64 vt) := ⟨_, rfl⟩
        have x0 : X.cell? ⟨w1.heap.size, 0, none⟩ = some (.int .i64 tm) := by rw [hX]; exact (cell_off (.inr (by decide))).trans (cell_set s0)
        have x1 : X.cell? ⟨w1.heap.size, 1, none⟩ = some (.int .i64 vt) := by rw [hX]; exact cell_set ((cell_off (.inr (by decide))).trans s1)
        have x2 : X.cell? ⟨w1.heap.size, 2, none⟩ = some (.slice none 0 0) := by rw [hX]; exact (cell_off (.inr (by decide))).trans ((cell_off (.inr (by decide))).trans s2)
        have x3 : X.frozen? ⟨w1.heap.size, 2, none⟩ = false := by rw [hX]; simp only [World.frozen?_setCell]; exact kk2
        have hzx : X.heap.size = w5.heap.size := by rw [hX, World.size_setCell, World.size_setCell]
        have HBX := hide (show Below W0.heap.size W0 X from by rw [hX]; exact ((unhide HB5).setCell (p := ⟨w1.heap.size, 0, none⟩) (by show W0.heap.size ≤ w1.heap.size; omega) _).setCell (p := ⟨w1.heap.size, 1, none⟩) (by show W0.heap.size ≤ w1.heap.size; omega) _)
        have HX5 := hide hX.symm
        clear hX
        go_wp2_with fail
        rw [unhide HX5]
        refine (unhide HLG0 _).mono ?_
        rintro e w6 ⟨v6, rfl, ho6, hb6⟩
        obtain ⟨a6, c6, rfl⟩ := ho6.form
        have hjx : w1.heap.size < X.heap.size := by omega
        have t0 := bcl hb6 hjx x0
        have t1 := bcl hb6 hjx x1
        have t2 := bcl hb6 hjx x2
        have t3 := (hb6.frozen (p := ⟨w1.heap.size, 2, none⟩) hjx).trans x3
        obtain ⟨⟨r0, r1, r2⟩, y0, y1, y2⟩ := unhide HR _ (frOn (unhide HBX) hb6)
        have HO6 := hide ho6
        have HB6 := hide (unhide HFIN _ (frOn (unhide HBX) hb6))
        clear ho6 hb6 s0 s1 s2 kk0 kk1 kk2 x0 x1 x2 x3 hl5 hfd HX5
        go_wp2_with fail
        refine bodyPost_ret (v := .tuple #[.agg #[.int .i64 tm, .int .i64 vt, .slice a6 es.length c6], .bool true]) (by simp [results, Tryz.results11, go_sem, r0, r1, r2]) rfl ⟨_, rfl, ?_, ?_⟩
        · refine (ownKeepL (unhide HO6) (fun g hg => ?_)).le (by omega)
          have := own_from (unhide HO6) hg
          rw [heap_set (by omega), heap_set (by omega), heap_set (by omega), heap_set (by omega)]
        · exact below3 ((unhide HB6).setCell (p := ⟨w1.heap.size, 2, none⟩) (by show w.heap.size ≤ w1.heap.size; omega) _) (Nat.le_succ _)
end Go.Proofs.YtakalfckhailjaaGreat
