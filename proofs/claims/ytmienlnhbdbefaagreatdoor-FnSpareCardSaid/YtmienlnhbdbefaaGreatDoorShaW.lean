/- The program's words behind a block. -/
import Derived.Test.YtmienlnhbdbefaaGreatDoorShaS
import Derived.Test.YtmienlnhbdbefaaGreatDoorShaC
import Derived.Deep.RegionWith
namespace Go.Proofs.YtmienlnhbdbefaaGreatDoor
open Go.RowKit Plain
set_option linter.unusedVariables false

namespace Plain
/-- The package's table of the rounds' words, as the program's text lays it, in block 0. -/
def KAt (w : World) : Prop := ∀ j, j < 64 → w.cell? ⟨2, j, none⟩ = some (.int .u32 (kL.getD j 0))
theorem KAt.below {w w' : World} {B : Nat} (h : KAt w) (hb : Below B w w') (hB : 2 < B) : KAt w' := fun j hj => (hb.cell (p := ⟨2, j, none⟩) hB).trans (h j hj)
end Plain

set_option maxRecDepth 10000 in
set_option maxHeartbeats 2000000 in
theorem with_calls (a0 a1 a2 a3 a4 a5 a6 a7 : Int) (b : List Int) (w : World) (hK : KAt w) (hb : ByteL b) (hh : ∀ x ∈ [a0, a1, a2, a3, a4, a5, a6, a7], Word x) :
    Calls Tryz.prog 91 #[.agg #[.int .u32 a0, .int .u32 a1, .int .u32 a2, .int .u32 a3, .int .u32 a4, .int .u32 a5, .int .u32 a6, .int .u32 a7], .agg (bytesV b)] w fun r w' =>
      ∃ c0 c1 c2 c3 c4 c5 c6 c7, blockL [a0, a1, a2, a3, a4, a5, a6, a7] b = [c0, c1, c2, c3, c4, c5, c6, c7] ∧ r = .returned (.agg #[.int .u32 c0, .int .u32 c1, .int .u32 c2, .int .u32 c3, .int .u32 c4, .int .u32 c5, .int .u32 c6, .int .u32 c7]) ∧ Below w.heap.size w w' := by
  have HK := hide hK
  have HB := hide hb
  have HH := hide hh
  have h0 : 2 < w.heap.size := lt_of_cell (hK 0 (by omega))
  have hi44 : (Tryz.prog.info? 135).map (·.size) = some (bytesV b).size := by rw [show (bytesV b).size = 64 from by simp [bytesV, hb.1]]; kernel_rfl
  clear hK hb hh
  go_enter Tryz.func91, Tryz.ntmps91
  go_wp2_with (refine wpList_load_row rfl 135 (.tmp 3) rfl (w.heap.size + 1) rfl 135 (bytesV b) (0, 0) _ (by first | exact (h_old _ _ (by simp)).trans (h_new _ _ (by simp))) Tryz.underlying135 rfl hi44 ?_)
  refine (schedule_calls b _ (unhide HB)).mono ?_
  rintro e w1 ⟨arr, hT, rfl, hb1⟩
  have HT := hide hT
  have hsz := hT.1
  have hi57 : (Tryz.prog.info? 150).map (·.size) = some arr.size := by rw [hsz]; exact info57
  have h1 := hT.2.1
  clear hT
  have hz1 : w.heap.size + 2 < w1.heap.size := by have := hb1.size; simp at this; omega
  have hlt : w.heap.size < w1.heap.size := by omega
  have hlt1 : w.heap.size + 1 + 1 < w1.heap.size := by omega
  have hne : ¬ w.heap.size = w1.heap.size := by omega
  have hbox : Words w1 w.heap.size [a0, a1, a2, a3, a4, a5, a6, a7] :=
    words_of_block (t := 134) ((hb1.block _ (by simp; omega)).trans ((h_old _ _ (by simp; omega)).trans ((h_old _ _ (by simp)).trans (h_new _ _ rfl))))
  have hout : Words w1 (w.heap.size + 1 + 1) [0, 0, 0, 0, 0, 0, 0, 0] :=
    words_of_block (t := 134) ((hb1.block _ (by simp)).trans (h_new _ _ (by simp)))
  have hB1 : Below w.heap.size w w1 := (((((Below.refl w.heap.size w).alloc (Nat.le_refl _) _).alloc (by simp) _).alloc (by simp; omega) _).trans (hb1.mono (by simp; omega)))
  have BB := hide hB1
  have HX := hide hbox
  have HO := hide hout
  have c0 := (hbox 0 (by simp)).1
  have c1 := (hbox 1 (by simp)).1
  have c2 := (hbox 2 (by simp)).1
  have c3 := (hbox 3 (by simp)).1
  have c4 := (hbox 4 (by simp)).1
  have c5 := (hbox 5 (by simp)).1
  have c6 := (hbox 6 (by simp)).1
  have c7 := (hbox 7 (by simp)).1
  simp at c0 c1 c2 c3 c4 c5 c6 c7
  have hso : ∀ (W : World) (g : Nat) (cs : Array Value) (b j : Nat), ¬ b = g → (W.setRow g cs).cell? ⟨b, j, none⟩ = W.cell? ⟨b, j, none⟩ := fun W g cs b j h => cell_setRow_other W g cs _ h
  clear hb1 hB1 hbox hout hz1
  go_wp2_with (refine wpList_store_row rfl 150 (.tmp 5) (.tmp 10) rfl w1.heap.size arr rfl rfl 150 _ (h_new w1 _ rfl) hi57 (by rw [hsz]; rfl) h1 ?_)
  have hst : ∀ (Z : Array Value), Words ((((w1.alloc (.cells Z 150)).setRow w1.heap.size arr).alloc (.cells #[.int .u32 a0, .int .u32 a1, .int .u32 a2, .int .u32 a3, .int .u32 a4, .int .u32 a5, .int .u32 a6, .int .u32 a7] 134))) (w1.heap.size + 1) [a0, a1, a2, a3, a4, a5, a6, a7] ∧
      (∀ j, j < 64 → ((((w1.alloc (.cells Z 150)).setRow w1.heap.size arr).alloc (.cells #[.int .u32 a0, .int .u32 a1, .int .u32 a2, .int .u32 a3, .int .u32 a4, .int .u32 a5, .int .u32 a6, .int .u32 a7] 134))).cell? ⟨w1.heap.size, j, none⟩ = some (.int .u32 (wAt b j))) ∧
      Below w1.heap.size w1 ((((w1.alloc (.cells Z 150)).setRow w1.heap.size arr).alloc (.cells #[.int .u32 a0, .int .u32 a1, .int .u32 a2, .int .u32 a3, .int .u32 a4, .int .u32 a5, .int .u32 a6, .int .u32 a7] 134))) := by
    intro Z
    refine ⟨words_of_block (t := 134) (h_new _ _ (by simp)), fun j hj => ?_, ?_⟩
    · have e1 := h_old ((w1.alloc (.cells Z 150)).setRow w1.heap.size arr) (.cells #[.int .u32 a0, .int .u32 a1, .int .u32 a2, .int .u32 a3, .int .u32 a4, .int .u32 a5, .int .u32 a6, .int .u32 a7] 134) (n := w1.heap.size) (by simp)
      exact (cell_of_row _ _ j arr _ (0, 0) (e1.trans (setRow_heap _ _ _ _ _ _ (h_new w1 _ rfl)))).trans ((unhide HT).2.2 j hj)
    · have e1 : Below w1.heap.size w1 ((w1.alloc (.cells Z 150)).setRow w1.heap.size arr) := ((Below.refl _ _).alloc (Nat.le_refl _) _).trans ⟨rfl, rfl, rfl, by simp, fun i hi => setRow_other _ _ _ _ (by omega)⟩
      exact e1.alloc (by simp) _
  have HS := hide hst
  clear hst hso c0 c1 c2 c3 c4 c5 c6 c7 h1 hi57 hi44 hsz
  go_loopw [7, 12] (fun _ i wr => ∃ (k : Nat) (v : List Int), i = .int .i64 k ∧ k ≤ 64 ∧ v.length = 8 ∧ Hid (compTo (schedTo b 64) [a0, a1, a2, a3, a4, a5, a6, a7] k = v) ∧ Hid (Words wr (w1.heap.size + 1) v) ∧
      Hid (∀ j, j < 64 → wr.cell? ⟨w1.heap.size, j, none⟩ = some (.int .u32 (wAt b j))) ∧ Hid (Below w1.heap.size w1 wr) ∧ w1.heap.size + 1 < wr.heap.size) (fun _ i _ => 64 - (intOf i).toNat)
  case atStart => exact ⟨0, _, rfl, by omega, rfl, rfl, (unhide HS _).1, (unhide HS _).2.1, (unhide HS _).2.2, by simp⟩
  case round =>
    obtain ⟨k, v, rfl, hk, hv8, hcomp, HV, HW, HBl, hsz2⟩ := hrel
    obtain ⟨v0, v1, v2, v3, v4, v5, v6, v7, rfl⟩ := list8 hv8
    by_cases hlt2 : k < 64
    · have hvw := compTo_word (schedTo b 64) [a0, a1, a2, a3, a4, a5, a6, a7] k (unhide HH)
      rw [unhide hcomp] at hvw
      have wv0 := hvw v0 (by simp)
      have wv4 := hvw v4 (by simp)
      have hstep := hide (comp_step b [a0, a1, a2, a3, a4, a5, a6, a7] k hlt2 v0 v1 v2 v3 v4 v5 v6 v7 (unhide hcomp))
      have kc : wr.cell? ⟨2, k, none⟩ = some (.int .u32 (kL.getD k 0)) := (((unhide HK).below (unhide BB) h0).below (unhide HBl) (by omega)) k hlt2
      have wc := unhide HW k hlt2
      generalize kL.getD k 0 = kk at kc hstep
      generalize wAt b k = ww at wc hstep
      have q0 := (unhide HV 0 (by simp)).1
      have q1 := (unhide HV 1 (by simp)).1
      have q2 := (unhide HV 2 (by simp)).1
      have q3 := (unhide HV 3 (by simp)).1
      have q4 := (unhide HV 4 (by simp)).1
      have q5 := (unhide HV 5 (by simp)).1
      have q6 := (unhide HV 6 (by simp)).1
      have q7 := (unhide HV 7 (by simp)).1
      simp at q0 q1 q2 q3 q4 q5 q6 q7
      have i0 : (0 : Int) ≤ (k : Int) := by omega
      have i1 : (k : Int) < 64 := by omega
      clear hvw
      go_wp2
      go_region_with (go_at_call 104; refine (round_calls _ _ _ _ _ _ _ _ _ _ wv0 wv4).mono ?_; rintro e w2 ⟨rfl, hb2⟩; obtain ⟨r0, r1, r2, r3, r4, r5, r6, r7, fz⟩ := after8 (unhide HV) hb2 hsz2; have f0 := fz 0 (by omega); have f1 := fz 1 (by omega); have f2 := fz 2 (by omega); have f3 := fz 3 (by omega); have f4 := fz 4 (by omega); have f5 := fz 5 (by omega); have f6 := fz 6 (by omega); have f7 := fz 7 (by omega); clear fz; have HP := hide (nextW rfl (unhide HV) (unhide HW) (unhide HBl) hb2 hsz2); clear hb2)
      all_goals go_wp2
      all_goals go_roundw
      all_goals first
        | (case rel => exact ⟨k + 1, _, by go_num, by omega, rfl, hstep, (unhide HP _ _ _ _ _ _ _ _).1, (unhide HP _ _ _ _ _ _ _ _).2.1, (unhide HP _ _ _ _ _ _ _ _).2.2.1, (unhide HP _ _ _ _ _ _ _ _).2.2.2⟩)
        | (case measure => simp [intOf]; omega)
    · obtain rfl : k = 64 := by omega
      have hBw : Below w.heap.size w wr := (unhide BB).trans ((unhide HBl).mono (by omega))
      have HX2 := hide ((unhide HX).below (unhide HBl) hlt)
      have HO2 := hide ((unhide HO).below (unhide HBl) hlt1)
      have hne2 : ¬ w.heap.size = w1.heap.size + 1 := by omega
      have hne3 : ¬ w1.heap.size + 1 = w.heap.size := by omega
      clear hsz2 HW HBl HX HO HS HT BB
      go_wp2_with fail
      go_loopw [8, 25] (fun _ i wr => ∃ (k : Nat), i = .int .i64 k ∧ k ≤ 8 ∧ Hid (Words wr w.heap.size (curL [a0, a1, a2, a3, a4, a5, a6, a7] [v0, v1, v2, v3, v4, v5, v6, v7] k)) ∧ Hid (Words wr (w1.heap.size + 1) [v0, v1, v2, v3, v4, v5, v6, v7]) ∧
        Hid (Words wr (w.heap.size + 1 + 1) [0, 0, 0, 0, 0, 0, 0, 0]) ∧ Below w.heap.size w wr) (fun _ i _ => 8 - (intOf i).toNat)
      case atStart => exact ⟨0, rfl, by omega, by rw [curL_zero]; exact HX2, HV, HO2, hBw⟩
      case round =>
        clear HV HX2 HO2 hBw
        obtain ⟨k, rfl, hk, HX, HV, HO, hBw⟩ := hrel
        by_cases hlt3 : k < 8
        · have hc := unhide HX k (by rw [curL_length]; exact hlt3)
          rw [curL_get _ _ _ _ hlt3, if_neg (by omega)] at hc
          obtain ⟨hc, hf⟩ := hc
          have hv := (unhide HV k (by simpa using hlt3)).1
          have hnx := hide (curL_next [a0, a1, a2, a3, a4, a5, a6, a7] [v0, v1, v2, v3, v4, v5, v6, v7] k hlt3)
          generalize [a0, a1, a2, a3, a4, a5, a6, a7].getD k 0 = x at hc hnx
          generalize [v0, v1, v2, v3, v4, v5, v6, v7].getD k 0 = y at hv hnx
          have i0 : (0 : Int) ≤ (k : Int) := by omega
          have i1 : (k : Int) < 8 := by omega
          go_wp2
          go_region
          all_goals (try go_wp2)
          all_goals go_roundw
          all_goals first
            | (case rel => exact ⟨k + 1, by go_num, by omega, by rw [← unhide hnx]; exact ((unhide HX).set k (by rw [curL_length]; exact hlt3) _).drew, ((unhide HV).other k _ (by omega)).drew, ((unhide HO).other k _ (by omega)).drew, (hBw.setCell (Nat.le_refl _) _).drew⟩)
            | (case measure => simp [intOf]; omega)
        · obtain rfl : k = 8 := by omega
          have hend := curL_end [a0, a1, a2, a3, a4, a5, a6, a7] b
          rw [unhide hcomp] at hend
          rw [hend] at HX
          obtain ⟨c0, c1, c2, c3, c4, c5, c6, c7, hcl⟩ := list8 (blockL_length [a0, a1, a2, a3, a4, a5, a6, a7] b)
          rw [hcl] at HX
          have HC := hide hcl
          have q0 := (unhide HX 0 (by simp)).1
          have q1 := (unhide HX 1 (by simp)).1
          have q2 := (unhide HX 2 (by simp)).1
          have q3 := (unhide HX 3 (by simp)).1
          have q4 := (unhide HX 4 (by simp)).1
          have q5 := (unhide HX 5 (by simp)).1
          have q6 := (unhide HX 6 (by simp)).1
          have q7 := (unhide HX 7 (by simp)).1
          simp at q0 q1 q2 q3 q4 q5 q6 q7
          obtain ⟨r0, r1, r2, r3, r4, r5, r6, r7, fz⟩ := after8 (w := wr) (w2 := wr) (unhide HO) ⟨rfl, rfl, rfl, Nat.le_refl _, fun _ _ => rfl⟩ (lt_of_cell (unhide HO 0 (by simp)).1)
          have f0 := fz 0 (by omega)
          have f1 := fz 1 (by omega)
          have f2 := fz 2 (by omega)
          have f3 := fz 3 (by omega)
          have f4 := fz 4 (by omega)
          have f5 := fz 5 (by omega)
          have f6 := fz 6 (by omega)
          have f7 := fz 7 (by omega)
          have hp := put8_words wr (w.heap.size + 1 + 1) _ rfl (unhide HO) c0 c1 c2 c3 c4 c5 c6 c7
          unfold put8 at hp
          have p0 := (hp 0 (by simp)).1
          have p1 := (hp 1 (by simp)).1
          have p2 := (hp 2 (by simp)).1
          have p3 := (hp 3 (by simp)).1
          have p4 := (hp 4 (by simp)).1
          have p5 := (hp 5 (by simp)).1
          have p6 := (hp 6 (by simp)).1
          have p7 := (hp 7 (by simp)).1
          have hbp := hide (put8_below wr (w.heap.size + 1 + 1) (.int .u32 c0) (.int .u32 c1) (.int .u32 c2) (.int .u32 c3) (.int .u32 c4) (.int .u32 c5) (.int .u32 c6) (.int .u32 c7) w.heap.size (by omega) hBw.size)
          clear fz hp hcl hend
          have P0 := hide p0
          have P1 := hide p1
          have P2 := hide p2
          have P3 := hide p3
          have P4 := hide p4
          have P5 := hide p5
          have P6 := hide p6
          have P7 := hide p7
          clear p0 p1 p2 p3 p4 p5 p6 p7
          go_wp2
          refine bodyPost_ret (v := .agg #[.int .u32 c0, .int .u32 c1, .int .u32 c2, .int .u32 c3, .int .u32 c4, .int .u32 c5, .int .u32 c6, .int .u32 c7]) ?_ rfl ⟨c0, c1, c2, c3, c4, c5, c6, c7, unhide HC, rfl, hBw.trans (unhide hbp)⟩
          have p0 := unhide P0
          have p1 := unhide P1
          have p2 := unhide P2
          have p3 := unhide P3
          have p4 := unhide P4
          have p5 := unhide P5
          have p6 := unhide P6
          have p7 := unhide P7
          simp only [List.getD_cons_zero, List.getD_cons_succ] at p0 p1 p2 p3 p4 p5 p6 p7
          simp [results, Tryz.results91, go_sem, p0, p1, p2, p3, p4, p5, p6, p7]
end Go.Proofs.YtmienlnhbdbefaaGreatDoor
