/- Whether a command is formed, by the program. -/
import Derived.Test.YtnkjdojpegmlcaaDoorFmdM
import Derived.Test.YtnkjdojpegmlcaaDoorRepI
import Derived.Test.YtnkjdojpegmlcaaDoorTag
import Derived.Test.YtnkjdojpegmlcaaDoorManI
import Derived.Deep.RegionHeld3
namespace Go.Proofs.YtnkjdojpegmlcaaDoor
open Go.RowKit Plain
set_option linter.unusedVariables false

set_option maxRecDepth 10000 in
theorem numberOkC_calls (n : Int) (w : World) : Calls Tryd.prog 33 #[.int .i64 n] w fun e w' => e = .returned (.bool (numC n)) ∧ w = w' := by
  obtain ⟨R, hR⟩ : ∃ R, numC n = R := ⟨_, rfl⟩
  rw [hR]
  unfold numC at hR
  have HR := hide hR
  clear hR
  go_enter Tryd.func33, Tryd.ntmps33
  go_wp2
  all_goals go_ret
  all_goals refine ⟨?_, rfl⟩
  all_goals (show Ending.returned (.bool _) = Ending.returned (.bool _); rw [← unhide HR]; congr 2; rw [Bool.eq_iff_iff]; simp; try omega)

set_option maxRecDepth 10000 in
theorem manifestTextOk_calls (s : ByteArray) (w : World) (hs : s.size ≤ 10000000) : Calls Tryd.prog 30 #[.string s] w fun e w' => e = .returned (.bool (manK s)) ∧ Below w.heap.size w w' := by
  obtain ⟨k, hk⟩ : ∃ k, (rmV (cutB 10 s)).2.2 = k := ⟨_, rfl⟩
  have hm : manK s = decide (k = 0) := by unfold manK; rw [hk]
  rw [hm]
  have HR := hide (impl_ReadManifest s w hs)
  unfold RmPost at HR
  rw [hk] at HR
  clear hm hk
  by_cases h0 : k = 0
  · go_enter Tryd.func30, Tryd.ntmps30
    go_wp2_with fail
    refine (unhide HR).mono ?_
    rintro e w1 ⟨v, rfl, ho, hb⟩
    obtain ⟨a, cp, rfl⟩ := ho.form
    clear ho
    go_wp2_with fail
    go_ret
    exact ⟨by rw [h0]; rfl, belOn hb (bel1 _ _)⟩
  · go_enter Tryd.func30, Tryd.ntmps30
    go_wp2_with fail
    refine (unhide HR).mono ?_
    rintro e w1 ⟨v, rfl, ho, hb⟩
    obtain ⟨a, cp, rfl⟩ := ho.form
    clear ho
    go_wp2_with fail
    go_ret
    exact ⟨by show Ending.returned (.bool (k == 0)) = _; rw [show (k == 0) = false from by simp [h0], show decide (k = 0) = false from by simp [h0]], belOn hb (bel1 _ _)⟩

namespace Plain
theorem bel2C (w : World) (a b : Obj) : Below w.heap.size w ((w.alloc a).alloc b) := belOn (bel1 w a) (bel1 _ b)
/-- A block of seven cells. -/
structure Sev (b : Nat) (ss sr op : Int) (rp tg dg tx : ByteArray) (W : World) : Prop where
  c0 : W.cell? ⟨b, 0, none⟩ = some (.int .i64 ss)
  c1 : W.cell? ⟨b, 1, none⟩ = some (.int .i64 sr)
  c2 : W.cell? ⟨b, 2, none⟩ = some (.int .i64 op)
  c3 : W.cell? ⟨b, 3, none⟩ = some (.string rp)
  c4 : W.cell? ⟨b, 4, none⟩ = some (.string tg)
  c5 : W.cell? ⟨b, 5, none⟩ = some (.string dg)
  c6 : W.cell? ⟨b, 6, none⟩ = some (.string tx)
theorem Sev.keep {b : Nat} {ss sr op : Int} {rp tg dg tx : ByteArray} {W W' : World} (h : Sev b ss sr op rp tg dg tx W) (hb : Below W.heap.size W W') : Sev b ss sr op rp tg dg tx W' :=
  have l := lt_of_cell h.c0
  ⟨bcl hb l h.c0, bcl hb l h.c1, bcl hb l h.c2, bcl hb l h.c3, bcl hb l h.c4, bcl hb l h.c5, bcl hb l h.c6⟩
theorem Sev.new (w : World) (ss sr op : Int) (rp tg dg tx : ByteArray) (T : TypeId) : Sev w.heap.size ss sr op rp tg dg tx (w.alloc (.cells #[.int .i64 ss, .int .i64 sr, .int .i64 op, .string rp, .string tg, .string dg, .string tx] T)) :=
  ⟨by simp [go_sem], by simp [go_sem], by simp [go_sem], by simp [go_sem], by simp [go_sem], by simp [go_sem], by simp [go_sem]⟩
end Plain

set_option maxRecDepth 10000 in
set_option maxHeartbeats 4000000 in
theorem formed1_calls (ss sr op : Int) (rp tg dg tx : ByteArray) (w : World) (hop : op = 1 ∨ op = 7) (hd : dg.size ≤ 1000000000000) :
    Calls Tryd.prog 15 #[.agg #[.int .i64 ss, .int .i64 sr, .int .i64 op, .string rp, .string tg, .string dg, .string tx]] w fun e w' => e = .returned (.bool (((digB dg && (nilB rp && (nilB tg && nilB tx))) && numC ss) && numC sr)) ∧ Below w.heap.size w w' := by
  obtain ⟨D, hD⟩ : ∃ D, digB dg = D := ⟨_, rfl⟩
  obtain ⟨N1, hN1⟩ : ∃ D, numC ss = D := ⟨_, rfl⟩
  obtain ⟨N2, hN2⟩ : ∃ D, numC sr = D := ⟨_, rfl⟩
  have HD := hide (fun W => impl_DigestOk dg W hd)
  have H1 := hide (fun W => numberOkC_calls ss W)
  have H2 := hide (fun W => numberOkC_calls sr W)
  rw [hD] at HD
  rw [hN1] at H1
  rw [hN2] at H2
  rw [hD, hN1, hN2]
  clear hD hN1 hN2
  rcases hop with rfl | rfl
  all_goals
    go_enter Tryd.func15, Tryd.ntmps15
    go_wp2_with (first
      | (go_at_call 29; refine (unhide HD _).mono ?_; rintro e w' ⟨rfl, rfl⟩)
      | (go_at_call_of 33 ss; refine (unhide H1 _).mono ?_; rintro e w' ⟨rfl, rfl⟩)
      | (go_at_call_of 33 sr; refine (unhide H2 _).mono ?_; rintro e w' ⟨rfl, rfl⟩))
    all_goals go_ret
    all_goals refine ⟨?_, bel2C _ _ _⟩
    all_goals (show Ending.returned (.bool _) = Ending.returned (.bool _); unfold nilB; simp [*])

set_option maxRecDepth 10000 in
set_option maxHeartbeats 4000000 in
theorem formed2_calls (ss sr : Int) (rp tg dg tx : ByteArray) (w : World) (ht : tx.size ≤ 10000000) :
    Calls Tryd.prog 15 #[.agg #[.int .i64 ss, .int .i64 sr, .int .i64 2, .string rp, .string tg, .string dg, .string tx]] w fun e w' => e = .returned (.bool (((manK tx && (nilB rp && (nilB tg && nilB dg))) && numC ss) && numC sr)) ∧ Below w.heap.size w w' := by
  obtain ⟨D, hD⟩ : ∃ D, manK tx = D := ⟨_, rfl⟩
  obtain ⟨N1, hN1⟩ : ∃ D, numC ss = D := ⟨_, rfl⟩
  obtain ⟨N2, hN2⟩ : ∃ D, numC sr = D := ⟨_, rfl⟩
  have HD := hide (fun W => manifestTextOk_calls tx W ht)
  have H1 := hide (fun W => numberOkC_calls ss W)
  have H2 := hide (fun W => numberOkC_calls sr W)
  rw [hD] at HD
  rw [hN1] at H1
  rw [hN2] at H2
  rw [hD, hN1, hN2]
  clear hD hN1 hN2
  obtain ⟨W1, hW1⟩ : ∃ W1, W1 = (w.alloc (.cells #[.int .i64 ss, .int .i64 sr, .int .i64 2, .string rp, .string tg, .string dg, .string tx] 26)).alloc (.cells #[.int .i64 ss, .int .i64 sr, .int .i64 2, .string ⟨#[]⟩, .string ⟨#[]⟩, .string ⟨#[]⟩, .string tx] 26) := ⟨_, rfl⟩
  have hb1 : Below w.heap.size w W1 := by rw [hW1]; exact bel2C _ _ _
  have hA : Sev w.heap.size ss sr 2 rp tg dg tx W1 := by rw [hW1]; exact (Sev.new w ss sr 2 rp tg dg tx _).keep (bel1 _ _)
  have hB : Sev (w.heap.size + 1) ss sr 2 ⟨#[]⟩ ⟨#[]⟩ ⟨#[]⟩ tx W1 := by
    have := Sev.new (w.alloc (.cells #[.int .i64 ss, .int .i64 sr, .int .i64 2, .string rp, .string tg, .string dg, .string tx] 26)) ss sr 2 ⟨#[]⟩ ⟨#[]⟩ ⟨#[]⟩ tx 26
    rw [hW1]
    simpa using this
  have HB1 := hide hb1
  have HA := hide hA
  have HB := hide hB
  have HW1 := hide hW1.symm
  clear hb1 hA hB hW1
  go_enter Tryd.func15, Tryd.ntmps15
  go_wp2_with fail
  rw [unhide HW1]
  refine (unhide HD _).mono ?_
  rintro e w2 ⟨rfl, hb2⟩
  obtain ⟨a0, a1, a2, a3, a4, a5, a6⟩ := (unhide HA).keep hb2
  obtain ⟨b0, b1, b2, b3, b4, b5, b6⟩ := (unhide HB).keep hb2
  have HB2 := hide (belOn (unhide HB1) hb2)
  clear hb2
  go_wp2_with (first
    | (go_at_call_of 33 ss; refine (unhide H1 _).mono ?_; rintro e w' ⟨rfl, rfl⟩)
    | (go_at_call_of 33 sr; refine (unhide H2 _).mono ?_; rintro e w' ⟨rfl, rfl⟩))
  all_goals go_ret
  all_goals refine ⟨?_, unhide HB2⟩
  all_goals (show Ending.returned (.bool _) = Ending.returned (.bool _); unfold nilB; simp [*])

set_option maxRecDepth 10000 in
set_option maxHeartbeats 4000000 in
theorem formed5_calls (ss sr op : Int) (rp tg dg tx : ByteArray) (w : World) (hop : op = 5 ∨ op = 6) :
    Calls Tryd.prog 15 #[.agg #[.int .i64 ss, .int .i64 sr, .int .i64 op, .string rp, .string tg, .string dg, .string tx]] w fun e w' => e = .returned (.bool (((nilB rp && (nilB tg && (nilB dg && nilB tx))) && numC ss) && numC sr)) ∧ Below w.heap.size w w' := by
  obtain ⟨N1, hN1⟩ : ∃ D, numC ss = D := ⟨_, rfl⟩
  obtain ⟨N2, hN2⟩ : ∃ D, numC sr = D := ⟨_, rfl⟩
  have H1 := hide (fun W => numberOkC_calls ss W)
  have H2 := hide (fun W => numberOkC_calls sr W)
  rw [hN1] at H1
  rw [hN2] at H2
  rw [hN1, hN2]
  clear hN1 hN2
  rcases hop with rfl | rfl
  all_goals
    go_enter Tryd.func15, Tryd.ntmps15
    go_wp2_with (first
      | (go_at_call_of 33 ss; refine (unhide H1 _).mono ?_; rintro e w' ⟨rfl, rfl⟩)
      | (go_at_call_of 33 sr; refine (unhide H2 _).mono ?_; rintro e w' ⟨rfl, rfl⟩))
    all_goals go_ret
    all_goals refine ⟨?_, bel2C _ _ _⟩
    all_goals (show Ending.returned (.bool _) = Ending.returned (.bool _); unfold nilB; simp [*])

set_option maxRecDepth 10000 in
set_option maxHeartbeats 4000000 in
theorem formed0_calls (ss sr op : Int) (rp tg dg tx : ByteArray) (w : World) (h1 : op ≠ 1) (h2 : op ≠ 2) (h3 : op ≠ 3) (h4 : op ≠ 4) (h5 : op ≠ 5) (h6 : op ≠ 6) (h7 : op ≠ 7) :
    Calls Tryd.prog 15 #[.agg #[.int .i64 ss, .int .i64 sr, .int .i64 op, .string rp, .string tg, .string dg, .string tx]] w fun e w' => e = .returned (.bool false) ∧ Below w.heap.size w w' := by
  go_enter Tryd.func15, Tryd.ntmps15
  go_wp2_with fail
  go_ret
  exact ⟨rfl, bel2C _ _ _⟩

set_option maxRecDepth 10000 in
set_option maxHeartbeats 4000000 in
theorem formed3_calls (ss sr : Int) (rp tg dg tx : ByteArray) (w : World) (hr : rp.size ≤ 1000000000000) (hg : tg.size ≤ 1000000000000) (hd : dg.size ≤ 1000000000000) :
    Calls Tryd.prog 15 #[.agg #[.int .i64 ss, .int .i64 sr, .int .i64 3, .string rp, .string tg, .string dg, .string tx]] w fun e w' => e = .returned (.bool (((((repoB rp && tagB tg) && digB dg) && nilB tx) && numC ss) && numC sr)) ∧ Below w.heap.size w w' := by
  obtain ⟨R, hR⟩ : ∃ D, repoB rp = D := ⟨_, rfl⟩
  obtain ⟨T, hT⟩ : ∃ D, tagB tg = D := ⟨_, rfl⟩
  obtain ⟨D, hD⟩ : ∃ D, digB dg = D := ⟨_, rfl⟩
  obtain ⟨N1, hN1⟩ : ∃ D, numC ss = D := ⟨_, rfl⟩
  obtain ⟨N2, hN2⟩ : ∃ D, numC sr = D := ⟨_, rfl⟩
  have HR := hide (fun W => impl_RepoOk rp W hr)
  have HT := hide (fun W => impl_TagOk tg W hg)
  have HD := hide (fun W => impl_DigestOk dg W hd)
  have H1 := hide (fun W => numberOkC_calls ss W)
  have H2 := hide (fun W => numberOkC_calls sr W)
  rw [hR] at HR
  rw [hT] at HT
  rw [hD] at HD
  rw [hN1] at H1
  rw [hN2] at H2
  rw [hR, hT, hD, hN1, hN2]
  clear hR hT hD hN1 hN2
  obtain ⟨W1, hW1⟩ : ∃ W1, W1 = ((w.alloc (.cells #[.int .i64 ss, .int .i64 sr, .int .i64 3, .string rp, .string tg, .string dg, .string tx] 26)).alloc (.cells #[.int .i64 ss, .int .i64 sr, .int .i64 3, .string rp, .string tg, .string dg, .string ⟨#[]⟩] 26)).drew := ⟨_, rfl⟩
  have hb1 : Below w.heap.size w W1 := by rw [hW1]; exact belDrew (bel2C _ _ _)
  have hA : Sev w.heap.size ss sr 3 rp tg dg tx W1 := by rw [hW1]; exact (Sev.new w ss sr 3 rp tg dg tx _).keep (belDrew (bel1 _ _))
  have hB : Sev (w.heap.size + 1) ss sr 3 rp tg dg ⟨#[]⟩ W1 := by
    have := (Sev.new (w.alloc (.cells #[.int .i64 ss, .int .i64 sr, .int .i64 3, .string rp, .string tg, .string dg, .string tx] 26)) ss sr 3 rp tg dg ⟨#[]⟩ 26).keep (belDrew (Below.refl _ _))
    rw [hW1]
    simpa using this
  have HB1 := hide hb1
  have HA := hide hA
  have HB := hide hB
  have HW1 := hide hW1.symm
  clear hb1 hA hB hW1
  go_enter Tryd.func15, Tryd.ntmps15
  go_wp2_with fail
  go_region
  all_goals (
    go_wp2_with fail
    rw [unhide HW1]
    refine (unhide HR _).mono ?_
    rintro e w2 ⟨rfl, hb2⟩
    obtain ⟨a0, a1, a2, a3, a4, a5, a6⟩ := (unhide HA).keep hb2
    obtain ⟨b0, b1, b2, b3, b4, b5, b6⟩ := (unhide HB).keep hb2
    have HB2 := hide (belOn (unhide HB1) hb2)
    clear hb2
    go_wp2_with (first
      | (go_at_call 32; refine (unhide HT _).mono ?_; rintro e w' ⟨rfl, rfl⟩)
      | (go_at_call 29; refine (unhide HD _).mono ?_; rintro e w' ⟨rfl, rfl⟩)
      | (go_at_call_of 33 ss; refine (unhide H1 _).mono ?_; rintro e w' ⟨rfl, rfl⟩)
      | (go_at_call_of 33 sr; refine (unhide H2 _).mono ?_; rintro e w' ⟨rfl, rfl⟩))
    all_goals go_ret
    all_goals refine ⟨?_, unhide HB2⟩
    all_goals (show Ending.returned (.bool _) = Ending.returned (.bool _); unfold nilB; simp [*]))

set_option maxRecDepth 10000 in
set_option maxHeartbeats 4000000 in
theorem formed4_calls (ss sr : Int) (rp tg dg tx : ByteArray) (w : World) (hr : rp.size ≤ 1000000000000) (hg : tg.size ≤ 1000000000000) (hd : dg.size ≤ 1000000000000) :
    Calls Tryd.prog 15 #[.agg #[.int .i64 ss, .int .i64 sr, .int .i64 4, .string rp, .string tg, .string dg, .string tx]] w fun e w' => e = .returned (.bool ((((repoB rp && tagB tg) && (nilB dg && nilB tx)) && numC ss) && numC sr)) ∧ Below w.heap.size w w' := by
  obtain ⟨R, hR⟩ : ∃ D, repoB rp = D := ⟨_, rfl⟩
  obtain ⟨T, hT⟩ : ∃ D, tagB tg = D := ⟨_, rfl⟩
  obtain ⟨D, hD⟩ : ∃ D, digB dg = D := ⟨_, rfl⟩
  obtain ⟨N1, hN1⟩ : ∃ D, numC ss = D := ⟨_, rfl⟩
  obtain ⟨N2, hN2⟩ : ∃ D, numC sr = D := ⟨_, rfl⟩
  have HR := hide (fun W => impl_RepoOk rp W hr)
  have HT := hide (fun W => impl_TagOk tg W hg)
  have HD := hide (fun W => impl_DigestOk dg W hd)
  have H1 := hide (fun W => numberOkC_calls ss W)
  have H2 := hide (fun W => numberOkC_calls sr W)
  rw [hR] at HR
  rw [hT] at HT
  rw [hD] at HD
  rw [hN1] at H1
  rw [hN2] at H2
  rw [hR, hT, hN1, hN2]
  clear hR hT hD hN1 hN2
  obtain ⟨W1, hW1⟩ : ∃ W1, W1 = ((w.alloc (.cells #[.int .i64 ss, .int .i64 sr, .int .i64 4, .string rp, .string tg, .string dg, .string tx] 26)).alloc (.cells #[.int .i64 ss, .int .i64 sr, .int .i64 4, .string rp, .string tg, .string ⟨#[]⟩, .string ⟨#[]⟩] 26)).drew := ⟨_, rfl⟩
  have hb1 : Below w.heap.size w W1 := by rw [hW1]; exact belDrew (bel2C _ _ _)
  have hA : Sev w.heap.size ss sr 4 rp tg dg tx W1 := by rw [hW1]; exact (Sev.new w ss sr 4 rp tg dg tx _).keep (belDrew (bel1 _ _))
  have hB : Sev (w.heap.size + 1) ss sr 4 rp tg ⟨#[]⟩ ⟨#[]⟩ W1 := by
    have := (Sev.new (w.alloc (.cells #[.int .i64 ss, .int .i64 sr, .int .i64 4, .string rp, .string tg, .string dg, .string tx] 26)) ss sr 4 rp tg ⟨#[]⟩ ⟨#[]⟩ 26).keep (belDrew (Below.refl _ _))
    rw [hW1]
    simpa using this
  have HB1 := hide hb1
  have HA := hide hA
  have HB := hide hB
  have HW1 := hide hW1.symm
  clear hb1 hA hB hW1
  go_enter Tryd.func15, Tryd.ntmps15
  go_wp2_with fail
  go_region
  all_goals (
    go_wp2_with fail
    rw [unhide HW1]
    refine (unhide HR _).mono ?_
    rintro e w2 ⟨rfl, hb2⟩
    obtain ⟨a0, a1, a2, a3, a4, a5, a6⟩ := (unhide HA).keep hb2
    obtain ⟨b0, b1, b2, b3, b4, b5, b6⟩ := (unhide HB).keep hb2
    have HB2 := hide (belOn (unhide HB1) hb2)
    clear hb2
    go_wp2_with (first
      | (go_at_call 32; refine (unhide HT _).mono ?_; rintro e w' ⟨rfl, rfl⟩)
      | (go_at_call 29; refine (unhide HD _).mono ?_; rintro e w' ⟨rfl, rfl⟩)
      | (go_at_call_of 33 ss; refine (unhide H1 _).mono ?_; rintro e w' ⟨rfl, rfl⟩)
      | (go_at_call_of 33 sr; refine (unhide H2 _).mono ?_; rintro e w' ⟨rfl, rfl⟩))
    all_goals go_ret
    all_goals refine ⟨?_, unhide HB2⟩
    all_goals (show Ending.returned (.bool _) = Ending.returned (.bool _); unfold nilB; simp [*]))

set_option maxRecDepth 10000 in
theorem formed_calls (ss sr op : Int) (rp tg dg tx : ByteArray) (w : World) (hr : rp.size ≤ 1000000000000) (hg : tg.size ≤ 1000000000000) (hd : dg.size ≤ 1000000000000) (ht : tx.size ≤ 10000000) :
    Calls Tryd.prog 15 #[.agg #[.int .i64 ss, .int .i64 sr, .int .i64 op, .string rp, .string tg, .string dg, .string tx]] w fun e w' => e = .returned (.bool (fmB ss sr op rp tg dg tx)) ∧ Below w.heap.size w w' := by
  by_cases h1 : op = 1 ∨ op = 7
  · rw [show fmB ss sr op rp tg dg tx = (((digB dg && (nilB rp && (nilB tg && nilB tx))) && numC ss) && numC sr) from by unfold fmB fldB; rw [if_pos h1, Bool.eq_iff_iff]; simp; constructor <;> simp_all]
    exact formed1_calls ss sr op rp tg dg tx w h1 hd
  by_cases h2 : op = 2
  · rw [show fmB ss sr op rp tg dg tx = (((manK tx && (nilB rp && (nilB tg && nilB dg))) && numC ss) && numC sr) from by unfold fmB fldB; rw [if_neg h1, if_pos h2, Bool.eq_iff_iff]; simp; constructor <;> simp_all]
    subst h2
    exact formed2_calls ss sr rp tg dg tx w ht
  by_cases h3 : op = 3
  · rw [show fmB ss sr op rp tg dg tx = (((((repoB rp && tagB tg) && digB dg) && nilB tx) && numC ss) && numC sr) from by unfold fmB fldB; rw [if_neg h1, if_neg h2, if_pos h3, Bool.eq_iff_iff]; simp; constructor <;> simp_all]
    subst h3
    exact formed3_calls ss sr rp tg dg tx w hr hg hd
  by_cases h4 : op = 4
  · rw [show fmB ss sr op rp tg dg tx = ((((repoB rp && tagB tg) && (nilB dg && nilB tx)) && numC ss) && numC sr) from by unfold fmB fldB; rw [if_neg h1, if_neg h2, if_neg h3, if_pos h4, Bool.eq_iff_iff]; simp; constructor <;> simp_all]
    subst h4
    exact formed4_calls ss sr rp tg dg tx w hr hg hd
  by_cases h5 : op = 5 ∨ op = 6
  · rw [show fmB ss sr op rp tg dg tx = (((nilB rp && (nilB tg && (nilB dg && nilB tx))) && numC ss) && numC sr) from by unfold fmB fldB; rw [if_neg h1, if_neg h2, if_neg h3, if_neg h4, if_pos h5, Bool.eq_iff_iff]; simp; constructor <;> simp_all]
    exact formed5_calls ss sr op rp tg dg tx w h5
  · rw [show fmB ss sr op rp tg dg tx = false from by unfold fmB fldB; rw [if_neg h1, if_neg h2, if_neg h3, if_neg h4, if_neg h5]; simp]
    exact formed0_calls ss sr op rp tg dg tx w (fun h => h1 (.inl h)) h2 h3 h4 (fun h => h5 (.inl h)) (fun h => h5 (.inr h)) (fun h => h1 (.inr h))
end Go.Proofs.YtnkjdojpegmlcaaDoor
