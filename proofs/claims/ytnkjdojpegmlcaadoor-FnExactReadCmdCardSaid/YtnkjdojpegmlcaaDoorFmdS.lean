/- Whether a command is formed, by the specification. -/
import Derived.Test.YtnkjdojpegmlcaaDoorFmdI
import Derived.Test.YtnkjdojpegmlcaaDoorRepS
import Derived.Test.YtnkjdojpegmlcaaDoorManJ
namespace Go.Proofs.YtnkjdojpegmlcaaDoor
open Go.RowKit Plain
set_option linter.unusedVariables false

theorem l1InC_calls (n : Int) (w : World) : Calls Tryd.prog 24 #[.int .i64 n, .int .i64 0, .int .i64 1000000000000] w fun e w' => e = .returned (.bool (numC n)) ∧ w = w' := l1In_calls n 0 1000000000000 w

set_option maxRecDepth 10000 in
set_option maxHeartbeats 4000000 in
theorem l12F1_calls (ss sr op : Int) (rp tg dg tx : ByteArray) (w : World) (hop : op = 1 ∨ op = 7) (hd : dg.size ≤ 1000000000000) :
    Calls Tryd.prog 12 #[.agg #[.int .i64 ss, .int .i64 sr, .int .i64 op, .string rp, .string tg, .string dg, .string tx]] w fun e w' => e = .returned (.bool ((numC ss && numC sr) && ((nilB rp && nilB tg) && (nilB tx && digB dg)))) ∧ Below w.heap.size w w' := by
  obtain ⟨N1, hN1⟩ : ∃ D, numC ss = D := ⟨_, rfl⟩
  obtain ⟨N2, hN2⟩ : ∃ D, numC sr = D := ⟨_, rfl⟩
  have H1 := hide (fun W => l1InC_calls ss W)
  have H2 := hide (fun W => l1InC_calls sr W)
  rw [hN1] at H1
  rw [hN2] at H2
  rw [hN1, hN2]
  clear hN1 hN2
  obtain ⟨D, hD⟩ : ∃ D, digB dg = D := ⟨_, rfl⟩
  have HD := hide (fun W => spec_DigestOk dg W hd)
  rw [hD] at HD
  rw [hD]
  clear hD
  rcases hop with rfl | rfl
  all_goals
    go_enter Tryd.func12, Tryd.ntmps12
    go_wp2_with (first
      | (go_at_call_of 24 ss; refine (unhide H1 _).mono ?_; rintro e w' ⟨rfl, rfl⟩)
      | (go_at_call_of 24 sr; refine (unhide H2 _).mono ?_; rintro e w' ⟨rfl, rfl⟩)
      | (go_at_call 25; refine (unhide HD _).mono ?_; rintro e w' ⟨rfl, rfl⟩))
    all_goals go_ret
    all_goals refine ⟨?_, by first | exact bel1 _ _ | exact belOn (bel1 _ _) hb2 | exact belOn (belOn (bel1 _ _) hb2) (bel1 _ _)⟩
    all_goals (show Ending.returned (.bool _) = Ending.returned (.bool _); (try unfold nilB); congr 2; rw [Bool.eq_iff_iff]; simp_all)

set_option maxRecDepth 10000 in
set_option maxHeartbeats 4000000 in
theorem l12F5_calls (ss sr op : Int) (rp tg dg tx : ByteArray) (w : World) (hop : op = 5 ∨ op = 6) :
    Calls Tryd.prog 12 #[.agg #[.int .i64 ss, .int .i64 sr, .int .i64 op, .string rp, .string tg, .string dg, .string tx]] w fun e w' => e = .returned (.bool ((numC ss && numC sr) && ((nilB rp && nilB tg) && (nilB tx && nilB dg)))) ∧ Below w.heap.size w w' := by
  obtain ⟨N1, hN1⟩ : ∃ D, numC ss = D := ⟨_, rfl⟩
  obtain ⟨N2, hN2⟩ : ∃ D, numC sr = D := ⟨_, rfl⟩
  have H1 := hide (fun W => l1InC_calls ss W)
  have H2 := hide (fun W => l1InC_calls sr W)
  rw [hN1] at H1
  rw [hN2] at H2
  rw [hN1, hN2]
  clear hN1 hN2
  skip
  rcases hop with rfl | rfl
  all_goals
    go_enter Tryd.func12, Tryd.ntmps12
    go_wp2_with (first
      | (go_at_call_of 24 ss; refine (unhide H1 _).mono ?_; rintro e w' ⟨rfl, rfl⟩)
      | (go_at_call_of 24 sr; refine (unhide H2 _).mono ?_; rintro e w' ⟨rfl, rfl⟩))
    all_goals go_ret
    all_goals refine ⟨?_, by first | exact bel1 _ _ | exact belOn (bel1 _ _) hb2 | exact belOn (belOn (bel1 _ _) hb2) (bel1 _ _)⟩
    all_goals (show Ending.returned (.bool _) = Ending.returned (.bool _); (try unfold nilB); congr 2; rw [Bool.eq_iff_iff]; simp_all)

set_option maxRecDepth 10000 in
set_option maxHeartbeats 4000000 in
theorem l12F3_calls (ss sr : Int) (rp tg dg tx : ByteArray) (w : World) (hr : rp.size ≤ 1000000000000) (hg : tg.size ≤ 1000000000000) (hd : dg.size ≤ 1000000000000) :
    Calls Tryd.prog 12 #[.agg #[.int .i64 ss, .int .i64 sr, .int .i64 3, .string rp, .string tg, .string dg, .string tx]] w fun e w' => e = .returned (.bool ((numC ss && numC sr) && (nilB tx && ((repoB rp && tagB tg) && digB dg)))) ∧ Below w.heap.size w w' := by
  obtain ⟨N1, hN1⟩ : ∃ D, numC ss = D := ⟨_, rfl⟩
  obtain ⟨N2, hN2⟩ : ∃ D, numC sr = D := ⟨_, rfl⟩
  have H1 := hide (fun W => l1InC_calls ss W)
  have H2 := hide (fun W => l1InC_calls sr W)
  rw [hN1] at H1
  rw [hN2] at H2
  rw [hN1, hN2]
  clear hN1 hN2
  obtain ⟨R, hR⟩ : ∃ D, repoB rp = D := ⟨_, rfl⟩
  have HR := hide (fun W => spec_RepoOk rp W hr)
  rw [hR] at HR
  rw [hR]
  clear hR
  obtain ⟨T, hT⟩ : ∃ D, tagB tg = D := ⟨_, rfl⟩
  have HT := hide (fun W => spec_TagOk tg W hg)
  rw [hT] at HT
  rw [hT]
  clear hT
  obtain ⟨D, hD⟩ : ∃ D, digB dg = D := ⟨_, rfl⟩
  have HD := hide (fun W => spec_DigestOk dg W hd)
  rw [hD] at HD
  rw [hD]
  clear hD
  skip
  all_goals
    go_enter Tryd.func12, Tryd.ntmps12
    go_wp2_with (first
      | (go_at_call_of 24 ss; refine (unhide H1 _).mono ?_; rintro e w' ⟨rfl, rfl⟩)
      | (go_at_call_of 24 sr; refine (unhide H2 _).mono ?_; rintro e w' ⟨rfl, rfl⟩)
      | (go_at_call 27; refine (unhide HR _).mono ?_; rintro e w2 ⟨rfl, hb2⟩; obtain ⟨a0, a1, a2, a3, a4, a5, a6⟩ := (Sev.new w ss sr 3 rp tg dg tx _).keep hb2)
      | (go_at_call 28; refine (unhide HT _).mono ?_; rintro e w' ⟨rfl, rfl⟩)
      | (go_at_call 25; refine (unhide HD _).mono ?_; rintro e w' ⟨rfl, rfl⟩))
    all_goals go_ret
    all_goals refine ⟨?_, by first | exact bel1 _ _ | exact belOn (bel1 _ _) hb2 | exact belOn (belOn (bel1 _ _) hb2) (bel1 _ _)⟩
    all_goals (show Ending.returned (.bool _) = Ending.returned (.bool _); (try unfold nilB); congr 2; rw [Bool.eq_iff_iff]; simp_all)

set_option maxRecDepth 10000 in
set_option maxHeartbeats 4000000 in
theorem l12F4_calls (ss sr : Int) (rp tg dg tx : ByteArray) (w : World) (hr : rp.size ≤ 1000000000000) (hg : tg.size ≤ 1000000000000) :
    Calls Tryd.prog 12 #[.agg #[.int .i64 ss, .int .i64 sr, .int .i64 4, .string rp, .string tg, .string dg, .string tx]] w fun e w' => e = .returned (.bool ((numC ss && numC sr) && ((nilB tx && nilB dg) && (repoB rp && tagB tg)))) ∧ Below w.heap.size w w' := by
  obtain ⟨N1, hN1⟩ : ∃ D, numC ss = D := ⟨_, rfl⟩
  obtain ⟨N2, hN2⟩ : ∃ D, numC sr = D := ⟨_, rfl⟩
  have H1 := hide (fun W => l1InC_calls ss W)
  have H2 := hide (fun W => l1InC_calls sr W)
  rw [hN1] at H1
  rw [hN2] at H2
  rw [hN1, hN2]
  clear hN1 hN2
  obtain ⟨R, hR⟩ : ∃ D, repoB rp = D := ⟨_, rfl⟩
  have HR := hide (fun W => spec_RepoOk rp W hr)
  rw [hR] at HR
  rw [hR]
  clear hR
  obtain ⟨T, hT⟩ : ∃ D, tagB tg = D := ⟨_, rfl⟩
  have HT := hide (fun W => spec_TagOk tg W hg)
  rw [hT] at HT
  rw [hT]
  clear hT
  skip
  all_goals
    go_enter Tryd.func12, Tryd.ntmps12
    go_wp2_with (first
      | (go_at_call_of 24 ss; refine (unhide H1 _).mono ?_; rintro e w' ⟨rfl, rfl⟩)
      | (go_at_call_of 24 sr; refine (unhide H2 _).mono ?_; rintro e w' ⟨rfl, rfl⟩)
      | (go_at_call 27; refine (unhide HR _).mono ?_; rintro e w2 ⟨rfl, hb2⟩; obtain ⟨a0, a1, a2, a3, a4, a5, a6⟩ := (Sev.new w ss sr 4 rp tg dg tx _).keep hb2)
      | (go_at_call 28; refine (unhide HT _).mono ?_; rintro e w' ⟨rfl, rfl⟩))
    all_goals go_ret
    all_goals refine ⟨?_, by first | exact bel1 _ _ | exact belOn (bel1 _ _) hb2 | exact belOn (belOn (bel1 _ _) hb2) (bel1 _ _)⟩
    all_goals (show Ending.returned (.bool _) = Ending.returned (.bool _); (try unfold nilB); congr 2; rw [Bool.eq_iff_iff]; simp_all)

set_option maxRecDepth 10000 in
set_option maxHeartbeats 4000000 in
theorem l12F2_calls (ss sr : Int) (rp tg dg tx : ByteArray) (w : World) (ht : tx.size ≤ 10000000) :
    Calls Tryd.prog 12 #[.agg #[.int .i64 ss, .int .i64 sr, .int .i64 2, .string rp, .string tg, .string dg, .string tx]] w fun e w' => e = .returned (.bool ((numC ss && numC sr) && ((nilB rp && nilB tg) && (nilB dg && manK tx)))) ∧ Below w.heap.size w w' := by
  obtain ⟨N1, hN1⟩ : ∃ D, numC ss = D := ⟨_, rfl⟩
  obtain ⟨N2, hN2⟩ : ∃ D, numC sr = D := ⟨_, rfl⟩
  have H1 := hide (fun W => l1InC_calls ss W)
  have H2 := hide (fun W => l1InC_calls sr W)
  rw [hN1] at H1
  rw [hN2] at H2
  rw [hN1, hN2]
  clear hN1 hN2
  obtain ⟨k, hk⟩ : ∃ k, (rmV (cutB 10 tx)).2.2 = k := ⟨_, rfl⟩
  rw [show manK tx = decide (k = 0) from by unfold manK; rw [hk]]
  have HM := hide (fun W => spec_ReadManifest tx W ht)
  unfold RmPost at HM
  rw [hk] at HM
  clear hk
  skip
  all_goals
    go_enter Tryd.func12, Tryd.ntmps12
    go_wp2_with (first
      | (go_at_call_of 24 ss; refine (unhide H1 _).mono ?_; rintro e w' ⟨rfl, rfl⟩)
      | (go_at_call_of 24 sr; refine (unhide H2 _).mono ?_; rintro e w' ⟨rfl, rfl⟩)
      | (go_at_call 26; refine (unhide HM _).mono ?_; rintro e w2 ⟨v, rfl, ho, hb2⟩; obtain ⟨a, cp, rfl⟩ := ho.form; clear ho; obtain ⟨a0, a1, a2, a3, a4, a5, a6⟩ := (Sev.new w ss sr 2 rp tg dg tx _).keep hb2; have l2 := lt_of_cell a0))
    all_goals go_ret
    all_goals refine ⟨?_, by first | exact bel1 _ _ | exact belOn (bel1 _ _) hb2 | exact belOn (belOn (bel1 _ _) hb2) (bel1 _ _)⟩
    all_goals (show Ending.returned (.bool _) = Ending.returned (.bool _); (try unfold nilB); congr 2; rw [Bool.eq_iff_iff]; simp_all)

set_option maxRecDepth 10000 in
set_option maxHeartbeats 4000000 in
theorem l12F0_calls (ss sr op : Int) (rp tg dg tx : ByteArray) (w : World) (h1 : op ≠ 1) (h2 : op ≠ 2) (h3 : op ≠ 3) (h4 : op ≠ 4) (h5 : op ≠ 5) (h6 : op ≠ 6) (h7 : op ≠ 7) :
    Calls Tryd.prog 12 #[.agg #[.int .i64 ss, .int .i64 sr, .int .i64 op, .string rp, .string tg, .string dg, .string tx]] w fun e w' => e = .returned (.bool false) ∧ Below w.heap.size w w' := by
  obtain ⟨N1, hN1⟩ : ∃ D, numC ss = D := ⟨_, rfl⟩
  obtain ⟨N2, hN2⟩ : ∃ D, numC sr = D := ⟨_, rfl⟩
  have H1 := hide (fun W => l1InC_calls ss W)
  have H2 := hide (fun W => l1InC_calls sr W)
  rw [hN1] at H1
  rw [hN2] at H2
  clear hN1 hN2
  go_enter Tryd.func12, Tryd.ntmps12
  go_wp2_with (first
    | (go_at_call_of 24 ss; refine (unhide H1 _).mono ?_; rintro e w' ⟨rfl, rfl⟩)
    | (go_at_call_of 24 sr; refine (unhide H2 _).mono ?_; rintro e w' ⟨rfl, rfl⟩))
  all_goals go_ret
  all_goals exact ⟨rfl, bel1 _ _⟩

set_option maxRecDepth 10000 in
theorem l12Formed_calls (ss sr op : Int) (rp tg dg tx : ByteArray) (w : World) (hr : rp.size ≤ 1000000000000) (hg : tg.size ≤ 1000000000000) (hd : dg.size ≤ 1000000000000) (ht : tx.size ≤ 10000000) :
    Calls Tryd.prog 12 #[.agg #[.int .i64 ss, .int .i64 sr, .int .i64 op, .string rp, .string tg, .string dg, .string tx]] w fun e w' => e = .returned (.bool (fmB ss sr op rp tg dg tx)) ∧ Below w.heap.size w w' := by
  by_cases h1 : op = 1 ∨ op = 7
  · rw [show fmB ss sr op rp tg dg tx = ((numC ss && numC sr) && ((nilB rp && nilB tg) && (nilB tx && digB dg))) from by unfold fmB fldB; rw [if_pos h1, Bool.and_assoc (nilB rp && nilB tg)]]
    exact l12F1_calls ss sr op rp tg dg tx w h1 hd
  by_cases h2 : op = 2
  · rw [show fmB ss sr op rp tg dg tx = ((numC ss && numC sr) && ((nilB rp && nilB tg) && (nilB dg && manK tx))) from by unfold fmB fldB; rw [if_neg h1, if_pos h2, Bool.and_assoc (nilB rp && nilB tg)]]
    subst h2
    exact l12F2_calls ss sr rp tg dg tx w ht
  by_cases h3 : op = 3
  · rw [show fmB ss sr op rp tg dg tx = ((numC ss && numC sr) && (nilB tx && ((repoB rp && tagB tg) && digB dg))) from by unfold fmB fldB; rw [if_neg h1, if_neg h2, if_pos h3]]
    subst h3
    exact l12F3_calls ss sr rp tg dg tx w hr hg hd
  by_cases h4 : op = 4
  · rw [show fmB ss sr op rp tg dg tx = ((numC ss && numC sr) && ((nilB tx && nilB dg) && (repoB rp && tagB tg))) from by unfold fmB fldB; rw [if_neg h1, if_neg h2, if_neg h3, if_pos h4]]
    subst h4
    exact l12F4_calls ss sr rp tg dg tx w hr hg
  by_cases h5 : op = 5 ∨ op = 6
  · rw [show fmB ss sr op rp tg dg tx = ((numC ss && numC sr) && ((nilB rp && nilB tg) && (nilB tx && nilB dg))) from by unfold fmB fldB; rw [if_neg h1, if_neg h2, if_neg h3, if_neg h4, if_pos h5, Bool.and_assoc (nilB rp && nilB tg)]]
    exact l12F5_calls ss sr op rp tg dg tx w h5
  · rw [show fmB ss sr op rp tg dg tx = false from by unfold fmB fldB; rw [if_neg h1, if_neg h2, if_neg h3, if_neg h4, if_neg h5]; simp]
    exact l12F0_calls ss sr op rp tg dg tx w (fun h => h1 (.inl h)) h2 h3 h4 (fun h => h5 (.inl h)) (fun h => h5 (.inr h)) (fun h => h1 (.inr h))
end Go.Proofs.YtnkjdojpegmlcaaDoor
