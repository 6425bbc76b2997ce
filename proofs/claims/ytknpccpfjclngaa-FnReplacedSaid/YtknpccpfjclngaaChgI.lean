/- The program's names of files, right files and changes by their contracts. -/
import Derived.Test.YtknpccpfjclngaaTblB
namespace Go.Proofs.Ytknpccpfjclngaa
open Go.RowKit Go.Maps Plain
set_option linter.unusedVariables false

theorem fileNameOk_calls (s : ByteArray) (w : World) (hs : s.size ≤ 1000000000000) :
    Calls Try.prog 56 #[.string s] w fun e w' => e = .returned (.bool (nmB s)) ∧ w = w' := by
  unfold nmB
  by_cases h1 : 1 ≤ s.size
  · by_cases h2 : s.size ≤ 100
    · rw [decide_eq_true h1, decide_eq_true h2]
      have h3 : decide ((s.size : Int) ≤ 100) = true := decide_eq_true (by omega)
      go_enter Try.func56, Try.ntmps56
      go_wp2
      go_ret
      exact ⟨rfl, rfl⟩
    · rw [decide_eq_true h1, decide_eq_false h2]
      have h3 : decide ((s.size : Int) ≤ 100) = false := decide_eq_false (by omega)
      go_enter Try.func56, Try.ntmps56
      go_wp2
      go_ret
      exact ⟨rfl, rfl⟩
  · rw [decide_eq_false h1]
    go_enter Try.func56, Try.ntmps56
    go_wp2
    go_ret
    exact ⟨rfl, rfl⟩
theorem fileName_quiet (s : ByteArray) (w : World) (n : Nat) (b : Bool) (hs : s.size ≤ 1000000000000) (hb : nmB s = b) :
    Calls Try.prog 56 #[.string s] (w.drewN n) fun e w'' => e = .returned (.bool b) ∧ ∃ m, w'' = w.drewN m := by
  subst hb
  refine (fileNameOk_calls s _ hs).mono ?_
  rintro e w2 ⟨rfl, rfl⟩
  exact ⟨rfl, n, rfl⟩

/-- The change that an op makes. -/
def Plain.chV (o : Dop) : Value :=
  if nmB o.name then
    (if o.kind = 1 then .iface 90 (.agg #[.string o.name, .string o.data])
     else if o.kind = 2 then .iface 99 (.agg #[.string o.name, .string o.to])
     else if o.kind = 3 then .iface 101 (.agg #[.string o.name])
     else .nilIface)
  else .nilIface

set_option maxRecDepth 10000 in
set_option maxHeartbeats 4000000 in
theorem changeOf_calls (o : Dop) (w : World) (hf : FitO o) :
    Calls Try.prog 35 #[dopV o] w fun e w' => e = .returned (.tuple #[chV o, .bool (formB o)]) ∧ Below w.heap.size w w' := by
  obtain ⟨kd, nm, to, dt⟩ := o
  obtain ⟨f1, f2, f3⟩ := hf
  simp only at f1 f2 f3
  obtain ⟨B, hB⟩ : ∃ B, formB ⟨kd, nm, to, dt⟩ = B := ⟨_, rfl⟩
  obtain ⟨V, hV⟩ : ∃ V, chV ⟨kd, nm, to, dt⟩ = V := ⟨_, rfl⟩
  rw [hB, hV]
  unfold formB at hB
  unfold chV at hV
  simp only at hB hV
  unfold dopV
  simp only
  have HB0 := hide (bel1 w (.cells #[.int .i64 kd, .string nm, .string to, .string dt] 50))
  have HB1 := hide (fun k => belN (unhide HB0) k)
  cases hnm : nmB nm with
  | false =>
    rw [hnm] at hB hV
    obtain rfl : B = false := by rw [← hB]; simp
    obtain rfl : V = .nilIface := by rw [← hV]; rfl
    have H := hide hnm
    clear hB hV hnm
    go_enter Try.func35, Try.ntmps35
    go_wp2_with (go_at_call 56; refine (fileNameOk_calls nm _ f1).mono ?_; rintro e w1 ⟨rfl, rfl⟩; rw [unhide H])
    go_ret2
    exact ⟨rfl, unhide HB0⟩
  | true =>
    rw [hnm, if_pos rfl] at hV
    rw [hnm] at hB
    have H := hide hnm
    clear hnm
    by_cases h1 : kd = 1
    · subst h1
      rw [if_pos rfl] at hV
      subst hV
      cases h2 : emp to with
      | false =>
        obtain rfl : B = false := by rw [← hB, if_neg (by decide), h2]; rfl
        unfold emp at h2
        clear hB
        go_enter Try.func35, Try.ntmps35
        go_wp2_with (go_at_call 56; refine (fileNameOk_calls nm _ f1).mono ?_; rintro e w1 ⟨rfl, rfl⟩; rw [unhide H])
        go_quiet (fail)
        all_goals (try go_wp2_with fail)
        all_goals go_ret2
        all_goals exact ⟨rfl, unhide HB1 _⟩
      | true =>
        obtain rfl : B = true := by rw [← hB, if_neg (by decide), h2]; rfl
        unfold emp at h2
        clear hB
        go_enter Try.func35, Try.ntmps35
        go_wp2_with (go_at_call 56; refine (fileNameOk_calls nm _ f1).mono ?_; rintro e w1 ⟨rfl, rfl⟩; rw [unhide H])
        go_quiet (fail)
        all_goals (try go_wp2_with fail)
        all_goals go_ret2
        all_goals exact ⟨rfl, unhide HB1 _⟩
    · have b1 : (kd == 1) = false := by simpa using h1
      rw [if_neg h1] at hV
      by_cases h2 : kd = 2
      · subst h2
        rw [if_pos rfl] at hV
        subst hV
        cases h4 : nmB to with
        | false =>
          have H4 := hide h4
          obtain rfl : B = false := by rw [← hB, if_pos rfl, h4]; rfl
          clear h4
          clear hB
          go_enter Try.func35, Try.ntmps35
          go_wp2_with (go_at_call 56; refine (fileNameOk_calls nm _ f1).mono ?_; rintro e w1 ⟨rfl, rfl⟩; rw [unhide H])
          go_quiet ((go_at_call 56; exact fileName_quiet _ _ _ _ f2 (unhide H4)))
          all_goals (try go_wp2_with fail)
          all_goals go_ret2
          all_goals exact ⟨rfl, unhide HB1 _⟩
        | true =>
          have H4 := hide h4
          cases h5 : emp dt with
          | false =>
            obtain rfl : B = false := by rw [← hB, if_pos rfl, h4, h5]; rfl
            clear h4
            unfold emp at h5
            clear hB
            go_enter Try.func35, Try.ntmps35
            go_wp2_with (go_at_call 56; refine (fileNameOk_calls nm _ f1).mono ?_; rintro e w1 ⟨rfl, rfl⟩; rw [unhide H])
            go_quiet ((go_at_call 56; exact fileName_quiet _ _ _ _ f2 (unhide H4)))
            all_goals (try go_wp2_with fail)
            all_goals go_ret2
            all_goals exact ⟨rfl, unhide HB1 _⟩
          | true =>
            obtain rfl : B = true := by rw [← hB, if_pos rfl, h4, h5]; rfl
            clear h4
            unfold emp at h5
            clear hB
            go_enter Try.func35, Try.ntmps35
            go_wp2_with (go_at_call 56; refine (fileNameOk_calls nm _ f1).mono ?_; rintro e w1 ⟨rfl, rfl⟩; rw [unhide H])
            go_quiet ((go_at_call 56; exact fileName_quiet _ _ _ _ f2 (unhide H4)))
            all_goals (try go_wp2_with fail)
            all_goals go_ret2
            all_goals exact ⟨rfl, unhide HB1 _⟩
      · have b2 : (kd == 2) = false := by simpa using h2
        rw [if_neg h2] at hV hB
        by_cases h3 : kd = 3
        · subst h3
          rw [if_pos rfl] at hV
          subst hV
          cases h4 : emp to with
          | false =>
            obtain rfl : B = false := by rw [← hB, h4]; rfl
            unfold emp at h4
            clear hB
            go_enter Try.func35, Try.ntmps35
            go_wp2_with (go_at_call 56; refine (fileNameOk_calls nm _ f1).mono ?_; rintro e w1 ⟨rfl, rfl⟩; rw [unhide H])
            go_quiet (fail)
            all_goals (try go_wp2_with fail)
            all_goals go_ret2
            all_goals exact ⟨rfl, unhide HB1 _⟩
          | true =>
            cases h5 : emp dt with
            | false =>
              obtain rfl : B = false := by rw [← hB, h4, h5]; rfl
              unfold emp at h4 h5
              clear hB
              go_enter Try.func35, Try.ntmps35
              go_wp2_with (go_at_call 56; refine (fileNameOk_calls nm _ f1).mono ?_; rintro e w1 ⟨rfl, rfl⟩; rw [unhide H])
              go_quiet (fail)
              all_goals (try go_wp2_with fail)
              all_goals go_ret2
              all_goals exact ⟨rfl, unhide HB1 _⟩
            | true =>
              obtain rfl : B = true := by rw [← hB, h4, h5]; rfl
              unfold emp at h4 h5
              clear hB
              go_enter Try.func35, Try.ntmps35
              go_wp2_with (go_at_call 56; refine (fileNameOk_calls nm _ f1).mono ?_; rintro e w1 ⟨rfl, rfl⟩; rw [unhide H])
              go_quiet (fail)
              all_goals (try go_wp2_with fail)
              all_goals go_ret2
              all_goals exact ⟨rfl, unhide HB1 _⟩
        · have b3 : (kd == 3) = false := by simpa using h3
          rw [if_neg h3] at hV
          subst hV
          obtain rfl : B = false := by
            rw [← hB]
            by_cases h6 : 1 ≤ kd
            · rw [decide_eq_false (show ¬ kd ≤ 3 by omega)]; simp
            · rw [decide_eq_false h6]; simp
          clear hB
          go_enter Try.func35, Try.ntmps35
          go_wp2_with (go_at_call 56; refine (fileNameOk_calls nm _ f1).mono ?_; rintro e w1 ⟨rfl, rfl⟩; rw [unhide H])
          go_ret2
          exact ⟨rfl, unhide HB0⟩
end Go.Proofs.Ytknpccpfjclngaa
