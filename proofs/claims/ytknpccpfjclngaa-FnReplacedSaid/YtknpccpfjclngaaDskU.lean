/- The specification's ops: which are of their form, what they do. -/
import Derived.Test.YtknpccpfjclngaaDskT
import Derived.Test.YtknpccpfjclngaaGAD
namespace Go.Proofs.Ytknpccpfjclngaa
open Go.RowKit Plain
set_option linter.unusedVariables false

/-- An op's value. -/
def Plain.dopV (o : Dop) : Value := .agg #[.int .i64 o.kind, .string o.name, .string o.to, .string o.data]
def Plain.FitO (o : Dop) : Prop := o.name.size ≤ 1000000000000 ∧ o.to.size ≤ 1000000000000 ∧ o.data.size ≤ 1000000000000

set_option maxHeartbeats 4000000 in
theorem l4Form_calls (o : Dop) (w : World) (hf : FitO o) :
    Calls Try.prog 31 #[dopV o] w fun e w' => e = .returned (.bool (formB o)) ∧ Below w.heap.size w w' := by
  obtain ⟨kd, nm, to, dt⟩ := o
  obtain ⟨f1, f2, f3⟩ := hf
  simp only at f1 f2 f3
  unfold dopV formB
  simp only
  have HB0 := hide (bel1 w (.cells #[.int .i64 kd, .string nm, .string to, .string dt] 50))
  cases h1 : (decide (1 ≤ kd) && decide (kd ≤ 3)) with
  | false =>
    have H1 := hide h1
    clear h1
    show Calls Try.prog 31 _ w fun e w' => e = .returned (.bool false) ∧ Below w.heap.size w w'
    go_enter Try.func31, Try.ntmps31
    go_wp2_with (go_at_call 22; refine (l1In_calls _ 1 3 _).mono ?_; rintro e w1 ⟨rfl, rfl⟩; try rw [unhide H1])
    go_ret
    exact ⟨rfl, unhide HB0⟩
  | true =>
    have H1 := hide h1
    clear h1
    cases h2 : nmB nm with
    | false =>
      have H2 := hide h2
      clear h2
      show Calls Try.prog 31 _ w fun e w' => e = .returned (.bool false) ∧ Below w.heap.size w w'
      go_enter Try.func31, Try.ntmps31
      go_wp2_with (first | (go_at_call 22; refine (l1In_calls _ 1 3 _).mono ?_; rintro e w1 ⟨rfl, rfl⟩; try rw [unhide H1]) | (go_at_call 52; refine (l4Name_calls nm _ f1).mono ?_; rintro e w1 ⟨rfl, rfl⟩; rw [unhide H2]))
      go_ret
      exact ⟨rfl, unhide HB0⟩
    | true =>
      have H2 := hide h2
      clear h2
      by_cases h3 : kd = 2
      · subst h3
        rw [if_pos rfl]
        cases h4 : nmB to with
        | false =>
          have H4 := hide h4
          clear h4
          show Calls Try.prog 31 _ w fun e w' => e = .returned (.bool false) ∧ Below w.heap.size w w'
          go_enter Try.func31, Try.ntmps31
          go_wp2_with (first | (go_at_call 22; refine (l1In_calls _ 1 3 _).mono ?_; rintro e w1 ⟨rfl, rfl⟩; try rw [unhide H1]) | (go_at_call_of 52 nm; refine (l4Name_calls nm _ f1).mono ?_; rintro e w1 ⟨rfl, rfl⟩; rw [unhide H2]) | (go_at_call_of 52 to; refine (l4Name_calls to _ f2).mono ?_; rintro e w1 ⟨rfl, rfl⟩; rw [unhide H4]))
          go_ret
          exact ⟨rfl, unhide HB0⟩
        | true =>
          have H4 := hide h4
          clear h4
          cases h5 : emp dt with
          | true =>
            unfold emp at h5
            show Calls Try.prog 31 _ w fun e w' => e = .returned (.bool true) ∧ Below w.heap.size w w'
            go_enter Try.func31, Try.ntmps31
            go_wp2_with (first | (go_at_call 22; refine (l1In_calls _ 1 3 _).mono ?_; rintro e w1 ⟨rfl, rfl⟩; try rw [unhide H1]) | (go_at_call_of 52 nm; refine (l4Name_calls nm _ f1).mono ?_; rintro e w1 ⟨rfl, rfl⟩; rw [unhide H2]) | (go_at_call_of 52 to; refine (l4Name_calls to _ f2).mono ?_; rintro e w1 ⟨rfl, rfl⟩; rw [unhide H4]))
            go_ret
            exact ⟨rfl, unhide HB0⟩
          | false =>
            unfold emp at h5
            show Calls Try.prog 31 _ w fun e w' => e = .returned (.bool false) ∧ Below w.heap.size w w'
            go_enter Try.func31, Try.ntmps31
            go_wp2_with (first | (go_at_call 22; refine (l1In_calls _ 1 3 _).mono ?_; rintro e w1 ⟨rfl, rfl⟩; try rw [unhide H1]) | (go_at_call_of 52 nm; refine (l4Name_calls nm _ f1).mono ?_; rintro e w1 ⟨rfl, rfl⟩; rw [unhide H2]) | (go_at_call_of 52 to; refine (l4Name_calls to _ f2).mono ?_; rintro e w1 ⟨rfl, rfl⟩; rw [unhide H4]))
            go_ret
            exact ⟨rfl, unhide HB0⟩
      · rw [if_neg h3]
        have b3 : (kd == 2) = false := by simpa using h3
        cases h4 : emp to with
        | false =>
          unfold emp at h4
          show Calls Try.prog 31 _ w fun e w' => e = .returned (.bool false) ∧ Below w.heap.size w w'
          go_enter Try.func31, Try.ntmps31
          go_wp2_with (first | (go_at_call 22; refine (l1In_calls _ 1 3 _).mono ?_; rintro e w1 ⟨rfl, rfl⟩; try rw [unhide H1]) | (go_at_call 52; refine (l4Name_calls nm _ f1).mono ?_; rintro e w1 ⟨rfl, rfl⟩; rw [unhide H2]))
          go_ret
          exact ⟨rfl, unhide HB0⟩
        | true =>
          unfold emp at h4
          by_cases h5 : kd = 1
          · subst h5
            show Calls Try.prog 31 _ w fun e w' => e = .returned (.bool true) ∧ Below w.heap.size w w'
            go_enter Try.func31, Try.ntmps31
            go_wp2_with (first | (go_at_call 22; refine (l1In_calls _ 1 3 _).mono ?_; rintro e w1 ⟨rfl, rfl⟩; try rw [unhide H1]) | (go_at_call 52; refine (l4Name_calls nm _ f1).mono ?_; rintro e w1 ⟨rfl, rfl⟩; rw [unhide H2]))
            go_ret
            exact ⟨rfl, unhide HB0⟩
          · have b5 : (kd == 1) = false := by simpa using h5
            rw [decide_eq_false h5]
            cases h6 : emp dt with
            | true =>
              unfold emp at h6
              show Calls Try.prog 31 _ w fun e w' => e = .returned (.bool true) ∧ Below w.heap.size w w'
              go_enter Try.func31, Try.ntmps31
              go_wp2_with (first | (go_at_call 22; refine (l1In_calls _ 1 3 _).mono ?_; rintro e w1 ⟨rfl, rfl⟩; try rw [unhide H1]) | (go_at_call 52; refine (l4Name_calls nm _ f1).mono ?_; rintro e w1 ⟨rfl, rfl⟩; rw [unhide H2]))
              go_ret
              exact ⟨rfl, unhide HB0⟩
            | false =>
              unfold emp at h6
              show Calls Try.prog 31 _ w fun e w' => e = .returned (.bool false) ∧ Below w.heap.size w w'
              go_enter Try.func31, Try.ntmps31
              go_wp2_with (first | (go_at_call 22; refine (l1In_calls _ 1 3 _).mono ?_; rintro e w1 ⟨rfl, rfl⟩; try rw [unhide H1]) | (go_at_call 52; refine (l4Name_calls nm _ f1).mono ?_; rintro e w1 ⟨rfl, rfl⟩; rw [unhide H2]))
              go_ret
              exact ⟨rfl, unhide HB0⟩

namespace Plain
theorem sameF_len (s t : List Fl) (h : s.length ≠ t.length) : sameF s t = false := by
  induction s generalizing t with
  | nil =>
    cases t with
    | nil => simp at h
    | cons g t => rfl
  | cons f s ih =>
    cases t with
    | nil => rfl
    | cons g t => rw [sameF, ih t (by simpa using h)]; simp
theorem sameF_step (s t : List Fl) (k : Nat) (h : k < s.length) (h2 : k < t.length) : sameF (s.drop k) (t.drop k) = ((eqN s[k].1 t[k].1 && eqN s[k].2 t[k].2) && sameF (s.drop (k + 1)) (t.drop (k + 1))) := by
  rw [List.drop_eq_getElem_cons h, List.drop_eq_getElem_cons h2, sameF]
end Plain

set_option maxHeartbeats 4000000 in
theorem l4Same_calls (a1 a2 : Option Addr) (n1 n2 c1 c2 : Nat) (s t : List Fl) (w : World) (hs : s.length = n1) (ht : t.length = n2) (hn : n1 ≤ 100000000) (hn2 : n2 ≤ 100000000) (h1 : RowAt fileE w a1 s) (h2 : RowAt fileE w a2 t) :
    Calls Try.prog 32 #[.slice a1 n1 c1, .slice a2 n2 c2] w fun e w' => e = .returned (.bool (sameF s t)) ∧ Below w.heap.size w w' := by
  by_cases hl : n1 = n2
  · subst hl
    have H1 := hide h1
    have H2 := hide h2
    have HS := hide hs
    have HT := hide ht
    clear h1 h2 hs ht
    go_enter Try.func32, Try.ntmps32
    go_wp2_with fail
    go_loopw [5] (fun i wr => ∃ k : Nat, i = .int .i64 k ∧ k ≤ n1 ∧ Hid (sameF (s.drop k) (t.drop k) = sameF s t) ∧ Hid (Below w.heap.size w wr)) (fun i _ => n1 - (intOf i).toNat)
    case atStart => exact ⟨0, rfl, by omega, hide rfl, hide (Below.refl _ _)⟩
    case round =>
      obtain ⟨k, rfl, hk, HR, HB⟩ := hrel
      by_cases hkn : k < n1
      · have k1 : k < s.length := by rw [unhide HS]; exact hkn
        have k2 : k < t.length := by rw [unhide HT]; exact hkn
        obtain ⟨g, e1, l1, p0, p1⟩ := ((unhide H1).below (unhide HB)).file k k1
        obtain ⟨g2, e2, l2, q0, q1⟩ := ((unhide H2).below (unhide HB)).file k k2
        have hst := sameF_step s t k k1 k2
        generalize s[k] = f at p0 p1 hst
        generalize t[k] = f2 at q0 q1 hst
        obtain ⟨fn, fd⟩ := f
        obtain ⟨gn, gd⟩ := f2
        simp only at p0 p1 q0 q1 hst
        subst e1 e2
        have i0 : (0 : Int) ≤ (k : Int) := by omega
        have i1 : (k : Int) < (n1 : Int) := by omega
        cases hx : eqN fn gn with
        | false =>
          have HF := hide (show sameF s t = false from by rw [← unhide HR, hst, hx]; rfl)
          unfold eqN at hx
          clear hst HR
          go_wp2_with fail
          go_quiet (fail)
          all_goals (try go_wp2_with fail)
          all_goals go_ret
          all_goals exact ⟨by rw [unhide HF]; rfl, belN (unhide HB) _⟩
        | true =>
          cases hy : eqN fd gd with
          | false =>
            have HF := hide (show sameF s t = false from by rw [← unhide HR, hst, hx, hy]; rfl)
            unfold eqN at hx hy
            clear hst HR
            go_wp2_with fail
            go_quiet (fail)
            all_goals (try go_wp2_with fail)
            all_goals go_ret
            all_goals exact ⟨by rw [unhide HF]; rfl, belN (unhide HB) _⟩
          | true =>
            have HF := hide (show sameF (s.drop (k + 1)) (t.drop (k + 1)) = sameF s t from by rw [← unhide HR, hst, hx, hy]; rfl)
            unfold eqN at hx hy
            clear hst HR
            go_wp2_with fail
            go_quiet (fail)
            all_goals (try go_wp2_with fail)
            all_goals exact ⟨⟨k + 1, by go_num, by omega, HF, hide (belN (unhide HB) _)⟩, by simp [intOf]; omega⟩
      · have HF := unhide HR
        rw [List.drop_of_length_le (by rw [unhide HS]; omega), List.drop_of_length_le (by rw [unhide HT]; omega)] at HF
        have HFF := hide HF
        clear HR HF
        go_wp2_with fail
        go_ret
        exact ⟨by rw [← unhide HFF]; rfl, unhide HB⟩
  · rw [sameF_len s t (by omega)]
    have b : ((n1 : Int) == (n2 : Int)) = false := by simp; omega
    clear h1 h2 hs ht
    go_enter Try.func32, Try.ntmps32
    go_wp2_with fail
    go_ret
    exact ⟨rfl, Below.refl _ _⟩
end Go.Proofs.Ytknpccpfjclngaa
