/- Texts of one kind, put together. -/
import Derived.Test.YtliklijcdcfomaaGreatEzA
import Derived.Test.YtliklijcdcfomaaGreatRzA
import Derived.Test.YtliklijcdcfomaaGreatPzB
import Derived.Test.YtliklijcdcfomaaGreatSynI

/- The text of a vote, by both programs; who may vote. -/
namespace Go.Proofs.YtliklijcdcfomaaGreat
open Go.RowKit Plain
set_option linter.unusedVariables false

namespace Plain
def voteB (t v : Int) : ByteArray := frameB 1 (putS t ++ putS v)
theorem vote_body (t v : Int) : (putS t ++ putS v).size ≤ 1000000 := by
  have h1 := putS_size t
  have h2 := putS_size v
  rw [ByteArray.size_append]
  omega
theorem voteB_small (t v : Int) : (voteB t v).size ≤ 2000000 := by
  unfold voteB frameB
  have := vote_body t v
  split
  · rw [ByteArray.size_append, seal_size, four_size]; omega
  · exact Nat.zero_le _
/-- Whether a vote may be saved. -/
def mayB (T V t v : Int) : Bool := if t = T then decide (V = 0) || decide (v = V) else decide (T < t)
end Plain

set_option maxRecDepth 10000 in
set_option maxHeartbeats 1000000 in
theorem voteText_calls (t v : Int) (w : World) : Calls Tryz.prog 36 #[.int .i64 t, .int .i64 v] w fun e w' => e = .returned (.string (voteB t v)) ∧ Below w.heap.size w w' := by
  have hz := vote_body t v
  unfold voteB
  have H1 := hide (fun W => impl_PutNumber t W)
  have H2 := hide (fun W => impl_PutNumber v W)
  have h1 := putS_size t
  have h2 := putS_size v
  generalize putS t = A at *
  generalize putS v = B at *
  have e1 := fun W => str_add (a := A) (b := B) W (by omega)
  have HWF := hide (fun W => impl_WriteFrame 1 (A ++ B) W (by omega))
  go_enter Tryz.func36, Tryz.ntmps36
  go_wp2_with fail
  refine (unhide H1 _).mono ?_
  rintro e w1 ⟨rfl, hb1⟩
  go_wp2_with fail
  refine (unhide H2 _).mono ?_
  rintro e w2 ⟨rfl, hb2⟩
  go_wp2_with fail
  refine (unhide HWF _).mono ?_
  rintro e w3 ⟨rfl, hb3⟩
  have HB := hide (belOn (belOn hb1 hb2) hb3)
  clear hb1 hb2 hb3
  go_wp2_with fail
  go_ret
  exact ⟨rfl, unhide HB⟩

set_option maxRecDepth 10000 in
set_option maxHeartbeats 1000000 in
theorem l5Vote_calls (t v : Int) (w : World) : Calls Tryz.prog 25 #[.int .i64 t, .int .i64 v] w fun e w' => e = .returned (.string (voteB t v)) ∧ Below w.heap.size w w' := by
  have hz := vote_body t v
  unfold voteB
  have H1 := hide (fun W => spec_PutNumber t W)
  have H2 := hide (fun W => spec_PutNumber v W)
  have h1 := putS_size t
  have h2 := putS_size v
  generalize putS t = A at *
  generalize putS v = B at *
  have e1 := fun W => str_add (a := A) (b := B) W (by omega)
  have HWF := hide (fun W => spec_WriteFrame 1 (A ++ B) W (by omega))
  go_enter Tryz.func25, Tryz.ntmps25
  go_wp2_with fail
  refine (unhide H1 _).mono ?_
  rintro e w1 ⟨rfl, hb1⟩
  go_wp2_with fail
  refine (unhide H2 _).mono ?_
  rintro e w2 ⟨rfl, hb2⟩
  go_wp2_with fail
  refine (unhide HWF _).mono ?_
  rintro e w3 ⟨rfl, hb3⟩
  have HB := hide (belOn (belOn hb1 hb2) hb3)
  clear hb1 hb2 hb3
  go_wp2_with fail
  go_ret
  exact ⟨rfl, unhide HB⟩

set_option maxRecDepth 10000 in
set_option maxHeartbeats 1000000 in
theorem mayVote_calls (T V t v : Int) (s : Value) (a : Option Addr) (n c : Nat) (w : World) : Calls Tryz.prog 32 #[.agg #[.int .i64 T, .int .i64 V, .slice a n c], .int .i64 t, .int .i64 v] w fun e w' => e = .returned (.bool (mayB T V t v)) ∧ Below w.heap.size w w' := by
  unfold mayB
  by_cases h1 : t = T
  · subst h1
    rw [if_pos rfl]
    go_enter Tryz.func32, Tryz.ntmps32
    go_wp2_with fail
    all_goals (try go_ret)
    all_goals refine ⟨?_, bel1 _ _⟩
    all_goals (show Ending.returned (.bool _) = Ending.returned (.bool _); congr 2; try (rw [Bool.eq_iff_iff]; simp; try omega))
  · rw [if_neg h1]
    go_enter Tryz.func32, Tryz.ntmps32
    go_wp2_with fail
    all_goals (try go_ret)
    all_goals refine ⟨?_, bel1 _ _⟩
    all_goals (show Ending.returned (.bool _) = Ending.returned (.bool _); congr 2; try (rw [Bool.eq_iff_iff]; simp; try omega))
end Go.Proofs.YtliklijcdcfomaaGreat


/- A vote saved, as mathematics. -/
namespace Go.Proofs.YtliklijcdcfomaaGreat
open Go.RowKit Plain
set_option linter.unusedVariables false

namespace Plain
def voteNew : ByteArray := ⟨#[118, 111, 116, 101, 46, 110, 101, 119]⟩
theorem vote_new : voteN ++ ⟨#[46, 110, 101, 119]⟩ = voteNew := by decide
/-- Whether the vote v in the term t may be saved on a right disk. -/
noncomputable def svB (live safe : List Fl) (ops : List Dop) (t v : Int) : Bool := (recT live safe ops).1 && (numB t && (numB v && mayB (recT live safe ops).2.1 (recT live safe ops).2.2.1 t v))
noncomputable def svX (live safe : List Fl) (ops : List Dop) (t v : Int) : List Dop := repX live safe ops voteNew voteN (voteB t v)
noncomputable def svC (live safe : List Fl) (ops : List Dop) (t v : Int) : Int := if diskB live safe ops = true then (if svB live safe ops t v = true then actC live safe ops (svX live safe ops t v) else 10) else 1
noncomputable def svL (live safe : List Fl) (ops : List Dop) (t v : Int) : List Fl := if diskB live safe ops = true then (if svB live safe ops t v = true then (if actC live safe ops (svX live safe ops t v) = 0 then synL (actL live safe ops (svX live safe ops t v)) (actS live safe ops) (actO live safe ops (svX live safe ops t v)) else actL live safe ops (svX live safe ops t v)) else live) else []
noncomputable def svS (live safe : List Fl) (ops : List Dop) (t v : Int) : List Fl := if diskB live safe ops = true then (if svB live safe ops t v = true then (if actC live safe ops (svX live safe ops t v) = 0 then synL (actL live safe ops (svX live safe ops t v)) (actS live safe ops) (actO live safe ops (svX live safe ops t v)) else actS live safe ops) else safe) else []
noncomputable def svO (live safe : List Fl) (ops : List Dop) (t v : Int) : List Dop := if diskB live safe ops = true then (if svB live safe ops t v = true then (if actC live safe ops (svX live safe ops t v) = 0 then [] else actO live safe ops (svX live safe ops t v)) else ops) else []
/-- What a replacing leaves fits. -/
theorem goA_fit : ∀ (xs : List Dop) (fs : List Fl) (n : Nat), filesB fs = true → (goA fs n xs).1 = 0 → filesB (goA fs n xs).2 = true
  | [], fs, n, h, _ => h
  | o :: l, fs, n, h, hc => by
    rw [goA] at hc ⊢
    split at hc
    · split at hc
      · split at hc
        · rename_i h1 h2 h3
          rw [if_pos h1, if_pos h2, if_pos h3]
          rw [Bool.and_eq_true] at h3
          exact goA_fit l _ _ h3.2 hc
        · cases hc
      · cases hc
    · cases hc
theorem actL_files {live safe : List Fl} {ops xs : List Dop} (hd : diskB live safe ops = true) : filesB (actL live safe ops xs) = true := by
  unfold actL
  rw [if_pos hd]
  have hl : filesB live = true := dk_live hd
  split
  · rename_i h
    exact goA_fit xs live ops.length hl h
  · exact hl
theorem goA_len : ∀ (xs : List Dop) (fs : List Fl) (n : Nat), (goA fs n xs).1 = 0 → n ≤ 200 → n + xs.length ≤ 200
  | [], fs, n, h, hn => by simpa using hn
  | o :: l, fs, n, hc, hn => by
    rw [goA] at hc
    split at hc
    · split at hc
      · split at hc
        · rename_i h1 h2 h3
          rw [Bool.and_eq_true] at h3
          have := of_decide_eq_true h3.1
          have := goA_len l _ (n + 1) hc (by omega)
          rw [List.length_cons]
          omega
        · cases hc
      · cases hc
    · cases hc
theorem dk_safe {live safe : List Fl} {ops : List Dop} (h : diskB live safe ops = true) : filesB safe = true := by
  unfold diskB at h
  rw [Bool.and_eq_true, Bool.and_eq_true] at h
  exact h.2.1
theorem repX_small (live safe : List Fl) (ops : List Dop) {fr nm dt : ByteArray} (h1 : fr.size ≤ 1000) (h2 : nm.size ≤ 1000) (h3 : dt.size ≤ 100000000) : (∀ o ∈ repX live safe ops fr nm dt, SmO o) ∧ (repX live safe ops fr nm dt).length ≤ 3 := by
  have z : (⟨#[]⟩ : ByteArray).size = 0 := rfl
  unfold repX
  split
  · refine ⟨fun o ho => ?_, by simp⟩
    simp only [List.mem_cons, List.not_mem_nil, or_false] at ho
    rcases ho with rfl | rfl | rfl <;> exact ⟨by show _ ≤ 1000000000; simp only []; omega, by show _ ≤ 1000000000; simp only []; omega, by show _ ≤ 1000000000; simp only []; omega⟩
  · refine ⟨fun o ho => ?_, by simp⟩
    simp only [List.mem_cons, List.not_mem_nil, or_false] at ho
    rcases ho with rfl | rfl <;> exact ⟨by show _ ≤ 1000000000; simp only []; omega, by show _ ≤ 1000000000; simp only []; omega, by show _ ≤ 1000000000; simp only []; omega⟩
theorem sv_fit {live safe : List Fl} {ops xs : List Dop} (hd : diskB live safe ops = true) (ho : ∀ o ∈ ops, SmO o) (hx : ∀ o ∈ xs, SmO o) (hxl : xs.length ≤ 3) :
    FitF (actL live safe ops xs) ∧ FitF (actS live safe ops) ∧ (∀ o ∈ actO live safe ops xs, SmO o) ∧ (actL live safe ops xs).length ≤ 1048576 ∧ (actS live safe ops).length ≤ 1048576 ∧ (actO live safe ops xs).length ≤ 1048576 := by
  have hbo : ops.length ≤ 200 := by
    have h := hd
    unfold diskB at h
    simp only [Bool.and_eq_true] at h
    exact of_decide_eq_true h.2.2.1
  have h1 := actL_files (xs := xs) hd
  have h2 := dk_safe hd
  have e2 : actS live safe ops = safe := by unfold actS; rw [if_pos hd]
  have h3 : (∀ o ∈ actO live safe ops xs, SmO o) ∧ (actO live safe ops xs).length ≤ 1048576 := by
    unfold actO
    rw [if_pos hd]
    split
    · refine ⟨fun o hm => ?_, by rw [List.length_append]; omega⟩
      rcases List.mem_append.1 hm with h | h
      · exact ho o h
      · exact hx o h
    · exact ⟨ho, by omega⟩
  rw [e2]
  exact ⟨small_fit h1, small_fit h2, h3.1, Nat.le_trans (files_small h1).1 (by decide), Nat.le_trans (files_small h2).1 (by decide), h3.2⟩
end Plain
end Go.Proofs.YtliklijcdcfomaaGreat

