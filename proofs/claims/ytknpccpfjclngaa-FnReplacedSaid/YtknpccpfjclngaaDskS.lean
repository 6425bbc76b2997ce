/- The specification's files: which are right, the place of one, put, cut. -/
import Derived.Test.YtknpccpfjclngaaDskM
import Derived.Deep.RegionWith
import Derived.Deep.QuietTactic
import Derived.BigQuiet
namespace Go.Proofs.Ytknpccpfjclngaa
open Go.RowKit Plain
set_option linter.unusedVariables false

/-- The files of a row are of a size that a machine bears. -/
def Plain.FitF (fs : List Fl) : Prop := ∀ f ∈ fs, f.1.size ≤ 1000000000000 ∧ f.2.size ≤ 1000000000000

theorem l4Name_calls (s : ByteArray) (w : World) (hs : s.size ≤ 1000000000000) :
    Calls Try.prog 52 #[.string s] w fun e w' => e = .returned (.bool (nmB s)) ∧ w = w' := by
  unfold nmB
  by_cases h1 : 1 ≤ s.size
  · by_cases h2 : s.size ≤ 100
    · rw [decide_eq_true h1, decide_eq_true h2]
      have h3 : decide ((s.size : Int) ≤ 100) = true := decide_eq_true (by omega)
      go_enter Try.func52, Try.ntmps52
      go_wp2
      go_ret
      exact ⟨rfl, rfl⟩
    · rw [decide_eq_true h1, decide_eq_false h2]
      have h3 : decide ((s.size : Int) ≤ 100) = false := decide_eq_false (by omega)
      go_enter Try.func52, Try.ntmps52
      go_wp2
      go_ret
      exact ⟨rfl, rfl⟩
  · rw [decide_eq_false h1]
    go_enter Try.func52, Try.ntmps52
    go_wp2
    go_ret
    exact ⟨rfl, rfl⟩

theorem name_quiet (s : ByteArray) (w : World) (n : Nat) (b : Bool) (hs : s.size ≤ 1000000000000) (hb : nmB s = b) :
    Calls Try.prog 52 #[.string s] (w.drewN n) fun e w'' => e = .returned (.bool b) ∧ ∃ m, w'' = w.drewN m := by
  subst hb
  refine (l4Name_calls s _ hs).mono ?_
  rintro e w2 ⟨rfl, rfl⟩
  exact ⟨rfl, n, rfl⟩
theorem Plain.belN {B : Nat} {w w' : World} (h : Below B w w') (k : Nat) : Below B w (w'.drewN k) := ⟨h.os, h.tape, h.output, h.size, h.block⟩

set_option maxRecDepth 10000 in
set_option maxHeartbeats 4000000 in
theorem l4Files_calls (a : Option Addr) (n c : Nat) (fs : List Fl) (w : World) (hn : fs.length = n) (hn2 : n ≤ 100000000000) (hf : FitF fs) (h : RowAt fileE w a fs) :
    Calls Try.prog 24 #[.slice a n c] w fun e w' => e = .returned (.bool (filesB fs)) ∧ Below w.heap.size w w' := by
  have H := hide h
  have HN := hide hn
  have HF := hide hf
  clear h hf
  have HB : filesB fs = (decide (n ≤ 60) && (okF none fs && decide (sumF fs ≤ 200000))) := by unfold filesB; rw [hn]
  rw [HB]
  clear HB hn
  by_cases hl : n ≤ 60
  · rw [decide_eq_true hl]
    go_enter Try.func24, Try.ntmps24
    go_wp2_with fail
    go_loopw [3, 4] (fun m i wr => ∃ (k s : Nat), m = .int .i64 s ∧ i = .int .i64 k ∧ k ≤ n ∧ s ≤ k * 1000000000000 ∧ Hid (okF (prevN fs k) (fs.drop k) = okF none fs) ∧ Hid (s + sumF (fs.drop k) = sumF fs) ∧ Hid (Below w.heap.size w wr)) (fun _ i _ => n - (intOf i).toNat)
    case atStart => exact ⟨0, 0, rfl, rfl, by omega, by omega, hide rfl, hide (by simp), hide (Below.refl _ _)⟩
    case round =>
      obtain ⟨k, s, rfl, rfl, hk, hs, HO, HS, HBe⟩ := hrel
      by_cases hkn : k < n
      · have hkl : k < fs.length := by rw [unhide HN]; exact hkn
        obtain ⟨g, e1, l1, p0, p1⟩ := ((unhide H).below (unhide HBe)).file k hkl
        have hfit := unhide HF fs[k] (by simp)
        have hst := okF_step fs k hkl
        have hsu := sumF_drop fs k hkl
        have hprev : ∀ j, k = j + 1 → ∃ p, prevN fs k = some p ∧ wr.cell? ⟨g, j * 2, none⟩ = some (.string p) := by
          intro j hj
          subst hj
          have hjl : j < fs.length := by omega
          obtain ⟨g', e', l', r0, r1⟩ := ((unhide H).below (unhide HBe)).file j hjl
          rw [e1] at e'
          obtain rfl : g = g' := by simpa using e'
          exact ⟨fs[j].1, by rw [prevN, List.getElem?_eq_getElem hjl]; rfl, r0⟩
        generalize fs[k] = f at p0 p1 hfit hst hsu
        obtain ⟨nm, dt⟩ := f
        simp only at p0 p1 hfit hst hsu
        subst e1
        have i0 : (0 : Int) ≤ (k : Int) := by omega
        have i1 : (k : Int) < (n : Int) := by omega
        cases hnm : nmB nm with
        | false =>
          have HR := hide (show okF none fs = false from by rw [← unhide HO, hst, hnm]; rfl)
          have HNM := hide hnm
          clear hst hsu hprev hnm HO HS
          go_wp2_with fail
          go_quiet ((go_at_call 52; exact name_quiet _ _ _ _ hfit.1 (unhide HNM)))
          all_goals (try go_wp2_with fail)
          all_goals go_ret
          all_goals exact ⟨by rw [unhide HR]; rfl, belN (unhide HBe) _⟩
        | true =>
          have HNM := hide hnm
          rw [hnm, Bool.true_and] at hst
          have hsk : s + dt.size ≤ (k + 1) * 1000000000000 := by omega
          have HS2 := hide (show (s + dt.size) + sumF (fs.drop (k + 1)) = sumF fs from by rw [← unhide HS, hsu]; omega)
          have hs60 : s ≤ 60000000000000 := by omega
          clear hnm hsu HS
          cases k with
          | zero =>
            have HO2 := hide (show okF (prevN fs 1) (fs.drop 1) = okF none fs from by rw [← unhide HO, hst]; rfl)
            clear hst hprev HO
            simp only [Nat.zero_mul, Nat.zero_add] at p0 p1
            go_wp2_with fail
            go_quiet ((go_at_call 52; exact name_quiet _ _ _ _ hfit.1 (unhide HNM)))
            all_goals (try go_wp2_with fail)
            all_goals exact ⟨⟨1, s + dt.size, by go_num, by go_num, by omega, hsk, HO2, HS2, hide (belN (unhide HBe) _)⟩, by simp [intOf]; omega⟩
          | succ j =>
            obtain ⟨p, hp, r0⟩ := hprev j rfl
            rw [hp] at hst
            simp only at hst
            have j0 : (0 : Int) ≤ (j : Int) := by omega
            have j1 : (j : Int) < (n : Int) := by omega
            have j2 : (j : Int) + 1 < (n : Int) := by omega
            cases hls : lessN p nm with
            | false =>
              have HR := hide (show okF none fs = false from by rw [← unhide HO, hp, hst, hls]; rfl)
              have hor := less_or hls
              unfold lessN eqN at hor
              clear hst hprev HO hls hp
              go_wp2_with fail
              go_quiet ((go_at_call 52; exact name_quiet _ _ _ _ hfit.1 (unhide HNM)))
              all_goals (try go_wp2_with fail)
              all_goals go_ret
              all_goals exact ⟨by rw [unhide HR]; rfl, belN (unhide HBe) _⟩
            | true =>
              have HO2 := hide (show okF (prevN fs (j + 1 + 1)) (fs.drop (j + 1 + 1)) = okF none fs from by rw [← unhide HO, hp, hst, hls]; rfl)
              obtain ⟨b1, b2⟩ := less_not hls
              unfold lessN at b1
              unfold eqN at b2
              clear hst hprev HO hls hp
              go_wp2_with fail
              go_quiet ((go_at_call 52; exact name_quiet _ _ _ _ hfit.1 (unhide HNM)))
              all_goals (try go_wp2_with fail)
              all_goals exact ⟨⟨j + 1 + 1, s + dt.size, by go_num, by go_num, by omega, hsk, HO2, HS2, hide (belN (unhide HBe) _)⟩, by simp [intOf]; omega⟩
      · obtain rfl : k = n := by omega
        have HO2 := unhide HO
        have HS2 := unhide HS
        rw [List.drop_of_length_le (by rw [unhide HN]; exact Nat.le_refl _)] at HO2 HS2
        have HR := hide (show okF none fs = true from by rw [← HO2]; cases prevN fs k <;> rfl)
        have HT := hide (show sumF fs = s from by rw [← HS2]; rfl)
        clear HO HS HO2 HS2
        by_cases h2 : s ≤ 200000
        · have h3 : decide ((s : Int) ≤ 200000) = true := decide_eq_true (by omega)
          have H3 := hide (decide_eq_true h2)
          go_wp2_with fail
          go_ret
          exact ⟨by rw [unhide HR, unhide HT, unhide H3]; rfl, unhide HBe⟩
        · have h3 : decide ((s : Int) ≤ 200000) = false := decide_eq_false (by omega)
          have H3 := hide (decide_eq_false h2)
          go_wp2_with fail
          go_ret
          exact ⟨by rw [unhide HR, unhide HT, unhide H3]; rfl, unhide HBe⟩
  · rw [decide_eq_false hl]
    go_enter Try.func24, Try.ntmps24
    go_wp2_with fail
    go_ret
    exact ⟨rfl, Below.refl _ _⟩
end Go.Proofs.Ytknpccpfjclngaa
