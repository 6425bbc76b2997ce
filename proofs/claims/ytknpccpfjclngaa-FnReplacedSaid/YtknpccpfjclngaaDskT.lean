/- The specification's files: the place of one, put, cut. -/
import Derived.Test.YtknpccpfjclngaaDskS
namespace Go.Proofs.Ytknpccpfjclngaa
open Go.RowKit Plain
set_option linter.unusedVariables false

def Plain.atV : Option Nat → Int
  | some i => i
  | none => -1

set_option maxHeartbeats 2000000 in
theorem l4At_calls (a : Option Addr) (n c : Nat) (fs : List Fl) (nm : ByteArray) (w : World) (hn : fs.length = n) (hn2 : n ≤ 100000000) (h : RowAt fileE w a fs) :
    Calls Try.prog 40 #[.slice a n c, .string nm] w fun e w' => e = .returned (.int .i64 (atV (atF nm fs))) ∧ w = w' := by
  have H := hide h
  have HN := hide hn
  clear h hn
  go_enter Try.func40, Try.ntmps40
  go_wp2_with fail
  go_loop [5] (fun i => ∃ k : Nat, i = .int .i64 k ∧ k ≤ n ∧ Hid ((atF nm (fs.drop k)).map (· + k) = atF nm fs)) (fun i => n - (intOf i).toNat)
  case atStart => exact ⟨0, rfl, by omega, hide (by rw [List.drop_zero]; cases atF nm fs <;> rfl)⟩
  case round =>
    obtain ⟨k, rfl, hk, HR⟩ := hrel
    by_cases hkn : k < n
    · have hkl : k < fs.length := by rw [unhide HN]; exact hkn
      obtain ⟨g, e1, l1, p0, p1⟩ := (unhide H).file k hkl
      have h1 := atF_yes nm fs k hkl
      have h2 := atF_no nm fs k hkl
      generalize fs[k] = f at p0 p1 h1 h2
      obtain ⟨fn, fd⟩ := f
      simp only at p0 p1 h1 h2
      subst e1
      have i0 : (0 : Int) ≤ (k : Int) := by omega
      have i1 : (k : Int) < (n : Int) := by omega
      cases he : eqN fn nm with
      | true =>
        have HF := hide (show atF nm fs = some k from by rw [← unhide HR, h1 he]; simp)
        unfold eqN at he
        clear h1 h2 HR
        go_wp2_with fail
        go_ret
        exact ⟨by rw [unhide HF]; rfl, rfl⟩
      | false =>
        have HF := hide (show (atF nm (fs.drop (k + 1))).map (· + (k + 1)) = atF nm fs from by
          rw [← unhide HR, h2 he]
          cases atF nm (fs.drop (k + 1)) with
          | none => rfl
          | some i => simp; omega)
        unfold eqN at he
        clear h1 h2 HR
        go_wp2_with fail
        go_round
        case rel => exact ⟨k + 1, by go_num, by omega, HF⟩
        case measure => simp [intOf]; omega
    · have HF := unhide HR
      rw [List.drop_of_length_le (by rw [unhide HN]; omega)] at HF
      have HFF := hide (show atF nm fs = none from by rw [← HF]; rfl)
      clear HR HF
      go_wp2_with fail
      go_ret
      exact ⟨by rw [unhide HFF]; rfl, rfl⟩

set_option maxRecDepth 10000 in
set_option maxHeartbeats 4000000 in
theorem l4Cut_calls (a : Option Addr) (n c : Nat) (fs : List Fl) (nm : ByteArray) (w : World) (hn : fs.length = n) (hn2 : n ≤ 10000000) (h : RowAt fileE w a fs) :
    Calls Try.prog 51 #[.slice a n c, .string nm] w fun e w' => ∃ v, e = .returned v ∧ OwnR fileE w' w.heap.size v (cutF nm fs) ∧ Below w.heap.size w w' := by
  have H := hide h
  have HN := hide hn
  clear h hn
  go_enter Try.func51, Try.ntmps51
  go_wp2_with fail
  go_loopw [5, 6] (fun v i wr => ∃ (k : Nat) (ds : List Fl), i = .int .i64 k ∧ k ≤ n ∧ ds.length ≤ k ∧ Hid (OwnR fileE wr w.heap.size v ds) ∧ Hid (Below w.heap.size w wr) ∧ w.heap.size ≤ wr.heap.size ∧ Hid (ds ++ cutF nm (fs.drop k) = cutF nm fs)) (fun _ i _ => n - (intOf i).toNat)
  case atStart => exact ⟨0, [], rfl, by omega, by simp, hide (ownR_empty fileE w _ (Nat.le_refl _)), hide ((Below.refl _ _).alloc (Nat.le_refl _) _), by simp, hide rfl⟩
  case round =>
    obtain ⟨k, ds, rfl, hk, hds, HO, HB, hz, HR⟩ := hrel
    by_cases hkn : k < n
    · have hkl : k < fs.length := by rw [unhide HN]; exact hkn
      obtain ⟨g, e1, l1, p0, p1⟩ := ((unhide H).below (unhide HB)).file k hkl
      have hst := cutF_step nm fs k hkl
      generalize fs[k] = f at p0 p1 hst
      obtain ⟨fn, fd⟩ := f
      simp only at p0 p1 hst
      subst e1
      have i0 : (0 : Int) ≤ (k : Int) := by omega
      have i1 : (k : Int) < (n : Int) := by omega
      cases he : eqN fn nm with
      | true =>
        have HF := hide (show ds ++ cutF nm (fs.drop (k + 1)) = cutF nm fs from by rw [← unhide HR, hst, he]; rfl)
        unfold eqN at he
        clear hst HR
        go_wp2_with fail
        go_roundw
        case rel => exact ⟨k + 1, ds, by go_num, by omega, by omega, HO, HB, hz, HF⟩
        case measure => simp [intOf]; omega
      | false =>
        have HF := hide (show (ds ++ [(fn, fd)]) ++ cutF nm (fs.drop (k + 1)) = cutF nm fs from by rw [← unhide HR, hst, he]; simp)
        unfold eqN at he
        clear hst HR
        go_wp2_with (at_builtin; go_must (refine appR (e := fileE) rfl _ _ rfl (unhide HO) rfl (fn, fd) rfl _ rfl rfl (by omega) hz ?_); intro v' w6 hown6 hb6 hg6)
        go_roundw
        case rel => exact ⟨k + 1, ds ++ [(fn, fd)], by go_num, by omega, by simp; omega, hide hown6, hide ((unhide HB).trans hb6), Nat.le_trans hz hb6.size, HF⟩
        case measure => simp [intOf]; omega
    · have HF := unhide HR
      rw [List.drop_of_length_le (by rw [unhide HN]; omega), show cutF nm [] = [] from rfl, List.append_nil] at HF
      subst HF
      clear HR
      go_wp2_with fail
      go_ret
      exact ⟨_, rfl, unhide HO, unhide HB⟩

set_option maxRecDepth 10000 in
set_option maxHeartbeats 4000000 in
theorem l4Put_calls (a : Option Addr) (n c : Nat) (fs : List Fl) (nm d : ByteArray) (w : World) (hn : fs.length = n) (hn2 : n ≤ 10000000) (h : RowAt fileE w a fs) :
    Calls Try.prog 50 #[.slice a n c, .string nm, .string d] w fun e w' => ∃ v, e = .returned v ∧ OwnR fileE w' w.heap.size v (putF fs nm d) ∧ Below w.heap.size w w' := by
  have H := hide h
  have HN := hide hn
  clear h hn
  go_enter Try.func50, Try.ntmps50
  go_wp2_with fail
  go_loopw [7, 8, 9] (fun v b i wr => ∃ (k : Nat) (dn : Bool) (ds : List Fl), b = .bool dn ∧ i = .int .i64 k ∧ k ≤ n ∧ ds.length ≤ 2 * k ∧ Hid (OwnR fileE wr w.heap.size v ds) ∧ Hid (Below w.heap.size w wr) ∧ w.heap.size ≤ wr.heap.size ∧ Hid (ds ++ putG nm d dn (fs.drop k) = putF fs nm d)) (fun _ _ i _ => n - (intOf i).toNat)
  case atStart => exact ⟨0, false, [], rfl, rfl, by omega, by simp, hide (ownR_empty fileE w _ (Nat.le_refl _)), hide ((Below.refl _ _).alloc (Nat.le_refl _) _), by simp, hide rfl⟩
  case round =>
    obtain ⟨k, dn, ds, rfl, rfl, hk, hds, HO, HB, hz, HR⟩ := hrel
    by_cases hkn : k < n
    · have hkl : k < fs.length := by rw [unhide HN]; exact hkn
      have HC := hide (fun (W : World) (hW : Below w.heap.size w W) => ((unhide H).below hW).file k hkl)
      obtain ⟨g, e1, l1, p0, p1⟩ := unhide HC wr (unhide HB)
      have hst := putG_step nm d dn fs k hkl
      generalize fs[k] = f at p0 p1 hst HC
      obtain ⟨fn, fd⟩ := f
      simp only at p0 p1 hst
      subst e1
      have i0 : (0 : Int) ≤ (k : Int) := by omega
      have i1 : (k : Int) < (n : Int) := by omega
      cases dn with
      | true =>
        cases he : eqN fn nm with
        | true =>
          have HF := hide (show ds ++ putG nm d true (fs.drop (k + 1)) = putF fs nm d from by rw [← unhide HR, hst, he]; simp)
          unfold eqN at he
          clear hst HR
          go_wp2_with fail
          go_roundw
          case rel => exact ⟨k + 1, true, ds, rfl, by go_num, by omega, by omega, HO, HB, hz, HF⟩
          case measure => simp [intOf]; omega
        | false =>
          have HF := hide (show (ds ++ [(fn, fd)]) ++ putG nm d true (fs.drop (k + 1)) = putF fs nm d from by rw [← unhide HR, hst, he]; simp)
          unfold eqN at he
          clear hst HR
          go_wp2_with (at_builtin; go_must (refine appR (e := fileE) rfl _ _ rfl (unhide HO) rfl (fn, fd) rfl _ rfl rfl (by omega) hz ?_); intro v' w6 hown6 hb6 hg6)
          go_roundw
          case rel => exact ⟨k + 1, true, ds ++ [(fn, fd)], rfl, by go_num, by omega, by simp; omega, hide hown6, hide ((unhide HB).trans hb6), Nat.le_trans hz hb6.size, HF⟩
          case measure => simp [intOf]; omega
      | false =>
        cases hl : lessN fn nm with
        | true =>
          have he : eqN fn nm = false := by
            cases h : eqN fn nm with
            | false => rfl
            | true => rw [(eqN_iff _ _).1 h, lessN_self] at hl; simp at hl
          have HF := hide (show (ds ++ [(fn, fd)]) ++ putG nm d false (fs.drop (k + 1)) = putF fs nm d from by rw [← unhide HR, hst, he, hl]; simp)
          unfold eqN at he
          unfold lessN at hl
          clear hst HR
          go_wp2_with (at_builtin; go_must (refine appR (e := fileE) rfl _ _ rfl (unhide HO) rfl (fn, fd) rfl _ rfl rfl (by omega) hz ?_); intro v' w6 hown6 hb6 hg6)
          go_roundw
          case rel => exact ⟨k + 1, false, ds ++ [(fn, fd)], rfl, by go_num, by omega, by simp; omega, hide hown6, hide ((unhide HB).trans hb6), Nat.le_trans hz hb6.size, HF⟩
          case measure => simp [intOf]; omega
        | false =>
          cases he : eqN fn nm with
          | true =>
            have HF := hide (show (ds ++ [(nm, d)]) ++ putG nm d true (fs.drop (k + 1)) = putF fs nm d from by rw [← unhide HR, hst, he, hl]; simp)
            unfold eqN at he
            unfold lessN at hl
            clear hst HR
            go_wp2_with (at_builtin; go_must (refine appR (e := fileE) rfl _ _ rfl (unhide HO) rfl (nm, d) rfl _ rfl rfl (by omega) hz ?_); intro v' w6 hown6 hb6 hg6; obtain ⟨g9, e9, l9, p9, r9⟩ := unhide HC w6 ((unhide HB).trans hb6); obtain rfl : g = g9 := by simpa using e9)
            go_roundw
            case rel => exact ⟨k + 1, true, ds ++ [(nm, d)], rfl, by go_num, by omega, by simp; omega, hide hown6, hide ((unhide HB).trans hb6), Nat.le_trans hz hb6.size, HF⟩
            case measure => simp [intOf]; omega
          | false =>
            have HF := hide (show (ds ++ [(nm, d)] ++ [(fn, fd)]) ++ putG nm d true (fs.drop (k + 1)) = putF fs nm d from by rw [← unhide HR, hst, he, hl]; simp)
            unfold eqN at he
            unfold lessN at hl
            clear hst HR
            go_wp2_with (first
              | (at_builtin; refine appR (e := fileE) rfl _ _ rfl (unhide HO6) rfl (fn, fd) rfl _ rfl rfl (by simp; omega) hz6 ?_; intro v8 w8 hown8 hb8 hg8)
              | (at_builtin; refine appR (e := fileE) rfl _ _ rfl (unhide HO) rfl (nm, d) rfl _ rfl rfl (by omega) hz ?_; intro v' w6 hown6 hb6 hg6; have HO6 := hide hown6; have hz6 := Nat.le_trans hz hb6.size; obtain ⟨g9, e9, l9, p9, r9⟩ := unhide HC w6 ((unhide HB).trans hb6); obtain rfl : g = g9 := by simpa using e9))
            go_roundw
            case rel => exact ⟨k + 1, true, ds ++ [(nm, d)] ++ [(fn, fd)], rfl, by go_num, by omega, by simp; omega, hide hown8, hide (((unhide HB).trans hb6).trans hb8), Nat.le_trans hz6 hb8.size, HF⟩
            case measure => simp [intOf]; omega
    · have HF := unhide HR
      rw [List.drop_of_length_le (by rw [unhide HN]; omega)] at HF
      clear HR
      cases dn with
      | true =>
        rw [putG, List.append_nil] at HF
        subst HF
        go_wp2_with fail
        go_ret
        exact ⟨_, rfl, unhide HO, unhide HB⟩
      | false =>
        rw [putG] at HF
        have HFF := hide HF
        clear HF
        go_wp2_with (at_builtin; go_must (refine appR (e := fileE) rfl _ _ rfl (unhide HO) rfl (nm, d) rfl _ rfl rfl (by omega) hz ?_); intro v' w6 hown6 hb6 hg6)
        go_ret
        exact ⟨_, rfl, by rw [← unhide HFF]; exact hown6, (unhide HB).trans hb6⟩
end Go.Proofs.Ytknpccpfjclngaa
