/- Rows of headers marked and looked at again, as the exact laws do it. -/
import Derived.Test.YtanekbifdedmeaaGreatDoorHdrR
import Derived.Test.YtanekbifdedmeaaGreatDoorGAC
import Derived.Test.YtanekbifdedmeaaGreatDoorMtx
namespace Go.Proofs.YtanekbifdedmeaaGreatDoor
open Go.RowKit Plain
set_option linter.unusedVariables false

namespace Plain
/-- What the marking of headers leaves. -/
def mkH (b n : Nat) : List Hd := (List.range n).map fun i : Nat => (mtx (b + i * 2), mtx (b + i * 2 + 1))
theorem mkH_length (b n : Nat) : (mkH b n).length = n := by simp [mkH]
theorem mkH_get (b n k : Nat) (h : k < (mkH b n).length) : (mkH b n)[k] = (mtx (b + k * 2), mtx (b + k * 2 + 1)) := by simp [mkH]
def mixH (b : Nat) (fs : List Hd) (k : Nat) : List Hd := mkH b k ++ fs.drop k
theorem mixH_length (b : Nat) (fs : List Hd) (k : Nat) (h : k ≤ fs.length) : (mixH b fs k).length = fs.length := by simp [mixH, mkH_length]; omega
theorem mixH_zero (b : Nat) (fs : List Hd) : mixH b fs 0 = fs := by simp [mixH, mkH]
theorem mixH_end (b : Nat) (fs : List Hd) : mixH b fs fs.length = mkH b fs.length := by simp [mixH]
theorem mixH_next (b : Nat) (fs : List Hd) (k : Nat) (h : k < fs.length) : (mixH b fs k).set k (mtx (b + k * 2), mtx (b + k * 2 + 1)) = mixH b fs (k + 1) := by
  have hl := mkH_length b k
  unfold mixH
  rw [List.set_append_right _ _ (by omega), hl, Nat.sub_self, List.drop_eq_getElem_cons h, List.set_cons_zero]
  simp [mkH, List.range_succ]
end Plain
theorem RowAt.hdrz {W : World} {a : Option Addr} {xs : List Hd} (h : RowAt hdrE W a xs) (i : Nat) (hi : i < xs.length) : ∃ g, a = some ⟨g, 0, none⟩ ∧ g < W.heap.size ∧ W.cell? ⟨g, i * 2, none⟩ = some (.string xs[i].1) ∧ W.cell? ⟨g, i * 2 + 1, none⟩ = some (.string xs[i].2) ∧ W.frozen? ⟨g, i * 2, none⟩ = false ∧ W.frozen? ⟨g, i * 2 + 1, none⟩ = false := by
  obtain ⟨g, e1, hl, h1⟩ := h i hi
  exact ⟨g, e1, hl, (h1 0 (by decide)).1, (h1 1 (by decide)).1, (h1 0 (by decide)).2, (h1 1 (by decide)).2⟩

set_option maxRecDepth 10000 in
set_option maxHeartbeats 1000000 in
theorem markHeaderS_calls (b : Nat) (a : Option Addr) (c n : Nat) (fs : List Hd) (w : World) (hb1 : 1 ≤ b) (hb2 : b ≤ 100000000) (hn : fs.length = n) (hn2 : n ≤ 100000000) (h1 : RowAt hdrE w a fs) :
    Calls Tryz.prog 58 #[.slice a n c, .int .i64 b] w fun e w' => e = .returned (.int .i64 ((b + n * 2 : Nat) : Int)) ∧ RowAt hdrE w' a (mkH b n) ∧ OnlyRow a w w' := by
  have H1 := hide h1
  have HN := hide hn
  clear h1 hn
  go_enter Tryz.func58, Tryz.ntmps58
  go_wp2_with fail
  go_loopw [1, 5] (fun m i wr => ∃ (k : Nat), i = .int .i64 k ∧ m = .int .i64 ((b + k * 2 : Nat) : Int) ∧ k ≤ n ∧ Hid (RowAt hdrE wr a (mixH b fs k)) ∧ Hid (OnlyRow a w wr)) (fun _ i _ => n - (intOf i).toNat)
  case atStart => exact ⟨0, rfl, rfl, by omega, hide (by rw [mixH_zero]; exact unhide H1), OnlyRow.refl _ _⟩
  case round =>
    clear H1
    obtain ⟨k, rfl, rfl, hk, HF, HB⟩ := hrel
    by_cases hlt : k < n
    · have hfl : k < fs.length := by rw [unhide HN]; exact hlt
      have hml := mixH_length b fs k (by omega)
      have hkl : k < (mixH b fs k).length := by omega
      obtain ⟨g, e1, l1, p1, p2, z1, z2⟩ := (unhide HF).hdrz k hkl
      subst e1
      have hnx := hide (mixH_next b fs k hfl)
      have i0 : (0 : Int) ≤ (k : Int) := by omega
      have i1 : (k : Int) < (n : Int) := by omega
      obtain ⟨M, hM⟩ : ∃ M, b + k * 2 = M := ⟨_, rfl⟩
      rw [hM] at hnx ⊢
      generalize mixH b fs k = cur at HF hkl p1 p2 hnx hml
      clear p1 p2 z1 z2
      go_wp2_with fail
      refine (markText_calls M _ (by omega) (by omega)).mono ?_
      rintro e w2 ⟨rfl, hb2⟩
      have hf2 := (unhide HF).below hb2
      obtain ⟨g', e1, l2, r1, r2, y1, y2⟩ := hf2.hdrz k hkl
      cases e1
      have hf3 := hf2.setJ k hkl 0 (by decide) (.string (mtx M)) (mtx M, cur[k].2) rfl
      obtain ⟨W3, hW3⟩ : ∃ W3, W3 = w2.setCell ⟨g, k * 2, none⟩ (.string (mtx M)) := ⟨_, rfl⟩
      have HF3 := hide (show RowAt hdrE W3 (some ⟨g, 0, none⟩) (cur.set k (mtx M, cur[k].2)) from by rw [hW3]; exact hf3)
      have HB3 := hide (show OnlyRow (some ⟨g, 0, none⟩) w W3 from by rw [hW3]; exact ((unhide HB).trans (OnlyRow.of hb2)).trans (OnlyRow.set _ _))
      have HW3 := hide hW3.symm
      have hkl3 : k < (cur.set k (mtx M, cur[k].2)).length := by rw [List.length_set]; exact hkl
      generalize hy : cur[k].2 = y at HF3 hf3 hkl3
      generalize cur[k].1 = x at r1
      generalize cur[k].2 = x2 at r2 hy
      clear hb2 hf2 HF hf3 hW3 HB
      go_wp2_with fail
      rw [unhide HW3]
      refine (markText_calls (M + 1) _ (by omega) (by omega)).mono ?_
      rintro e w4 ⟨rfl, hb4⟩
      have hf4 := (unhide HF3).below hb4
      obtain ⟨g', e1, l4, s1, s2, v1, v2⟩ := hf4.hdrz k hkl3
      cases e1
      have hf5 := hf4.setJ k hkl3 1 (by decide) (.string (mtx (M + 1))) (mtx M, mtx (M + 1)) (by rw [List.getElem_set_self]; rfl)
      rw [List.set_set, unhide hnx] at hf5
      have HF5 := hide hf5
      have HB4 := hide ((unhide HB3).trans (OnlyRow.of hb4))
      clear hb4 hf4 HF3 hf5 HB3 s1 hy
      generalize (cur.set k (mtx M, y))[k] = q at s2
      go_wp2_with fail
      go_roundw
      case rel => exact ⟨k + 1, by go_num, by rw [show b + (k + 1) * 2 = M + 2 from by omega]; go_num, by omega, HF5, hide ((unhide HB4).trans (OnlyRow.set _ _))⟩
      case measure => simp [intOf]; omega
    · obtain rfl : k = n := by omega
      have hF := unhide HF
      rw [← unhide HN, mixH_end, unhide HN] at hF
      have HF2 := hide hF
      clear hF HF
      go_wp2_with fail
      go_ret
      exact ⟨rfl, unhide HF2, unhide HB⟩

set_option maxRecDepth 10000 in
set_option maxHeartbeats 2000000 in
theorem heldHeaderS_calls (b : Nat) (a : Option Addr) (c n : Nat) (w : World) (hb1 : 1 ≤ b) (hb2 : b ≤ 100000000) (hn2 : n ≤ 100000000) (h1 : RowAt hdrE w a (mkH b n)) :
    Calls Tryz.prog 59 #[.slice a n c, .int .i64 b] w fun e w' => e = .returned (.int .i64 ((b + n * 2 : Nat) : Int)) ∧ Below w.heap.size w w' := by
  have H1 := hide h1
  clear h1
  go_enter Tryz.func59, Tryz.ntmps59
  go_wp2_with fail
  go_loopw [1, 5] (fun m i wr => ∃ (k : Nat), i = .int .i64 k ∧ m = .int .i64 ((b + k * 2 : Nat) : Int) ∧ k ≤ n ∧ Hid (Below w.heap.size w wr)) (fun _ i _ => n - (intOf i).toNat)
  case atStart => exact ⟨0, rfl, rfl, by omega, Below.refl _ _⟩
  case round =>
    obtain ⟨k, rfl, rfl, hk, HB⟩ := hrel
    by_cases hlt : k < n
    · have hkl : k < (mkH b n).length := by rw [mkH_length]; exact hlt
      obtain ⟨g, e1, l1, p1, p2, -, -⟩ := ((unhide H1).below (unhide HB)).hdrz k hkl
      rw [mkH_get b n k hkl] at p1 p2
      clear H1
      subst e1
      have i0 : (0 : Int) ≤ (k : Int) := by omega
      have i1 : (k : Int) < (n : Int) := by omega
      obtain ⟨M, hM⟩ : ∃ M, b + k * 2 = M := ⟨_, rfl⟩
      simp only [hM] at p1 p2
      rw [hM]
      have hM2 : M ≤ 1000000000 := by omega
      have hM1 : 1 ≤ M := by omega
      have hM3 : M + 1 ≤ 1000000000 := by omega
      have hM4 : 1 ≤ M + 1 := by omega
      go_wp2_with fail
      go_region_with (go_at_call 100; refine (markText_calls M _ hM1 hM2).mono ?_; rintro e w2 ⟨rfl, hb2⟩; have r1 := bcl (bOfDrew hb2) l1 p1; have r2 := bcl (bOfDrew hb2) l1 p2)
      all_goals (have l2 := lt_of_cell r1)
      all_goals (have HB2 := hide (belOn (unhide HB) (bOfDrew hb2)))
      all_goals clear hb2 p1 p2
      all_goals (try go_wp2_with fail)
      all_goals go_region_with (go_at_call 100; refine (markText_calls (M + 1) _ hM4 hM3).mono ?_; rintro e w3 ⟨rfl, hb3⟩; have s2 := bcl (bOfDrew hb3) l2 r2)
      all_goals (try go_wp2_with fail)
      all_goals exact ⟨⟨k + 1, by go_num, by rw [show b + (k + 1) * 2 = M + 2 from by omega]; go_num, by omega, hide (belOn (unhide HB2) (bOfDrew hb3))⟩, by simp [intOf]; omega⟩
    · obtain rfl : k = n := by omega
      go_wp2_with fail
      go_ret
      exact ⟨rfl, unhide HB⟩
end Go.Proofs.YtanekbifdedmeaaGreatDoor
