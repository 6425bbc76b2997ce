/- Rows of ops marked and looked at again, as the exact laws do it. -/
import Derived.Test.YtliklijcdcfomaaGreatFzA
namespace Go.Proofs.YtliklijcdcfomaaGreat
open Go.RowKit Plain
set_option linter.unusedVariables false

namespace Plain
/-- What the marking leaves. -/
def mkO (b n : Nat) : List Dop := (List.range n).map fun i : Nat => (⟨(((b + i * 4) : Nat) : Int), mtx (b + i * 4 + 1), mtx (b + i * 4 + 2), mtx (b + i * 4 + 3)⟩ : Dop)
theorem mkO_length (b n : Nat) : (mkO b n).length = n := by simp [mkO]
theorem mkO_get (b n k : Nat) (h : k < (mkO b n).length) : (mkO b n)[k] = ⟨(((b + k * 4) : Nat) : Int), mtx (b + k * 4 + 1), mtx (b + k * 4 + 2), mtx (b + k * 4 + 3)⟩ := by simp [mkO]
def mixO (b : Nat) (fs : List Dop) (k : Nat) : List Dop := mkO b k ++ fs.drop k
theorem mixO_length (b : Nat) (fs : List Dop) (k : Nat) (h : k ≤ fs.length) : (mixO b fs k).length = fs.length := by simp [mixO, mkO_length]; omega
theorem mixO_zero (b : Nat) (fs : List Dop) : mixO b fs 0 = fs := by simp [mixO, mkO]
theorem mixO_end (b : Nat) (fs : List Dop) : mixO b fs fs.length = mkO b fs.length := by simp [mixO]
theorem mixO_next (b : Nat) (fs : List Dop) (k : Nat) (h : k < fs.length) : (mixO b fs k).set k ⟨(((b + k * 4) : Nat) : Int), mtx (b + k * 4 + 1), mtx (b + k * 4 + 2), mtx (b + k * 4 + 3)⟩ = mixO b fs (k + 1) := by
  have hl := mkO_length b k
  unfold mixO
  rw [List.set_append_right _ _ (by omega), hl, Nat.sub_self, List.drop_eq_getElem_cons h, List.set_cons_zero]
  simp [mkO, List.range_succ]
end Plain
theorem RowAt.oy {W : World} {a : Option Addr} {xs : List Dop} (h : RowAt dopE W a xs) (k : Nat) (hi : k < xs.length) : ∃ g u0 u1 u2 u3, a = some ⟨g, 0, none⟩ ∧ g < W.heap.size ∧ W.cell? ⟨g, k * 4, none⟩ = some u0 ∧ W.frozen? ⟨g, k * 4, none⟩ = false ∧ W.cell? ⟨g, k * 4 + 1, none⟩ = some u1 ∧ W.frozen? ⟨g, k * 4 + 1, none⟩ = false ∧ W.cell? ⟨g, k * 4 + 2, none⟩ = some u2 ∧ W.frozen? ⟨g, k * 4 + 2, none⟩ = false ∧ W.cell? ⟨g, k * 4 + 3, none⟩ = some u3 ∧ W.frozen? ⟨g, k * 4 + 3, none⟩ = false := by
  obtain ⟨g, e1, hl, h1⟩ := h k hi
  exact ⟨g, _, _, _, _, e1, hl, (h1 0 (by decide)).1, (h1 0 (by decide)).2, (h1 1 (by decide)).1, (h1 1 (by decide)).2, (h1 2 (by decide)).1, (h1 2 (by decide)).2, (h1 3 (by decide)).1, (h1 3 (by decide)).2⟩

set_option maxRecDepth 10000 in
set_option maxHeartbeats 2000000 in
theorem markDOpS_calls (b : Nat) (a : Option Addr) (c n : Nat) (fs : List Dop) (w : World) (hb1 : 1 ≤ b) (hb2 : b ≤ 100000000) (hn : fs.length = n) (hn2 : n ≤ 100000000) (h1 : RowAt dopE w a fs) :
    Calls Tryz.prog 40 #[.slice a n c, .int .i64 b] w fun e w' => e = .returned (.int .i64 ((b + n * 4 : Nat) : Int)) ∧ RowAt dopE w' a (mkO b n) ∧ OnlyRow a w w' := by
  have H1 := hide h1
  have HN := hide hn
  clear h1 hn
  go_enter Tryz.func40, Tryz.ntmps40
  go_wp2_with fail
  go_loopw [1, 5] (fun m i wr => ∃ (k : Nat), i = .int .i64 k ∧ m = .int .i64 ((b + k * 4 : Nat) : Int) ∧ k ≤ n ∧ Hid (RowAt dopE wr a (mixO b fs k)) ∧ Hid (OnlyRow a w wr)) (fun _ i _ => n - (intOf i).toNat)
  case atStart => exact ⟨0, rfl, rfl, by omega, hide (by rw [mixO_zero]; exact unhide H1), OnlyRow.refl _ _⟩
  case round =>
    clear H1
    obtain ⟨k, rfl, rfl, hk, HF, HB⟩ := hrel
    by_cases hlt : k < n
    · have hfl : k < fs.length := by rw [unhide HN]; exact hlt
      have hml := mixO_length b fs k (by omega)
      have hkl : k < (mixO b fs k).length := by omega
      have hnx := hide (mixO_next b fs k hfl)
      have i0 : (0 : Int) ≤ (k : Int) := by omega
      have i1 : (k : Int) < (n : Int) := by omega
      obtain ⟨M, hM⟩ : ∃ M, b + k * 4 = M := ⟨_, rfl⟩
      rw [hM] at hnx ⊢
      generalize mixO b fs k = cur at HF hkl hnx hml
      generalize hx : cur[k] = x
      obtain ⟨x0, x1, x2, x3⟩ := x
      have hwr : ∀ z : Nat, z ≤ 4 → IntKind.i64.wrap (((M + z : Nat)) : Int) = ((M + z : Nat) : Int) := fun z hz => by rw [IntKind.wrap_i64]; omega
      have HF0 := HF
      have HB0 := HB
      clear HF HB
      obtain ⟨g, a0, a1, a2, a3, e1, l, c0, z0, c1, z1, c2, z2, c3, z3⟩ := (unhide HF0).oy k hkl
      subst e1
      have hf0 := unhide HF0
      have hg0 : cur[k] = ⟨x0, x1, x2, x3⟩ := hx
      have hf1 := hf0.setJ k hkl 0 (by decide) (.int .i64 ((M : Nat) : Int)) ⟨((M : Nat) : Int), x1, x2, x3⟩ (by rw [hg0]; rfl)
      obtain ⟨W1, hW1⟩ : ∃ W1, W1 = (wr.setCell ⟨g, k * 4, none⟩ (.int .i64 ((M : Nat) : Int))) := ⟨_, rfl⟩
      have HF1 := hide (show RowAt dopE W1 (some ⟨g, 0, none⟩) (cur.set k ⟨((M : Nat) : Int), x1, x2, x3⟩) from by rw [hW1]; exact hf1)
      have HB1 := hide (show OnlyRow (some ⟨g, 0, none⟩) w W1 from by rw [hW1]; exact ((unhide HB0).trans (OnlyRow.set _ _)))
      have HW1 := hide hW1.symm
      have w0 := hwr 0 (by omega)
      have w1 := hwr 1 (by omega)
      have w2 := hwr 2 (by omega)
      rw [Nat.add_zero] at w0
      have hk1 : k < (cur.set k ⟨((M : Nat) : Int), x1, x2, x3⟩).length := by rw [List.length_set]; exact hkl
      clear hW1 HF0 HB0 hwr hf0 hf1
      go_wp2_with fail
      rw [unhide HW1]
      refine (markText_calls (M + 1) _ (by omega) (by omega)).mono ?_
      rintro e w1x ⟨rfl, hb1⟩
      have hr1 := (unhide HF1).below hb1
      obtain ⟨g1, a0s1, a1s1, a2s1, a3s1, e1, ls1, c0s1, z0s1, c1s1, z1s1, c2s1, z2s1, c3s1, z3s1⟩ := hr1.oy k hk1
      cases e1
      have hs1 := hr1.setJ k hk1 1 (by decide) (.string (mtx (M + 1))) ⟨((M : Nat) : Int), mtx (M + 1), x2, x3⟩ (by rw [List.getElem_set_self]; rfl)
      rw [List.set_set] at hs1
      obtain ⟨W2, hW2⟩ : ∃ W2, W2 = w1x.setCell ⟨g, k * 4 + 1, none⟩ (.string (mtx (M + 1))) := ⟨_, rfl⟩
      have HF2 := hide (show RowAt dopE W2 (some ⟨g, 0, none⟩) (cur.set k ⟨((M : Nat) : Int), mtx (M + 1), x2, x3⟩) from by rw [hW2]; exact hs1)
      have HB2 := hide (show OnlyRow (some ⟨g, 0, none⟩) w W2 from by rw [hW2]; exact ((unhide HB1).trans (OnlyRow.of hb1)).trans (OnlyRow.set _ _))
      have HW2 := hide hW2.symm
      have hk2 : k < (cur.set k ⟨((M : Nat) : Int), mtx (M + 1), x2, x3⟩).length := by rw [List.length_set]; exact hkl
      clear hb1 hr1 HF1 HB1 hs1 hW2
      go_wp2_with fail
      rw [unhide HW2]
      refine (markText_calls (M + 2) _ (by omega) (by omega)).mono ?_
      rintro e w2x ⟨rfl, hb2⟩
      have hr2 := (unhide HF2).below hb2
      obtain ⟨g2, a0s2, a1s2, a2s2, a3s2, e1, ls2, c0s2, z0s2, c1s2, z1s2, c2s2, z2s2, c3s2, z3s2⟩ := hr2.oy k hk2
      cases e1
      have hs2 := hr2.setJ k hk2 2 (by decide) (.string (mtx (M + 2))) ⟨((M : Nat) : Int), mtx (M + 1), mtx (M + 2), x3⟩ (by rw [List.getElem_set_self]; rfl)
      rw [List.set_set] at hs2
      obtain ⟨W3, hW3⟩ : ∃ W3, W3 = w2x.setCell ⟨g, k * 4 + 2, none⟩ (.string (mtx (M + 2))) := ⟨_, rfl⟩
      have HF3 := hide (show RowAt dopE W3 (some ⟨g, 0, none⟩) (cur.set k ⟨((M : Nat) : Int), mtx (M + 1), mtx (M + 2), x3⟩) from by rw [hW3]; exact hs2)
      have HB3 := hide (show OnlyRow (some ⟨g, 0, none⟩) w W3 from by rw [hW3]; exact ((unhide HB2).trans (OnlyRow.of hb2)).trans (OnlyRow.set _ _))
      have HW3 := hide hW3.symm
      have hk3 : k < (cur.set k ⟨((M : Nat) : Int), mtx (M + 1), mtx (M + 2), x3⟩).length := by rw [List.length_set]; exact hkl
      clear hb2 hr2 HF2 HB2 hs2 hW3
      go_wp2_with fail
      rw [unhide HW3]
      refine (markText_calls (M + 3) _ (by omega) (by omega)).mono ?_
      rintro e w3x ⟨rfl, hb3⟩
      have hr3 := (unhide HF3).below hb3
      obtain ⟨g3, a0s3, a1s3, a2s3, a3s3, e1, ls3, c0s3, z0s3, c1s3, z1s3, c2s3, z2s3, c3s3, z3s3⟩ := hr3.oy k hk3
      cases e1
      have hs3 := hr3.setJ k hk3 3 (by decide) (.string (mtx (M + 3))) ⟨((M : Nat) : Int), mtx (M + 1), mtx (M + 2), mtx (M + 3)⟩ (by rw [List.getElem_set_self]; rfl)
      rw [List.set_set, unhide hnx] at hs3
      have HFZ := hide hs3
      have HBZ := hide ((unhide HB3).trans (OnlyRow.of hb3))
      clear hb3 hr3 HF3 HB3 hs3 hx hg0
      go_wp2_with fail
      go_roundw
      case rel => exact ⟨k + 1, by go_num, by rw [show b + (k + 1) * 4 = M + 4 from by omega]; go_num, by omega, HFZ, hide ((unhide HBZ).trans (OnlyRow.set _ _))⟩
      case measure => simp [intOf]; omega
    · obtain rfl : k = n := by omega
      have hF := unhide HF
      rw [← unhide HN, mixO_end, unhide HN] at hF
      have HF2 := hide hF
      clear hF HF
      go_wp2_with fail
      go_ret
      exact ⟨rfl, unhide HF2, unhide HB⟩

set_option maxRecDepth 10000 in
set_option maxHeartbeats 4000000 in
theorem heldDOpS_calls (b : Nat) (a : Option Addr) (c n : Nat) (w : World) (hb1 : 1 ≤ b) (hb2 : b ≤ 100000000) (hn2 : n ≤ 100000000) (h1 : RowAt dopE w a (mkO b n)) :
    Calls Tryz.prog 42 #[.slice a n c, .int .i64 b] w fun e w' => e = .returned (.int .i64 ((b + n * 4 : Nat) : Int)) ∧ Below w.heap.size w w' := by
  have H1 := hide h1
  clear h1
  go_enter Tryz.func42, Tryz.ntmps42
  go_wp2_with fail
  go_loopw [1, 5] (fun m i wr => ∃ (k : Nat), i = .int .i64 k ∧ m = .int .i64 ((b + k * 4 : Nat) : Int) ∧ k ≤ n ∧ Hid (Below w.heap.size w wr)) (fun _ i _ => n - (intOf i).toNat)
  case atStart => exact ⟨0, rfl, rfl, by omega, Below.refl _ _⟩
  case round =>
    obtain ⟨k, rfl, rfl, hk, HB⟩ := hrel
    by_cases hlt : k < n
    · have hkl : k < (mkO b n).length := by rw [mkO_length]; exact hlt
      obtain ⟨g, e1, l1, p0, p1, p2, p3⟩ := ((unhide H1).below (unhide HB)).ox k hkl
      rw [mkO_get b n k hkl] at p0 p1 p2 p3
      clear H1
      subst e1
      have i0 : (0 : Int) ≤ (k : Int) := by omega
      have i1 : (k : Int) < (n : Int) := by omega
      obtain ⟨M, hM⟩ : ∃ M, b + k * 4 = M := ⟨_, rfl⟩
      simp only [hM] at p0 p1 p2 p3
      rw [hM]
      have hwr : ∀ z : Nat, z ≤ 4 → IntKind.i64.wrap (((M + z : Nat)) : Int) = ((M + z : Nat) : Int) := fun z hz => by rw [IntKind.wrap_i64]; omega
      have w0 := hwr 0 (by omega)
      have w1 := hwr 1 (by omega)
      have w2 := hwr 2 (by omega)
      rw [Nat.add_zero] at w0
      have hM2 : M + 4 ≤ 1000000000 := by omega
      have hM1 : 1 ≤ M := by omega
      have HM := hide hM
      clear hwr hM
      go_wp2_with fail
      go_region_with (go_at_call 56; refine (markText_calls (M + 1) _ (by omega) (by omega)).mono ?_; rintro e v0 ⟨rfl, hb0⟩; have r0x1 := bcl (bOfDrew hb0) l1 p1; have r0x2 := bcl (bOfDrew hb0) l1 p2; have r0x3 := bcl (bOfDrew hb0) l1 p3)
      all_goals (have m0 := lt_of_cell r0x3)
      all_goals (have HB0 := hide (belOn (unhide HB) (bOfDrew hb0)))
      all_goals clear hb0 p0 p1 p2 p3
      all_goals (try go_wp2_with fail)
      all_goals go_region_with (go_at_call 56; refine (markText_calls (M + 2) _ (by omega) (by omega)).mono ?_; rintro e v1 ⟨rfl, hb1⟩; have r1x2 := bcl (bOfDrew hb1) m0 r0x2; have r1x3 := bcl (bOfDrew hb1) m0 r0x3)
      all_goals (have m1 := lt_of_cell r1x3)
      all_goals (have HB1 := hide (belOn (unhide HB0) (bOfDrew hb1)))
      all_goals clear hb1 r0x2 r0x3
      all_goals (try go_wp2_with fail)
      all_goals go_region_with (go_at_call 56; refine (markText_calls (M + 3) _ (by omega) (by omega)).mono ?_; rintro e v2 ⟨rfl, hb2⟩; have r2x3 := bcl (bOfDrew hb2) m1 r1x3)
      all_goals (have m2 := lt_of_cell r2x3)
      all_goals (have HB2 := hide (belOn (unhide HB1) (bOfDrew hb2)))
      all_goals clear hb2 r1x3
      all_goals (try go_wp2_with fail)
      all_goals exact ⟨⟨k + 1, by go_num, by rw [show b + (k + 1) * 4 = M + 4 from by have := unhide HM; omega]; go_num, by omega, HB2⟩, by simp [intOf]; omega⟩
    · obtain rfl : k = n := by omega
      go_wp2_with fail
      go_ret
      exact ⟨rfl, unhide HB⟩
end Go.Proofs.YtliklijcdcfomaaGreat
