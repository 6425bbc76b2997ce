/- Rows of copies marked and looked at again, as the exact laws do it. -/
import Derived.Test.YtmicacoegkmklaaGreatDoorRzM
import Derived.Test.YtmicacoegkmklaaGreatDoorRzE
namespace Go.Proofs.YtmicacoegkmklaaGreatDoor
open Go.RowKit Plain
set_option linter.unusedVariables false

namespace Plain
/-- What the marking leaves. -/
def mkC (b n : Nat) : List Cpy := (List.range n).map fun i : Nat => (⟨mtx (b + i * 3), (((b + i * 3 + 1) : Nat) : Int), (((b + i * 3 + 2) : Nat) : Int)⟩ : Cpy)
theorem mkC_length (b n : Nat) : (mkC b n).length = n := by simp [mkC]
theorem mkC_get (b n k : Nat) (h : k < (mkC b n).length) : (mkC b n)[k] = ⟨mtx (b + k * 3), (((b + k * 3 + 1) : Nat) : Int), (((b + k * 3 + 2) : Nat) : Int)⟩ := by simp [mkC]
def mixC (b : Nat) (fs : List Cpy) (k : Nat) : List Cpy := mkC b k ++ fs.drop k
theorem mixC_length (b : Nat) (fs : List Cpy) (k : Nat) (h : k ≤ fs.length) : (mixC b fs k).length = fs.length := by simp [mixC, mkC_length]; omega
theorem mixC_zero (b : Nat) (fs : List Cpy) : mixC b fs 0 = fs := by simp [mixC, mkC]
theorem mixC_end (b : Nat) (fs : List Cpy) : mixC b fs fs.length = mkC b fs.length := by simp [mixC]
theorem mixC_next (b : Nat) (fs : List Cpy) (k : Nat) (h : k < fs.length) : (mixC b fs k).set k ⟨mtx (b + k * 3), (((b + k * 3 + 1) : Nat) : Int), (((b + k * 3 + 2) : Nat) : Int)⟩ = mixC b fs (k + 1) := by
  have hl := mkC_length b k
  unfold mixC
  rw [List.set_append_right _ _ (by omega), hl, Nat.sub_self, List.drop_eq_getElem_cons h, List.set_cons_zero]
  simp [mkC, List.range_succ]
end Plain
theorem RowAt.cy {W : World} {a : Option Addr} {xs : List Cpy} (h : RowAt cpyE W a xs) (k : Nat) (hi : k < xs.length) : ∃ g u0 u1 u2, a = some ⟨g, 0, none⟩ ∧ g < W.heap.size ∧ W.cell? ⟨g, k * 3, none⟩ = some u0 ∧ W.frozen? ⟨g, k * 3, none⟩ = false ∧ W.cell? ⟨g, k * 3 + 1, none⟩ = some u1 ∧ W.frozen? ⟨g, k * 3 + 1, none⟩ = false ∧ W.cell? ⟨g, k * 3 + 2, none⟩ = some u2 ∧ W.frozen? ⟨g, k * 3 + 2, none⟩ = false := by
  obtain ⟨g, e1, hl, h1⟩ := h k hi
  exact ⟨g, _, _, _, e1, hl, (h1 0 (by decide)).1, (h1 0 (by decide)).2, (h1 1 (by decide)).1, (h1 1 (by decide)).2, (h1 2 (by decide)).1, (h1 2 (by decide)).2⟩

set_option maxRecDepth 10000 in
set_option maxHeartbeats 2000000 in
theorem markCopyS_calls (b : Nat) (a : Option Addr) (c n : Nat) (fs : List Cpy) (w : World) (hb1 : 1 ≤ b) (hb2 : b ≤ 100000000) (hn : fs.length = n) (hn2 : n ≤ 100000000) (h1 : RowAt cpyE w a fs) :
    Calls Tryz.prog 19 #[.slice a n c, .int .i64 b] w fun e w' => e = .returned (.int .i64 ((b + n * 3 : Nat) : Int)) ∧ RowAt cpyE w' a (mkC b n) ∧ OnlyRow a w w' := by
  have H1 := hide h1
  have HN := hide hn
  clear h1 hn
  go_enter Tryz.func19, Tryz.ntmps19
  go_wp2_with fail
  go_loopw [1, 5] (fun m i wr => ∃ (k : Nat), i = .int .i64 k ∧ m = .int .i64 ((b + k * 3 : Nat) : Int) ∧ k ≤ n ∧ Hid (RowAt cpyE wr a (mixC b fs k)) ∧ Hid (OnlyRow a w wr)) (fun _ i _ => n - (intOf i).toNat)
  case atStart => exact ⟨0, rfl, rfl, by omega, hide (by rw [mixC_zero]; exact unhide H1), OnlyRow.refl _ _⟩
  case round =>
    clear H1
    obtain ⟨k, rfl, rfl, hk, HF, HB⟩ := hrel
    by_cases hlt : k < n
    · have hfl : k < fs.length := by rw [unhide HN]; exact hlt
      have hml := mixC_length b fs k (by omega)
      have hkl : k < (mixC b fs k).length := by omega
      have hnx := hide (mixC_next b fs k hfl)
      have i0 : (0 : Int) ≤ (k : Int) := by omega
      have i1 : (k : Int) < (n : Int) := by omega
      obtain ⟨M, hM⟩ : ∃ M, b + k * 3 = M := ⟨_, rfl⟩
      rw [hM] at hnx ⊢
      generalize mixC b fs k = cur at HF hkl hnx hml
      generalize hx : cur[k] = x
      obtain ⟨x0, x1, x2⟩ := x
      have hwr : ∀ z : Nat, z ≤ 4 → IntKind.i64.wrap (((M + z : Nat)) : Int) = ((M + z : Nat) : Int) := fun z hz => by rw [IntKind.wrap_i64]; omega
      have HF1 := HF
      have HB1 := HB
      obtain ⟨g, a0, a1, a2, e1, l, c0, z0, c1, z1, c2, z2⟩ := (unhide HF).cy k hkl
      subst e1
      have w0 := hwr 0 (by omega)
      have w1 := hwr 1 (by omega)
      have w2 := hwr 2 (by omega)
      rw [Nat.add_zero] at w0
      clear HF HB hwr c0 z0 c1 z1 c2 z2
      go_wp2_with fail
      refine (markText_calls (M) _ (by omega) (by omega)).mono ?_
      rintro e w1x ⟨rfl, hb1⟩
      have hr1 := (unhide HF1).below hb1
      obtain ⟨g1, a0s1, a1s1, a2s1, e1, ls1, c0s1, z0s1, c1s1, z1s1, c2s1, z2s1⟩ := hr1.cy k hkl
      cases e1
      have hs1 := hr1.setJ k hkl 0 (by decide) (.string (mtx (M))) ⟨mtx (M), x1, x2⟩ (by rw [hx]; rfl)
      have hs2 := hs1.setJ k (by rw [List.length_set]; exact hkl) 1 (by decide) (.int .i64 ((M + 1 : Nat) : Int)) ⟨mtx (M), ((M + 1 : Nat) : Int), x2⟩ (by rw [List.getElem_set_self]; rfl)
      rw [List.set_set] at hs2
      have hs3 := hs2.setJ k (by rw [List.length_set]; exact hkl) 2 (by decide) (.int .i64 ((M + 2 : Nat) : Int)) ⟨mtx (M), ((M + 1 : Nat) : Int), ((M + 2 : Nat) : Int)⟩ (by rw [List.getElem_set_self]; rfl)
      rw [List.set_set, unhide hnx] at hs3
      have HFZ := hide hs3
      have HBZ := hide ((unhide HB1).trans (OnlyRow.of hb1))
      clear hb1 hr1 HF1 HB1 hs1 hs2 hs3 hx
      go_wp2_with fail
      go_roundw
      case rel => exact ⟨k + 1, by go_num, by rw [show b + (k + 1) * 3 = M + 3 from by omega]; go_num, by omega, HFZ, hide ((((unhide HBZ).trans (OnlyRow.set _ _)).trans (OnlyRow.set _ _)).trans (OnlyRow.set _ _))⟩
      case measure => simp [intOf]; omega
    · obtain rfl : k = n := by omega
      have hF := unhide HF
      rw [← unhide HN, mixC_end, unhide HN] at hF
      have HF2 := hide hF
      clear hF HF
      go_wp2_with fail
      go_ret
      exact ⟨rfl, unhide HF2, unhide HB⟩

set_option maxRecDepth 10000 in
set_option maxHeartbeats 4000000 in
theorem heldCopyS_calls (b : Nat) (a : Option Addr) (c n : Nat) (w : World) (hb1 : 1 ≤ b) (hb2 : b ≤ 100000000) (hn2 : n ≤ 100000000) (h1 : RowAt cpyE w a (mkC b n)) :
    Calls Tryz.prog 20 #[.slice a n c, .int .i64 b] w fun e w' => e = .returned (.int .i64 ((b + n * 3 : Nat) : Int)) ∧ Below w.heap.size w w' := by
  have H1 := hide h1
  clear h1
  go_enter Tryz.func20, Tryz.ntmps20
  go_wp2_with fail
  go_loopw [1, 5] (fun m i wr => ∃ (k : Nat), i = .int .i64 k ∧ m = .int .i64 ((b + k * 3 : Nat) : Int) ∧ k ≤ n ∧ Hid (Below w.heap.size w wr)) (fun _ i _ => n - (intOf i).toNat)
  case atStart => exact ⟨0, rfl, rfl, by omega, Below.refl _ _⟩
  case round =>
    obtain ⟨k, rfl, rfl, hk, HB⟩ := hrel
    by_cases hlt : k < n
    · have hkl : k < (mkC b n).length := by rw [mkC_length]; exact hlt
      obtain ⟨g, e1, l1, p0, p1, p2⟩ := ((unhide H1).below (unhide HB)).cx k hkl
      rw [mkC_get b n k hkl] at p0 p1 p2
      clear H1
      subst e1
      have i0 : (0 : Int) ≤ (k : Int) := by omega
      have i1 : (k : Int) < (n : Int) := by omega
      obtain ⟨M, hM⟩ : ∃ M, b + k * 3 = M := ⟨_, rfl⟩
      simp only [hM] at p0 p1 p2
      rw [hM]
      have hwr : ∀ z : Nat, z ≤ 4 → IntKind.i64.wrap (((M + z : Nat)) : Int) = ((M + z : Nat) : Int) := fun z hz => by rw [IntKind.wrap_i64]; omega
      have w0 := hwr 0 (by omega)
      have w1 := hwr 1 (by omega)
      have w2 := hwr 2 (by omega)
      rw [Nat.add_zero] at w0
      have hM2 : M + 4 ≤ 1000000000 := by omega
      have hM1 : 1 ≤ M := by omega
      have HM := hide hM
      clear hwr hM
      go_wp2_with fail
      go_region_with (go_at_call 33; refine (markText_calls (M) _ (by omega) (by omega)).mono ?_; rintro e v0 ⟨rfl, hb0⟩; have r0x0 := bcl (bOfDrew hb0) l1 p0; have r1x0 := bcl (bOfDrew hb0) l1 p1; have r2x0 := bcl (bOfDrew hb0) l1 p2)
      all_goals (have m0 := lt_of_cell r0x0)
      all_goals (have HB0 := hide (belOn (unhide HB) (bOfDrew hb0)))
      all_goals clear hb0 p0 p1 p2
      all_goals (try go_wp2_with fail)
      all_goals exact ⟨⟨k + 1, by go_num, by rw [show b + (k + 1) * 3 = M + 3 from by have := unhide HM; omega]; go_num, by omega, HB0⟩, by simp [intOf]; omega⟩
    · obtain rfl : k = n := by omega
      go_wp2_with fail
      go_ret
      exact ⟨rfl, unhide HB⟩
end Go.Proofs.YtmicacoegkmklaaGreatDoor
