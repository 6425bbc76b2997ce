/- Rows of entries marked and looked at again, as the exact laws do it. -/
import Derived.Test.YtliklijcdcfomaaGreatRzA
import Derived.Test.YtliklijcdcfomaaGreatAzB
namespace Go.Proofs.YtliklijcdcfomaaGreat
open Go.RowKit Plain
set_option linter.unusedVariables false

namespace Plain
/-- What the marking leaves. -/
def mkE (b n : Nat) : List Ent := (List.range n).map fun i : Nat => (⟨(((b + i * 3) : Nat) : Int), (((b + i * 3 + 1) : Nat) : Int), mtx (b + i * 3 + 2)⟩ : Ent)
theorem mkE_length (b n : Nat) : (mkE b n).length = n := by simp [mkE]
theorem mkE_get (b n k : Nat) (h : k < (mkE b n).length) : (mkE b n)[k] = ⟨(((b + k * 3) : Nat) : Int), (((b + k * 3 + 1) : Nat) : Int), mtx (b + k * 3 + 2)⟩ := by simp [mkE]
def mixE (b : Nat) (fs : List Ent) (k : Nat) : List Ent := mkE b k ++ fs.drop k
theorem mixE_length (b : Nat) (fs : List Ent) (k : Nat) (h : k ≤ fs.length) : (mixE b fs k).length = fs.length := by simp [mixE, mkE_length]; omega
theorem mixE_zero (b : Nat) (fs : List Ent) : mixE b fs 0 = fs := by simp [mixE, mkE]
theorem mixE_end (b : Nat) (fs : List Ent) : mixE b fs fs.length = mkE b fs.length := by simp [mixE]
theorem mixE_next (b : Nat) (fs : List Ent) (k : Nat) (h : k < fs.length) : (mixE b fs k).set k ⟨(((b + k * 3) : Nat) : Int), (((b + k * 3 + 1) : Nat) : Int), mtx (b + k * 3 + 2)⟩ = mixE b fs (k + 1) := by
  have hl := mkE_length b k
  unfold mixE
  rw [List.set_append_right _ _ (by omega), hl, Nat.sub_self, List.drop_eq_getElem_cons h, List.set_cons_zero]
  simp [mkE, List.range_succ]
end Plain
theorem RowAt.ey {W : World} {a : Option Addr} {xs : List Ent} (h : RowAt entE W a xs) (k : Nat) (hi : k < xs.length) : ∃ g u0 u1 u2, a = some ⟨g, 0, none⟩ ∧ g < W.heap.size ∧ W.cell? ⟨g, k * 3, none⟩ = some u0 ∧ W.frozen? ⟨g, k * 3, none⟩ = false ∧ W.cell? ⟨g, k * 3 + 1, none⟩ = some u1 ∧ W.frozen? ⟨g, k * 3 + 1, none⟩ = false ∧ W.cell? ⟨g, k * 3 + 2, none⟩ = some u2 ∧ W.frozen? ⟨g, k * 3 + 2, none⟩ = false := by
  obtain ⟨g, e1, hl, h1⟩ := h k hi
  exact ⟨g, _, _, _, e1, hl, (h1 0 (by decide)).1, (h1 0 (by decide)).2, (h1 1 (by decide)).1, (h1 1 (by decide)).2, (h1 2 (by decide)).1, (h1 2 (by decide)).2⟩

set_option maxRecDepth 10000 in
set_option maxHeartbeats 2000000 in
theorem markEntryS_calls (b : Nat) (a : Option Addr) (c n : Nat) (fs : List Ent) (w : World) (hb1 : 1 ≤ b) (hb2 : b ≤ 100000000) (hn : fs.length = n) (hn2 : n ≤ 100000000) (h1 : RowAt entE w a fs) :
    Calls Tryz.prog 17 #[.slice a n c, .int .i64 b] w fun e w' => e = .returned (.int .i64 ((b + n * 3 : Nat) : Int)) ∧ RowAt entE w' a (mkE b n) ∧ OnlyRow a w w' := by
  have H1 := hide h1
  have HN := hide hn
  clear h1 hn
  go_enter Tryz.func17, Tryz.ntmps17
  go_wp2_with fail
  go_loopw [1, 5] (fun m i wr => ∃ (k : Nat), i = .int .i64 k ∧ m = .int .i64 ((b + k * 3 : Nat) : Int) ∧ k ≤ n ∧ Hid (RowAt entE wr a (mixE b fs k)) ∧ Hid (OnlyRow a w wr)) (fun _ i _ => n - (intOf i).toNat)
  case atStart => exact ⟨0, rfl, rfl, by omega, hide (by rw [mixE_zero]; exact unhide H1), OnlyRow.refl _ _⟩
  case round =>
    clear H1
    obtain ⟨k, rfl, rfl, hk, HF, HB⟩ := hrel
    by_cases hlt : k < n
    · have hfl : k < fs.length := by rw [unhide HN]; exact hlt
      have hml := mixE_length b fs k (by omega)
      have hkl : k < (mixE b fs k).length := by omega
      have hnx := hide (mixE_next b fs k hfl)
      have i0 : (0 : Int) ≤ (k : Int) := by omega
      have i1 : (k : Int) < (n : Int) := by omega
      obtain ⟨M, hM⟩ : ∃ M, b + k * 3 = M := ⟨_, rfl⟩
      rw [hM] at hnx ⊢
      generalize mixE b fs k = cur at HF hkl hnx hml
      generalize hx : cur[k] = x
      obtain ⟨x0, x1, x2⟩ := x
      have hwr : ∀ z : Nat, z ≤ 4 → IntKind.i64.wrap (((M + z : Nat)) : Int) = ((M + z : Nat) : Int) := fun z hz => by rw [IntKind.wrap_i64]; omega
      have HF0 := HF
      have HB0 := HB
      clear HF HB
      obtain ⟨g, a0, a1, a2, e1, l, c0, z0, c1, z1, c2, z2⟩ := (unhide HF0).ey k hkl
      subst e1
      have hf0 := unhide HF0
      have hg0 : cur[k] = ⟨x0, x1, x2⟩ := hx
      have hf1 := hf0.setJ k hkl 0 (by decide) (.int .i64 ((M : Nat) : Int)) ⟨((M : Nat) : Int), x1, x2⟩ (by rw [hg0]; rfl)
      have hf2 := hf1.setJ k (by rw [List.length_set]; exact hkl) 1 (by decide) (.int .i64 ((M + 1 : Nat) : Int)) ⟨((M : Nat) : Int), ((M + 1 : Nat) : Int), x2⟩ (by rw [List.getElem_set_self]; rfl)
      rw [List.set_set] at hf2
      obtain ⟨W1, hW1⟩ : ∃ W1, W1 = ((wr.setCell ⟨g, k * 3, none⟩ (.int .i64 ((M : Nat) : Int))).setCell ⟨g, k * 3 + 1, none⟩ (.int .i64 ((M + 1 : Nat) : Int))) := ⟨_, rfl⟩
      have HF1 := hide (show RowAt entE W1 (some ⟨g, 0, none⟩) (cur.set k ⟨((M : Nat) : Int), ((M + 1 : Nat) : Int), x2⟩) from by rw [hW1]; exact hf2)
      have HB1 := hide (show OnlyRow (some ⟨g, 0, none⟩) w W1 from by rw [hW1]; exact (((unhide HB0).trans (OnlyRow.set _ _)).trans (OnlyRow.set _ _)))
      have HW1 := hide hW1.symm
      have w0 := hwr 0 (by omega)
      have w1 := hwr 1 (by omega)
      have w2 := hwr 2 (by omega)
      rw [Nat.add_zero] at w0
      have hk1 : k < (cur.set k ⟨((M : Nat) : Int), ((M + 1 : Nat) : Int), x2⟩).length := by rw [List.length_set]; exact hkl
      clear hW1 HF0 HB0 hwr hf0 hf1 hf2
      go_wp2_with fail
      rw [show ((M : Nat) : Int) + 1 = ((M + 1 : Nat) : Int) from rfl, show ((M + 1 : Nat) : Int) + 1 = ((M + 2 : Nat) : Int) from rfl]
      rw [unhide HW1]
      refine (markText_calls (M + 2) _ (by omega) (by omega)).mono ?_
      rintro e w1x ⟨rfl, hb1⟩
      have hr1 := (unhide HF1).below hb1
      obtain ⟨g1, a0s1, a1s1, a2s1, e1, ls1, c0s1, z0s1, c1s1, z1s1, c2s1, z2s1⟩ := hr1.ey k hk1
      cases e1
      have hs1 := hr1.setJ k hk1 2 (by decide) (.string (mtx (M + 2))) ⟨((M : Nat) : Int), ((M + 1 : Nat) : Int), mtx (M + 2)⟩ (by rw [List.getElem_set_self]; rfl)
      rw [List.set_set, unhide hnx] at hs1
      have HFZ := hide hs1
      have HBZ := hide ((unhide HB1).trans (OnlyRow.of hb1))
      clear hb1 hr1 HF1 HB1 hs1 hx hg0
      go_wp2_with fail
      go_roundw
      case rel => exact ⟨k + 1, by go_num, by rw [show b + (k + 1) * 3 = M + 3 from by omega]; go_num, by omega, HFZ, hide ((unhide HBZ).trans (OnlyRow.set _ _))⟩
      case measure => simp [intOf]; omega
    · obtain rfl : k = n := by omega
      have hF := unhide HF
      rw [← unhide HN, mixE_end, unhide HN] at hF
      have HF2 := hide hF
      clear hF HF
      go_wp2_with fail
      go_ret
      exact ⟨rfl, unhide HF2, unhide HB⟩

end Go.Proofs.YtliklijcdcfomaaGreat