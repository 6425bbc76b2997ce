/- Rows of packets marked and looked at again, as the exact laws do it. -/
import Derived.Test.YtkpnnchgngcppaaPktR
import Derived.Test.YtkpnnchgngcppaaNetU
namespace Go.Proofs.Ytkpnnchgngcppaa
open Go.RowKit Plain
set_option linter.unusedVariables false

namespace Plain
/-- What the marking leaves. -/
def mkP (b n : Nat) : List Pkt := (List.range n).map fun i : Nat => (⟨(((b + i * 4) : Nat) : Int), (((b + i * 4 + 1) : Nat) : Int), (((b + i * 4 + 2) : Nat) : Int), mtx (b + i * 4 + 3)⟩ : Pkt)
theorem mkP_length (b n : Nat) : (mkP b n).length = n := by simp [mkP]
theorem mkP_get (b n k : Nat) (h : k < (mkP b n).length) : (mkP b n)[k] = ⟨(((b + k * 4) : Nat) : Int), (((b + k * 4 + 1) : Nat) : Int), (((b + k * 4 + 2) : Nat) : Int), mtx (b + k * 4 + 3)⟩ := by simp [mkP]
def mixP (b : Nat) (fs : List Pkt) (k : Nat) : List Pkt := mkP b k ++ fs.drop k
theorem mixP_length (b : Nat) (fs : List Pkt) (k : Nat) (h : k ≤ fs.length) : (mixP b fs k).length = fs.length := by simp [mixP, mkP_length]; omega
theorem mixP_zero (b : Nat) (fs : List Pkt) : mixP b fs 0 = fs := by simp [mixP, mkP]
theorem mixP_end (b : Nat) (fs : List Pkt) : mixP b fs fs.length = mkP b fs.length := by simp [mixP]
theorem mixP_next (b : Nat) (fs : List Pkt) (k : Nat) (h : k < fs.length) : (mixP b fs k).set k ⟨(((b + k * 4) : Nat) : Int), (((b + k * 4 + 1) : Nat) : Int), (((b + k * 4 + 2) : Nat) : Int), mtx (b + k * 4 + 3)⟩ = mixP b fs (k + 1) := by
  have hl := mkP_length b k
  unfold mixP
  rw [List.set_append_right _ _ (by omega), hl, Nat.sub_self, List.drop_eq_getElem_cons h, List.set_cons_zero]
  simp [mkP, List.range_succ]
end Plain
theorem RowAt.py {W : World} {a : Option Addr} {xs : List Pkt} (h : RowAt pktE W a xs) (k : Nat) (hi : k < xs.length) : ∃ g u0 u1 u2 u3, a = some ⟨g, 0, none⟩ ∧ g < W.heap.size ∧ W.cell? ⟨g, k * 4, none⟩ = some u0 ∧ W.frozen? ⟨g, k * 4, none⟩ = false ∧ W.cell? ⟨g, k * 4 + 1, none⟩ = some u1 ∧ W.frozen? ⟨g, k * 4 + 1, none⟩ = false ∧ W.cell? ⟨g, k * 4 + 2, none⟩ = some u2 ∧ W.frozen? ⟨g, k * 4 + 2, none⟩ = false ∧ W.cell? ⟨g, k * 4 + 3, none⟩ = some u3 ∧ W.frozen? ⟨g, k * 4 + 3, none⟩ = false := by
  obtain ⟨g, e1, hl, h1⟩ := h k hi
  exact ⟨g, _, _, _, _, e1, hl, (h1 0 (by decide)).1, (h1 0 (by decide)).2, (h1 1 (by decide)).1, (h1 1 (by decide)).2, (h1 2 (by decide)).1, (h1 2 (by decide)).2, (h1 3 (by decide)).1, (h1 3 (by decide)).2⟩

set_option maxRecDepth 10000 in
set_option maxHeartbeats 2000000 in
theorem markPacketS_calls (b : Nat) (a : Option Addr) (c n : Nat) (fs : List Pkt) (w : World) (hb1 : 1 ≤ b) (hb2 : b ≤ 100000000) (hn : fs.length = n) (hn2 : n ≤ 100000000) (h1 : RowAt pktE w a fs) :
    Calls Try.prog 36 #[.slice a n c, .int .i64 b] w fun e w' => e = .returned (.int .i64 ((b + n * 4 : Nat) : Int)) ∧ RowAt pktE w' a (mkP b n) ∧ OnlyRow a w w' := by
  have H1 := hide h1
  have HN := hide hn
  clear h1 hn
  go_enter Try.func36, Try.ntmps36
  go_wp2_with fail
  go_loopw [1, 5] (fun m i wr => ∃ (k : Nat), i = .int .i64 k ∧ m = .int .i64 ((b + k * 4 : Nat) : Int) ∧ k ≤ n ∧ Hid (RowAt pktE wr a (mixP b fs k)) ∧ Hid (OnlyRow a w wr)) (fun _ i _ => n - (intOf i).toNat)
  case atStart => exact ⟨0, rfl, rfl, by omega, hide (by rw [mixP_zero]; exact unhide H1), OnlyRow.refl _ _⟩
  case round =>
    clear H1
    obtain ⟨k, rfl, rfl, hk, HF, HB⟩ := hrel
    by_cases hlt : k < n
    · have hfl : k < fs.length := by rw [unhide HN]; exact hlt
      have hml := mixP_length b fs k (by omega)
      have hkl : k < (mixP b fs k).length := by omega
      have hnx := hide (mixP_next b fs k hfl)
      have i0 : (0 : Int) ≤ (k : Int) := by omega
      have i1 : (k : Int) < (n : Int) := by omega
      obtain ⟨M, hM⟩ : ∃ M, b + k * 4 = M := ⟨_, rfl⟩
      rw [hM] at hnx ⊢
      generalize mixP b fs k = cur at HF hkl hnx hml
      generalize hx : cur[k] = x
      obtain ⟨x0, x1, x2, x3⟩ := x
      have hwr : ∀ z : Nat, z ≤ 4 → IntKind.i64.wrap (((M + z : Nat)) : Int) = ((M + z : Nat) : Int) := fun z hz => by rw [IntKind.wrap_i64]; omega
      have HF0 := HF
      have HB0 := HB
      clear HF HB
      obtain ⟨g, a0, a1, a2, a3, e1, l, c0, z0, c1, z1, c2, z2, c3, z3⟩ := (unhide HF0).py k hkl
      subst e1
      have hf0 := unhide HF0
      have hg0 : cur[k] = ⟨x0, x1, x2, x3⟩ := hx
      have hf1 := hf0.setJ k hkl 0 (by decide) (.int .i64 ((M : Nat) : Int)) ⟨((M : Nat) : Int), x1, x2, x3⟩ (by rw [hg0]; rfl)
      have hf2 := hf1.setJ k (by rw [List.length_set]; exact hkl) 1 (by decide) (.int .i64 ((M + 1 : Nat) : Int)) ⟨((M : Nat) : Int), ((M + 1 : Nat) : Int), x2, x3⟩ (by rw [List.getElem_set_self]; rfl)
      rw [List.set_set] at hf2
      have hf3 := hf2.setJ k (by rw [List.length_set]; exact hkl) 2 (by decide) (.int .i64 ((M + 2 : Nat) : Int)) ⟨((M : Nat) : Int), ((M + 1 : Nat) : Int), ((M + 2 : Nat) : Int), x3⟩ (by rw [List.getElem_set_self]; rfl)
      rw [List.set_set] at hf3
      obtain ⟨W1, hW1⟩ : ∃ W1, W1 = (((wr.setCell ⟨g, k * 4, none⟩ (.int .i64 ((M : Nat) : Int))).setCell ⟨g, k * 4 + 1, none⟩ (.int .i64 ((M + 1 : Nat) : Int))).setCell ⟨g, k * 4 + 2, none⟩ (.int .i64 ((M + 2 : Nat) : Int))) := ⟨_, rfl⟩
      have HF1 := hide (show RowAt pktE W1 (some ⟨g, 0, none⟩) (cur.set k ⟨((M : Nat) : Int), ((M + 1 : Nat) : Int), ((M + 2 : Nat) : Int), x3⟩) from by rw [hW1]; exact hf3)
      have HB1 := hide (show OnlyRow (some ⟨g, 0, none⟩) w W1 from by rw [hW1]; exact ((((unhide HB0).trans (OnlyRow.set _ _)).trans (OnlyRow.set _ _)).trans (OnlyRow.set _ _)))
      have HW1 := hide hW1.symm
      have w0 := hwr 0 (by omega)
      have w1 := hwr 1 (by omega)
      have w2 := hwr 2 (by omega)
      rw [Nat.add_zero] at w0
      have hk1 : k < (cur.set k ⟨((M : Nat) : Int), ((M + 1 : Nat) : Int), ((M + 2 : Nat) : Int), x3⟩).length := by rw [List.length_set]; exact hkl
      clear hW1 HF0 HB0 hwr hf0 hf1 hf2 hf3
      go_wp2_with fail
      rw [show ((M : Nat) : Int) + 1 = ((M + 1 : Nat) : Int) from rfl, show ((M + 1 : Nat) : Int) + 1 = ((M + 2 : Nat) : Int) from rfl, show ((M + 2 : Nat) : Int) + 1 = ((M + 3 : Nat) : Int) from rfl]
      rw [unhide HW1]
      refine (markText_calls (M + 3) _ (by omega) (by omega)).mono ?_
      rintro e w1x ⟨rfl, hb1⟩
      have hr1 := (unhide HF1).below hb1
      obtain ⟨g1, a0s1, a1s1, a2s1, a3s1, e1, ls1, c0s1, z0s1, c1s1, z1s1, c2s1, z2s1, c3s1, z3s1⟩ := hr1.py k hk1
      cases e1
      have hs1 := hr1.setJ k hk1 3 (by decide) (.string (mtx (M + 3))) ⟨((M : Nat) : Int), ((M + 1 : Nat) : Int), ((M + 2 : Nat) : Int), mtx (M + 3)⟩ (by rw [List.getElem_set_self]; rfl)
      rw [List.set_set, unhide hnx] at hs1
      have HFZ := hide hs1
      have HBZ := hide ((unhide HB1).trans (OnlyRow.of hb1))
      clear hb1 hr1 HF1 HB1 hs1 hx hg0
      go_wp2_with fail
      go_roundw
      case rel => exact ⟨k + 1, by go_num, by rw [show b + (k + 1) * 4 = M + 4 from by omega]; go_num, by omega, HFZ, hide ((unhide HBZ).trans (OnlyRow.set _ _))⟩
      case measure => simp [intOf]; omega
    · obtain rfl : k = n := by omega
      have hF := unhide HF
      rw [← unhide HN, mixP_end, unhide HN] at hF
      have HF2 := hide hF
      clear hF HF
      go_wp2_with fail
      go_ret
      exact ⟨rfl, unhide HF2, unhide HB⟩

set_option maxRecDepth 10000 in
set_option maxHeartbeats 4000000 in
theorem heldPacketS_calls (b : Nat) (a : Option Addr) (c n : Nat) (w : World) (hb1 : 1 ≤ b) (hb2 : b ≤ 100000000) (hn2 : n ≤ 100000000) (h1 : RowAt pktE w a (mkP b n)) :
    Calls Try.prog 37 #[.slice a n c, .int .i64 b] w fun e w' => e = .returned (.int .i64 ((b + n * 4 : Nat) : Int)) ∧ Below w.heap.size w w' := by
  have H1 := hide h1
  clear h1
  go_enter Try.func37, Try.ntmps37
  go_wp2_with fail
  go_loopw [1, 5] (fun m i wr => ∃ (k : Nat), i = .int .i64 k ∧ m = .int .i64 ((b + k * 4 : Nat) : Int) ∧ k ≤ n ∧ Hid (Below w.heap.size w wr)) (fun _ i _ => n - (intOf i).toNat)
  case atStart => exact ⟨0, rfl, rfl, by omega, Below.refl _ _⟩
  case round =>
    obtain ⟨k, rfl, rfl, hk, HB⟩ := hrel
    by_cases hlt : k < n
    · have hkl : k < (mkP b n).length := by rw [mkP_length]; exact hlt
      obtain ⟨g, e1, l1, p0, p1, p2, p3⟩ := ((unhide H1).below (unhide HB)).px k hkl
      rw [mkP_get b n k hkl] at p0 p1 p2 p3
      clear H1
      subst e1
      have i0 : (0 : Int) ≤ (k : Int) := by omega
      have i1 : (k : Int) < (n : Int) := by omega
      obtain ⟨M, hM⟩ : ∃ M, b + k * 4 = M := ⟨_, rfl⟩
      simp only [hM] at p0 p1 p2 p3
      rw [hM]
      have hwr : ∀ z : Nat, z ≤ 4 → IntKind.i64.wrap (((M + z : Nat)) : Int) = ((M + z : Nat) : Int) := fun z hz => by rw [IntKind.wrap_i64]; omega
      have w0 := hwr 0 (by omega)
      have w1 := hwr 1 (by omega)
      have w2 := hwr 2 (by omega)
      rw [Nat.add_zero] at w0
      have hM2 : M + 4 ≤ 1000000000 := by omega
      have hM1 : 1 ≤ M := by omega
      have HM := hide hM
      clear hwr hM
      go_wp2_with fail
      go_region_with (go_at_call 50; refine (markText_calls (M + 3) _ (by omega) (by omega)).mono ?_; rintro e v0 ⟨rfl, hb0⟩; have r0x3 := bcl (bOfDrew hb0) l1 p3)
      all_goals (have m0 := lt_of_cell r0x3)
      all_goals (have HB0 := hide (belOn (unhide HB) (bOfDrew hb0)))
      all_goals clear hb0 p0 p1 p2 p3
      all_goals (try go_wp2_with fail)
      all_goals exact ⟨⟨k + 1, by go_num, by rw [show b + (k + 1) * 4 = M + 4 from by have := unhide HM; omega]; go_num, by omega, HB0⟩, by simp [intOf]; omega⟩
    · obtain rfl : k = n := by omega
      go_wp2_with fail
      go_ret
      exact ⟨rfl, unhide HB⟩
end Go.Proofs.Ytkpnnchgngcppaa
