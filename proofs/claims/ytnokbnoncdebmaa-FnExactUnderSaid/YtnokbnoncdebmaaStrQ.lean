/- Rows of texts marked and looked at again, as the exact laws do it. -/
import Derived.Test.YtnokbnoncdebmaaStrR
import Derived.Test.YtnokbnoncdebmaaMtx
namespace Go.Proofs.Ytnokbnoncdebmaa
open Go.RowKit Plain
set_option linter.unusedVariables false

theorem RowAt.ofS {W : World} {a : Option Addr} {xs : List ByteArray} (h : ∀ i (hi : i < xs.length), ∃ g, a = some ⟨g, 0, none⟩ ∧ g < W.heap.size ∧ W.cell? ⟨g, i, none⟩ = some (.string xs[i]) ∧ W.frozen? ⟨g, i, none⟩ = false) : RowAt strE W a xs := by
  intro i hi
  obtain ⟨g, e, hl, hc, hf⟩ := h i hi
  refine ⟨g, e, hl, fun j hj => ?_⟩
  obtain rfl : j = 0 := by have : strE.n = 1 := rfl; omega
  rw [show i * strE.n + 0 = i from Nat.mul_one i]
  exact ⟨hc, hf⟩
theorem RowAt.setS {W : World} {g : Nat} {L : List ByteArray} (h : RowAt strE W (some ⟨g, 0, none⟩) L) (k : Nat) (hk : k < L.length) (y : ByteArray) : RowAt strE (W.setCell ⟨g, k, none⟩ (.string y)) (some ⟨g, 0, none⟩) (L.set k y) := by
  apply RowAt.ofS
  intro i hi
  rw [List.length_set] at hi
  obtain ⟨g', e, hl, hc, hf⟩ := h.str i hi
  cases e
  refine ⟨g, rfl, by simpa using hl, ?_, by simpa using hf⟩
  by_cases e : k = i
  · subst e
    rw [World.cell?_setCell_same' _ _ _ (by rw [hc]; rfl)]
    simp
  · rw [World.cell?_setCell_other _ ⟨g, k, none⟩ ⟨g, i, none⟩ _ (fun q => e (by have := congrArg Addr.off q; simpa using this)), hc]
    simp [e]

namespace Plain
/-- What the marking leaves. -/
def mkS (b n : Nat) : List ByteArray := (List.range n).map fun i : Nat => mtx (b + i)
theorem mkS_length (b n : Nat) : (mkS b n).length = n := by simp [mkS]
theorem mkS_get (b n k : Nat) (h : k < (mkS b n).length) : (mkS b n)[k] = mtx (b + k) := by simp [mkS]
def mixS (b : Nat) (fs : List ByteArray) (k : Nat) : List ByteArray := mkS b k ++ fs.drop k
theorem mixS_length (b : Nat) (fs : List ByteArray) (k : Nat) (h : k ≤ fs.length) : (mixS b fs k).length = fs.length := by simp [mixS, mkS_length]; omega
theorem mixS_zero (b : Nat) (fs : List ByteArray) : mixS b fs 0 = fs := by simp [mixS, mkS]
theorem mixS_end (b : Nat) (fs : List ByteArray) : mixS b fs fs.length = mkS b fs.length := by simp [mixS]
theorem mixS_next (b : Nat) (fs : List ByteArray) (k : Nat) (h : k < fs.length) : (mixS b fs k).set k (mtx (b + k)) = mixS b fs (k + 1) := by
  have hl := mkS_length b k
  unfold mixS
  rw [List.set_append_right _ _ (by omega), hl, Nat.sub_self, List.drop_eq_getElem_cons h, List.set_cons_zero]
  simp [mkS, List.range_succ]
end Plain

set_option maxHeartbeats 1000000 in
theorem markStringS_calls (b : Nat) (a : Option Addr) (c n : Nat) (fs : List ByteArray) (w : World) (hb1 : 1 ≤ b) (hb2 : b ≤ 100000000) (hn : fs.length = n) (hn2 : n ≤ 100000000) (h1 : RowAt strE w a fs) :
    Calls Try.prog 11 #[.slice a n c, .int .i64 b] w fun e w' => e = .returned (.int .i64 ((b + n : Nat) : Int)) ∧ RowAt strE w' a (mkS b n) ∧ OnlyRow a w w' := by
  have H1 := hide h1
  have HN := hide hn
  clear h1 hn
  go_enter Try.func11, Try.ntmps11
  go_wp2_with fail
  go_loopw [1, 5] (fun m i wr => ∃ (k : Nat), i = .int .i64 k ∧ m = .int .i64 ((b + k : Nat) : Int) ∧ k ≤ n ∧ Hid (RowAt strE wr a (mixS b fs k)) ∧ Hid (OnlyRow a w wr)) (fun _ i _ => n - (intOf i).toNat)
  case atStart => exact ⟨0, rfl, rfl, by omega, hide (by rw [mixS_zero]; exact unhide H1), OnlyRow.refl _ _⟩
  case round =>
    clear H1
    obtain ⟨k, rfl, rfl, hk, HF, HB⟩ := hrel
    by_cases hlt : k < n
    · have hfl : k < fs.length := by rw [unhide HN]; exact hlt
      have hml := mixS_length b fs k (by omega)
      have hkl : k < (mixS b fs k).length := by omega
      obtain ⟨g, e1, l1, p1, z1⟩ := (unhide HF).str k hkl
      subst e1
      have hnx := hide (mixS_next b fs k hfl)
      have i0 : (0 : Int) ≤ (k : Int) := by omega
      have i1 : (k : Int) < (n : Int) := by omega
      obtain ⟨M, hM⟩ : ∃ M, b + k = M := ⟨_, rfl⟩
      rw [hM] at hnx ⊢
      clear p1 z1
      go_wp2_with fail
      refine (markText_calls M _ (by omega) (by omega)).mono ?_
      rintro e w2 ⟨rfl, hb2⟩
      have hf2 := (unhide HF).below hb2
      obtain ⟨g', e1, l2, r1, y1⟩ := hf2.str k hkl
      cases e1
      have HF2 := hide (hf2.setS k hkl (mtx M))
      rw [unhide hnx] at HF2
      have HB2 := hide ((unhide HB).trans (OnlyRow.of hb2))
      generalize (mixS b fs k)[k] = x at r1
      clear hb2 hf2 HF
      go_wp2_with fail
      go_roundw
      case rel => exact ⟨k + 1, by go_num, by rw [show b + (k + 1) = M + 1 from by omega]; go_num, by omega, HF2, hide ((unhide HB2).trans (OnlyRow.set _ _))⟩
      case measure => simp [intOf]; omega
    · obtain rfl : k = n := by omega
      have hF := unhide HF
      rw [← unhide HN, mixS_end, unhide HN] at hF
      have HF2 := hide hF
      clear hF HF
      go_wp2_with fail
      go_ret
      exact ⟨rfl, unhide HF2, unhide HB⟩

set_option maxHeartbeats 1000000 in
theorem heldStringS_calls (b : Nat) (a : Option Addr) (c n : Nat) (w : World) (hb1 : 1 ≤ b) (hb2 : b ≤ 100000000) (hn2 : n ≤ 100000000) (h1 : RowAt strE w a (mkS b n)) :
    Calls Try.prog 12 #[.slice a n c, .int .i64 b] w fun e w' => e = .returned (.int .i64 ((b + n : Nat) : Int)) ∧ Below w.heap.size w w' := by
  have H1 := hide h1
  clear h1
  go_enter Try.func12, Try.ntmps12
  go_wp2_with fail
  go_loopw [1, 5] (fun m i wr => ∃ (k : Nat), i = .int .i64 k ∧ m = .int .i64 ((b + k : Nat) : Int) ∧ k ≤ n ∧ Hid (Below w.heap.size w wr)) (fun _ i _ => n - (intOf i).toNat)
  case atStart => exact ⟨0, rfl, rfl, by omega, Below.refl _ _⟩
  case round =>
    obtain ⟨k, rfl, rfl, hk, HB⟩ := hrel
    by_cases hlt : k < n
    · have hkl : k < (mkS b n).length := by rw [mkS_length]; exact hlt
      obtain ⟨g, e1, l1, p1, -⟩ := ((unhide H1).below (unhide HB)).str k hkl
      rw [mkS_get b n k hkl] at p1
      clear H1
      subst e1
      have i0 : (0 : Int) ≤ (k : Int) := by omega
      have i1 : (k : Int) < (n : Int) := by omega
      obtain ⟨M, hM⟩ : ∃ M, b + k = M := ⟨_, rfl⟩
      rw [hM] at p1 ⊢
      have hM2 : M ≤ 1000000000 := by omega
      have hM1 : 1 ≤ M := by omega
      go_wp2_with fail
      go_region_with (go_at_call 25; refine (markText_calls M _ hM1 hM2).mono ?_; rintro e w2 ⟨rfl, hb2⟩; have r2 := ((bOfDrew hb2).cell (p := ⟨g, k, none⟩) l1).trans p1)
      all_goals (try go_wp2_with fail)
      all_goals exact ⟨⟨k + 1, by go_num, by rw [show b + (k + 1) = M + 1 from by omega]; go_num, by omega, hide ((unhide HB).trans ((bOfDrew hb2).mono (unhide HB).size))⟩, by simp [intOf]; omega⟩
    · obtain rfl : k = n := by omega
      go_wp2_with fail
      go_ret
      exact ⟨rfl, unhide HB⟩
end Go.Proofs.Ytnokbnoncdebmaa
