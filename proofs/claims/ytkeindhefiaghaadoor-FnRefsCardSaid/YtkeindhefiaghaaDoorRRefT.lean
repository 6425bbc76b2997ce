/- ReadRef of the specification by its contract: the parts put together. -/
import Derived.Test.YtkeindhefiaghaaDoorRRefS
namespace Go.Proofs.YtkeindhefiaghaaDoor
open Go.RowKit Plain
set_option linter.unusedVariables false

namespace Plain
theorem ext_b (s : ByteArray) (a b c d : Nat) : (s.extract a b).extract c d = s.extract (a + c) (min (a + d) b) := ByteArray.extract_extract
theorem b_eq {a b : ByteArray} (h : a.data.toList = b.data.toList) : a = b := ByteArray.ext (Array.toList_inj.1 h)
theorem ext_e (s : ByteArray) (a b : Nat) (h : b ≤ a) : s.extract a b = e0 := by
  apply b_eq
  rw [ext_mid]
  show (s.data.toList.drop a).take (b - a) = []
  rw [show b - a = 0 from by omega, List.take_zero]
theorem isE (s : ByteArray) : s.toList.isEmpty = decide (s.size = 0) := emp_size s
end Plain

theorem spec_ReadRef (s : ByteArray) (w : World) (hs : s.size ≤ 10000000000) :
    Calls Tryd.prog 15 #[.string s] w fun e w' => e = .returned (rrV s) ∧ Below w.heap.size w w' := by
  have hIJ := rIJ s
  have hJ := rJs s
  have z1 : (s.extract 0 (rI s)).size ≤ 100000000000 := by rw [ByteArray.size_extract]; omega
  have z0 : (s.extract (rI s) s.size).size ≤ 100000000000 := by rw [ByteArray.size_extract]; omega
  have hz0 : (s.extract (rI s) s.size).size = s.size - rI s := by rw [ByteArray.size_extract]; omega
  have HF := fun w => l3Find_calls s 58 64 w (by omega) (by omega) (by omega)
  have hl0 : (s.extract (rI s) s.size).data.toList = s.data.toList.drop (rI s) := ext_list s _
  cases h1 : repoB (s.extract 0 (rI s)) with
  | false =>
    rw [show rrV s = refV e0 e0 e0 1 from by unfold rrV finV; rw [if_pos h1]]
    exact specRR_repo s _ _ (rI s) w HF (by omega) hs rfl rfl z1 z0 h1
  | true =>
    have hd : ∀ R : ByteArray, R = s.extract (rJ s) s.size → R.toList.isEmpty = !decide (rJ s < s.size) ∧ (decide (rJ s < s.size) = true → 0 < R.size) ∧ R.extract 1 R.size = rDig s ∧ R.size ≤ 100000000000 ∧ (rDig s).size ≤ 100000000000 ∧ (decide (rJ s < s.size) = false → rDig s = e0) := by
      rintro R rfl
      have hz : (s.extract (rJ s) s.size).size = s.size - rJ s := by rw [ByteArray.size_extract]; omega
      refine ⟨?_, ?_, ?_, by omega, ?_, ?_⟩
      · rw [isE, hz, Bool.eq_iff_iff]; simp; omega
      · rw [hz]; intro h; have : rJ s < s.size := by simpa using h
        omega
      · rw [hz]
        unfold rDig
        split
        · rw [ext_b]; congr 1; omega
        · exact ext_e _ _ _ (by omega)
      · unfold rDig
        split
        · rw [ByteArray.size_extract]; omega
        · decide
      · intro h
        have : ¬ rJ s < s.size := by simpa using h
        unfold rDig; rw [if_neg this]
    by_cases h : rI s < rJ s
    · have hlt : fd 58 64 s.data.toList < s.data.toList.length := by rw [len_data]; unfold rI at h; omega
      have hs1 := (fd_sign 58 64 (by decide) s.data.toList hlt).2 h
      have hp2 : 0 < (s.extract (rI s) s.size).size := by omega
      have hp3 : ((s.extract (rI s) s.size)[0]).toNat = 58 := by
        rw [ByteArray.getElem_extract]
        exact hs1
      have hK : fd 64 64 (s.extract (rI s) s.size).data.toList = rJ s - rI s := by
        rw [hl0]
        have := fd_back 58 64 s.data.toList
        unfold rI rJ
        omega
      have HF2 := fun w => l3Find_calls (s.extract (rI s) s.size) 64 64 w (by omega) (by omega) (by omega)
      rw [hK] at HF2
      obtain ⟨d1, d2, d3, d4, d5, d6⟩ := hd _ rfl
      have eT : rTag s = s.extract (rI s + 1) (rJ s) := by unfold rTag; rw [if_pos h]
      have := specRR_tag s _ _ (rTag s) (s.extract (rJ s) s.size) (rDig s) (rI s) (rJ s - rI s) (decide (rJ s < s.size)) w HF (by omega) hs rfl rfl z1 z0 h1 (by rw [isE]; simp; omega) hp2 hp3 HF2 (by omega) (by omega)
        (by rw [ext_b, eT]; congr 1; omega) (by rw [hz0, ext_b]; congr 1 <;> omega) d1 d2 d3 (by rw [eT, ByteArray.size_extract]; omega) d5 d4 d6
      rw [show rrV s = finV (s.extract 0 (rI s)) (rTag s) (rDig s) true (decide (rJ s < s.size)) from by unfold rrV; rw [show decide (rI s < rJ s) = true from by simpa using h]]
      exact this
    · have e : rI s = rJ s := by omega
      obtain ⟨d1, d2, d3, d4, d5, d6⟩ := hd (s.extract (rI s) s.size) (by rw [e])
      have eT : rTag s = e0 := by unfold rTag; rw [if_neg h]
      have := specRR_none s _ _ (rDig s) (rI s) (decide (rJ s < s.size)) w HF (by omega) hs rfl rfl z1 z0 h1 d1 (fun hD => by
        have hlt0 : rJ s < s.size := by simpa using hD
        have hlt : fd 58 64 s.data.toList < s.data.toList.length := by rw [len_data]; unfold rI at e; omega
        have hs1 := fd_sign 58 64 (by decide) s.data.toList hlt
        have hs2 := fd_at 58 64 s.data.toList hlt
        refine ⟨by omega, ?_⟩
        rw [ByteArray.getElem_extract]
        have hs3 : ¬ (s.data.toList[fd 58 64 s.data.toList]).toNat = 58 := fun q => h (hs1.1 q)
        rcases hs2 with q | q
        · exact absurd q hs3
        · exact q) d3 d5 d6
      rw [show rrV s = finV (s.extract 0 (rI s)) e0 (rDig s) false (decide (rJ s < s.size)) from by unfold rrV; rw [show decide (rI s < rJ s) = false from by simpa using h, eT]]
      exact this

theorem eqRef_calls (r t d : ByteArray) (w : World) :
    Calls Tryd.prog 17 #[.agg #[.string r, .string t, .string d], .agg #[.string r, .string t, .string d]] w fun e w' => e = .returned (.bool true) ∧ Below w.heap.size w w' := by
  go_enter Tryd.func17, Tryd.ntmps17
  go_wp2_with fail
  go_ret
  exact ⟨rfl, ((Below.refl _ _).alloc (Nat.le_refl _) _).alloc (by simp) _⟩

namespace Plain
/-- Whatever is read, it is a reference and a code. -/
theorem rrV_form (s : ByteArray) : ∃ r t d c, rrV s = refV r t d c ∧ ((c = 0 ∧ r = s.extract 0 (rI s) ∧ t = rTag s ∧ d = rDig s ∧ repoB r = true ∧ (rI s < rJ s → tagB t = true) ∧ (rJ s < s.size → digB d = true)) ∨ ((c = 1 ∨ c = 2 ∨ c = 3) ∧ r = e0 ∧ t = e0 ∧ d = e0)) := by
  unfold rrV finV
  cases h1 : repoB (s.extract 0 (rI s)) with
  | false => exact ⟨_, _, _, _, if_pos rfl, .inr ⟨.inl rfl, rfl, rfl, rfl⟩⟩
  | true =>
    rw [if_neg (by simp)]
    cases h2 : (decide (rI s < rJ s) && !tagB (rTag s)) with
    | true => exact ⟨_, _, _, _, if_pos rfl, .inr ⟨.inr (.inl rfl), rfl, rfl, rfl⟩⟩
    | false =>
      rw [if_neg (by simp)]
      cases h3 : (decide (rJ s < s.size) && !digB (rDig s)) with
      | true => exact ⟨_, _, _, _, if_pos rfl, .inr ⟨.inr (.inr rfl), rfl, rfl, rfl⟩⟩
      | false =>
        refine ⟨_, _, _, _, if_neg (by simp), .inl ⟨rfl, rfl, rfl, rfl, h1, ?_, ?_⟩⟩
        · intro h; simpa [h] using h2
        · intro h; simpa [h] using h3
end Plain
end Go.Proofs.YtkeindhefiaghaaDoor
