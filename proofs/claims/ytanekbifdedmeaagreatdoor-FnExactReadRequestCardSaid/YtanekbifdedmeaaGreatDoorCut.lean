/- A text cut at a sign: the specification's l3Cut by its contract. -/
import Derived.Test.YtanekbifdedmeaaGreatDoorGen
import Derived.Test.YtanekbifdedmeaaGreatDoorGAB
namespace Go.Proofs.YtanekbifdedmeaaGreatDoor
open Go.RowKit Plain
set_option linter.unusedVariables false

namespace Plain
def splt (m : Nat) : List UInt8 → List (List UInt8)
  | [] => [[]]
  | c :: l => if c.toNat = m then [] :: splt m l else match splt m l with
    | [] => [[c]]
    | h :: t => (c :: h) :: t
theorem splt_ne (m : Nat) (l : List UInt8) : ∃ h t, splt m l = h :: t := by
  induction l with
  | nil => exact ⟨[], [], rfl⟩
  | cons c l ih =>
    obtain ⟨h, t, e⟩ := ih
    rw [splt, e]
    split
    · exact ⟨_, _, rfl⟩
    · exact ⟨_, _, rfl⟩
theorem splt_end (m : Nat) (a : List UInt8) (h : ∀ x ∈ a, x.toNat ≠ m) : splt m a = [a] := by
  induction a with
  | nil => rfl
  | cons c l ih => rw [splt, if_neg (h c (by simp)), ih (fun x hx => h x (by simp [hx]))]
theorem splt_at (m : Nat) (a b : List UInt8) (d : UInt8) (hd : d.toNat = m) (h : ∀ x ∈ a, x.toNat ≠ m) : splt m (a ++ d :: b) = a :: splt m b := by
  induction a with
  | nil => rw [List.nil_append, splt, if_pos hd]
  | cons c l ih => rw [List.cons_append, splt, if_neg (h c (by simp)), ih (fun x hx => h x (by simp [hx]))]
theorem splt_len (m : Nat) (l : List UInt8) : (splt m l).length ≤ l.length + 1 := by
  induction l with
  | nil => simp [splt]
  | cons c l ih =>
    obtain ⟨h, t, e⟩ := splt_ne m l
    rw [e] at ih
    rw [splt, e]
    split <;> simp at ih ⊢ <;> omega
def toB (l : List UInt8) : ByteArray := ⟨l.toArray⟩
theorem ext_mid (s : ByteArray) (a b : Nat) : s.extract a b = toB ((s.data.toList.drop a).take (b - a)) := by
  apply ByteArray.ext
  rw [ByteArray.data_extract]
  apply Array.toList_inj.1
  rw [Array.toList_extract, List.extract_eq_take_drop]
  rfl
def cutB (m : Nat) (s : ByteArray) : List ByteArray := (splt m s.data.toList).map toB
theorem len_data (s : ByteArray) : s.data.toList.length = s.size := Array.length_toList
theorem mid_snoc (l : List UInt8) (F k : Nat) (h : k < l.length) (hF : F ≤ k) : (l.drop F).take (k + 1 - F) = (l.drop F).take (k - F) ++ [l[k]] := by
  rw [show k + 1 - F = (k - F) + 1 from by omega, List.take_succ_eq_append_getElem (by rw [List.length_drop]; omega)]
  congr 2
  rw [List.getElem_drop]
  congr 1
  omega
theorem mid_cons (l : List UInt8) (F k : Nat) (h : k < l.length) (hF : F ≤ k) : l.drop F = (l.drop F).take (k - F) ++ l[k] :: l.drop (k + 1) := by
  have e := (List.take_append_drop (k - F) (l.drop F)).symm
  rw [List.drop_drop, show F + (k - F) = k from by omega, List.drop_eq_getElem_cons h] at e
  exact e
end Plain

set_option maxHeartbeats 1000000 in
theorem l3Cut_calls (s : ByteArray) (m : Nat) (w : World) (hs : s.size ≤ 10000000) (hm : m < 256) :
    Calls Tryz.prog 88 #[.string s, .int .u8 m] w fun e w' => ∃ v, e = .returned v ∧ OwnR strE w' w.heap.size v (cutB m s) ∧ Below w.heap.size w w' := by
  go_enter Tryz.func88, Tryz.ntmps88
  go_wp2_with fail
  go_loopw [5, 6, 7] (fun v f i wr => ∃ (ds : List ByteArray) (F k : Nat), f = .int .i64 F ∧ i = .int .i64 k ∧ Hid (OwnR strE wr w.heap.size v ds) ∧ Hid (Below w.heap.size w wr) ∧ w.heap.size ≤ wr.heap.size ∧ ds.length ≤ k ∧ F ≤ s.size + 1 ∧ k ≤ s.size + 1 ∧
      Hid ((F ≤ k ∧ k ≤ s.size ∧ (∀ x ∈ (s.data.toList.drop F).take (k - F), x.toNat ≠ m) ∧ ds ++ (splt m (s.data.toList.drop F)).map toB = cutB m s) ∨ (k = s.size + 1 ∧ ds = cutB m s))) (fun _ _ i _ => s.size + 1 - (intOf i).toNat)
  case atStart => exact ⟨[], 0, 0, rfl, rfl, hide (ownR_empty strE w _ (Nat.le_refl _)), hide ((Below.refl _ _).alloc (Nat.le_refl _) _), by simp, by simp, by omega, by omega, hide (.inl ⟨by omega, by omega, by simp, by simp [cutB]⟩)⟩
  case round =>
    obtain ⟨ds, F, k, rfl, rfl, HO, HB, hz, hds, hF, hk, HR⟩ := hrel
    by_cases hle : k ≤ s.size
    · obtain ⟨hFk, hno, heq⟩ : F ≤ k ∧ (∀ x ∈ (s.data.toList.drop F).take (k - F), x.toNat ≠ m) ∧ ds ++ (splt m (s.data.toList.drop F)).map toB = cutB m s := by
        rcases unhide HR with ⟨a, b, c, d⟩ | ⟨a, b⟩
        · exact ⟨a, c, d⟩
        · omega
      clear HR
      by_cases hlt : k < s.size
      · obtain ⟨c, hc⟩ : ∃ c, s[k].toNat = c := ⟨_, rfl⟩
        have hc256 : c < 256 := by rw [← hc]; exact s[k].toNat_lt
        have hll : k < s.data.toList.length := by rw [len_data]; exact hlt
        have hcl : (s.data.toList[k]).toNat = c := hc
        have hne : ((k : Int) == (s.size : Int)) = false := by simp; omega
        by_cases hcm : c = m
        · subst hcm
          have hsp : (splt c (s.data.toList.drop F)).map toB = s.extract F k :: (splt c (s.data.toList.drop (k + 1))).map toB := by
            rw [mid_cons _ F k hll hFk, splt_at _ _ _ _ hcl hno, List.map_cons, ext_mid]
          rw [hsp] at heq
          have HN := hide (show (ds ++ [s.extract F k]) ++ (splt c (s.data.toList.drop (k + 1))).map toB = cutB c s from by rw [← heq]; simp)
          have hself : ((c : Int) == (c : Int)) = true := by simp
          clear hsp heq hno hcl hll
          go_wp2_with (at_builtin; go_must (refine appR (e := strE) rfl _ _ rfl (unhide HO) rfl (s.extract F k) rfl _ rfl rfl (by omega) hz ?_); intro v' w6 hown6 hb6 hg6)
          go_roundw
          case rel => exact ⟨ds ++ [s.extract F k], k + 1, k + 1, by go_num, by go_num, hide hown6, hide ((unhide HB).trans hb6), Nat.le_trans hz hb6.size, by simp; omega, by omega, by omega, hide (.inl ⟨by omega, by omega, by simp, unhide HN⟩)⟩
          case measure => simp [intOf]; omega
        · have hcm2 : ((c : Int) == (m : Int)) = false := by simp; omega
          have HNO := hide (show ∀ x ∈ (s.data.toList.drop F).take (k + 1 - F), x.toNat ≠ m from by
            rw [mid_snoc _ F k hll hFk]
            intro x hx
            rcases List.mem_append.1 hx with h | h
            · exact hno x h
            · obtain rfl := List.mem_singleton.1 h
              rw [hcl]; exact hcm)
          have HE := hide heq
          clear hno heq hcl hll
          go_wp2_with fail
          go_roundw
          case rel => exact ⟨ds, F, k + 1, rfl, by go_num, HO, HB, hz, by omega, by omega, by omega, hide (.inl ⟨by omega, by omega, unhide HNO, unhide HE⟩)⟩
          case measure => simp [intOf]; omega
      · obtain rfl : k = s.size := by omega
        have hsp : (splt m (s.data.toList.drop F)).map toB = [s.extract F s.size] := by
          have e : (s.data.toList.drop F).take (s.size - F) = s.data.toList.drop F := List.take_of_length_le (by rw [List.length_drop, len_data]; omega)
          rw [e] at hno
          rw [splt_end _ _ hno, ext_mid, e]
          rfl
        rw [hsp] at heq
        have HN := hide heq
        clear hsp heq hno
        go_wp2_with (at_builtin; go_must (refine appR (e := strE) rfl _ _ rfl (unhide HO) rfl (s.extract F s.size) rfl _ rfl rfl (by omega) hz ?_); intro v' w6 hown6 hb6 hg6)
        go_roundw
        case rel => exact ⟨ds ++ [s.extract F s.size], s.size + 1, s.size + 1, by go_num, by go_num, hide hown6, hide ((unhide HB).trans hb6), Nat.le_trans hz hb6.size, by simp; omega, by omega, by omega, hide (.inr ⟨by omega, unhide HN⟩)⟩
        case measure => simp [intOf]
    · have hd : ds = cutB m s := by
        rcases unhide HR with ⟨a, b, c, d⟩ | ⟨a, b⟩
        · omega
        · exact b
      subst hd
      clear HR
      go_wp2_with fail
      go_ret
      exact ⟨_, rfl, unhide HO, unhide HB⟩
end Go.Proofs.YtanekbifdedmeaaGreatDoor
