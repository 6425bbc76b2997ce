/- ReadRef of both programs by its contract. -/
import Derived.Test.YtkeindhefiaghaaDoorRef
namespace Go.Proofs.YtkeindhefiaghaaDoor
open Go.RowKit Plain
set_option linter.unusedVariables false

namespace Plain
theorem belowDrew {B : Nat} {w w' : World} (h : Below B w w') (k : Nat) : Below B w (w'.drewN k) := ⟨h.os, h.tape, h.output, h.size, h.block⟩
theorem belowVia {B : Nat} {w W w1 : World} (hB : B ≤ w.heap.size) (h1 : Below W.heap.size W w1) (h0 : Below B w W) : Below B w w1 := h0.trans (h1.mono (Nat.le_trans hB h0.size))
def refV (r t d : ByteArray) (c : Int) : Value := .tuple #[.agg #[.string r, .string t, .string d], .int .i64 c]
def e0 : ByteArray := ⟨#[]⟩
/-- What is told of the parts of a text. -/
def finV (r t d : ByteArray) (hT hD : Bool) : Value :=
  if repoB r = false then refV e0 e0 e0 1 else if (hT && !tagB t) = true then refV e0 e0 e0 2 else if (hD && !digB d) = true then refV e0 e0 e0 3 else refV r t d 0
end Plain

set_option maxHeartbeats 2000000 in
theorem implRR_core (s n r t d : ByteArray) (hT hD : Bool) (w : World) (hr : r.size ≤ 100000000000) (ht : t.size ≤ 100000000000) (hd : d.size ≤ 100000000000)
    (H1 : ∀ w, Calls Tryd.prog 26 #[.string s, .string { data := #[64] }] w fun e w' => e = .returned (.tuple #[.string n, .string d, .bool hD]) ∧ ∃ k, w' = w.drewN k)
    (H2 : ∀ w, Calls Tryd.prog 26 #[.string n, .string { data := #[58] }] w fun e w' => e = .returned (.tuple #[.string r, .string t, .bool hT]) ∧ ∃ k, w' = w.drewN k) :
    Calls Tryd.prog 11 #[.string s] w fun e w' => e = .returned (finV r t d hT hD) ∧ Below w.heap.size w w' := by
  have HA := hide H1
  have HB := hide H2
  clear H1 H2
  cases h1 : repoB r with
  | false =>
    rw [show finV r t d hT hD = refV e0 e0 e0 1 from by unfold finV; rw [if_pos h1]]
    have HR := hide h1
    clear h1
    go_enter Tryd.func11, Tryd.ntmps11
    go_wp2_with fail
    refine (unhide HA _).mono ?_
    rintro e w1 ⟨rfl, k1, rfl⟩
    go_wp2_with fail
    refine (unhide HB _).mono ?_
    rintro e w1 ⟨rfl, k2, rfl⟩
    go_wp2_with fail
    refine (impl_RepoOk r _ (by omega)).mono ?_
    rintro e w1 ⟨rfl, hb1⟩
    rw [unhide HR]
    have hb := hide (belowVia (Nat.le_refl w.heap.size) hb1 (by repeat (first | apply belowDrew | exact Below.refl _ _ | refine Below.alloc ?_ (by simp) _)))
    obtain ⟨hc, hf⟩ := bcell hb1
    have hz : w.heap.size < w1.heap.size := by have := hb1.size; simp at this; omega
    clear hb1
    go_wp2_with fail
    exact bodyPost_ret (v := refV e0 e0 e0 1) (by simp [results, Tryd.results11, go_sem, hc, refV, e0]) rfl ⟨rfl, (((unhide hb).setCell (Nat.le_refl _) _).setCell (Nat.le_refl _) _).setCell (Nat.le_refl _) _⟩
  | true =>
    have HR := hide h1
    cases h4 : (hT && !tagB t) with
    | true =>
      rw [show finV r t d hT hD = refV e0 e0 e0 2 from by unfold finV; rw [h1, h4]; rfl]
      obtain ⟨rfl, h4'⟩ : hT = true ∧ tagB t = false := by simpa using h4
      have H4 := hide h4'
      clear h1 h4 h4'
      go_enter Tryd.func11, Tryd.ntmps11
      go_wp2_with fail
      refine (unhide HA _).mono ?_
      rintro e w1 ⟨rfl, k1, rfl⟩
      go_wp2_with fail
      refine (unhide HB _).mono ?_
      rintro e w1 ⟨rfl, k2, rfl⟩
      go_wp2_with fail
      refine (impl_RepoOk r _ (by omega)).mono ?_
      rintro e w1 ⟨rfl, hb1⟩
      rw [unhide HR]
      have hb := hide (belowVia (Nat.le_refl w.heap.size) hb1 (by repeat (first | apply belowDrew | exact Below.refl _ _ | refine Below.alloc ?_ (by simp) _)))
      obtain ⟨hc, hf⟩ := bcell hb1
      have hz : w.heap.size < w1.heap.size := by have := hb1.size; simp at this; omega
      clear hb1
      go_wp2_with (go_at_call 13; refine (impl_TagOk t _ (by omega)).mono ?_; rintro e w2 ⟨rfl, rfl⟩; rw [unhide H4])
      exact bodyPost_ret (v := refV e0 e0 e0 2) (by simp [results, Tryd.results11, go_sem, hc, refV, e0]) rfl ⟨rfl, (((unhide hb).setCell (Nat.le_refl _) _).setCell (Nat.le_refl _) _).setCell (Nat.le_refl _) _⟩
    | false =>
      cases h5 : (hD && !digB d) with
      | true =>
        rw [show finV r t d hT hD = refV e0 e0 e0 3 from by unfold finV; rw [h1, h4, h5]; rfl]
        obtain ⟨rfl, h5'⟩ : hD = true ∧ digB d = false := by simpa using h5
        have H5 := hide h5'
        clear h1 h5 h5'
        cases hT with
        | true =>
          have H4 := hide (show tagB t = true from by simpa using h4)
          clear h4
          go_enter Tryd.func11, Tryd.ntmps11
          go_wp2_with fail
          refine (unhide HA _).mono ?_
          rintro e w1 ⟨rfl, k1, rfl⟩
          go_wp2_with fail
          refine (unhide HB _).mono ?_
          rintro e w1 ⟨rfl, k2, rfl⟩
          go_wp2_with fail
          refine (impl_RepoOk r _ (by omega)).mono ?_
          rintro e w1 ⟨rfl, hb1⟩
          rw [unhide HR]
          have hb := hide (belowVia (Nat.le_refl w.heap.size) hb1 (by repeat (first | apply belowDrew | exact Below.refl _ _ | refine Below.alloc ?_ (by simp) _)))
          obtain ⟨hc, hf⟩ := bcell hb1
          have hz : w.heap.size < w1.heap.size := by have := hb1.size; simp at this; omega
          clear hb1
          go_wp2_with (first | (go_at_call 13; refine (impl_TagOk t _ (by omega)).mono ?_; rintro e w2 ⟨rfl, rfl⟩; rw [unhide H4]) | (go_at_call 27; refine (impl_DigestOk d _ (by omega)).mono ?_; rintro e w2 ⟨rfl, rfl⟩; rw [unhide H5]))
          exact bodyPost_ret (v := refV e0 e0 e0 3) (by simp [results, Tryd.results11, go_sem, hc, refV, e0]) rfl ⟨rfl, (((unhide hb).setCell (Nat.le_refl _) _).setCell (Nat.le_refl _) _).setCell (Nat.le_refl _) _⟩
        | false =>
          clear h4
          go_enter Tryd.func11, Tryd.ntmps11
          go_wp2_with fail
          refine (unhide HA _).mono ?_
          rintro e w1 ⟨rfl, k1, rfl⟩
          go_wp2_with fail
          refine (unhide HB _).mono ?_
          rintro e w1 ⟨rfl, k2, rfl⟩
          go_wp2_with fail
          refine (impl_RepoOk r _ (by omega)).mono ?_
          rintro e w1 ⟨rfl, hb1⟩
          rw [unhide HR]
          have hb := hide (belowVia (Nat.le_refl w.heap.size) hb1 (by repeat (first | apply belowDrew | exact Below.refl _ _ | refine Below.alloc ?_ (by simp) _)))
          obtain ⟨hc, hf⟩ := bcell hb1
          have hz : w.heap.size < w1.heap.size := by have := hb1.size; simp at this; omega
          clear hb1
          go_wp2_with (go_at_call 27; refine (impl_DigestOk d _ (by omega)).mono ?_; rintro e w2 ⟨rfl, rfl⟩; rw [unhide H5])
          exact bodyPost_ret (v := refV e0 e0 e0 3) (by simp [results, Tryd.results11, go_sem, hc, refV, e0]) rfl ⟨rfl, (((unhide hb).setCell (Nat.le_refl _) _).setCell (Nat.le_refl _) _).setCell (Nat.le_refl _) _⟩
      | false =>
        rw [show finV r t d hT hD = refV r t d 0 from by unfold finV; rw [h1, h4, h5]; rfl]
        clear h1
        cases hT with
        | true =>
          have H4 := hide (show tagB t = true from by simpa using h4)
          clear h4
          cases hD with
          | true =>
            have H5 := hide (show digB d = true from by simpa using h5)
            clear h5
            go_enter Tryd.func11, Tryd.ntmps11
            go_wp2_with fail
            refine (unhide HA _).mono ?_
            rintro e w1 ⟨rfl, k1, rfl⟩
            go_wp2_with fail
            refine (unhide HB _).mono ?_
            rintro e w1 ⟨rfl, k2, rfl⟩
            go_wp2_with fail
            refine (impl_RepoOk r _ (by omega)).mono ?_
            rintro e w1 ⟨rfl, hb1⟩
            rw [unhide HR]
            have hb := hide (belowVia (Nat.le_refl w.heap.size) hb1 (by repeat (first | apply belowDrew | exact Below.refl _ _ | refine Below.alloc ?_ (by simp) _)))
            obtain ⟨hc, hf⟩ := bcell hb1
            have hz : w.heap.size < w1.heap.size := by have := hb1.size; simp at this; omega
            clear hb1
            go_wp2_with (first | (go_at_call 13; refine (impl_TagOk t _ (by omega)).mono ?_; rintro e w2 ⟨rfl, rfl⟩; rw [unhide H4]) | (go_at_call 27; refine (impl_DigestOk d _ (by omega)).mono ?_; rintro e w2 ⟨rfl, rfl⟩; rw [unhide H5]))
            exact bodyPost_ret (v := refV r t d 0) (by simp [results, Tryd.results11, go_sem, hc, refV]) rfl ⟨rfl, (((unhide hb).setCell (Nat.le_refl _) _).setCell (Nat.le_refl _) _).setCell (Nat.le_refl _) _⟩
          | false =>
            clear h5
            go_enter Tryd.func11, Tryd.ntmps11
            go_wp2_with fail
            refine (unhide HA _).mono ?_
            rintro e w1 ⟨rfl, k1, rfl⟩
            go_wp2_with fail
            refine (unhide HB _).mono ?_
            rintro e w1 ⟨rfl, k2, rfl⟩
            go_wp2_with fail
            refine (impl_RepoOk r _ (by omega)).mono ?_
            rintro e w1 ⟨rfl, hb1⟩
            rw [unhide HR]
            have hb := hide (belowVia (Nat.le_refl w.heap.size) hb1 (by repeat (first | apply belowDrew | exact Below.refl _ _ | refine Below.alloc ?_ (by simp) _)))
            obtain ⟨hc, hf⟩ := bcell hb1
            have hz : w.heap.size < w1.heap.size := by have := hb1.size; simp at this; omega
            clear hb1
            go_wp2_with (go_at_call 13; refine (impl_TagOk t _ (by omega)).mono ?_; rintro e w2 ⟨rfl, rfl⟩; rw [unhide H4])
            exact bodyPost_ret (v := refV r t d 0) (by simp [results, Tryd.results11, go_sem, hc, refV]) rfl ⟨rfl, (((unhide hb).setCell (Nat.le_refl _) _).setCell (Nat.le_refl _) _).setCell (Nat.le_refl _) _⟩
        | false =>
          clear h4
          cases hD with
          | true =>
            have H5 := hide (show digB d = true from by simpa using h5)
            clear h5
            go_enter Tryd.func11, Tryd.ntmps11
            go_wp2_with fail
            refine (unhide HA _).mono ?_
            rintro e w1 ⟨rfl, k1, rfl⟩
            go_wp2_with fail
            refine (unhide HB _).mono ?_
            rintro e w1 ⟨rfl, k2, rfl⟩
            go_wp2_with fail
            refine (impl_RepoOk r _ (by omega)).mono ?_
            rintro e w1 ⟨rfl, hb1⟩
            rw [unhide HR]
            have hb := hide (belowVia (Nat.le_refl w.heap.size) hb1 (by repeat (first | apply belowDrew | exact Below.refl _ _ | refine Below.alloc ?_ (by simp) _)))
            obtain ⟨hc, hf⟩ := bcell hb1
            have hz : w.heap.size < w1.heap.size := by have := hb1.size; simp at this; omega
            clear hb1
            go_wp2_with (go_at_call 27; refine (impl_DigestOk d _ (by omega)).mono ?_; rintro e w2 ⟨rfl, rfl⟩; rw [unhide H5])
            exact bodyPost_ret (v := refV r t d 0) (by simp [results, Tryd.results11, go_sem, hc, refV]) rfl ⟨rfl, (((unhide hb).setCell (Nat.le_refl _) _).setCell (Nat.le_refl _) _).setCell (Nat.le_refl _) _⟩
          | false =>
            clear h5
            go_enter Tryd.func11, Tryd.ntmps11
            go_wp2_with fail
            refine (unhide HA _).mono ?_
            rintro e w1 ⟨rfl, k1, rfl⟩
            go_wp2_with fail
            refine (unhide HB _).mono ?_
            rintro e w1 ⟨rfl, k2, rfl⟩
            go_wp2_with fail
            refine (impl_RepoOk r _ (by omega)).mono ?_
            rintro e w1 ⟨rfl, hb1⟩
            rw [unhide HR]
            have hb := hide (belowVia (Nat.le_refl w.heap.size) hb1 (by repeat (first | apply belowDrew | exact Below.refl _ _ | refine Below.alloc ?_ (by simp) _)))
            obtain ⟨hc, hf⟩ := bcell hb1
            have hz : w.heap.size < w1.heap.size := by have := hb1.size; simp at this; omega
            clear hb1
            go_wp2_with fail
            exact bodyPost_ret (v := refV r t d 0) (by simp [results, Tryd.results11, go_sem, hc, refV]) rfl ⟨rfl, (((unhide hb).setCell (Nat.le_refl _) _).setCell (Nat.le_refl _) _).setCell (Nat.le_refl _) _⟩

namespace Plain
/-- The first : or @ of a text; its first @. -/
def rI (s : ByteArray) : Nat := fd 58 64 s.data.toList
def rJ (s : ByteArray) : Nat := fd 64 64 s.data.toList
theorem rIJ (s : ByteArray) : rI s ≤ rJ s := fd_min 58 64 _
theorem rJs (s : ByteArray) : rJ s ≤ s.size := by have := fd_le 64 64 s.data.toList; rw [len_data] at this; exact this
def rTag (s : ByteArray) : ByteArray := if rI s < rJ s then s.extract (rI s + 1) (rJ s) else e0
def rDig (s : ByteArray) : ByteArray := if rJ s < s.size then s.extract (rJ s + 1) s.size else e0
def rrV (s : ByteArray) : Value := finV (s.extract 0 (rI s)) (rTag s) (rDig s) (decide (rI s < rJ s)) (decide (rJ s < s.size))
theorem ext_all (s : ByteArray) : s.extract 0 s.size = s := by simp
theorem ext_ext0 (s : ByteArray) (j i : Nat) (h : i ≤ j) : (s.extract 0 j).extract 0 i = s.extract 0 i := by
  rw [ByteArray.extract_extract]
  congr 1
  omega
theorem ext_ext1 (s : ByteArray) (j i : Nat) : (s.extract 0 j).extract i j = s.extract i j := by
  rw [ByteArray.extract_extract]
  congr 1 <;> omega
end Plain

theorem impl_ReadRef (s : ByteArray) (w : World) (hs : s.size ≤ 10000000000) :
    Calls Tryd.prog 11 #[.string s] w fun e w' => e = .returned (rrV s) ∧ Below w.heap.size w w' := by
  have hIJ := rIJ s
  have hJ := rJs s
  have hnl : (s.extract 0 (rJ s)).data.toList = s.data.toList.take (rJ s) := ext_take s _
  have hnz : (s.extract 0 (rJ s)).size = rJ s := by rw [ByteArray.size_extract]; omega
  have hnf : fd 58 58 (s.extract 0 (rJ s)).data.toList = rI s := by rw [hnl]; exact fd_two 58 64 _
  have z1 : (s.extract 0 (rI s)).size ≤ 100000000000 := by rw [ByteArray.size_extract]; omega
  have z2 : (rTag s).size ≤ 100000000000 := by
    unfold rTag
    split
    · rw [ByteArray.size_extract]; omega
    · decide
  have z3 : (rDig s).size ≤ 100000000000 := by
    unfold rDig
    split
    · rw [ByteArray.size_extract]; omega
    · decide
  refine implRR_core s (s.extract 0 (rJ s)) (s.extract 0 (rI s)) (rTag s) (rDig s) (decide (rI s < rJ s)) (decide (rJ s < s.size)) w z1 z2 z3 (fun w => ?_) (fun w => ?_)
  · by_cases h : rJ s < s.size
    · rw [show rDig s = s.extract (rJ s + 1) s.size from by unfold rDig; rw [if_pos h], show decide (rJ s < s.size) = true from by simpa using h]
      exact cut64_yes s w (by omega) _ rfl h
    · rw [show rDig s = ⟨#[]⟩ from by unfold rDig; rw [if_neg h]; rfl, show decide (rJ s < s.size) = false from by simpa using h, show s.extract 0 (rJ s) = s from by rw [show rJ s = s.size from by omega, ext_all]]
      exact cut64_no s w (by omega) (by unfold rJ at h; omega)
  · by_cases h : rI s < rJ s
    · rw [show rTag s = (s.extract 0 (rJ s)).extract (rI s + 1) (s.extract 0 (rJ s)).size from by unfold rTag; rw [if_pos h, hnz, ext_ext1], show decide (rI s < rJ s) = true from by simpa using h, ← ext_ext0 s (rJ s) (rI s) hIJ]
      exact cut58_yes _ w (by omega) _ hnf (by omega)
    · have e : rI s = rJ s := by omega
      rw [show rTag s = ⟨#[]⟩ from by unfold rTag; rw [if_neg h]; rfl, show decide (rI s < rJ s) = false from by simpa using h, e]
      exact cut58_no _ w (by omega) (by rw [hnf, hnz]; omega)

theorem l3Find_calls (s : ByteArray) (a b : Nat) (w : World) (hs : s.size ≤ 1000000000000) (ha : a < 256) (hb : b < 256) :
    Calls Tryd.prog 34 #[.string s, .int .u8 a, .int .u8 b] w fun e w' => e = .returned (.int .i64 (fd a b s.data.toList : Int)) ∧ w = w' := by
  have hle := fd_le a b s.data.toList
  rw [len_data] at hle
  obtain ⟨N, hN⟩ : ∃ N, fd a b s.data.toList = N := ⟨_, rfl⟩
  rw [hN] at hle ⊢
  have HN := hide hN
  clear hN
  go_enter Tryd.func34, Tryd.ntmps34
  go_wp2_with fail
  go_loop [7] (fun i => ∃ k : Nat, i = .int .i64 k ∧ k ≤ s.size ∧ Hid (k + fd a b (s.data.toList.drop k) = N)) (fun i => s.size - (intOf i).toNat)
  case atStart => exact ⟨0, rfl, by omega, hide (by simpa using unhide HN)⟩
  case round =>
    obtain ⟨k, rfl, hk, HK⟩ := hrel
    by_cases hlt : k < s.size
    · obtain ⟨c, hc⟩ : ∃ c, s[k].toNat = c := ⟨_, rfl⟩
      have hc256 : c < 256 := by rw [← hc]; exact s[k].toNat_lt
      have hll : k < s.data.toList.length := by rw [len_data]; exact hlt
      have hcl : (s.data.toList[k]).toNat = c := hc
      by_cases hca : c = a
      · subst hca
        have h1 := fd_yes c b s.data.toList k hll (.inl hcl)
        obtain rfl : k = N := by have := unhide HK; omega
        have hbb : ((c : Int) == (c : Int)) = true := by simp
        clear h1 HK hcl hll
        go_wp2_with fail
        go_ret
        exact ⟨rfl, rfl⟩
      · have hba : ((c : Int) == (a : Int)) = false := by simp; omega
        by_cases hcb : c = b
        · subst hcb
          have h1 := fd_yes a c s.data.toList k hll (.inr hcl)
          obtain rfl : k = N := by have := unhide HK; omega
          have hbb : ((c : Int) == (c : Int)) = true := by simp
          clear h1 HK hcl hll
          go_wp2_with fail
          go_ret
          exact ⟨rfl, rfl⟩
        · have hbb : ((c : Int) == (b : Int)) = false := by simp; omega
          have h1 := fd_no a b s.data.toList k hll (by rw [hcl]; omega)
          have HK2 := hide (show k + 1 + fd a b (s.data.toList.drop (k + 1)) = N from by have := unhide HK; omega)
          clear h1 HK hcl hll
          go_wp2_with fail
          go_round
          case rel => exact ⟨k + 1, by go_num, by omega, HK2⟩
          case measure => simp [intOf]; omega
    · have h1 := fd_end a b s.data.toList k (by rw [len_data]; omega)
      obtain rfl : k = N := by have := unhide HK; omega
      have hks : k = s.size := by omega
      have HKS := hide hks
      clear h1 HK hks
      go_wp2_with fail
      go_ret
      exact ⟨by rw [unhide HKS]; rfl, rfl⟩
end Go.Proofs.YtkeindhefiaghaaDoor
