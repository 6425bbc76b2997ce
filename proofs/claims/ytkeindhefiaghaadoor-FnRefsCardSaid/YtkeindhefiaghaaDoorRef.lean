/- References: refOk, WriteRef of both programs by their contracts. -/
import Derived.Test.YtkeindhefiaghaaDoorRepI
import Derived.Test.YtkeindhefiaghaaDoorRepS
import Derived.Test.YtkeindhefiaghaaDoorTag
import Derived.Test.YtkeindhefiaghaaDoorDig
import Derived.Test.YtkeindhefiaghaaDoorSCut
namespace Go.Proofs.YtkeindhefiaghaaDoor
open Go.RowKit Plain
set_option linter.unusedVariables false

namespace Plain
def refB (r t d : ByteArray) : Bool := repoB r && (emp t || tagB t) && (emp d || digB d)
def addS (c : UInt8) (r t : ByteArray) : ByteArray := if emp t then r else r ++ (⟨#[c]⟩ ++ t)
def wrefS (r t d : ByteArray) : ByteArray := if refB r t d then addS 64 (addS 58 r t) d else ⟨#[]⟩
theorem addS_size (c : UInt8) (r t : ByteArray) : (addS c r t).size ≤ r.size + t.size + 1 := by
  unfold addS
  split
  · omega
  · rw [ByteArray.size_append, ByteArray.size_append, show (⟨#[c]⟩ : ByteArray).size = 1 from rfl]; omega
end Plain

set_option maxHeartbeats 2000000 in
theorem impl_refOk (r t d : ByteArray) (w : World) (hr : r.size ≤ 100000000000) (ht : t.size ≤ 100000000000) (hd : d.size ≤ 100000000000) :
    Calls Tryd.prog 24 #[.agg #[.string r, .string t, .string d]] w fun e w' => e = .returned (.bool (refB r t d)) ∧ Below w.heap.size w w' := by
  cases h1 : repoB r with
  | false =>
    rw [show refB r t d = false from by unfold refB; rw [h1]; rfl]
    have H1 := hide h1
    clear h1
    go_enter Tryd.func24, Tryd.ntmps24
    go_wp2_with (go_at_call 12; refine (impl_RepoOk r _ (by omega)).mono ?_; rintro e w1 ⟨rfl, hb1⟩; rw [unhide H1])
    go_ret
    exact ⟨rfl, ((Below.refl _ _).alloc (Nat.le_refl _) _).trans (hb1.mono (by simp))⟩
  | true =>
    have H1 := hide h1
    cases h2 : emp t with
    | true =>
      cases h3 : emp d with
      | true =>
        rw [show refB r t d = true from by unfold refB; rw [h1, h2, h3]; rfl]
        unfold emp at h2 h3
        clear h1
        go_enter Tryd.func24, Tryd.ntmps24
        go_wp2_with (go_at_call 12; refine (impl_RepoOk r _ (by omega)).mono ?_; rintro e w1 ⟨rfl, hb1⟩; rw [unhide H1]; obtain ⟨hc, hf⟩ := bcell hb1)
        go_ret
        exact ⟨rfl, ((Below.refl _ _).alloc (Nat.le_refl _) _).trans (hb1.mono (by simp))⟩
      | false =>
        rw [show refB r t d = digB d from by unfold refB; rw [h1, h2, h3]; simp]
        unfold emp at h2 h3
        clear h1
        go_enter Tryd.func24, Tryd.ntmps24
        go_wp2_with (first | (go_at_call 12; refine (impl_RepoOk r _ (by omega)).mono ?_; rintro e w1 ⟨rfl, hb1⟩; rw [unhide H1]; obtain ⟨hc, hf⟩ := bcell hb1) | (go_at_call 27; refine (impl_DigestOk d _ (by omega)).mono ?_; rintro e w2 ⟨rfl, rfl⟩))
        go_ret
        exact ⟨rfl, ((Below.refl _ _).alloc (Nat.le_refl _) _).trans (hb1.mono (by simp))⟩
    | false =>
      cases h4 : tagB t with
      | false =>
        rw [show refB r t d = false from by unfold refB; rw [h1, h2, h4]; rfl]
        have H4 := hide h4
        unfold emp at h2
        clear h1 h4
        go_enter Tryd.func24, Tryd.ntmps24
        go_wp2_with (first | (go_at_call 12; refine (impl_RepoOk r _ (by omega)).mono ?_; rintro e w1 ⟨rfl, hb1⟩; rw [unhide H1]; obtain ⟨hc, hf⟩ := bcell hb1) | (go_at_call 13; refine (impl_TagOk t _ (by omega)).mono ?_; rintro e w2 ⟨rfl, rfl⟩; rw [unhide H4]))
        go_ret
        exact ⟨rfl, ((Below.refl _ _).alloc (Nat.le_refl _) _).trans (hb1.mono (by simp))⟩
      | true =>
        have H4 := hide h4
        cases h3 : emp d with
        | true =>
          rw [show refB r t d = true from by unfold refB; rw [h1, h2, h3, h4]; rfl]
          unfold emp at h2 h3
          clear h1 h4
          go_enter Tryd.func24, Tryd.ntmps24
          go_wp2_with (first | (go_at_call 12; refine (impl_RepoOk r _ (by omega)).mono ?_; rintro e w1 ⟨rfl, hb1⟩; rw [unhide H1]; obtain ⟨hc, hf⟩ := bcell hb1) | (go_at_call 13; refine (impl_TagOk t _ (by omega)).mono ?_; rintro e w2 ⟨rfl, rfl⟩; rw [unhide H4]))
          go_ret
          exact ⟨rfl, ((Below.refl _ _).alloc (Nat.le_refl _) _).trans (hb1.mono (by simp))⟩
        | false =>
          rw [show refB r t d = digB d from by unfold refB; rw [h1, h2, h3, h4]; simp]
          unfold emp at h2 h3
          clear h1 h4
          go_enter Tryd.func24, Tryd.ntmps24
          go_wp2_with (first | (go_at_call 12; refine (impl_RepoOk r _ (by omega)).mono ?_; rintro e w1 ⟨rfl, hb1⟩; rw [unhide H1]; obtain ⟨hc, hf⟩ := bcell hb1) | (go_at_call 13; refine (impl_TagOk t _ (by omega)).mono ?_; rintro e w2 ⟨rfl, rfl⟩; rw [unhide H4]) | (go_at_call 27; refine (impl_DigestOk d _ (by omega)).mono ?_; rintro e w2 ⟨rfl, rfl⟩))
          go_ret
          exact ⟨rfl, ((Below.refl _ _).alloc (Nat.le_refl _) _).trans (hb1.mono (by simp))⟩

set_option maxHeartbeats 2000000 in
theorem impl_WriteRef (r t d : ByteArray) (w : World) (hr : r.size ≤ 100000000000) (ht : t.size ≤ 100000000000) (hd : d.size ≤ 100000000000) :
    Calls Tryd.prog 9 #[.agg #[.string r, .string t, .string d]] w fun e w' => e = .returned (.string (wrefS r t d)) ∧ Below w.heap.size w w' := by
  cases h1 : refB r t d with
  | false =>
    rw [show wrefS r t d = ⟨#[]⟩ from by unfold wrefS; rw [h1]; rfl]
    have H1 := hide h1
    clear h1
    go_enter Tryd.func9, Tryd.ntmps9
    go_wp2_with (go_at_call 24; refine (impl_refOk r t d _ hr ht hd).mono ?_; rintro e w1 ⟨rfl, hb1⟩; rw [unhide H1])
    go_ret
    exact ⟨rfl, ((Below.refl _ _).alloc (Nat.le_refl _) _).trans (hb1.mono (by simp))⟩
  | true =>
    rw [show wrefS r t d = addS 64 (addS 58 r t) d from by unfold wrefS; rw [h1]; rfl]
    have H1 := hide h1
    clear h1
    have hz := addS_size 58 r t
    have z1 : (⟨#[58]⟩ : ByteArray).size = 1 := rfl
    have z2 : (⟨#[64]⟩ : ByteArray).size = 1 := rfl
    cases h2 : emp t with
    | true =>
      rw [show addS 58 r t = r from by unfold addS; rw [h2]; rfl]
      cases h3 : emp d with
      | true =>
        rw [show addS 64 r d = r from by unfold addS; rw [h3]; rfl]
        unfold emp at h2 h3
        go_enter Tryd.func9, Tryd.ntmps9
        go_wp2_with (go_at_call 24; refine (impl_refOk r t d _ hr ht hd).mono ?_; rintro e w1 ⟨rfl, hb1⟩; rw [unhide H1]; obtain ⟨hc, hf⟩ := bcell hb1)
        go_ret
        exact ⟨rfl, ((Below.refl _ _).alloc (Nat.le_refl _) _).trans (hb1.mono (by simp))⟩
      | false =>
        rw [show addS 64 r d = r ++ (⟨#[64]⟩ ++ d) from by unfold addS; rw [h3]; rfl]
        unfold emp at h2 h3
        go_enter Tryd.func9, Tryd.ntmps9
        go_wp2_with (go_at_call 24; refine (impl_refOk r t d _ hr ht hd).mono ?_; rintro e w1 ⟨rfl, hb1⟩; rw [unhide H1]; obtain ⟨hc, hf⟩ := bcell hb1)
        go_ret
        exact ⟨by first | rfl | (rw [← ByteArray.append_assoc]; rfl), ((Below.refl _ _).alloc (Nat.le_refl _) _).trans (hb1.mono (by simp))⟩
    | false =>
      rw [show addS 58 r t = r ++ (⟨#[58]⟩ ++ t) from by unfold addS; rw [h2]; rfl]
      cases h3 : emp d with
      | true =>
        rw [show addS 64 (r ++ (⟨#[58]⟩ ++ t)) d = r ++ (⟨#[58]⟩ ++ t) from by unfold addS; rw [h3]; rfl]
        unfold emp at h2 h3
        go_enter Tryd.func9, Tryd.ntmps9
        go_wp2_with (go_at_call 24; refine (impl_refOk r t d _ hr ht hd).mono ?_; rintro e w1 ⟨rfl, hb1⟩; rw [unhide H1]; obtain ⟨hc, hf⟩ := bcell hb1)
        go_ret
        exact ⟨by first | rfl | (rw [← ByteArray.append_assoc]; rfl), ((Below.refl _ _).alloc (Nat.le_refl _) _).trans (hb1.mono (by simp))⟩
      | false =>
        rw [show addS 64 (r ++ (⟨#[58]⟩ ++ t)) d = (r ++ (⟨#[58]⟩ ++ t)) ++ (⟨#[64]⟩ ++ d) from by unfold addS; rw [h3]; rfl]
        unfold emp at h2 h3
        go_enter Tryd.func9, Tryd.ntmps9
        go_wp2_with (go_at_call 24; refine (impl_refOk r t d _ hr ht hd).mono ?_; rintro e w1 ⟨rfl, hb1⟩; rw [unhide H1]; obtain ⟨hc, hf⟩ := bcell hb1)
        go_ret
        exact ⟨by first | rfl | (rw [← ByteArray.append_assoc, ← ByteArray.append_assoc]; rfl), ((Below.refl _ _).alloc (Nat.le_refl _) _).trans (hb1.mono (by simp))⟩

set_option maxHeartbeats 2000000 in
theorem spec_refOk (r t d : ByteArray) (w : World) (hr : r.size ≤ 100000000000) (ht : t.size ≤ 100000000000) (hd : d.size ≤ 100000000000) :
    Calls Tryd.prog 25 #[.agg #[.string r, .string t, .string d]] w fun e w' => e = .returned (.bool (refB r t d)) ∧ Below w.heap.size w w' := by
  cases h1 : repoB r with
  | false =>
    rw [show refB r t d = false from by unfold refB; rw [h1]; rfl]
    have H1 := hide h1
    clear h1
    go_enter Tryd.func25, Tryd.ntmps25
    go_wp2_with (go_at_call 16; refine (spec_RepoOk r _ (by omega)).mono ?_; rintro e w1 ⟨rfl, hb1⟩; rw [unhide H1])
    go_ret
    exact ⟨rfl, ((Below.refl _ _).alloc (Nat.le_refl _) _).trans (hb1.mono (by simp))⟩
  | true =>
    have H1 := hide h1
    cases h2 : emp t with
    | true =>
      cases h3 : emp d with
      | true =>
        rw [show refB r t d = true from by unfold refB; rw [h1, h2, h3]; rfl]
        unfold emp at h2 h3
        clear h1
        go_enter Tryd.func25, Tryd.ntmps25
        go_wp2_with (go_at_call 16; refine (spec_RepoOk r _ (by omega)).mono ?_; rintro e w1 ⟨rfl, hb1⟩; rw [unhide H1]; obtain ⟨hc, hf⟩ := bcell hb1)
        go_ret
        exact ⟨rfl, ((Below.refl _ _).alloc (Nat.le_refl _) _).trans (hb1.mono (by simp))⟩
      | false =>
        rw [show refB r t d = digB d from by unfold refB; rw [h1, h2, h3]; simp]
        unfold emp at h2 h3
        clear h1
        go_enter Tryd.func25, Tryd.ntmps25
        go_wp2_with (first | (go_at_call 16; refine (spec_RepoOk r _ (by omega)).mono ?_; rintro e w1 ⟨rfl, hb1⟩; rw [unhide H1]; obtain ⟨hc, hf⟩ := bcell hb1) | (go_at_call 36; refine (spec_DigestOk d _ (by omega)).mono ?_; rintro e w2 ⟨rfl, rfl⟩))
        go_ret
        exact ⟨rfl, ((Below.refl _ _).alloc (Nat.le_refl _) _).trans (hb1.mono (by simp))⟩
    | false =>
      cases h4 : tagB t with
      | false =>
        rw [show refB r t d = false from by unfold refB; rw [h1, h2, h4]; rfl]
        have H4 := hide h4
        unfold emp at h2
        clear h1 h4
        go_enter Tryd.func25, Tryd.ntmps25
        go_wp2_with (first | (go_at_call 16; refine (spec_RepoOk r _ (by omega)).mono ?_; rintro e w1 ⟨rfl, hb1⟩; rw [unhide H1]; obtain ⟨hc, hf⟩ := bcell hb1) | (go_at_call 35; refine (spec_TagOk t _ (by omega)).mono ?_; rintro e w2 ⟨rfl, rfl⟩; rw [unhide H4]))
        go_ret
        exact ⟨rfl, ((Below.refl _ _).alloc (Nat.le_refl _) _).trans (hb1.mono (by simp))⟩
      | true =>
        have H4 := hide h4
        cases h3 : emp d with
        | true =>
          rw [show refB r t d = true from by unfold refB; rw [h1, h2, h3, h4]; rfl]
          unfold emp at h2 h3
          clear h1 h4
          go_enter Tryd.func25, Tryd.ntmps25
          go_wp2_with (first | (go_at_call 16; refine (spec_RepoOk r _ (by omega)).mono ?_; rintro e w1 ⟨rfl, hb1⟩; rw [unhide H1]; obtain ⟨hc, hf⟩ := bcell hb1) | (go_at_call 35; refine (spec_TagOk t _ (by omega)).mono ?_; rintro e w2 ⟨rfl, rfl⟩; rw [unhide H4]))
          go_ret
          exact ⟨rfl, ((Below.refl _ _).alloc (Nat.le_refl _) _).trans (hb1.mono (by simp))⟩
        | false =>
          rw [show refB r t d = digB d from by unfold refB; rw [h1, h2, h3, h4]; simp]
          unfold emp at h2 h3
          clear h1 h4
          go_enter Tryd.func25, Tryd.ntmps25
          go_wp2_with (first | (go_at_call 16; refine (spec_RepoOk r _ (by omega)).mono ?_; rintro e w1 ⟨rfl, hb1⟩; rw [unhide H1]; obtain ⟨hc, hf⟩ := bcell hb1) | (go_at_call 35; refine (spec_TagOk t _ (by omega)).mono ?_; rintro e w2 ⟨rfl, rfl⟩; rw [unhide H4]) | (go_at_call 36; refine (spec_DigestOk d _ (by omega)).mono ?_; rintro e w2 ⟨rfl, rfl⟩))
          go_ret
          exact ⟨rfl, ((Below.refl _ _).alloc (Nat.le_refl _) _).trans (hb1.mono (by simp))⟩

set_option maxHeartbeats 2000000 in
theorem spec_WriteRef (r t d : ByteArray) (w : World) (hr : r.size ≤ 100000000000) (ht : t.size ≤ 100000000000) (hd : d.size ≤ 100000000000) :
    Calls Tryd.prog 10 #[.agg #[.string r, .string t, .string d]] w fun e w' => e = .returned (.string (wrefS r t d)) ∧ Below w.heap.size w w' := by
  cases h1 : refB r t d with
  | false =>
    rw [show wrefS r t d = ⟨#[]⟩ from by unfold wrefS; rw [h1]; rfl]
    have H1 := hide h1
    clear h1
    go_enter Tryd.func10, Tryd.ntmps10
    go_wp2_with (go_at_call 25; refine (spec_refOk r t d _ hr ht hd).mono ?_; rintro e w1 ⟨rfl, hb1⟩; rw [unhide H1])
    go_ret
    exact ⟨rfl, ((Below.refl _ _).alloc (Nat.le_refl _) _).trans (hb1.mono (by simp))⟩
  | true =>
    rw [show wrefS r t d = addS 64 (addS 58 r t) d from by unfold wrefS; rw [h1]; rfl]
    have H1 := hide h1
    clear h1
    have hz := addS_size 58 r t
    have z1 : (⟨#[58]⟩ : ByteArray).size = 1 := rfl
    have z2 : (⟨#[64]⟩ : ByteArray).size = 1 := rfl
    cases h2 : emp t with
    | true =>
      rw [show addS 58 r t = r from by unfold addS; rw [h2]; rfl]
      cases h3 : emp d with
      | true =>
        rw [show addS 64 r d = r from by unfold addS; rw [h3]; rfl]
        unfold emp at h2 h3
        go_enter Tryd.func10, Tryd.ntmps10
        go_wp2_with (go_at_call 25; refine (spec_refOk r t d _ hr ht hd).mono ?_; rintro e w1 ⟨rfl, hb1⟩; rw [unhide H1]; obtain ⟨hc, hf⟩ := bcell hb1)
        go_ret
        exact ⟨rfl, ((Below.refl _ _).alloc (Nat.le_refl _) _).trans (hb1.mono (by simp))⟩
      | false =>
        rw [show addS 64 r d = r ++ (⟨#[64]⟩ ++ d) from by unfold addS; rw [h3]; rfl]
        unfold emp at h2 h3
        go_enter Tryd.func10, Tryd.ntmps10
        go_wp2_with (go_at_call 25; refine (spec_refOk r t d _ hr ht hd).mono ?_; rintro e w1 ⟨rfl, hb1⟩; rw [unhide H1]; obtain ⟨hc, hf⟩ := bcell hb1)
        go_ret
        exact ⟨by first | rfl | (rw [← ByteArray.append_assoc]; rfl), ((Below.refl _ _).alloc (Nat.le_refl _) _).trans (hb1.mono (by simp))⟩
    | false =>
      rw [show addS 58 r t = r ++ (⟨#[58]⟩ ++ t) from by unfold addS; rw [h2]; rfl]
      cases h3 : emp d with
      | true =>
        rw [show addS 64 (r ++ (⟨#[58]⟩ ++ t)) d = r ++ (⟨#[58]⟩ ++ t) from by unfold addS; rw [h3]; rfl]
        unfold emp at h2 h3
        go_enter Tryd.func10, Tryd.ntmps10
        go_wp2_with (go_at_call 25; refine (spec_refOk r t d _ hr ht hd).mono ?_; rintro e w1 ⟨rfl, hb1⟩; rw [unhide H1]; obtain ⟨hc, hf⟩ := bcell hb1)
        go_ret
        exact ⟨by first | rfl | (rw [← ByteArray.append_assoc]; rfl), ((Below.refl _ _).alloc (Nat.le_refl _) _).trans (hb1.mono (by simp))⟩
      | false =>
        rw [show addS 64 (r ++ (⟨#[58]⟩ ++ t)) d = (r ++ (⟨#[58]⟩ ++ t)) ++ (⟨#[64]⟩ ++ d) from by unfold addS; rw [h3]; rfl]
        unfold emp at h2 h3
        go_enter Tryd.func10, Tryd.ntmps10
        go_wp2_with (go_at_call 25; refine (spec_refOk r t d _ hr ht hd).mono ?_; rintro e w1 ⟨rfl, hb1⟩; rw [unhide H1]; obtain ⟨hc, hf⟩ := bcell hb1)
        go_ret
        exact ⟨by first | rfl | (rw [← ByteArray.append_assoc, ← ByteArray.append_assoc]; rfl), ((Below.refl _ _).alloc (Nat.le_refl _) _).trans (hb1.mono (by simp))⟩
end Go.Proofs.YtkeindhefiaghaaDoor
