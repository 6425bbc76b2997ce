/- Ranked, by both programs. -/
import Derived.Test.YtbcfejplaffbnaaDoorRnkI
import Derived.Test.YtbcfejplaffbnaaDoorRzC
namespace Go.Proofs.YtbcfejplaffbnaaDoor
open Go.RowKit Plain
set_option linter.unusedVariables false

namespace Plain
theorem okIds_len : ∀ (l : List Int) (p : Int), p ≤ 50 → okIds p l = true → (l.length : Int) ≤ 50 - p
  | [], p, hp, _ => by simp; omega
  | a :: l, p, hp, h => by
    rw [okIds, Bool.and_eq_true, Bool.and_eq_true, decide_eq_true_iff, decide_eq_true_iff] at h
    obtain ⟨⟨h1, h2⟩, h3⟩ := h
    have := okIds_len l a h2 h3
    rw [List.length_cons]
    omega
theorem ids50 (n : Nat) (l : List Int) (hl : l.length = n) : (decide (n ≤ 50) && okIds 0 l) = okIds 0 l := by
  cases h : okIds 0 l with
  | false => simp
  | true =>
    have := okIds_len l 0 (by decide) h
    rw [decide_eq_true (by omega)]
    rfl
def rnkB (d : ByteArray) (l : List Int) : Bool := digB d && okIds 0 l
def rnkL (d : ByteArray) (l : List Int) : List Int := if rnkB d l then rk (wt d) l else []
theorem rnkL_yes {d : ByteArray} {l : List Int} (h : rnkB d l = true) : rnkL d l = rk (wt d) l := if_pos h
theorem rnkL_no {d : ByteArray} {l : List Int} (h : rnkB d l = false) : rnkL d l = [] := by unfold rnkL; rw [h]; rfl
theorem rnkL_len (d : ByteArray) (l : List Int) : (rnkL d l).length ≤ l.length := by
  unfold rnkL
  split
  · rw [rk_len]; exact Nat.le_refl _
  · simp
end Plain

theorem weigher2_calls (d : ByteArray) (w : World) :
    Calls Tryd.prog 26 #[.string d] w fun e w' => e = .returned (.func (.func 48) #[] #[.pointer (some ⟨w.heap.size, 0, none⟩)]) ∧ w' = w.alloc (.cells #[.string d] 9) := by
  go_enter Tryd.func26, Tryd.ntmps26
  go_wp2_with fail
  go_ret
  exact ⟨rfl, rfl⟩

set_option maxRecDepth 10000 in
set_option maxHeartbeats 2000000 in
theorem spec_Ranked (d : ByteArray) (a : Option Addr) (n c : Nat) (ls : List Int) (w : World) (h : IntsAt w a n ls) (hd : d.size ≤ 1048576) :
    Calls Tryd.prog 6 #[.string d, .slice a n c] w fun e w' => ∃ v, e = .returned (.tuple #[v, .bool (rnkB d ls)]) ∧ OwnR i64E w' w.heap.size v (rnkL d ls) ∧ Below w.heap.size w w' := by
  have HD := hide (fun W => spec_DigestOk d W (by omega))
  have HI := hide (l9Ids_calls a n c ls 50 w h (by decide))
  rw [ids50 n ls h.len] at HI
  cases h1 : digB d with
  | false =>
    have hb : rnkB d ls = false := by unfold rnkB; rw [h1]; rfl
    rw [hb, rnkL_no hb]
    rw [h1] at HD
    clear h hb h1 HI
    go_enter Tryd.func6, Tryd.ntmps6
    go_wp2_with fail
    refine (unhide HD _).mono ?_
    rintro e w1 ⟨rfl, rfl⟩
    go_wp2_with fail
    exact bodyPost_ret (v := .tuple #[_, .bool false]) (by simp [results, Tryd.results6, go_sem]) rfl ⟨_, rfl, ownR_empty i64E w w.heap.size (Nat.le_refl _), bel1D _ _⟩
  | true =>
    have h71 := digB_len71 h1
    rw [h1] at HD
    cases h2 : okIds 0 ls with
    | false =>
      have hb : rnkB d ls = false := by unfold rnkB; rw [h2, Bool.and_false]
      rw [hb, rnkL_no hb]
      rw [h2] at HI
      clear h hb h1 h2 h71
      go_enter Tryd.func6, Tryd.ntmps6
      go_wp2_with fail
      refine (unhide HD _).mono ?_
      rintro e w1 ⟨rfl, rfl⟩
      go_wp2_with fail
      refine (unhide HI).mono ?_
      rintro e w1 ⟨rfl, hb1⟩
      have HB := hide hb1
      clear hb1
      go_wp2_with fail
      exact bodyPost_ret (v := .tuple #[_, .bool false]) (by simp [results, Tryd.results6, go_sem]) rfl ⟨_, rfl, ownR_empty i64E w1 w.heap.size (unhide HB).size, belOnD (unhide HB) (bel1D _ _)⟩
    | true =>
      have hb : rnkB d ls = true := by unfold rnkB; rw [h1, h2]; rfl
      rw [hb, rnkL_yes hb]
      rw [h2] at HI
      have HR := hide (fun (W : World) (hW : Below w.heap.size w W) => l13Ranked_calls d a n c ls W (h.below hW) h2 h71)
      generalize rk (wt d) ls = rs at HR ⊢
      clear h hb h1 h2 h71
      go_enter Tryd.func6, Tryd.ntmps6
      go_wp2_with fail
      refine (unhide HD _).mono ?_
      rintro e w1 ⟨rfl, rfl⟩
      go_wp2_with fail
      refine (unhide HI).mono ?_
      rintro e w1 ⟨rfl, hb1⟩
      have HB := hide hb1
      have hz := hb1.size
      clear hb1
      go_wp2_with fail
      refine (unhide HR w1 (unhide HB)).mono ?_
      rintro e w2 ⟨v, rfl, ho, hb2⟩
      have HO := hide (ho.le hz)
      have HB2 := hide (belOnD (unhide HB) hb2)
      clear ho hb2
      go_wp2_with fail
      exact bodyPost_ret (v := .tuple #[v, .bool true]) (by simp [results, Tryd.results6, go_sem]) rfl ⟨_, rfl, unhide HO, unhide HB2⟩

set_option maxRecDepth 10000 in
set_option maxHeartbeats 2000000 in
theorem impl_Ranked (d : ByteArray) (a : Option Addr) (n c : Nat) (ls : List Int) (w : World) (h : IntsAt w a n ls) (hd : d.size ≤ 1048576) (hK : KAt w) :
    Calls Tryd.prog 8 #[.string d, .slice a n c] w fun e w' => ∃ v, e = .returned (.tuple #[v, .bool (rnkB d ls)]) ∧ OwnR i64E w' w.heap.size v (rnkL d ls) ∧ Below w.heap.size w w' := by
  have HD := hide (fun W => impl_DigestOk d W (by omega))
  have HI := hide (risingSet_calls a n c ls w h)
  cases h2 : okIds 0 ls with
  | false =>
    have hb : rnkB d ls = false := by unfold rnkB; rw [h2, Bool.and_false]
    rw [hb, rnkL_no hb]
    rw [risV_no h2] at HI
    clear h hb h2
    go_enter Tryd.func8, Tryd.ntmps8
    go_wp2_with fail
    refine (unhide HI).mono ?_
    rintro e w1 ⟨rfl, rfl⟩
    go_wp2_with fail
    exact bodyPost_ret (v := .tuple #[_, .bool false]) (by simp [results, Tryd.results8, go_sem]) rfl ⟨_, rfl, ownR_nil _ _ _, Below.refl _ _⟩
  | true =>
    rw [risV_yes h2] at HI
    generalize setN ls = S at HI
    cases h1 : digB d with
    | false =>
      have hb : rnkB d ls = false := by unfold rnkB; rw [h1]; rfl
      rw [hb, rnkL_no hb]
      rw [h1] at HD
      clear h hb h1 h2
      go_enter Tryd.func8, Tryd.ntmps8
      go_wp2_with fail
      refine (unhide HI).mono ?_
      rintro e w1 ⟨rfl, rfl⟩
      go_wp2_with fail
      refine (unhide HD _).mono ?_
      rintro e w1 ⟨rfl, rfl⟩
      go_wp2_with fail
      exact bodyPost_ret (v := .tuple #[_, .bool false]) (by simp [results, Tryd.results8, go_sem]) rfl ⟨_, rfl, ownR_nil _ _ _, Below.refl _ _⟩
    | true =>
      have h71 := digB_len71 h1
      have hb : rnkB d ls = true := by unfold rnkB; rw [h1, h2]; rfl
      rw [hb, rnkL_yes hb]
      rw [h1] at HD
      have h0 : 1 < w.heap.size := lt_of_cell (hK 0 (by omega))
      have hb1 := bel1D w (.cells #[.string d] 9)
      have HR := hide (heaviest_calls d w.heap.size a n c ls (w.alloc (.cells #[.string d] 9)) (h.below hb1) h2 h71 (hK.below hb1 h0) (by simp [go_sem]))
      have HG := hide (weigher2_calls d w)
      generalize rk (wt d) ls = rs at HR ⊢
      clear h hb h1 h2 h71 hK hb1
      go_enter Tryd.func8, Tryd.ntmps8
      go_wp2_with fail
      refine (unhide HI).mono ?_
      rintro e w1 ⟨rfl, rfl⟩
      go_wp2_with fail
      refine (unhide HD _).mono ?_
      rintro e w1 ⟨rfl, rfl⟩
      go_wp2_with fail
      refine (unhide HG).mono ?_
      rintro e w1 ⟨rfl, rfl⟩
      go_wp2_with fail
      refine (unhide HR).mono ?_
      rintro e w2 ⟨v, rfl, ho, hb2⟩
      have HO := hide (ho.le (B' := w.heap.size) (by simp))
      have HB2 := hide (belOnD (bel1D w _) hb2)
      clear ho hb2
      go_wp2_with fail
      exact bodyPost_ret (v := .tuple #[v, .bool true]) (by simp [results, Tryd.results8, go_sem]) rfl ⟨_, rfl, unhide HO, unhide HB2⟩
end Go.Proofs.YtbcfejplaffbnaaDoor
