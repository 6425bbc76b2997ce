/- Sets of digests: when they are right, by the specification. -/
import Derived.Test.YtnokbnoncdebmaaSetI
import Derived.Deep.QuietTactic
import Derived.BigQuiet
namespace Go.Proofs.Ytnokbnoncdebmaa
open Go.RowKit Plain
set_option linter.unusedVariables false

namespace Plain
def risS : Option ByteArray → List ByteArray → Bool
  | _, [] => true
  | p, s :: r => ltO p s && risS (some s) r
theorem risS_step (ls : List ByteArray) (k : Nat) (h : k < ls.length) : risS (prevS ls k) (ls.drop k) = (ltO (prevS ls k) ls[k] && risS (prevS ls (k + 1)) (ls.drop (k + 1))) := by
  rw [List.drop_eq_getElem_cons h, risS, prevS, List.getElem?_eq_getElem h]
theorem okS_split : ∀ (l : List ByteArray) (p : Option ByteArray), okS p l = (risS p l && l.all digB)
  | [], _ => rfl
  | s :: r, p => by
    rw [okS, okS_split r, risS, List.all_cons]
    cases digB s <;> cases ltO p s <;> simp
theorem belQS {B : Nat} {w w' : World} (h : Below B w w') (k : Nat) : Below B w (w'.drewN k) := ⟨h.os, h.tape, h.output, h.size, h.block⟩
end Plain

set_option maxRecDepth 10000 in
set_option maxHeartbeats 2000000 in
theorem l1Rises_calls (a : Option Addr) (n c : Nat) (ls : List ByteArray) (w : World) (h : TxtsAt w a n ls) :
    Calls Try.prog 31 #[.slice a n c] w fun e w' => e = .returned (.bool (risS none ls)) ∧ Below w.heap.size w w' := by
  have HLN := hide h.len
  have hbn := h.bn
  have HD := hide (fun (W : World) (hW : Below w.heap.size w W) => h.below hW)
  obtain ⟨R, hR⟩ : ∃ R, risS none ls = R := ⟨_, rfl⟩
  have HR := hide (show (if n = 0 then true else risS (prevS ls 1) (ls.drop 1)) = R from by
    rw [← hR]
    cases ls with
    | nil => rw [if_pos (by have := h.len; simp at this; omega)]; rfl
    | cons s r => rw [if_neg (by have := h.len; simp at this; omega)]; simp [risS, ltO, prevS])
  rw [hR]
  clear h hR
  go_enter Try.func31, Try.ntmps31
  go_wp2_with fail
  by_cases hn0 : n = 0
  · subst hn0
    have hr := unhide HR
    rw [if_pos rfl] at hr
    have HX := hide hr.symm
    clear hr HR
    refine wp_loop_rounds 1 ?_
    rw [rounds_succ]
    go_wp2_with fail
    go_ret
    exact ⟨by rw [unhide HX]; rfl, Below.refl _ _⟩
  have hr := unhide HR
  rw [if_neg hn0] at hr
  have HR2 := hide hr
  clear hr HR
  go_loopw [3] (fun s3 wr => ∃ (k : Nat), s3 = .int .i64 ((k + 1 : Nat) : Int) ∧ k + 1 ≤ n ∧ Hid (risS (prevS ls (k + 1)) (ls.drop (k + 1)) = R) ∧ Hid (Below w.heap.size w wr)) (fun s3 _ => n - (intOf s3).toNat)
  case atStart => exact ⟨0, rfl, by omega, HR2, hide (Below.refl _ _)⟩
  case round =>
    clear HR2
    obtain ⟨k, rfl, hk, HO, HB⟩ := hrel
    by_cases hkn : k + 1 < n
    · have hkl : k + 1 < ls.length := by rw [unhide HLN]; exact hkn
      have hkl0 : k < ls.length := by omega
      obtain ⟨g, e1, l1, p1, -⟩ := (unhide HD wr (unhide HB)).row.str (k + 1) hkl
      obtain ⟨g', e2, l2, p0, -⟩ := (unhide HD wr (unhide HB)).row.str k hkl0
      have hst := risS_step ls (k + 1) hkl
      rw [unhide HO, show prevS ls (k + 1) = some ls[k] from by rw [prevS, List.getElem?_eq_getElem hkl0]] at hst
      generalize ls[k + 1] = s at p1 hst
      generalize ls[k] = q at p0 hst
      subst e1
      cases e2
      change R = (Op.bytesLess q.toList s.toList && _) at hst
      obtain ⟨lt, hlt⟩ : ∃ lt, Op.bytesLess q.toList s.toList = lt := ⟨_, rfl⟩
      rw [hlt] at hst
      have hle := le_not s q lt hlt
      have HST := hide hst
      have j0 : (0 : Int) ≤ (k : Int) := by omega
      have j1 : (k : Int) < (n : Int) := by omega
      have i0 : (0 : Int) ≤ ((k + 1 : Nat) : Int) := by omega
      have i1 : ((k + 1 : Nat) : Int) < (n : Int) := by omega
      clear hst hlt HO
      cases lt with
      | true =>
        rw [Bool.not_true] at hle
        have HX := hide (show risS (prevS ls (k + 1 + 1)) (ls.drop (k + 1 + 1)) = R from by rw [unhide HST, Bool.true_and])
        go_wp2_with fail
        go_quiet (fail)
        go_wp2_with fail
        go_roundw
        case rel => exact ⟨k + 1, by go_num, by omega, HX, hide (belQS (unhide HB) _)⟩
        case measure => simp [intOf]; omega
      | false =>
        rw [Bool.not_false] at hle
        have HX := hide (show R = false from by rw [unhide HST]; rfl)
        go_wp2_with fail
        go_quiet (fail)
        go_wp2_with fail
        go_ret
        exact ⟨by rw [unhide HX]; rfl, belQS (unhide HB) _⟩
    · obtain rfl : k + 1 = n := by omega
      have hO := unhide HO
      rw [List.drop_of_length_le (by rw [unhide HLN]; exact Nat.le_refl _)] at hO
      have HX := hide (show R = true from hO.symm)
      clear hO HO
      go_wp2_with fail
      go_ret
      exact ⟨by rw [unhide HX]; rfl, unhide HB⟩

set_option maxRecDepth 10000 in
set_option maxHeartbeats 2000000 in
theorem l7Set_calls (a : Option Addr) (n c : Nat) (ls : List ByteArray) (w : World) (h : TxtsAt w a n ls) :
    Calls Try.prog 17 #[.slice a n c] w fun e w' => e = .returned (.bool (setB ls)) ∧ Below w.heap.size w w' := by
  have HLN := hide h.len
  have hbn := h.bn
  have HD := hide (fun (W : World) (hW : Below w.heap.size w W) => h.below hW)
  have HFIT := hide h.fit
  have HRI := hide (l1Rises_calls a n c ls w h)
  by_cases hbig : (200 : Int) < (n : Int)
  · have HX := hide (show setB ls = false from by unfold setB; rw [decide_eq_false (by have := h.len; omega)]; rfl)
    clear h
    go_enter Try.func17, Try.ntmps17
    go_wp2_with fail
    go_ret
    exact ⟨by rw [unhide HX]; rfl, Below.refl _ _⟩
  have hsb : setB ls = (risS none ls && ls.all digB) := by unfold setB; rw [decide_eq_true (by have := h.len; omega), okS_split]; rfl
  rw [hsb]
  clear h hsb
  cases hr : risS none ls with
  | false =>
    rw [hr] at HRI
    clear hr
    go_enter Try.func17, Try.ntmps17
    go_wp2_with fail
    refine (unhide HRI).mono ?_
    rintro e w1 ⟨rfl, hb1⟩
    have HB := hide hb1
    clear hb1
    go_wp2_with fail
    go_ret
    exact ⟨rfl, unhide HB⟩
  | true =>
    rw [hr] at HRI
    rw [Bool.true_and]
    obtain ⟨R, hR⟩ : ∃ R, ls.all digB = R := ⟨_, rfl⟩
    have HR := hide hR
    rw [hR]
    clear hr hR
    go_enter Try.func17, Try.ntmps17
    go_wp2_with fail
    refine (unhide HRI).mono ?_
    rintro e w1 ⟨rfl, hb1⟩
    have HB1 := hide hb1
    clear hb1
    go_wp2_with fail
    go_loopw [3] (fun s3 wr => ∃ (k : Nat), s3 = .int .i64 k ∧ k ≤ n ∧ Hid ((ls.drop k).all digB = R) ∧ Hid (Below w.heap.size w wr)) (fun s3 _ => n - (intOf s3).toNat)
    case atStart => exact ⟨0, rfl, by omega, HR, HB1⟩
    case round =>
      clear HR HB1
      obtain ⟨k, rfl, hk, HO, HB⟩ := hrel
      by_cases hkn : k < n
      · have hkl : k < ls.length := by rw [unhide HLN]; exact hkn
        obtain ⟨g, e1, l1, p0, -⟩ := (unhide HD wr (unhide HB)).row.str k hkl
        have hst := unhide HO
        rw [List.drop_eq_getElem_cons hkl, List.all_cons] at hst
        have hsz := unhide HFIT ls[k] (by simp)
        generalize ls[k] = s at p0 hst hsz
        have HDG := hide (spec_DigestOk s wr (by omega))
        subst e1
        have i0 : (0 : Int) ≤ (k : Int) := by omega
        have i1 : (k : Int) < (n : Int) := by omega
        have HST := hide hst
        clear hst HO
        cases hd : digB s with
        | false =>
          rw [hd] at HDG
          have HX := hide (show R = false from by rw [← unhide HST, hd]; rfl)
          clear hd
          go_wp2_with fail
          refine (unhide HDG).mono ?_
          rintro e w2 ⟨rfl, rfl⟩
          go_wp2_with fail
          go_ret
          exact ⟨by rw [unhide HX]; rfl, unhide HB⟩
        | true =>
          rw [hd] at HDG
          have HX := hide (show (ls.drop (k + 1)).all digB = R from by rw [← unhide HST, hd]; rfl)
          clear hd
          go_wp2_with fail
          refine (unhide HDG).mono ?_
          rintro e w2 ⟨rfl, rfl⟩
          go_wp2_with fail
          go_roundw
          case rel => exact ⟨k + 1, by go_num, by omega, HX, HB⟩
          case measure => simp [intOf]; omega
      · obtain rfl : k = n := by omega
        have hO := unhide HO
        rw [List.drop_of_length_le (by rw [unhide HLN]; exact Nat.le_refl _)] at hO
        have HX := hide (show R = true from hO.symm)
        clear hO HO
        go_wp2_with fail
        go_ret
        exact ⟨by rw [unhide HX]; rfl, unhide HB⟩
end Go.Proofs.Ytnokbnoncdebmaa
