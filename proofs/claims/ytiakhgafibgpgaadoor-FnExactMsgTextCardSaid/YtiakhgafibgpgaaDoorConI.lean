/- Members by the program: sets as words, when members are right. -/
import Derived.Test.YtiakhgafibgpgaaDoorIntR
import Derived.Test.YtiakhgafibgpgaaDoorConM
namespace Go.Proofs.YtiakhgafibgpgaaDoor
open Go.RowKit Plain
set_option linter.unusedVariables false

set_option maxRecDepth 10000 in
theorem nodeId_calls (n : Int) (w : World) : Calls Tryd.prog 63 #[.int .i64 n] w fun e w' => e = .returned (.bool (decide (1 ≤ n) && decide (n ≤ 50))) ∧ w = w' := by
  by_cases h1 : 1 ≤ n <;> by_cases h2 : n ≤ 50 <;>
    (go_enter Tryd.func63, Tryd.ntmps63
     go_wp2
     go_ret
     exact ⟨by simp [h1, h2], rfl⟩)

/-- A list of numbers in memory. -/
structure Plain.IntsAt (W : World) (a : Option Addr) (n : Nat) (ls : List Int) : Prop where
  row : RowAt i64E W a ls
  len : ls.length = n
  bn : n ≤ 1048576
theorem Plain.IntsAt.below {W W' : World} {a : Option Addr} {n : Nat} {ls : List Int} (h : IntsAt W a n ls) (hb : Below W.heap.size W W') : IntsAt W' a n ls := ⟨h.row.below hb, h.len, h.bn⟩

def risV (ls : List Int) : Value := .tuple #[.int .u64 ((if okIds 0 ls = true then setN ls else 0 : Nat) : Int), .bool (okIds 0 ls)]
theorem risV_yes {ls : List Int} (h : okIds 0 ls = true) : risV ls = .tuple #[.int .u64 (setN ls : Nat), .bool true] := by unfold risV; rw [h, if_pos rfl]
theorem risV_no {ls : List Int} (h : okIds 0 ls = false) : risV ls = .tuple #[.int .u64 0, .bool false] := by unfold risV; rw [h]; rfl

set_option maxRecDepth 10000 in
set_option maxHeartbeats 2000000 in
theorem risingSet_calls (a : Option Addr) (n c : Nat) (ls : List Int) (w : World) (h : IntsAt w a n ls) :
    Calls Tryd.prog 58 #[.slice a n c] w fun e w' => e = .returned (risV ls) ∧ w = w' := by
  have HH := hide h
  have hbn := h.bn
  clear h
  obtain ⟨R, hR⟩ : ∃ R, okIds 0 ls = R := ⟨_, rfl⟩
  have HR := hide hR
  clear hR
  obtain ⟨w0, rfl⟩ : ∃ w0, w0 = w := ⟨_, rfl⟩
  go_enter Tryd.func58, Tryd.ntmps58
  go_wp2_with fail
  go_loopw [4, 9] (fun s i wr => ∃ k : Nat, i = .int .i64 k ∧ s = .int .u64 (setN (ls.take k) : Nat) ∧ k ≤ n ∧ Hid (okIds (prevZ ls k) (ls.drop k) = R) ∧ Hid (TopIs (setN (ls.take k)) (prevZ ls k)) ∧ wr = w0) (fun _ i _ => n - (intOf i).toNat)
  case atStart => exact ⟨0, rfl, rfl, by omega, hide (unhide HR), hide topIs_zero, rfl⟩
  case round =>
    obtain ⟨k, rfl, rfl, hk, HO, HT, rfl⟩ := hrel
    by_cases hkn : k < n
    · have hkl : k < ls.length := by rw [(unhide HH).len]; exact hkn
      obtain ⟨g, e1, l1, p0, -⟩ := (unhide HH).row.ix k hkl
      have hst := okIds_step ls k hkl
      have hsn := setN_take ls k hkl
      have hpn : prevZ ls (k + 1) = ls[k] := by rw [prevZ, List.getElem?_eq_getElem hkl]; rfl
      have hlt := setN_lt (ls.take k)
      generalize ls[k] = x at p0 hst hsn hpn
      subst e1
      have i0 : (0 : Int) ≤ (k : Int) := by omega
      have i1 : (k : Int) < (n : Int) := by omega
      rw [unhide HO] at hst
      have HT2 := unhide HT
      have HSN := hide hsn
      have HPN := hide hpn
      generalize hp : prevZ ls k = pv at hst HT2
      generalize setN (ls.take k) = S at HT2 hlt hsn HSN
      clear HT HO hsn hpn
      cases hn : (decide (1 ≤ x) && decide (x ≤ 50)) with
      | false =>
        have HN := hide hn
        have HX := hide (show R = false from by
          rw [hst]
          have : (decide (pv < x) && decide (x ≤ 50)) = false := by
            obtain ⟨_, h3, _⟩ := HT2
            rw [Bool.eq_false_iff]
            intro hy
            simp at hy hn
            rcases h3 with ⟨_, h3⟩ | ⟨_, h3⟩ <;> omega
          rw [this]
          rfl)
        clear hst hn HT2
        go_wp2_with fail
        refine (nodeId_calls x _).mono ?_
        rintro e w1 ⟨rfl, rfl⟩
        rw [unhide HN]
        go_wp2_with fail
        exact bodyPost_ret (v := .tuple #[.int .u64 0, .bool false]) (by simp [results, Tryd.results58, go_sem]) rfl ⟨by rw [risV_no ((unhide HR).trans (unhide HX))], rfl⟩
      | true =>
        have HN := hide hn
        have hn2 : 1 ≤ x ∧ x ≤ 50 := by simpa using hn
        obtain ⟨n1, n2⟩ := hn2
        obtain ⟨X, rfl⟩ := Int.eq_ofNat_of_zero_le (show 0 ≤ x by omega)
        have hX : X ≤ 63 := by omega
        have hon := only_calls X wr hX
        have hpl : 2 ^ X ≤ 1125899906842624 := Nat.pow_le_pow_right (show 0 < 2 by decide) (show X ≤ 50 by omega)
        by_cases hle : (X : Int) ≤ pv
        · have hge := topIs_no HT2 n1 hle
          rw [Int.toNat_natCast] at hge
          have HX := hide (show R = false from by rw [hst, decide_eq_false (show ¬ pv < (X : Int) by omega)]; rfl)
          clear hst hn HT2 HSN
          generalize 2 ^ X = P at hon hge hpl
          have HON := hide hon
          clear hon
          have hge2 : (P : Int) ≤ (S : Int) := by omega
          go_wp2_with fail
          refine (nodeId_calls _ _).mono ?_
          rintro e w1 ⟨rfl, rfl⟩
          rw [unhide HN]
          go_wp2_with fail
          refine (unhide HON).mono ?_
          rintro e w1 ⟨rfl, rfl⟩
          go_wp2_with fail
          exact bodyPost_ret (v := .tuple #[.int .u64 0, .bool false]) (by simp [results, Tryd.results58, go_sem]) rfl ⟨by rw [risV_no ((unhide HR).trans (unhide HX))], rfl⟩
        · have hge := topIs_lt HT2 (show pv < (X : Int) by omega)
          have hnx := topIs_next HT2 n1 (show pv < (X : Int) by omega) n2
          rw [Int.toNat_natCast] at hge hnx
          have HX := hide (show okIds (prevZ ls (k + 1)) (ls.drop (k + 1)) = R from by rw [hst, decide_eq_true (show pv < (X : Int) by omega), decide_eq_true n2]; rfl)
          have hs2 := unhide HSN
          rw [if_pos ⟨n1, n2⟩, Int.toNat_natCast] at hs2
          clear hst hn HT2 HSN
          have hor : bits .or .u64 (S : Int) ((2 ^ X : Nat) : Int) = ((S ||| 2 ^ X : Nat) : Int) := u64_or_nat _ _ (by omega) (by omega)
          generalize 2 ^ X = P at hon hge hpl hs2 hnx hor
          rw [← hs2] at hnx hor
          have HS2 := hide hs2
          have HNX := hide hnx
          have HON := hide hon
          clear hon hs2 hnx
          generalize hS3 : setN (ls.take (k + 1)) = S2 at HS2 HNX hor
          have HS3 := hide hS3
          clear hS3
          have hge2 : ¬ (P : Int) ≤ (S : Int) := by omega
          go_wp2_with fail
          refine (nodeId_calls _ _).mono ?_
          rintro e w1 ⟨rfl, rfl⟩
          rw [unhide HN]
          go_wp2_with fail
          refine (unhide HON).mono ?_
          rintro e w1 ⟨rfl, rfl⟩
          go_wp2_with fail
          refine (unhide HON).mono ?_
          rintro e w1 ⟨rfl, rfl⟩
          go_wp2_with fail
          go_roundw
          case rel => exact ⟨k + 1, by go_num, by rw [unhide HS3], by omega, HX, hide (by rw [unhide HPN, unhide HS3]; exact unhide HNX), trivial⟩
          case measure => simp [intOf]; omega
    · obtain rfl : k = n := by omega
      have hO := unhide HO
      rw [List.drop_of_length_le (by rw [(unhide HH).len]; exact Nat.le_refl _)] at hO
      have HX := hide (show R = true from hO.symm)
      have HL := hide (show ls.take k = ls from List.take_of_length_le (by rw [(unhide HH).len]; exact Nat.le_refl _))
      clear hO HO
      rw [unhide HL]
      go_wp2_with fail
      exact bodyPost_ret (v := .tuple #[.int .u64 (setN ls : Nat), .bool true]) (by simp [results, Tryd.results58, go_sem]) rfl ⟨by rw [risV_yes ((unhide HR).trans (unhide HX))], rfl⟩
end Go.Proofs.YtiakhgafibgpgaaDoor
