/- Texts of one kind, put together. -/
import Derived.Test.YtjiclgcohpkkjaaGreatDoorGzAR
import Derived.Test.YtjiclgcohpkkjaaGreatDoorGzAJ
import Derived.Test.YtjiclgcohpkkjaaGreatDoorGzAM
import Derived.Lib.Split
import Derived.Lib.ParseIntB

/- Members read out of texts, by the specification: numbers. -/
namespace Go.Proofs.YtjiclgcohpkkjaaGreatDoor
open Go.RowKit Plain
set_option linter.unusedVariables false

namespace Plain
def digF : List UInt8 → Int → Option Int
  | [], n => some n
  | c :: l, n => if 48 ≤ c.toNat ∧ c.toNat ≤ 57 then digF l (n * 10 + ((c.toNat - 48 : Nat) : Int)) else none
def badF (l : List UInt8) : Bool := decide (l.length < 1) || decide (15 < l.length) || (decide (1 < l.length) && decide (l.head? = some 48))
def numO : Option Int → Int
  | none => -1
  | some n => if 50 < n then -1 else n
/-- The number of a word, or -1. -/
def numF (l : List UInt8) : Int := if badF l = true then -1 else numO (digF l 0)
theorem numF_dec : ∀ a : Int, 1 ≤ a → a ≤ 50 → numF (Lib.decDigits a.toNat) = a := by
  intro a h1 h50
  have hd : ∀ n : Fin 51, 1 ≤ n.val → numF (decF 3 n.val []) = (n.val : Int) := by decide
  have e := decF_is ⟨a.toNat, by omega⟩ (by simp; omega)
  have := hd ⟨a.toNat, by omega⟩ (by simp; omega)
  rw [e] at this
  rw [this]
  simp only
  omega
end Plain
theorem retB {a b : Bool} (h : a = b) : Ending.returned (.bool a) = .returned (.bool b) := by rw [h]
theorem dig9_calls (n : Nat) (w : World) (hn : n < 256) :
    Calls Tryz.prog 92 #[.int .u8 n] w fun e w' => e = .returned (.bool (decide (48 ≤ n) && decide (n ≤ 57))) ∧ w = w' := by
  obtain ⟨w0, rfl⟩ : ∃ w0, w0 = w := ⟨_, rfl⟩
  by_cases h1 : 48 ≤ n
  · by_cases h2 : n ≤ 57
    · rw [decide_eq_true h1, decide_eq_true h2]
      go_enter Tryz.func92, Tryz.ntmps92
      go_wp2_with fail
      go_ret
      exact ⟨retB (by simp; omega), rfl⟩
    · rw [decide_eq_true h1, decide_eq_false h2]
      go_enter Tryz.func92, Tryz.ntmps92
      go_wp2_with fail
      go_ret
      exact ⟨retB (by simp; omega), rfl⟩
  · rw [decide_eq_false h1, Bool.false_and]
    go_enter Tryz.func92, Tryz.ntmps92
    go_wp2_with fail
    go_ret
    exact ⟨rfl, rfl⟩

set_option maxRecDepth 10000 in
set_option maxHeartbeats 4000000 in
theorem l1Number_calls (s : ByteArray) (w : World) (hs : s.size ≤ 10000000) :
    Calls Tryz.prog 56 #[.string s, .int .i64 50] w fun e w' => e = .returned (.int .i64 (numF s.data.toList)) ∧ w = w' := by
  obtain ⟨w0, rfl⟩ : ∃ w0, w0 = w := ⟨_, rfl⟩
  have hln := len_data s
  obtain ⟨R, hR⟩ : ∃ R, numF s.data.toList = R := ⟨_, rfl⟩
  rw [hR]
  have HR := hide hR
  clear hR
  by_cases a1 : s.size < 1
  · have HX := hide (show R = -1 from by rw [← unhide HR]; unfold numF badF; rw [hln, decide_eq_true a1]; rfl)
    rw [unhide HX]
    clear hln
    go_enter Tryz.func56, Tryz.ntmps56
    go_wp2_with fail
    go_ret
    exact ⟨rfl, rfl⟩
  by_cases a2 : 15 < s.size
  · have HX := hide (show R = -1 from by rw [← unhide HR]; unfold numF badF; rw [hln, decide_eq_true a2, Bool.or_true]; rfl)
    rw [unhide HX]
    clear hln
    go_enter Tryz.func56, Tryz.ntmps56
    go_wp2_with fail
    go_ret
    exact ⟨rfl, rfl⟩
  have h0l : 0 < s.size := by omega
  obtain ⟨c0, hc0⟩ : ∃ c, s[0].toNat = c := ⟨_, rfl⟩
  have hhd : decide (s.data.toList.head? = some 48) = decide (c0 = 48) := by
    rw [List.head?_eq_getElem?, List.getElem?_eq_getElem (by rw [hln]; exact h0l)]
    rw [decide_eq_decide]
    have e : s.data.toList[0]'(by rw [hln]; exact h0l) = s[0] := rfl
    rw [e, ← hc0]
    constructor
    · intro q; rw [Option.some.inj q]; rfl
    · intro q; exact congrArg some (UInt8.toNat_inj.1 q)
  by_cases a3 : 1 < s.size ∧ c0 = 48
  · obtain ⟨a31, rfl⟩ := a3
    have HX := hide (show R = -1 from by rw [← unhide HR]; unfold numF badF; rw [hln, hhd, decide_eq_true a31]; simp)
    rw [unhide HX]
    clear hln hhd
    go_enter Tryz.func56, Tryz.ntmps56
    go_wp2_with fail
    go_ret
    exact ⟨rfl, rfl⟩
  obtain ⟨D, hD⟩ : ∃ D, digF s.data.toList 0 = D := ⟨_, rfl⟩
  have HRD := hide (show R = numO D from by
    rw [← unhide HR]
    unfold numF
    have hb : badF s.data.toList = false := by
      unfold badF
      rw [hln, hhd, decide_eq_false a1, decide_eq_false a2]
      simp only [Bool.false_or]
      by_cases q : 1 < s.size
      · rw [decide_eq_false (fun e => a3 ⟨q, e⟩), Bool.and_false]
      · rw [decide_eq_false q, Bool.false_and]
    rw [hb, if_neg (by decide), hD])
  have HD := hide hD
  clear hD hhd hln HR
  by_cases q : 1 < s.size
  · have hne : ((c0 : Int) == 48) = false := by
      rw [beq_eq_false_iff_ne]
      intro e
      exact a3 ⟨q, by omega⟩
    clear a3
    go_enter Tryz.func56, Tryz.ntmps56
    go_wp2_with fail
    go_loopw [5, 6] (fun s5 s6 wr => ∃ (k : Nat) (N : Int), s5 = .int .i64 N ∧ s6 = .int .i64 k ∧ k ≤ s.size ∧ 0 ≤ N ∧ Hid (N < ((10 ^ k : Nat) : Int)) ∧ Hid (digF (s.data.toList.drop k) N = D) ∧ wr = w0) (fun _ s6 _ => s.size - (intOf s6).toNat)
    case atStart => exact ⟨0, 0, rfl, rfl, by omega, by omega, hide (by decide), hide (by rw [List.drop_zero]; exact unhide HD), rfl⟩
    case round =>
      obtain ⟨k, N, rfl, rfl, hk, hN0, HN, HO, rfl⟩ := hrel
      by_cases hlt : k < s.size
      · obtain ⟨c, hc⟩ : ∃ c, s[k].toNat = c := ⟨_, rfl⟩
        have hc256 : c < 256 := by rw [← hc]; exact s[k].toNat_lt
        have hll : k < s.data.toList.length := by rw [len_data]; exact hlt
        have hcl : (s.data.toList[k]).toNat = c := hc
        have hst := unhide HO
        rw [List.drop_eq_getElem_cons hll, digF, hcl] at hst
        have hN15 : N < 1000000000000000 := by
          have h1 : (10 ^ k : Nat) ≤ 10 ^ 15 := Nat.pow_le_pow_right (by decide) (by omega)
          have h2 := unhide HN
          have h3 : (10 ^ 15 : Nat) = 1000000000000000 := by decide
          omega
        by_cases hd : 48 ≤ c ∧ c ≤ 57
        · rw [if_pos hd] at hst
          obtain ⟨d1, d2⟩ := hd
          have HS := hide hst
          have HB := hide (show (decide (48 ≤ c) && decide (c ≤ 57)) = true from by simp [d1, d2])
          have HP := hide (show N * 10 + ((c - 48 : Nat) : Int) < ((10 ^ (k + 1) : Nat) : Int) from by
            have h2 := unhide HN
            have h3 : (10 ^ (k + 1) : Nat) = 10 ^ k * 10 := Nat.pow_succ 10 k
            rw [h3]
            generalize (10 ^ k : Nat) = P at h2
            omega)
          clear hst hll hcl HO
          go_wp2_with (go_at_call 92; refine (dig9_calls c _ hc256).mono ?_; rintro e w' ⟨rfl, rfl⟩; rw [unhide HB])
          go_roundw
          case rel => exact ⟨k + 1, N * 10 + ((c - 48 : Nat) : Int), by go_num, by go_num, by omega, by omega, HP, HS, trivial⟩
          case measure => simp [intOf]; omega
        · rw [if_neg hd] at hst
          have HX := hide (show R = -1 from by rw [unhide HRD, ← hst]; rfl)
          have HB := hide (show (decide (48 ≤ c) && decide (c ≤ 57)) = false from by
            by_cases d1 : 48 ≤ c
            · rw [decide_eq_false (show ¬ c ≤ 57 by omega), Bool.and_false]
            · rw [decide_eq_false d1, Bool.false_and])
          clear hst hll hcl HO hd
          go_wp2_with (go_at_call 92; refine (dig9_calls c _ hc256).mono ?_; rintro e w' ⟨rfl, rfl⟩; rw [unhide HB])
          go_ret
          exact ⟨by rw [unhide HX]; rfl, rfl⟩
      · obtain rfl : k = s.size := by omega
        have hst := unhide HO
        rw [List.drop_of_length_le (by rw [len_data]; exact Nat.le_refl _), digF] at hst
        by_cases h50 : 50 < N
        · have HX := hide (show R = -1 from by rw [unhide HRD, ← hst, numO]; rw [if_pos h50])
          clear hst HO
          go_wp2_with fail
          go_ret
          exact ⟨by rw [unhide HX]; rfl, rfl⟩
        · have HX := hide (show R = N from by rw [unhide HRD, ← hst, numO]; rw [if_neg h50])
          clear hst HO
          go_wp2_with fail
          go_ret
          exact ⟨by rw [unhide HX]; rfl, rfl⟩
  · clear a3
    go_enter Tryz.func56, Tryz.ntmps56
    go_wp2_with fail
    go_loopw [5, 6] (fun s5 s6 wr => ∃ (k : Nat) (N : Int), s5 = .int .i64 N ∧ s6 = .int .i64 k ∧ k ≤ s.size ∧ 0 ≤ N ∧ Hid (N < ((10 ^ k : Nat) : Int)) ∧ Hid (digF (s.data.toList.drop k) N = D) ∧ wr = w0) (fun _ s6 _ => s.size - (intOf s6).toNat)
    case atStart => exact ⟨0, 0, rfl, rfl, by omega, by omega, hide (by decide), hide (by rw [List.drop_zero]; exact unhide HD), rfl⟩
    case round =>
      obtain ⟨k, N, rfl, rfl, hk, hN0, HN, HO, rfl⟩ := hrel
      by_cases hlt : k < s.size
      · obtain ⟨c, hc⟩ : ∃ c, s[k].toNat = c := ⟨_, rfl⟩
        have hc256 : c < 256 := by rw [← hc]; exact s[k].toNat_lt
        have hll : k < s.data.toList.length := by rw [len_data]; exact hlt
        have hcl : (s.data.toList[k]).toNat = c := hc
        have hst := unhide HO
        rw [List.drop_eq_getElem_cons hll, digF, hcl] at hst
        have hN15 : N < 1000000000000000 := by
          have h1 : (10 ^ k : Nat) ≤ 10 ^ 15 := Nat.pow_le_pow_right (by decide) (by omega)
          have h2 := unhide HN
          have h3 : (10 ^ 15 : Nat) = 1000000000000000 := by decide
          omega
        by_cases hd : 48 ≤ c ∧ c ≤ 57
        · rw [if_pos hd] at hst
          obtain ⟨d1, d2⟩ := hd
          have HS := hide hst
          have HB := hide (show (decide (48 ≤ c) && decide (c ≤ 57)) = true from by simp [d1, d2])
          have HP := hide (show N * 10 + ((c - 48 : Nat) : Int) < ((10 ^ (k + 1) : Nat) : Int) from by
            have h2 := unhide HN
            have h3 : (10 ^ (k + 1) : Nat) = 10 ^ k * 10 := Nat.pow_succ 10 k
            rw [h3]
            generalize (10 ^ k : Nat) = P at h2
            omega)
          clear hst hll hcl HO
          go_wp2_with (go_at_call 92; refine (dig9_calls c _ hc256).mono ?_; rintro e w' ⟨rfl, rfl⟩; rw [unhide HB])
          go_roundw
          case rel => exact ⟨k + 1, N * 10 + ((c - 48 : Nat) : Int), by go_num, by go_num, by omega, by omega, HP, HS, trivial⟩
          case measure => simp [intOf]; omega
        · rw [if_neg hd] at hst
          have HX := hide (show R = -1 from by rw [unhide HRD, ← hst]; rfl)
          have HB := hide (show (decide (48 ≤ c) && decide (c ≤ 57)) = false from by
            by_cases d1 : 48 ≤ c
            · rw [decide_eq_false (show ¬ c ≤ 57 by omega), Bool.and_false]
            · rw [decide_eq_false d1, Bool.false_and])
          clear hst hll hcl HO hd
          go_wp2_with (go_at_call 92; refine (dig9_calls c _ hc256).mono ?_; rintro e w' ⟨rfl, rfl⟩; rw [unhide HB])
          go_ret
          exact ⟨by rw [unhide HX]; rfl, rfl⟩
      · obtain rfl : k = s.size := by omega
        have hst := unhide HO
        rw [List.drop_of_length_le (by rw [len_data]; exact Nat.le_refl _), digF] at hst
        by_cases h50 : 50 < N
        · have HX := hide (show R = -1 from by rw [unhide HRD, ← hst, numO]; rw [if_pos h50])
          clear hst HO
          go_wp2_with fail
          go_ret
          exact ⟨by rw [unhide HX]; rfl, rfl⟩
        · have HX := hide (show R = N from by rw [unhide HRD, ← hst, numO]; rw [if_neg h50])
          clear hst HO
          go_wp2_with fail
          go_ret
          exact ⟨by rw [unhide HX]; rfl, rfl⟩
end Go.Proofs.YtjiclgcohpkkjaaGreatDoor


/- Messages that are read: by the program and by the specification they are the same. -/
namespace Go.Proofs.YtjiclgcohpkkjaaGreatDoor
open Go.RowKit Plain
set_option linter.unusedVariables false

namespace Plain
abbrev Hd := ((((((((((Unit × Int) × Int) × Int) × Int) × Int) × Int) × Int) × Int) × ByteArray) × ByteArray) × Int
def hdT (a0 a1 a2 a3 a4 a5 a6 a7 : Int) (tx cf : ByteArray) (c : Int) : Hd := ((((((((((((), a0), a1), a2), a3), a4), a5), a6), a7), tx), cf), c)
def hd8 (s : ByteArray) := stN s (stN s (stN s (stN s (stN s (stN s (stN s (stN s (some ((), 0)))))))))
def hdA (s : ByteArray) : Option (Hd × Nat) := stN s (stT s (stT s (hd8 s)))
theorem stN_some {α : Type} {s : ByteArray} {S : Option (α × Nat)} {a : α} {p q : Nat} {v : Int} (h : S = some (a, p)) (h2 : stp s p = some (v, q)) : stN s S = some ((a, v), q) := by
  unfold stN; rw [h]; simp [h2]
theorem stT_some {α : Type} {s : ByteArray} {S : Option (α × Nat)} {a : α} {p q : Nat} {v : ByteArray} (h : S = some (a, p)) (h2 : txp s p = some (v, q)) : stT s S = some ((a, v), q) := by
  unfold stT; rw [h]; simp [h2]
theorem conf_short (v l : List Int) : (strL (confL v l)).size ≤ 20000 := by rw [strL_size]; have := confL_len v l; omega
theorem hd_of (a0 a1 a2 a3 a4 a5 a6 a7 : Int) (tx : ByteArray) (es : List Ent) (v l : List Int) (hb : msgB [a0, a1, a2, a3, a4, a5, a6, a7] tx es = true) :
    ∃ p, hdA (strL (msgL [a0, a1, a2, a3, a4, a5, a6, a7] tx es v l)) = some (hdT a0 a1 a2 a3 a4 a5 a6 a7 tx (strL (confL v l)) (es.length : Int), p) ∧ Lft (strL (msgL [a0, a1, a2, a3, a4, a5, a6, a7] tx es v l)) p (catE es) := by
  have hm : msgL [a0, a1, a2, a3, a4, a5, a6, a7] tx es v l = pnL a0 ++ (pnL a1 ++ (pnL a2 ++ (pnL a3 ++ (pnL a4 ++ (pnL a5 ++ (pnL a6 ++ (pnL a7 ++ (txtL tx ++ (txtL (strL (confL v l)) ++ (pnL es.length ++ catE es)))))))))) := by
    unfold msgL
    rw [if_pos hb]
    simp [catN, rowsL, List.append_assoc]
  have L0 := Lft.start (msgL [a0, a1, a2, a3, a4, a5, a6, a7] tx es v l)
  rw [hm] at L0 ⊢
  clear hm
  generalize strL (pnL a0 ++ (pnL a1 ++ (pnL a2 ++ (pnL a3 ++ (pnL a4 ++ (pnL a5 ++ (pnL a6 ++ (pnL a7 ++ (txtL tx ++ (txtL (strL (confL v l)) ++ (pnL es.length ++ catE es))))))))))) = s at L0 ⊢
  unfold msgB at hb
  simp only [List.all_cons, List.all_nil, Bool.and_eq_true, decide_eq_true_eq, Bool.and_true] at hb
  obtain ⟨⟨⟨b0, b1, b2, b3, b4, b5, b6, b7⟩, b8, b9⟩, b10⟩ := hb
  have L1 := L0.next
  have L2 := L1.next
  have L3 := L2.next
  have L4 := L3.next
  have L5 := L4.next
  have L6 := L5.next
  have L7 := L6.next
  have L8 := L7.next
  have L9 := L8.next
  have L10 := L9.next
  have L11 := L10.next
  refine ⟨_, ?_, L11⟩
  unfold hdA hd8
  refine stN_some (stT_some (stT_some (stN_some (stN_some (stN_some (stN_some (stN_some (stN_some (stN_some (stN_some rfl (stp_left L0 b0)) (stp_left L1 b1)) (stp_left L2 b2)) (stp_left L3 b3)) (stp_left L4 b4)) (stp_left L5 b5)) (stp_left L6 b6)) (stp_left L7 b7)) (txp_left L8 b8)) (txp_left L9 (conf_short v l))) (stp_left L10 ?_)
  unfold numB
  simp only [Bool.and_eq_true, decide_eq_true_eq]
  omega
/-- A message, as mathematics. -/
structure MsgM where
  kd : Int
  fr : Int
  tt : Int
  tm : Int
  ix : Int
  lg : Int
  cm : Int
  ok : Bool
  tx : ByteArray
  es : List Ent
  v : List Int
  l : List Int
def MsgM.text (m : MsgM) : ByteArray := strL (msgL (numsM m.kd m.fr m.tt m.tm m.ix m.lg m.cm m.ok) m.tx m.es m.v m.l)
def mOf (h : Hd) (es : List Ent) : MsgM := match h with
  | ((((((((((((), a0), a1), a2), a3), a4), a5), a6), a7), tx), cf), c) => ⟨a0, a1, a2, a3, a4, a5, a6, decide (a7 = 1), tx, es, (rdC numF cf.data.toList).1, (rdC numF cf.data.toList).2.1⟩
/-- What is answered for entries that were read. -/
def ansM (s : ByteArray) (h : Hd) : Option (List Ent × Nat) → Option MsgM
  | none => none
  | some (es, q) => if q = s.size ∧ (mOf h es).text = s then some (mOf h es) else none
def rdI (s : ByteArray) : Option MsgM := match hdA s with
  | none => none
  | some (h, p) => ansM s h (rawEs s h.2.toNat p)
def rdS (s : ByteArray) : Option MsgM := match hdA s with
  | none => none
  | some (h, p) => ansM s h (fiveEs s h.2.toNat 0 p)
theorem hdA_ne {s : ByteArray} {h : Hd} {p : Nat} (e : hdA s = some (h, p)) : 1 ≤ s.size := by
  rcases Nat.eq_zero_or_pos s.size with hz | hz
  · exfalso
    have : stp s 0 = none := by
      unfold stp tkN
      rw [tkGo_end s 0 6 0 0 (by omega)]; rfl
    have : hd8 s = none := by unfold hd8 stN; simp [this]
    unfold hdA stN stT at e
    simp [this] at e
  · exact hz
theorem ans_both {s : ByteArray} {h : Hd} {p q : Nat} {es : List Ent} (e : hdA s = some (h, p)) (ht : (mOf h es).text = s) : rawEs s h.2.toNat p = some (es, s.size) ∧ fiveEs s h.2.toNat 0 p = some (es, s.size) := by
  have hne := hdA_ne e
  obtain ⟨⟨⟨⟨⟨⟨⟨⟨⟨⟨⟨⟨⟩, a0⟩, a1⟩, a2⟩, a3⟩, a4⟩, a5⟩, a6⟩, a7⟩, tx⟩, cf⟩, c⟩ := h
  unfold MsgM.text mOf at ht
  simp only [numsM] at ht
  generalize (if decide (a7 = 1) = true then (1 : Int) else 0) = a8 at ht
  generalize (rdC numF cf.data.toList).1 = v at ht
  generalize (rdC numF cf.data.toList).2.1 = l at ht
  have hb : msgB [a0, a1, a2, a3, a4, a5, a6, a8] tx es = true := by
    cases hb : msgB [a0, a1, a2, a3, a4, a5, a6, a8] tx es with
    | true => rfl
    | false =>
      unfold msgL at ht
      rw [hb, if_neg (by simp)] at ht
      rw [← ht, strL_size] at hne
      simp at hne
  obtain ⟨p', hh, hl⟩ := hd_of a0 a1 a2 a3 a4 a5 a6 a8 tx es v l hb
  rw [ht] at hh hl
  rw [e] at hh
  simp only [hdT, Option.some.injEq, Prod.mk.injEq, true_and] at hh
  obtain ⟨⟨⟨hx, hcf⟩, hc⟩, rfl⟩ := hh
  have hc2 : c.toNat = es.length := by rw [hc]; rfl
  unfold msgB at hb
  simp only [Bool.and_eq_true, decide_eq_true_eq] at hb
  show rawEs s c.toNat p = _ ∧ fiveEs s c.toNat 0 p = _
  rw [hc2]
  exact ⟨raw_ents s es p hl hb.2, five_ents s es 0 p (by omega) hl hb.2⟩
theorem rdS_rdI (s : ByteArray) : rdS s = rdI s := by
  unfold rdS rdI
  cases e : hdA s with
  | none => rfl
  | some x =>
    obtain ⟨h, p⟩ := x
    simp only []
    cases hI : ansM s h (rawEs s h.2.toNat p) with
    | some m =>
      unfold ansM at hI
      split at hI
      · cases hI
      · rename_i es q hr
        split at hI
        · rename_i hc
          obtain ⟨b1, b2⟩ := ans_both (q := 0) e hc.2
          rw [b2]
          show (if s.size = s.size ∧ _ then _ else _) = _
          rw [if_pos ⟨rfl, hc.2⟩]
          exact hI
        · cases hI
    | none =>
      cases hS : ansM s h (fiveEs s h.2.toNat 0 p) with
      | none => rfl
      | some m =>
        exfalso
        unfold ansM at hS
        split at hS
        · cases hS
        · rename_i es q hr
          split at hS
          · rename_i hc
            obtain ⟨b1, b2⟩ := ans_both (q := 0) e hc.2
            rw [b1] at hI
            have hI2 : (if s.size = s.size ∧ (mOf h es).text = s then some (mOf h es) else none) = none := hI
            rw [if_pos ⟨rfl, hc.2⟩] at hI2
            cases hI2
          · cases hS
end Plain
end Go.Proofs.YtjiclgcohpkkjaaGreatDoor


/- The library's cutting of a text at blanks is mine. -/
namespace Go.Proofs.YtjiclgcohpkkjaaGreatDoor.Plain
open Go
set_option linter.unusedVariables false

theorem idx32 (l : List UInt8) : (Lib.index l [32] = -1 ∧ no32 l) ∨ ∃ a b, l = a ++ 32 :: b ∧ no32 a ∧ Lib.index l [32] = a.length := by
  induction l with
  | nil => exact .inl ⟨rfl, fun x hx => by simp at hx⟩
  | cons c l ih =>
    by_cases hc : c = 32
    · subst hc
      refine .inr ⟨[], l, rfl, fun x hx => by simp at hx, ?_⟩
      rw [Lib.index, if_pos (by simp)]
      rfl
    · have hp : ¬ ([32] : List UInt8).isPrefixOf (c :: l) = true := by simp; exact fun e => hc e.symm
      have h32 : c.toNat ≠ 32 := fun e => hc (UInt8.toNat_inj.1 e)
      rcases ih with ⟨h1, h2⟩ | ⟨a, b, rfl, h2, h3⟩
      · refine .inl ⟨by rw [Lib.index, if_neg hp, h1]; rfl, fun x hx => ?_⟩
        rcases List.mem_cons.1 hx with rfl | hx
        · exact h32
        · exact h2 x hx
      · refine .inr ⟨c :: a, b, rfl, fun x hx => ?_, ?_⟩
        · rcases List.mem_cons.1 hx with rfl | hx
          · exact h32
          · exact h2 x hx
        · rw [Lib.index, if_neg hp, h3, if_neg (by simp)]
          simp
theorem no32_count {l : List UInt8} (h : no32 l) : l.count 32 = 0 := List.count_eq_zero.2 (fun hx => h 32 hx rfl)
theorem splitK_splt : ∀ (k : Nat) (l : List UInt8), l.count 32 ≤ k → Lib.splitK [32] 0 k l = splt 32 l := by
  intro k
  induction k with
  | zero =>
    intro l h
    have hn : no32 l := fun x hx e => by
      have : (32 : UInt8) ∈ l := by rw [show (32 : UInt8) = x from UInt8.toNat_inj.1 e.symm]; exact hx
      have := List.count_pos_iff.2 this
      omega
    rw [Lib.splitK, splt_end 32 l hn]
  | succ k ih =>
    intro l h
    rcases idx32 l with ⟨h1, h2⟩ | ⟨a, b, rfl, h2, h3⟩
    · rw [Lib.splitK, h1, if_pos (by decide), splt_end 32 l h2]
    · rw [Lib.splitK, h3, if_neg (by simp), splt_at 32 a b 32 rfl h2]
      have hc : b.count 32 ≤ k := by
        rw [List.count_append, List.count_cons_self] at h
        omega
      have e1 : (a ++ 32 :: b).take ((a.length : Int).toNat + 0) = a := by simp
      have e2 : (a ++ 32 :: b).drop ((a.length : Int).toNat + ([32] : List UInt8).length) = b := by
        rw [Int.toNat_natCast, List.length_singleton, ← List.drop_drop, List.drop_left]
        rfl
      rw [e1, e2, ih b hc]
theorem count32 : ∀ (f : Nat) (l : List UInt8), l.length < f → l.count 32 ≤ Lib.countFrom [32] f l := by
  intro f
  induction f with
  | zero => intro l h; omega
  | succ f ih =>
    intro l h
    rcases idx32 l with ⟨h1, h2⟩ | ⟨a, b, rfl, h2, h3⟩
    · rw [no32_count h2]; exact Nat.zero_le _
    · have e2 : (a ++ 32 :: b).drop ((a.length : Int).toNat + ([32] : List UInt8).length) = b := by
        rw [Int.toNat_natCast, List.length_singleton, ← List.drop_drop, List.drop_left]
        rfl
      have hb := ih b (by rw [List.length_append, List.length_cons] at h; omega)
      rw [Lib.countFrom, h3, if_neg (by simp), e2, List.count_append, List.count_cons_self, no32_count h2]
      omega
theorem splitB_cut (s sep : ByteArray) (hsep : sep.data.toList = [32]) : Lib.splitB sep 0 (Lib.countB s sep) s = cutB 32 s := by
  have h : s.data.toList.count 32 ≤ Lib.countB s sep := by unfold Lib.countB Lib.count; rw [hsep]; exact count32 _ _ (by omega)
  generalize Lib.countB s sep = k at h
  have e := Lib.splitB_data sep 0 k s
  rw [hsep, splitK_splt k _ h] at e
  unfold cutB
  rw [← e, List.map_map]
  have : (toB ∘ fun x : ByteArray => x.data.toList) = id := funext fun x => rfl
  rw [this, List.map_id]
theorem parse_dec : ∀ a : Int, 1 ≤ a → a ≤ 50 → Lib.parseIntB 64 (Lib.decDigits a.toNat) = .ok a := by
  intro a h1 h50
  have hd : ∀ n : Fin 51, 1 ≤ n.val → Lib.parseIntB 64 (decF 3 n.val []) = .ok (n.val : Int) := by decide
  have e := decF_is ⟨a.toNat, by omega⟩ (by simp; omega)
  have := hd ⟨a.toNat, by omega⟩ (by simp; omega)
  rw [e] at this
  rw [this]
  simp only
  congr 1
  omega
end Go.Proofs.YtjiclgcohpkkjaaGreatDoor.Plain


/- Members read out of texts, as the program reads them: the mathematics. -/
namespace Go.Proofs.YtjiclgcohpkkjaaGreatDoor.Plain
open Go
set_option linter.unusedVariables false

def prsI (x : List UInt8) : Option Int := match Lib.parseIntB 64 x with
  | .ok v => some v
  | _ => none
theorem prsI_ok {x : List UInt8} {v : Int} (h : Lib.parseIntB 64 x = .ok v) : prsI x = some v := by unfold prsI; rw [h]
theorem prsI_no {x : List UInt8} (h : ∀ v, Lib.parseIntB 64 x ≠ .ok v) : prsI x = none := by
  unfold prsI
  cases hp : Lib.parseIntB 64 x with
  | ok v => exact absurd hp (h v)
  | «syntax» => rfl
  | range => rfl
/-- What is read of words: every word l turns to the learners; a word that is no number ends it. -/
def rdP : List (List UInt8) → Bool → List Int → List Int → Option (List Int × List Int)
  | [], _, v, l => some (v, l)
  | x :: r, d, v, l => if x = [108] then rdP r true v l else match prsI x with
    | none => none
    | some n => if d = true then rdP r d v (l ++ [n]) else rdP r d (v ++ [n]) l
theorem rdP_l (ls : List Int) : (∀ a ∈ ls, 1 ≤ a ∧ a ≤ 50) → ∀ v l, rdP (ls.map (fun n => Lib.decDigits n.toNat)) true v l = some (v, l ++ ls) := by
  induction ls with
  | nil => intro _ v l; simp [rdP]
  | cons a ls ih =>
    intro h v l
    have ha := h a (by simp)
    rw [List.map_cons, rdP, if_neg (dec_not a ha.1 ha.2), prsI_ok (parse_dec a ha.1 ha.2)]
    show (if true = true then _ else _) = _
    rw [if_pos rfl, ih (fun b hb => h b (by simp [hb]))]
    simp
theorem rdP_v (r : List (List UInt8)) (ls : List Int) : (∀ a ∈ ls, 1 ≤ a ∧ a ≤ 50) → ∀ v l, rdP (ls.map (fun n => Lib.decDigits n.toNat) ++ r) false v l = rdP r false (v ++ ls) l := by
  induction ls with
  | nil => intro _ v l; simp
  | cons a ls ih =>
    intro h v l
    have ha := h a (by simp)
    rw [List.map_cons, List.cons_append, rdP, if_neg (dec_not a ha.1 ha.2), prsI_ok (parse_dec a ha.1 ha.2)]
    show (if false = true then _ else _) = _
    rw [if_neg (by decide), ih (fun b hb => h b (by simp [hb]))]
    simp
theorem rdP_conf (v l : List Int) (h : confB v l = true) : rdP ((splt 32 (confL v l)).drop 1) false [] [] = some (v, l) := by
  obtain ⟨h1, h2, -⟩ := confB_l h
  rw [splt_conf v l h, List.drop_succ_cons, List.drop_zero, rdP_v _ v h1]
  by_cases hl : l.length = 0
  · rw [if_pos hl, List.length_eq_zero_iff.1 hl]
    simp [rdP]
  · rw [if_neg hl, rdP, if_pos rfl, rdP_l l h2]
    simp
theorem confL_ne {v l : List Int} (h : confB v l = true) : confL v l ≠ [] := by
  intro q
  have := splt_conf v l h
  rw [q] at this
  simp [splt] at this
/-- What ReadConf of the program answers, by the bytes. -/
def rdQ (t : List UInt8) : List Int × List Int × Bool := match rdP ((splt 32 t).drop 1) false [] [] with
  | none => ([], [], false)
  | some (v, l) => if confB v l = true ∧ confL v l = t then (v, l, true) else ([], [], false)
theorem rdQ_none {t : List UInt8} (h : rdP ((splt 32 t).drop 1) false [] [] = none) : rdQ t = ([], [], false) := by unfold rdQ; rw [h]
theorem rdQ_some {t : List UInt8} {v l : List Int} (h : rdP ((splt 32 t).drop 1) false [] [] = some (v, l)) : rdQ t = if confB v l = true ∧ confL v l = t then (v, l, true) else ([], [], false) := by unfold rdQ; rw [h]
theorem rdQ_rdC (t : List UInt8) : rdQ t = rdC numF t := by
  by_cases h : ∃ v l, confB v l = true ∧ confL v l = t
  · obtain ⟨v, l, hc, rfl⟩ := h
    rw [rdQ_some (rdP_conf v l hc), if_pos ⟨hc, rfl⟩]
    unfold rdC
    rw [rdW_conf numF numF_dec v l hc, if_pos ⟨rfl, confL_ne hc⟩]
  · have e1 : rdQ t = ([], [], false) := by
      cases hp : rdP ((splt 32 t).drop 1) false [] [] with
      | none => exact rdQ_none hp
      | some y =>
        obtain ⟨v, l⟩ := y
        rw [rdQ_some hp, if_neg (fun q => h ⟨v, l, q⟩)]
    rw [e1]
    unfold rdC
    rw [if_neg]
    rintro ⟨q1, q2⟩
    exact h ⟨_, _, confL_ok q1 q2, q1⟩
end Go.Proofs.YtjiclgcohpkkjaaGreatDoor.Plain

