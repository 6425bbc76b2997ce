/- Texts of one kind, put together. -/
import Derived.Test.YtmokpgmehaakgaaGreatDoorCtxM
import Derived.Test.YtmokpgmehaakgaaGreatDoorRzA
import Derived.Lib.Split
import Derived.Lib.ParseIntB
import Derived.Test.YtmokpgmehaakgaaGreatDoorRzD

/- Members read out of texts: the mathematics. -/
namespace Go.Proofs.YtmokpgmehaakgaaGreatDoor.Plain
open Go
set_option linter.unusedVariables false

def no32 (h : List UInt8) : Prop := ∀ x ∈ h, x.toNat ≠ 32
theorem dec_no32 : ∀ n : Nat, no32 (Lib.decDigits n) := by
  intro n
  induction n using Nat.strongRecOn with
  | _ n ih =>
    rw [Lib.decDigits]
    have hd : ∀ k : Nat, (UInt8.ofNat (48 + k % 10)).toNat ≠ 32 := fun k => by simp; omega
    have hd2 : ∀ k : Nat, k < 10 → (UInt8.ofNat (48 + k)).toNat ≠ 32 := fun k hk => by simp; omega
    split
    · intro x hx
      simp only [List.mem_singleton] at hx
      subst hx
      exact hd2 _ (by assumption)
    · intro x hx
      rw [List.mem_append] at hx
      rcases hx with hx | hx
      · exact ih (n / 10) (by omega) x hx
      · simp only [List.mem_singleton] at hx
        subst hx
        exact hd _
/-- The words of numbers, and of what follows. -/
theorem splt_num (tl : List UInt8) (W : List (List UInt8)) (ht : ∀ h, no32 h → splt 32 (h ++ tl) = h :: W) (ls : List Int) : ∀ h, no32 h → splt 32 (h ++ (numL ls ++ tl)) = h :: (ls.map (fun n => Lib.decDigits n.toNat) ++ W) := by
  induction ls with
  | nil => intro h hh; simpa [numL] using ht h hh
  | cons a ls ih =>
    intro h hh
    have e : numL (a :: ls) ++ tl = 32 :: (Lib.decDigits a.toNat ++ (numL ls ++ tl)) := by simp [numL]
    rw [e, splt_at 32 h _ 32 (by decide) hh, ih _ (dec_no32 _)]
    simp
theorem splt_conf (v l : List Int) (h : confB v l = true) : splt 32 (confL v l) = [118] :: (v.map (fun n => Lib.decDigits n.toNat) ++ (if l.length = 0 then [] else [108] :: l.map (fun n => Lib.decDigits n.toNat))) := by
  unfold confL
  rw [if_pos h]
  by_cases hl : l.length = 0
  · rw [if_pos hl, if_pos hl]
    exact splt_num [] [] (fun h hh => by rw [List.append_nil]; exact splt_end 32 h hh) v [118] (by intro x hx; simp only [List.mem_singleton] at hx; subst hx; decide)
  · rw [if_neg hl, if_neg hl]
    refine splt_num (32 :: 108 :: numL l) ([108] :: l.map (fun n => Lib.decDigits n.toNat)) (fun h hh => ?_) v [118] (by intro x hx; simp only [List.mem_singleton] at hx; subst hx; decide)
    rw [splt_at 32 h _ 32 (by decide) hh]
    have := splt_num [] [] (fun h hh => by rw [List.append_nil]; exact splt_end 32 h hh) l [108] (by intro x hx; simp only [List.mem_singleton] at hx; subst hx; decide)
    rw [List.append_nil, List.append_nil] at this
    exact congrArg _ this
/-- What is read of words: a number by N; the word l turns to the learners, once. -/
def rdW (N : List UInt8 → Int) : List (List UInt8) → Bool → List Int → List Int → List Int × List Int
  | [], _, v, l => (v, l)
  | x :: r, d, v, l => if x = [108] ∧ d = false then rdW N r true v l else if d = true then rdW N r d v (l ++ [N x]) else rdW N r d (v ++ [N x]) l
theorem dec_not (a : Int) (h1 : 1 ≤ a) (h50 : a ≤ 50) : Lib.decDigits a.toNat ≠ [108] := by
  intro q
  have hd : ∀ n : Fin 51, Lib.decDigits n.val ≠ [108] := by
    intro n q
    rw [Lib.decDigits] at q
    split at q
    · have := congrArg (fun l => l.map UInt8.toNat) q
      simp at this
      omega
    · have := congrArg List.length q
      rw [Lib.decDigits, dif_pos (by omega)] at this
      simp at this
  exact hd ⟨a.toNat, by omega⟩ q
theorem rdW_l (N : List UInt8 → Int) (hN : ∀ a : Int, 1 ≤ a → a ≤ 50 → N (Lib.decDigits a.toNat) = a) (ls : List Int) : (∀ a ∈ ls, 1 ≤ a ∧ a ≤ 50) → ∀ v l, rdW N (ls.map (fun n => Lib.decDigits n.toNat)) true v l = (v, l ++ ls) := by
  induction ls with
  | nil => intro _ v l; simp [rdW]
  | cons a ls ih =>
    intro h v l
    have ha := h a (by simp)
    rw [List.map_cons, rdW, if_neg (by simp), if_pos rfl, ih (fun b hb => h b (by simp [hb])), hN a ha.1 ha.2]
    simp
theorem rdW_v (N : List UInt8 → Int) (hN : ∀ a : Int, 1 ≤ a → a ≤ 50 → N (Lib.decDigits a.toNat) = a) (r : List (List UInt8)) (ls : List Int) : (∀ a ∈ ls, 1 ≤ a ∧ a ≤ 50) → ∀ v l, rdW N (ls.map (fun n => Lib.decDigits n.toNat) ++ r) false v l = rdW N r false (v ++ ls) l := by
  induction ls with
  | nil => intro _ v l; simp
  | cons a ls ih =>
    intro h v l
    have ha := h a (by simp)
    rw [List.map_cons, List.cons_append, rdW, if_neg (fun q => dec_not a ha.1 ha.2 q.1), if_neg (by decide), ih (fun b hb => h b (by simp [hb])), hN a ha.1 ha.2]
    simp
/-- The text of right members reads as them. -/
theorem rdW_conf (N : List UInt8 → Int) (hN : ∀ a : Int, 1 ≤ a → a ≤ 50 → N (Lib.decDigits a.toNat) = a) (v l : List Int) (h : confB v l = true) : rdW N ((splt 32 (confL v l)).drop 1) false [] [] = (v, l) := by
  obtain ⟨h1, h2, -⟩ := confB_l h
  rw [splt_conf v l h, List.drop_succ_cons, List.drop_zero, rdW_v N hN _ v h1]
  by_cases hl : l.length = 0
  · rw [if_pos hl, List.length_eq_zero_iff.1 hl]
    simp [rdW]
  · rw [if_neg hl, rdW, if_pos ⟨rfl, rfl⟩, rdW_l N hN l h2]
    simp
/-- What ReadConf answers, by the bytes: members whose text is the text, or nothing. -/
def rdC (N : List UInt8 → Int) (t : List UInt8) : List Int × List Int × Bool :=
  if confL (rdW N ((splt 32 t).drop 1) false [] []).1 (rdW N ((splt 32 t).drop 1) false [] []).2 = t ∧ t ≠ [] then ((rdW N ((splt 32 t).drop 1) false [] []).1, (rdW N ((splt 32 t).drop 1) false [] []).2, true) else ([], [], false)
theorem confL_ok {v l : List Int} {t : List UInt8} (h : confL v l = t) (ht : t ≠ []) : confB v l = true := by
  cases hc : confB v l with
  | true => rfl
  | false =>
    unfold confL at h
    rw [if_neg (by rw [hc]; decide)] at h
    exact absurd h.symm ht
/-- Which reader of numbers it is does not matter. -/
theorem rdC_any (N M : List UInt8 → Int) (hN : ∀ a : Int, 1 ≤ a → a ≤ 50 → N (Lib.decDigits a.toNat) = a) (hM : ∀ a : Int, 1 ≤ a → a ≤ 50 → M (Lib.decDigits a.toNat) = a) (t : List UInt8) : rdC N t = rdC M t := by
  have one : ∀ (A B : List UInt8 → Int), (∀ a : Int, 1 ≤ a → a ≤ 50 → A (Lib.decDigits a.toNat) = a) → (∀ a : Int, 1 ≤ a → a ≤ 50 → B (Lib.decDigits a.toNat) = a) → confL (rdW A ((splt 32 t).drop 1) false [] []).1 (rdW A ((splt 32 t).drop 1) false [] []).2 = t ∧ t ≠ [] → rdW A ((splt 32 t).drop 1) false [] [] = rdW B ((splt 32 t).drop 1) false [] [] := by
    intro A B hA hB h
    obtain ⟨h1, h2⟩ := h
    have hc := confL_ok h1 h2
    have e1 := rdW_conf A hA _ _ hc
    have e2 := rdW_conf B hB _ _ hc
    rw [h1] at e1 e2
    rw [e1, e2]
  unfold rdC
  by_cases h : confL (rdW N ((splt 32 t).drop 1) false [] []).1 (rdW N ((splt 32 t).drop 1) false [] []).2 = t ∧ t ≠ []
  · have e := one N M hN hM h
    rw [e]
  · by_cases h2 : confL (rdW M ((splt 32 t).drop 1) false [] []).1 (rdW M ((splt 32 t).drop 1) false [] []).2 = t ∧ t ≠ []
    · have e := one M N hM hN h2
      rw [e]
    · rw [if_neg h, if_neg h2]
/-- A text of more than 200 bytes is none of right members. -/
theorem confL_len (v l : List Int) : (confL v l).length ≤ 200 := by
  unfold confL
  split
  · rename_i h
    obtain ⟨h1, h2, h3⟩ := confB_l h
    have n1 := numL_len v h1
    have n2 := numL_len l h2
    have hv : v.length ≤ 7 := by
      unfold confB at h
      simp only [Bool.and_eq_true, decide_eq_true_iff] at h
      exact h.2.2.1
    split <;> simp <;> omega
  · simp
end Go.Proofs.YtmokpgmehaakgaaGreatDoor.Plain


/- The library's cutting of a text at blanks is mine. -/
namespace Go.Proofs.YtmokpgmehaakgaaGreatDoor.Plain
open Go
set_option linter.unusedVariables false

theorem idx32 (l : List UInt8) : (Lib.index l [32] = -1 ∧ no32 l) ∨ ∃ a b, l = a ++ 32 :: b ∧ no32 a ∧ Lib.index l [32] = a.length := by
  induction l with
  | nil => exact .inl ⟨rfl, fun x hx => by simp at hx⟩
  | cons c l ih =>
    by_cases hc : c = 32
    · subst hc
      refine .inr ⟨[], l, rfl, fun x hx => by simp at hx, ?_⟩
      rw [Lib.index, if_pos (by simp)]
      rfl
    · have hp : ¬ ([32] : List UInt8).isPrefixOf (c :: l) = true := by simp; exact fun e => hc e.symm
      have h32 : c.toNat ≠ 32 := fun e => hc (UInt8.toNat_inj.1 e)
      rcases ih with ⟨h1, h2⟩ | ⟨a, b, rfl, h2, h3⟩
      · refine .inl ⟨by rw [Lib.index, if_neg hp, h1]; rfl, fun x hx => ?_⟩
        rcases List.mem_cons.1 hx with rfl | hx
        · exact h32
        · exact h2 x hx
      · refine .inr ⟨c :: a, b, rfl, fun x hx => ?_, ?_⟩
        · rcases List.mem_cons.1 hx with rfl | hx
          · exact h32
          · exact h2 x hx
        · rw [Lib.index, if_neg hp, h3, if_neg (by simp)]
          simp
theorem no32_count {l : List UInt8} (h : no32 l) : l.count 32 = 0 := List.count_eq_zero.2 (fun hx => h 32 hx rfl)
theorem splitK_splt : ∀ (k : Nat) (l : List UInt8), l.count 32 ≤ k → Lib.splitK [32] 0 k l = splt 32 l := by
  intro k
  induction k with
  | zero =>
    intro l h
    have hn : no32 l := fun x hx e => by
      have : (32 : UInt8) ∈ l := by rw [show (32 : UInt8) = x from UInt8.toNat_inj.1 e.symm]; exact hx
      have := List.count_pos_iff.2 this
      omega
    rw [Lib.splitK, splt_end 32 l hn]
  | succ k ih =>
    intro l h
    rcases idx32 l with ⟨h1, h2⟩ | ⟨a, b, rfl, h2, h3⟩
    · rw [Lib.splitK, h1, if_pos (by decide), splt_end 32 l h2]
    · rw [Lib.splitK, h3, if_neg (by simp), splt_at 32 a b 32 rfl h2]
      have hc : b.count 32 ≤ k := by
        rw [List.count_append, List.count_cons_self] at h
        omega
      have e1 : (a ++ 32 :: b).take ((a.length : Int).toNat + 0) = a := by simp
      have e2 : (a ++ 32 :: b).drop ((a.length : Int).toNat + ([32] : List UInt8).length) = b := by
        rw [Int.toNat_natCast, List.length_singleton, ← List.drop_drop, List.drop_left]
        rfl
      rw [e1, e2, ih b hc]
theorem count32 : ∀ (f : Nat) (l : List UInt8), l.length < f → l.count 32 ≤ Lib.countFrom [32] f l := by
  intro f
  induction f with
  | zero => intro l h; omega
  | succ f ih =>
    intro l h
    rcases idx32 l with ⟨h1, h2⟩ | ⟨a, b, rfl, h2, h3⟩
    · rw [no32_count h2]; exact Nat.zero_le _
    · have e2 : (a ++ 32 :: b).drop ((a.length : Int).toNat + ([32] : List UInt8).length) = b := by
        rw [Int.toNat_natCast, List.length_singleton, ← List.drop_drop, List.drop_left]
        rfl
      have hb := ih b (by rw [List.length_append, List.length_cons] at h; omega)
      rw [Lib.countFrom, h3, if_neg (by simp), e2, List.count_append, List.count_cons_self, no32_count h2]
      omega
theorem splitB_cut (s sep : ByteArray) (hsep : sep.data.toList = [32]) : Lib.splitB sep 0 (Lib.countB s sep) s = cutB 32 s := by
  have h : s.data.toList.count 32 ≤ Lib.countB s sep := by unfold Lib.countB Lib.count; rw [hsep]; exact count32 _ _ (by omega)
  generalize Lib.countB s sep = k at h
  have e := Lib.splitB_data sep 0 k s
  rw [hsep, splitK_splt k _ h] at e
  unfold cutB
  rw [← e, List.map_map]
  have : (toB ∘ fun x : ByteArray => x.data.toList) = id := funext fun x => rfl
  rw [this, List.map_id]
theorem parse_dec : ∀ a : Int, 1 ≤ a → a ≤ 50 → Lib.parseIntB 64 (Lib.decDigits a.toNat) = .ok a := by
  intro a h1 h50
  have hd : ∀ n : Fin 51, 1 ≤ n.val → Lib.parseIntB 64 (decF 3 n.val []) = .ok (n.val : Int) := by decide
  have e := decF_is ⟨a.toNat, by omega⟩ (by simp; omega)
  have := hd ⟨a.toNat, by omega⟩ (by simp; omega)
  rw [e] at this
  rw [this]
  simp only
  congr 1
  omega
end Go.Proofs.YtmokpgmehaakgaaGreatDoor.Plain


/- Members read out of texts, by the specification: numbers. -/
namespace Go.Proofs.YtmokpgmehaakgaaGreatDoor
open Go.RowKit Plain
set_option linter.unusedVariables false

namespace Plain
def digF : List UInt8 → Int → Option Int
  | [], n => some n
  | c :: l, n => if 48 ≤ c.toNat ∧ c.toNat ≤ 57 then digF l (n * 10 + ((c.toNat - 48 : Nat) : Int)) else none
def badF (l : List UInt8) : Bool := decide (l.length < 1) || decide (15 < l.length) || (decide (1 < l.length) && decide (l.head? = some 48))
def numO : Option Int → Int
  | none => -1
  | some n => if 50 < n then -1 else n
/-- The number of a word, or -1. -/
def numF (l : List UInt8) : Int := if badF l = true then -1 else numO (digF l 0)
theorem numF_dec : ∀ a : Int, 1 ≤ a → a ≤ 50 → numF (Lib.decDigits a.toNat) = a := by
  intro a h1 h50
  have hd : ∀ n : Fin 51, 1 ≤ n.val → numF (decF 3 n.val []) = (n.val : Int) := by decide
  have e := decF_is ⟨a.toNat, by omega⟩ (by simp; omega)
  have := hd ⟨a.toNat, by omega⟩ (by simp; omega)
  rw [e] at this
  rw [this]
  simp only
  omega
end Plain
theorem retB {a b : Bool} (h : a = b) : Ending.returned (.bool a) = .returned (.bool b) := by rw [h]
theorem dig9_calls (n : Nat) (w : World) (hn : n < 256) :
    Calls Tryz.prog 59 #[.int .u8 n] w fun e w' => e = .returned (.bool (decide (48 ≤ n) && decide (n ≤ 57))) ∧ w = w' := by
  obtain ⟨w0, rfl⟩ : ∃ w0, w0 = w := ⟨_, rfl⟩
  by_cases h1 : 48 ≤ n
  · by_cases h2 : n ≤ 57
    · rw [decide_eq_true h1, decide_eq_true h2]
      go_enter Tryz.func59, Tryz.ntmps59
      go_wp2_with fail
      go_ret
      exact ⟨retB (by simp; omega), rfl⟩
    · rw [decide_eq_true h1, decide_eq_false h2]
      go_enter Tryz.func59, Tryz.ntmps59
      go_wp2_with fail
      go_ret
      exact ⟨retB (by simp; omega), rfl⟩
  · rw [decide_eq_false h1, Bool.false_and]
    go_enter Tryz.func59, Tryz.ntmps59
    go_wp2_with fail
    go_ret
    exact ⟨rfl, rfl⟩

set_option maxRecDepth 10000 in
set_option maxHeartbeats 4000000 in
theorem l1Number_calls (s : ByteArray) (w : World) (hs : s.size ≤ 10000000) :
    Calls Tryz.prog 40 #[.string s, .int .i64 50] w fun e w' => e = .returned (.int .i64 (numF s.data.toList)) ∧ w = w' := by
  obtain ⟨w0, rfl⟩ : ∃ w0, w0 = w := ⟨_, rfl⟩
  have hln := len_data s
  obtain ⟨R, hR⟩ : ∃ R, numF s.data.toList = R := ⟨_, rfl⟩
  rw [hR]
  have HR := hide hR
  clear hR
  by_cases a1 : s.size < 1
  · have HX := hide (show R = -1 from by rw [← unhide HR]; unfold numF badF; rw [hln, decide_eq_true a1]; rfl)
    rw [unhide HX]
    clear hln
    go_enter Tryz.func40, Tryz.ntmps40
    go_wp2_with fail
    go_ret
    exact ⟨rfl, rfl⟩
  by_cases a2 : 15 < s.size
  · have HX := hide (show R = -1 from by rw [← unhide HR]; unfold numF badF; rw [hln, decide_eq_true a2, Bool.or_true]; rfl)
    rw [unhide HX]
    clear hln
    go_enter Tryz.func40, Tryz.ntmps40
    go_wp2_with fail
    go_ret
    exact ⟨rfl, rfl⟩
  have h0l : 0 < s.size := by omega
  obtain ⟨c0, hc0⟩ : ∃ c, s[0].toNat = c := ⟨_, rfl⟩
  have hhd : decide (s.data.toList.head? = some 48) = decide (c0 = 48) := by
    rw [List.head?_eq_getElem?, List.getElem?_eq_getElem (by rw [hln]; exact h0l)]
    rw [decide_eq_decide]
    have e : s.data.toList[0]'(by rw [hln]; exact h0l) = s[0] := rfl
    rw [e, ← hc0]
    constructor
    · intro q; rw [Option.some.inj q]; rfl
    · intro q; exact congrArg some (UInt8.toNat_inj.1 q)
  by_cases a3 : 1 < s.size ∧ c0 = 48
  · obtain ⟨a31, rfl⟩ := a3
    have HX := hide (show R = -1 from by rw [← unhide HR]; unfold numF badF; rw [hln, hhd, decide_eq_true a31]; simp)
    rw [unhide HX]
    clear hln hhd
    go_enter Tryz.func40, Tryz.ntmps40
    go_wp2_with fail
    go_ret
    exact ⟨rfl, rfl⟩
  obtain ⟨D, hD⟩ : ∃ D, digF s.data.toList 0 = D := ⟨_, rfl⟩
  have HRD := hide (show R = numO D from by
    rw [← unhide HR]
    unfold numF
    have hb : badF s.data.toList = false := by
      unfold badF
      rw [hln, hhd, decide_eq_false a1, decide_eq_false a2]
      simp only [Bool.false_or]
      by_cases q : 1 < s.size
      · rw [decide_eq_false (fun e => a3 ⟨q, e⟩), Bool.and_false]
      · rw [decide_eq_false q, Bool.false_and]
    rw [hb, if_neg (by decide), hD])
  have HD := hide hD
  clear hD hhd hln HR
  by_cases q : 1 < s.size
  · have hne : ((c0 : Int) == 48) = false := by
      rw [beq_eq_false_iff_ne]
      intro e
      exact a3 ⟨q, by omega⟩
    clear a3
    go_enter Tryz.func40, Tryz.ntmps40
    go_wp2_with fail
    go_loopw [5, 6] (fun s5 s6 wr => ∃ (k : Nat) (N : Int), s5 = .int .i64 N ∧ s6 = .int .i64 k ∧ k ≤ s.size ∧ 0 ≤ N ∧ Hid (N < ((10 ^ k : Nat) : Int)) ∧ Hid (digF (s.data.toList.drop k) N = D) ∧ wr = w0) (fun _ s6 _ => s.size - (intOf s6).toNat)
    case atStart => exact ⟨0, 0, rfl, rfl, by omega, by omega, hide (by decide), hide (by rw [List.drop_zero]; exact unhide HD), rfl⟩
    case round =>
      obtain ⟨k, N, rfl, rfl, hk, hN0, HN, HO, rfl⟩ := hrel
      by_cases hlt : k < s.size
      · obtain ⟨c, hc⟩ : ∃ c, s[k].toNat = c := ⟨_, rfl⟩
        have hc256 : c < 256 := by rw [← hc]; exact s[k].toNat_lt
        have hll : k < s.data.toList.length := by rw [len_data]; exact hlt
        have hcl : (s.data.toList[k]).toNat = c := hc
        have hst := unhide HO
        rw [List.drop_eq_getElem_cons hll, digF, hcl] at hst
        have hN15 : N < 1000000000000000 := by
          have h1 : (10 ^ k : Nat) ≤ 10 ^ 15 := Nat.pow_le_pow_right (by decide) (by omega)
          have h2 := unhide HN
          have h3 : (10 ^ 15 : Nat) = 1000000000000000 := by decide
          omega
        by_cases hd : 48 ≤ c ∧ c ≤ 57
        · rw [if_pos hd] at hst
          obtain ⟨d1, d2⟩ := hd
          have HS := hide hst
          have HB := hide (show (decide (48 ≤ c) && decide (c ≤ 57)) = true from by simp [d1, d2])
          have HP := hide (show N * 10 + ((c - 48 : Nat) : Int) < ((10 ^ (k + 1) : Nat) : Int) from by
            have h2 := unhide HN
            have h3 : (10 ^ (k + 1) : Nat) = 10 ^ k * 10 := Nat.pow_succ 10 k
            rw [h3]
            generalize (10 ^ k : Nat) = P at h2
            omega)
          clear hst hll hcl HO
          go_wp2_with (go_at_call 59; refine (dig9_calls c _ hc256).mono ?_; rintro e w' ⟨rfl, rfl⟩; rw [unhide HB])
          go_roundw
          case rel => exact ⟨k + 1, N * 10 + ((c - 48 : Nat) : Int), by go_num, by go_num, by omega, by omega, HP, HS, trivial⟩
          case measure => simp [intOf]; omega
        · rw [if_neg hd] at hst
          have HX := hide (show R = -1 from by rw [unhide HRD, ← hst]; rfl)
          have HB := hide (show (decide (48 ≤ c) && decide (c ≤ 57)) = false from by
            by_cases d1 : 48 ≤ c
            · rw [decide_eq_false (show ¬ c ≤ 57 by omega), Bool.and_false]
            · rw [decide_eq_false d1, Bool.false_and])
          clear hst hll hcl HO hd
          go_wp2_with (go_at_call 59; refine (dig9_calls c _ hc256).mono ?_; rintro e w' ⟨rfl, rfl⟩; rw [unhide HB])
          go_ret
          exact ⟨by rw [unhide HX]; rfl, rfl⟩
      · obtain rfl : k = s.size := by omega
        have hst := unhide HO
        rw [List.drop_of_length_le (by rw [len_data]; exact Nat.le_refl _), digF] at hst
        by_cases h50 : 50 < N
        · have HX := hide (show R = -1 from by rw [unhide HRD, ← hst, numO]; rw [if_pos h50])
          clear hst HO
          go_wp2_with fail
          go_ret
          exact ⟨by rw [unhide HX]; rfl, rfl⟩
        · have HX := hide (show R = N from by rw [unhide HRD, ← hst, numO]; rw [if_neg h50])
          clear hst HO
          go_wp2_with fail
          go_ret
          exact ⟨by rw [unhide HX]; rfl, rfl⟩
  · clear a3
    go_enter Tryz.func40, Tryz.ntmps40
    go_wp2_with fail
    go_loopw [5, 6] (fun s5 s6 wr => ∃ (k : Nat) (N : Int), s5 = .int .i64 N ∧ s6 = .int .i64 k ∧ k ≤ s.size ∧ 0 ≤ N ∧ Hid (N < ((10 ^ k : Nat) : Int)) ∧ Hid (digF (s.data.toList.drop k) N = D) ∧ wr = w0) (fun _ s6 _ => s.size - (intOf s6).toNat)
    case atStart => exact ⟨0, 0, rfl, rfl, by omega, by omega, hide (by decide), hide (by rw [List.drop_zero]; exact unhide HD), rfl⟩
    case round =>
      obtain ⟨k, N, rfl, rfl, hk, hN0, HN, HO, rfl⟩ := hrel
      by_cases hlt : k < s.size
      · obtain ⟨c, hc⟩ : ∃ c, s[k].toNat = c := ⟨_, rfl⟩
        have hc256 : c < 256 := by rw [← hc]; exact s[k].toNat_lt
        have hll : k < s.data.toList.length := by rw [len_data]; exact hlt
        have hcl : (s.data.toList[k]).toNat = c := hc
        have hst := unhide HO
        rw [List.drop_eq_getElem_cons hll, digF, hcl] at hst
        have hN15 : N < 1000000000000000 := by
          have h1 : (10 ^ k : Nat) ≤ 10 ^ 15 := Nat.pow_le_pow_right (by decide) (by omega)
          have h2 := unhide HN
          have h3 : (10 ^ 15 : Nat) = 1000000000000000 := by decide
          omega
        by_cases hd : 48 ≤ c ∧ c ≤ 57
        · rw [if_pos hd] at hst
          obtain ⟨d1, d2⟩ := hd
          have HS := hide hst
          have HB := hide (show (decide (48 ≤ c) && decide (c ≤ 57)) = true from by simp [d1, d2])
          have HP := hide (show N * 10 + ((c - 48 : Nat) : Int) < ((10 ^ (k + 1) : Nat) : Int) from by
            have h2 := unhide HN
            have h3 : (10 ^ (k + 1) : Nat) = 10 ^ k * 10 := Nat.pow_succ 10 k
            rw [h3]
            generalize (10 ^ k : Nat) = P at h2
            omega)
          clear hst hll hcl HO
          go_wp2_with (go_at_call 59; refine (dig9_calls c _ hc256).mono ?_; rintro e w' ⟨rfl, rfl⟩; rw [unhide HB])
          go_roundw
          case rel => exact ⟨k + 1, N * 10 + ((c - 48 : Nat) : Int), by go_num, by go_num, by omega, by omega, HP, HS, trivial⟩
          case measure => simp [intOf]; omega
        · rw [if_neg hd] at hst
          have HX := hide (show R = -1 from by rw [unhide HRD, ← hst]; rfl)
          have HB := hide (show (decide (48 ≤ c) && decide (c ≤ 57)) = false from by
            by_cases d1 : 48 ≤ c
            · rw [decide_eq_false (show ¬ c ≤ 57 by omega), Bool.and_false]
            · rw [decide_eq_false d1, Bool.false_and])
          clear hst hll hcl HO hd
          go_wp2_with (go_at_call 59; refine (dig9_calls c _ hc256).mono ?_; rintro e w' ⟨rfl, rfl⟩; rw [unhide HB])
          go_ret
          exact ⟨by rw [unhide HX]; rfl, rfl⟩
      · obtain rfl : k = s.size := by omega
        have hst := unhide HO
        rw [List.drop_of_length_le (by rw [len_data]; exact Nat.le_refl _), digF] at hst
        by_cases h50 : 50 < N
        · have HX := hide (show R = -1 from by rw [unhide HRD, ← hst, numO]; rw [if_pos h50])
          clear hst HO
          go_wp2_with fail
          go_ret
          exact ⟨by rw [unhide HX]; rfl, rfl⟩
        · have HX := hide (show R = N from by rw [unhide HRD, ← hst, numO]; rw [if_neg h50])
          clear hst HO
          go_wp2_with fail
          go_ret
          exact ⟨by rw [unhide HX]; rfl, rfl⟩
end Go.Proofs.YtmokpgmehaakgaaGreatDoor


/- Members read out of texts, as the program reads them: the mathematics. -/
namespace Go.Proofs.YtmokpgmehaakgaaGreatDoor.Plain
open Go
set_option linter.unusedVariables false

def prsI (x : List UInt8) : Option Int := match Lib.parseIntB 64 x with
  | .ok v => some v
  | _ => none
theorem prsI_ok {x : List UInt8} {v : Int} (h : Lib.parseIntB 64 x = .ok v) : prsI x = some v := by unfold prsI; rw [h]
theorem prsI_no {x : List UInt8} (h : ∀ v, Lib.parseIntB 64 x ≠ .ok v) : prsI x = none := by
  unfold prsI
  cases hp : Lib.parseIntB 64 x with
  | ok v => exact absurd hp (h v)
  | «syntax» => rfl
  | range => rfl
/-- What is read of words: every word l turns to the learners; a word that is no number ends it. -/
def rdP : List (List UInt8) → Bool → List Int → List Int → Option (List Int × List Int)
  | [], _, v, l => some (v, l)
  | x :: r, d, v, l => if x = [108] then rdP r true v l else match prsI x with
    | none => none
    | some n => if d = true then rdP r d v (l ++ [n]) else rdP r d (v ++ [n]) l
theorem rdP_l (ls : List Int) : (∀ a ∈ ls, 1 ≤ a ∧ a ≤ 50) → ∀ v l, rdP (ls.map (fun n => Lib.decDigits n.toNat)) true v l = some (v, l ++ ls) := by
  induction ls with
  | nil => intro _ v l; simp [rdP]
  | cons a ls ih =>
    intro h v l
    have ha := h a (by simp)
    rw [List.map_cons, rdP, if_neg (dec_not a ha.1 ha.2), prsI_ok (parse_dec a ha.1 ha.2)]
    show (if true = true then _ else _) = _
    rw [if_pos rfl, ih (fun b hb => h b (by simp [hb]))]
    simp
theorem rdP_v (r : List (List UInt8)) (ls : List Int) : (∀ a ∈ ls, 1 ≤ a ∧ a ≤ 50) → ∀ v l, rdP (ls.map (fun n => Lib.decDigits n.toNat) ++ r) false v l = rdP r false (v ++ ls) l := by
  induction ls with
  | nil => intro _ v l; simp
  | cons a ls ih =>
    intro h v l
    have ha := h a (by simp)
    rw [List.map_cons, List.cons_append, rdP, if_neg (dec_not a ha.1 ha.2), prsI_ok (parse_dec a ha.1 ha.2)]
    show (if false = true then _ else _) = _
    rw [if_neg (by decide), ih (fun b hb => h b (by simp [hb]))]
    simp
theorem rdP_conf (v l : List Int) (h : confB v l = true) : rdP ((splt 32 (confL v l)).drop 1) false [] [] = some (v, l) := by
  obtain ⟨h1, h2, -⟩ := confB_l h
  rw [splt_conf v l h, List.drop_succ_cons, List.drop_zero, rdP_v _ v h1]
  by_cases hl : l.length = 0
  · rw [if_pos hl, List.length_eq_zero_iff.1 hl]
    simp [rdP]
  · rw [if_neg hl, rdP, if_pos rfl, rdP_l l h2]
    simp
theorem confL_ne {v l : List Int} (h : confB v l = true) : confL v l ≠ [] := by
  intro q
  have := splt_conf v l h
  rw [q] at this
  simp [splt] at this
/-- What ReadConf of the program answers, by the bytes. -/
def rdQ (t : List UInt8) : List Int × List Int × Bool := match rdP ((splt 32 t).drop 1) false [] [] with
  | none => ([], [], false)
  | some (v, l) => if confB v l = true ∧ confL v l = t then (v, l, true) else ([], [], false)
theorem rdQ_none {t : List UInt8} (h : rdP ((splt 32 t).drop 1) false [] [] = none) : rdQ t = ([], [], false) := by unfold rdQ; rw [h]
theorem rdQ_some {t : List UInt8} {v l : List Int} (h : rdP ((splt 32 t).drop 1) false [] [] = some (v, l)) : rdQ t = if confB v l = true ∧ confL v l = t then (v, l, true) else ([], [], false) := by unfold rdQ; rw [h]
theorem rdQ_rdC (t : List UInt8) : rdQ t = rdC numF t := by
  by_cases h : ∃ v l, confB v l = true ∧ confL v l = t
  · obtain ⟨v, l, hc, rfl⟩ := h
    rw [rdQ_some (rdP_conf v l hc), if_pos ⟨hc, rfl⟩]
    unfold rdC
    rw [rdW_conf numF numF_dec v l hc, if_pos ⟨rfl, confL_ne hc⟩]
  · have e1 : rdQ t = ([], [], false) := by
      cases hp : rdP ((splt 32 t).drop 1) false [] [] with
      | none => exact rdQ_none hp
      | some y =>
        obtain ⟨v, l⟩ := y
        rw [rdQ_some hp, if_neg (fun q => h ⟨v, l, q⟩)]
    rw [e1]
    unfold rdC
    rw [if_neg]
    rintro ⟨q1, q2⟩
    exact h ⟨_, _, confL_ok q1 q2, q1⟩
end Go.Proofs.YtmokpgmehaakgaaGreatDoor.Plain

