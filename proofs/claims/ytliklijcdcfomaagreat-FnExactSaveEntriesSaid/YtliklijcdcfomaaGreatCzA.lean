/- Texts of one kind, put together. -/
import Derived.Test.YtliklijcdcfomaaGreatPlain
import Derived.Test.YtliklijcdcfomaaGreatMem
import Derived.Test.YtliklijcdcfomaaGreatAzC
import Derived.Test.YtliklijcdcfomaaGreatAzA
import Derived.Laws.StructEq

/- More plain facts on numbers and texts in bytes. -/
namespace Go.Proofs.YtliklijcdcfomaaGreat.Plain
open Go Go.RowKit
set_option linter.unusedVariables false

theorem putL_length (f m : Nat) : (putL f m).length ≤ f + 1 := by
  induction f generalizing m with
  | zero => simp [putL]
  | succ f ih =>
    unfold putL
    split
    · simp
    · have := ih (m / 128); simp; omega

theorem putS_size (n : Int) : (putS n).size ≤ 6 := by
  unfold putS
  split
  · rw [strOfNums_size]; exact putL_length 5 _
  · simp

end Go.Proofs.YtliklijcdcfomaaGreat.Plain


/- The program's cursor: what take, rest and number of it answer and where they leave it. -/
namespace Go.Proofs.YtliklijcdcfomaaGreat
open Go.RowKit Plain
set_option linter.unusedVariables false

theorem take_short (b off : Nat) (s : ByteArray) (p : Nat) (n : Int) (w : World) (hc0 : w.cell? ⟨b, off, none⟩ = some (.string s)) (hc1 : w.cell? ⟨b, off + 1, none⟩ = some (.int .i64 p))
    (hs : s.size ≤ 1000000000000) (hp : p ≤ s.size) (hn0 : 0 ≤ n) (hn : (s.size : Int) - p < n) :
    Calls Tryz.prog 123 #[.pointer (some ⟨b, off, none⟩), .int .i64 n] w fun e w' => e = .returned (.tuple #[.string ByteArray.empty, .bool false]) ∧ ∃ k, w' = w.drewN k := by
  go_enter Tryz.func123, Tryz.ntmps123
  go_wp2
  go_region
  all_goals (try go_wp2)
  all_goals go_ret2
  all_goals exact ⟨rfl, 1, rfl⟩

theorem take_ok (b off : Nat) (s : ByteArray) (p : Nat) (n : Int) (w : World) (hc0 : w.cell? ⟨b, off, none⟩ = some (.string s)) (hc1 : w.cell? ⟨b, off + 1, none⟩ = some (.int .i64 p))
    (hf : w.frozen? ⟨b, off + 1, none⟩ = false)
    (hs : s.size ≤ 1000000000000) (hp : p ≤ s.size) (hn0 : 0 ≤ n) (hn : n ≤ (s.size : Int) - p) :
    Calls Tryz.prog 123 #[.pointer (some ⟨b, off, none⟩), .int .i64 n] w fun e w' => e = .returned (.tuple #[.string (s.extract p (p + n.toNat)), .bool true]) ∧ OnlyAt ⟨b, off + 1, none⟩ w w' ∧ w'.cell? ⟨b, off + 1, none⟩ = some (.int .i64 (p + n)) := by
  obtain ⟨m, rfl⟩ := Int.eq_ofNat_of_zero_le hn0
  rw [Int.toNat_natCast]
  go_enter Tryz.func123, Tryz.ntmps123
  go_wp2
  go_region
  all_goals (try go_wp2)
  all_goals go_region
  all_goals (try go_wp2)
  all_goals go_ret2
  all_goals exact ⟨rfl, (OnlyAt.setCell _ _ _).drewN 2, World.cell?_setCell_same _ _ _ hc1⟩

theorem rest_ok (b off : Nat) (s : ByteArray) (p : Nat) (w : World) (hc0 : w.cell? ⟨b, off, none⟩ = some (.string s)) (hc1 : w.cell? ⟨b, off + 1, none⟩ = some (.int .i64 p))
    (hs : s.size ≤ 1000000000000) (hp : p ≤ s.size) :
    Calls Tryz.prog 106 #[.pointer (some ⟨b, off, none⟩)] w fun e w' => e = .returned (.string (s.extract p s.size)) ∧ ∃ k, w' = w.drewN k := by
  go_enter Tryz.func106, Tryz.ntmps106
  go_wp2
  go_region
  all_goals (try go_wp2)
  all_goals go_ret
  all_goals exact ⟨rfl, 1, rfl⟩

/-- What the reader's number answers, and where its cursor stands behind it. -/
def numV (r : Option (Nat × Nat)) : Value := match r with
  | none => .tuple #[.int .i64 0, .bool false]
  | some (v, l) => .tuple #[.int .i64 v, .bool true]
def numAt (p : Nat) (r : Option (Nat × Nat)) : Nat := match r with
  | none => p
  | some (v, l) => p + l

set_option maxRecDepth 100000 in
set_option maxHeartbeats 1000000 in
theorem number_ok (b off : Nat) (s : ByteArray) (p : Nat) (w : World) (hc0 : w.cell? ⟨b, off, none⟩ = some (.string s)) (hc1 : w.cell? ⟨b, off + 1, none⟩ = some (.int .i64 p))
    (hf : w.frozen? ⟨b, off + 1, none⟩ = false) (hs : s.size ≤ 1000000000000) (hp : p ≤ s.size) :
    Calls Tryz.prog 105 #[.pointer (some ⟨b, off, none⟩)] w fun e w' => e = .returned (numV (tkN s p)) ∧ OnlyAt ⟨b, off + 1, none⟩ w w' ∧ w'.cell? ⟨b, off + 1, none⟩ = some (.int .i64 (numAt p (tkN s p))) := by
  have hbl := lt_of_cell hc0
  go_enter Tryz.func105, Tryz.ntmps105
  go_wp2
  go_loopw [5, 6] (fun n i wr => ∃ (k N : Nat), i = .int .i64 ((7 * k : Nat) : Int) ∧ k ≤ 6 ∧ p + k ≤ s.size ∧ n = .int .i64 N ∧ N < 128 ^ k ∧ Hid (tkGo s p (6 - k) k N = tkN s p) ∧
      OnlyAt ⟨b, off + 1, none⟩ w wr ∧ wr.cell? ⟨b, off + 1, none⟩ = some (.int .i64 ((p + k : Nat) : Int)))
    (fun _ i _ => 42 - (intOf i).toNat)
  case atStart => exact ⟨0, 0, rfl, by omega, by omega, rfl, by omega, rfl, OnlyAt.refl _ _, hc1⟩
  case round =>
    obtain ⟨k, N, rfl, hk6, hks, rfl, hN, hrel, honly, hcp⟩ := hrel
    have hc0r : wr.cell? ⟨b, off, none⟩ = some (.string s) := (honly.cell ⟨b, off, none⟩ hbl (by simp)).trans hc0
    have hfr : wr.frozen? ⟨b, off + 1, none⟩ = false := (honly.frozen ⟨b, off + 1, none⟩ hbl).trans hf
    have hbr : b < wr.heap.size := Nat.lt_of_lt_of_le hbl honly.size
    by_cases h6 : k < 6
    · by_cases hlt : p + k < s.size
      · obtain ⟨c, hc⟩ : ∃ c, s[p + k].toNat = c := ⟨_, rfl⟩
        have hc256 : c < 256 := by rw [← hc]; exact s[p + k].toNat_lt
        have hM0 : 128 ^ k ≤ 34359738368 := Nat.le_trans (Nat.pow_le_pow_right (by decide) (show k ≤ 5 by omega)) (by decide)
        obtain ⟨M, hM⟩ : ∃ M, 128 ^ k = M := ⟨_, rfl⟩
        rw [hM] at hN hM0
        have HM := hide hM
        clear hM
        obtain ⟨P, hP⟩ : ∃ P, c % 128 * M = P := ⟨_, rfl⟩
        have hP0 : P ≤ 4398046511104 := by rw [← hP]; exact Nat.le_trans (Nat.mul_le_mul (show c % 128 ≤ 128 by omega) hM0) (by decide)
        have HP := hide hP
        clear hP
        obtain ⟨f, hf'⟩ : ∃ f, 6 - k = f + 1 := ⟨5 - k, by omega⟩
        have hrel' : tkGo s p (f + 1) k N = tkN s p := by rw [← hf']; exact unhide hrel
        have R := hide (tk_round rfl hlt hc (unhide HM) (unhide HP) hrel')
        have HF := hide hf'
        clear hf' hrel hrel'
        obtain ⟨t, ht, hz, ht1, htc⟩ := extract_name s (p + k) c hlt hc
        have HT := hide ht
        clear ht hc
        obtain ⟨hsh, hor⟩ := shift_rules (unhide HM) (unhide HP) hN hM0 hP0
        have hnx := hide (pow_next (unhide HM) (unhide HP) hN)
        obtain ⟨Q, hQ⟩ : ∃ Q, N + P = Q := ⟨_, rfl⟩
        rw [hQ] at hor R hnx
        have hQ0 := q_bound hQ hN hM0 hP0
        clear hQ
        go_wp2_with fail
        refine (take_ok b off s (p + k) 1 _ hc0r hcp hfr hs (by omega) (by omega) (by omega)).mono ?_
        rintro e w1 ⟨rfl, ho, hcell1⟩
        rw [show (p + k + (1 : Int).toNat) = p + k + 1 from rfl, unhide HT]
        have ho1 : OnlyAt ⟨b, off + 1, none⟩ w w1 := honly.trans ho
        have hf1 : w1.frozen? ⟨b, off + 1, none⟩ = false := (ho1.frozen ⟨b, off + 1, none⟩ hbl).trans hf
        clear ho hc0r hcp hfr
        by_cases h1 : c < 128
        · by_cases h2 : c = 0 ∧ 0 < k
          · have h2a : c ≤ 0 := by omega
            have h2b : 0 < k := h2.2
            have hn := (unhide R).2.1 h1 (.inl h2)
            have HN := hide hn
            clear hn R h2
            by_cases h3 : 1000000000000 < Q
            all_goals
              go_wp2
              go_ret2
              rw [unhide HN]
              exact ⟨rfl, ho1.trans (OnlyAt.setCell _ _ _), World.cell?_setCell_same _ _ _ hcell1⟩
          · by_cases h3 : 1000000000000 < Q
            · have hn := (unhide R).2.1 h1 (.inr h3)
              have HN := hide hn
              clear hn R h2
              go_wp2
              go_ret2
              rw [unhide HN]
              exact ⟨rfl, ho1.trans (OnlyAt.setCell _ _ _), World.cell?_setCell_same _ _ _ hcell1⟩
            · have hn := (unhide R).2.2 h1 (by omega)
              have HN := hide hn
              clear hn R
              by_cases hk0 : k ≤ 0
              · by_cases hcz : c ≤ 0
                all_goals
                  go_wp2
                  go_ret2
                  rw [unhide HN]
                  exact ⟨rfl, ho1, by rw [hcell1]; unfold numAt; go_num⟩
              · have hcz : 0 < c := by omega
                go_wp2
                go_ret2
                rw [unhide HN]
                exact ⟨rfl, ho1, by rw [hcell1]; unfold numAt; go_num⟩
        · go_wp2
          go_roundw
          case rel => exact ⟨k + 1, Q, by go_num, by omega, by omega, by go_num, unhide hnx, by rw [show 6 - (k + 1) = f from by have := unhide HF; omega]; exact (unhide R).1 h1, ho1, by rw [hcell1]; go_num⟩
          case measure => simp [intOf]; omega
      · have hn : tkN s p = none := by rw [← unhide hrel]; exact tkGo_end _ _ _ _ _ hlt
        have HN := hide hn
        clear hn hrel
        go_wp2_with fail
        refine (take_short b off s (p + k) 1 _ hc0r hcp hs (by omega) (by omega) (by omega)).mono ?_
        rintro e w1 ⟨rfl, kk, rfl⟩
        go_wp2
        go_ret2
        rw [unhide HN]
        exact ⟨rfl, (honly.drewN kk).trans (OnlyAt.setCell _ _ _), World.cell?_setCell_same _ _ _ hcp⟩
    · obtain rfl : k = 6 := by omega
      have hn : tkN s p = none := by rw [← unhide hrel]; rfl
      have HN := hide hn
      clear hn hrel hN
      go_wp2
      go_ret2
      rw [unhide HN]
      exact ⟨rfl, honly.trans (OnlyAt.setCell _ _ _), World.cell?_setCell_same _ _ _ hcp⟩
end Go.Proofs.YtliklijcdcfomaaGreat


/- TakeNumber of the specification by its contract. -/
namespace Go.Proofs.YtliklijcdcfomaaGreat
open Go.RowKit Plain
set_option linter.unusedVariables false

/-- What TakeNumber answers. -/
def takeV (s : ByteArray) : Value := match tkN s 0 with
  | none => .tuple #[.int .i64 0, .string ByteArray.empty, .bool false]
  | some (v, l) => .tuple #[.int .i64 v, .string (s.extract l s.size), .bool true]

theorem takeV_none {s : ByteArray} (h : tkN s 0 = none) : takeV s = .tuple #[.int .i64 0, .string ByteArray.empty, .bool false] := by unfold takeV; rw [h]
theorem takeV_some {s : ByteArray} {v l : Nat} (h : tkN s 0 = some (v, l)) : takeV s = .tuple #[.int .i64 v, .string (s.extract l s.size), .bool true] := by unfold takeV; rw [h]

set_option maxRecDepth 100000 in
set_option maxHeartbeats 4000000 in
theorem spec_TakeNumber (s : ByteArray) (w : World) (hs : s.size ≤ 1000000000000) :
    Calls Tryz.prog 64 #[.string s] w fun e w' => e = .returned (takeV s) ∧ ∃ k, w' = w.drewN k := by
  go_enter Tryz.func64, Tryz.ntmps64
  go_wp2
  go_loop [5, 6, 7] (fun n b i => ∃ (k N : Nat), i = .int .i64 k ∧ k ≤ 6 ∧ k ≤ s.size ∧ n = .int .i64 N ∧ N < 128 ^ k ∧ b = .int .i64 ((128 ^ k : Nat) : Int) ∧ Hid (tkGo s 0 (6 - k) k N = tkN s 0))
    (fun _ _ i => 6 - (intOf i).toNat)
  case atStart => exact ⟨0, 0, rfl, by omega, by omega, rfl, by omega, rfl, rfl⟩
  case round =>
    obtain ⟨k, N, rfl, hk6, hks, rfl, hN, rfl, hrel⟩ := hrel
    by_cases hlt : k < s.size
    · by_cases h6 : k < 6
      · obtain ⟨c, hc⟩ : ∃ c, s[k].toNat = c := ⟨_, rfl⟩
        have hc256 : c < 256 := by rw [← hc]; exact s[k].toNat_lt
        have hM0 : 128 ^ k ≤ 34359738368 := Nat.le_trans (Nat.pow_le_pow_right (by decide) (show k ≤ 5 by omega)) (by decide)
        obtain ⟨M, hM⟩ : ∃ M, 128 ^ k = M := ⟨_, rfl⟩
        have hMi : ((128 ^ k : Nat) : Int) = (M : Int) := by rw [hM]
        rw [hMi]
        rw [hM] at hN hM0
        have HM := hide hM
        clear hM hMi
        obtain ⟨P, hP⟩ : ∃ P, c % 128 * M = P := ⟨_, rfl⟩
        have hP0 : P ≤ 4398046511104 := by rw [← hP]; exact Nat.le_trans (Nat.mul_le_mul (show c % 128 ≤ 128 by omega) hM0) (by decide)
        have hPi : (c : Int) % 128 * (M : Int) = (P : Int) := by rw [← hP]; simp
        have HP := hide hP
        clear hP
        obtain ⟨f, hf⟩ : ∃ f, 6 - k = f + 1 := ⟨5 - k, by omega⟩
        have hrel' : tkGo s 0 (f + 1) k N = tkN s 0 := by rw [← hf]; exact unhide hrel
        have R := hide (tk_round (Nat.zero_add k) hlt hc (unhide HM) (unhide HP) hrel')
        have HF := hide hf
        clear hf hrel hrel'
        by_cases h1 : c < 128
        · by_cases h2 : c = 0 ∧ 0 < k
          · obtain ⟨h2a, h2b⟩ := h2
            go_wp2
            go_ret3
            exact ⟨by rw [takeV_none ((unhide R).2.1 h1 (.inl ⟨h2a, h2b⟩))]; rfl, 0, rfl⟩
          · by_cases h3 : 1000000000000 < N + P
            · have hn := (unhide R).2.1 h1 (.inr h3)
              have HN := hide hn
              clear hn
              go_wp2
              all_goals (go_ret3; exact ⟨by rw [takeV_none (unhide HN)]; rfl, 0, rfl⟩)
            · have hn := (unhide R).2.2 h1 (by omega)
              have HN := hide hn
              clear hn R
              rcases Nat.eq_zero_or_pos k with rfl | hkp
              · go_wp2
                all_goals go_region
                all_goals (try go_wp2)
                all_goals (go_ret3; exact ⟨by rw [takeV_some (unhide HN)]; rfl, 1, rfl⟩)
              · have h4 : ¬ c = 0 := by omega
                go_wp2
                all_goals go_region
                all_goals (try go_wp2)
                all_goals (go_ret3; exact ⟨by rw [takeV_some (unhide HN)]; rfl, 1, rfl⟩)
        · go_wp2
          go_round
          case rel => exact ⟨k + 1, N + P, by go_num, by omega, by omega, by go_num, pow_next (unhide HM) (unhide HP) hN, by rw [Nat.pow_succ, unhide HM]; go_num, by rw [show 6 - (k + 1) = f from by have := unhide HF; omega]; exact (unhide R).1 h1⟩
          case measure => simp [intOf]; omega
      · have hr := unhide hrel
        obtain rfl : k = 6 := by omega
        clear hrel
        go_wp2
        go_ret3
        exact ⟨by rw [takeV_none hr.symm]; rfl, 0, rfl⟩
    · have hr := unhide hrel
      rw [tkGo_end _ _ _ _ _ (by omega)] at hr
      clear hrel
      go_wp2
      go_ret3
      exact ⟨by rw [takeV_none hr.symm]; rfl, 0, rfl⟩
end Go.Proofs.YtliklijcdcfomaaGreat


/- Texts and numbers behind one another: TakeNumber, PutText, TakeText of both programs by their contracts. -/
namespace Go.Proofs.YtliklijcdcfomaaGreat
open Go.RowKit Plain
set_option linter.unusedVariables false

theorem numV_none {r : Option (Nat × Nat)} (h : r = none) : numV r = .tuple #[.int .i64 0, .bool false] := by subst h; rfl
theorem numV_some {r : Option (Nat × Nat)} {v l : Nat} (h : r = some (v, l)) : numV r = .tuple #[.int .i64 v, .bool true] := by subst h; rfl



theorem impl_PutText (s : ByteArray) (w : World) (hs : s.size ≤ 1000000000000) :
    Calls Tryz.prog 115 #[.string s] w fun e w' => e = .returned (.string (putT s)) ∧ Below w.heap.size w w' := by
  unfold putT
  by_cases h : s.size ≤ 20000
  · rw [if_pos h]
    have hu := putS_size (s.size : Int)
    go_enter Tryz.func115, Tryz.ntmps115
    go_wp2_with fail
    refine (impl_PutNumber _ _).mono ?_
    rintro e w1 ⟨rfl, hb⟩
    go_wp2
    go_ret
    exact ⟨rfl, hb⟩
  · rw [if_neg h]
    go_enter Tryz.func115, Tryz.ntmps115
    go_wp2
    go_ret
    exact ⟨rfl, Below.refl _ _⟩

theorem spec_PutText (s : ByteArray) (w : World) (hs : s.size ≤ 1000000000000) :
    Calls Tryz.prog 88 #[.string s] w fun e w' => e = .returned (.string (putT s)) ∧ Below w.heap.size w w' := by
  unfold putT
  by_cases h : s.size ≤ 20000
  · rw [if_pos h]
    have hu := putS_size (s.size : Int)
    go_enter Tryz.func88, Tryz.ntmps88
    go_wp2_with fail
    refine (spec_PutNumber _ _).mono ?_
    rintro e w1 ⟨rfl, hb⟩
    go_wp2
    go_ret
    exact ⟨rfl, hb⟩
  · rw [if_neg h]
    go_enter Tryz.func88, Tryz.ntmps88
    go_wp2
    go_ret
    exact ⟨rfl, Below.refl _ _⟩

/-- What the reader's field answers, and where its cursor stands behind it. -/
def fldV (s : ByteArray) (p : Nat) (r : Option (Nat × Nat)) : Value := match r with
  | none => .tuple #[.string ByteArray.empty, .bool false]
  | some (l, v) => .tuple #[.string (s.extract (p + l) (p + l + v)), .bool true]
def fldAt (p : Nat) (r : Option (Nat × Nat)) : Nat := match r with
  | none => p
  | some (l, v) => p + l + v

set_option maxHeartbeats 1000000 in
theorem field_ok (b off : Nat) (s : ByteArray) (p : Nat) (w : World) (hc0 : w.cell? ⟨b, off, none⟩ = some (.string s)) (hc1 : w.cell? ⟨b, off + 1, none⟩ = some (.int .i64 p))
    (hf : w.frozen? ⟨b, off + 1, none⟩ = false) (hs : s.size ≤ 1000000000000) (hp : p ≤ s.size) :
    Calls Tryz.prog 125 #[.pointer (some ⟨b, off, none⟩)] w fun e w' => e = .returned (fldV s p (tkT s p)) ∧ OnlyAt ⟨b, off + 1, none⟩ w w' ∧ w'.cell? ⟨b, off + 1, none⟩ = some (.int .i64 (fldAt p (tkT s p))) := by
  have hbl := lt_of_cell hc0
  cases hr : tkN s p with
  | none =>
    rw [tkT_none hr]
    have HN := hide hr
    clear hr
    go_enter Tryz.func125, Tryz.ntmps125
    go_wp2_with fail
    refine (number_ok b off s p _ hc0 hc1 hf hs hp).mono ?_
    rintro e w1 ⟨rfl, ho, hc⟩
    rw [numV_none (unhide HN)]
    have hf1 : w1.frozen? ⟨b, off + 1, none⟩ = false := (ho.frozen ⟨b, off + 1, none⟩ hbl).trans hf
    go_wp2
    go_ret2
    exact ⟨rfl, ho.trans (OnlyAt.setCell _ _ _), World.cell?_setCell_same _ _ _ hc⟩
  | some vl =>
    obtain ⟨v, l⟩ := vl
    have hle := tkN_le hr
    by_cases hv : v ≤ 20000
    · by_cases hfit : p + l + v ≤ s.size
      · rw [tkT_some hr hv hfit]
        have HN := hide hr
        clear hr
        go_enter Tryz.func125, Tryz.ntmps125
        go_wp2_with fail
        refine (number_ok b off s p _ hc0 hc1 hf hs hp).mono ?_
        rintro e w1 ⟨rfl, ho, hc⟩
        rw [numV_some (unhide HN)]
        have hf1 : w1.frozen? ⟨b, off + 1, none⟩ = false := (ho.frozen ⟨b, off + 1, none⟩ hbl).trans hf
        have hc1' : w1.cell? ⟨b, off + 1, none⟩ = some (.int .i64 ((p + l : Nat) : Int)) := by rw [hc, unhide HN]; rfl
        have hc0' : w1.cell? ⟨b, off, none⟩ = some (.string s) := (ho.cell ⟨b, off, none⟩ hbl (by simp)).trans hc0
        clear hc
        go_wp2_with fail
        refine (take_ok b off s (p + l) v _ hc0' hc1' hf1 hs (by omega) (by omega) (by omega)).mono ?_
        rintro e w2 ⟨rfl, ho2, hc2⟩
        rw [Int.toNat_natCast]
        go_wp2
        go_ret2
        exact ⟨rfl, ho.trans ho2, by rw [hc2]; unfold fldAt; go_num⟩
      · rw [tkT_not hr (by omega)]
        have HN := hide hr
        clear hr
        go_enter Tryz.func125, Tryz.ntmps125
        go_wp2_with fail
        refine (number_ok b off s p _ hc0 hc1 hf hs hp).mono ?_
        rintro e w1 ⟨rfl, ho, hc⟩
        rw [numV_some (unhide HN)]
        have hf1 : w1.frozen? ⟨b, off + 1, none⟩ = false := (ho.frozen ⟨b, off + 1, none⟩ hbl).trans hf
        have hc1' : w1.cell? ⟨b, off + 1, none⟩ = some (.int .i64 ((p + l : Nat) : Int)) := by rw [hc, unhide HN]; rfl
        have hc0' : w1.cell? ⟨b, off, none⟩ = some (.string s) := (ho.cell ⟨b, off, none⟩ hbl (by simp)).trans hc0
        clear hc
        go_wp2_with fail
        refine (take_short b off s (p + l) v _ hc0' hc1' hs (by omega) (by omega) (by omega)).mono ?_
        rintro e w2 ⟨rfl, kk, rfl⟩
        go_wp2
        go_ret2
        exact ⟨rfl, (ho.drewN kk).trans (OnlyAt.setCell _ _ _), World.cell?_setCell_same _ _ _ hc1'⟩
    · rw [tkT_not hr (by omega)]
      have HN := hide hr
      clear hr
      go_enter Tryz.func125, Tryz.ntmps125
      go_wp2_with fail
      refine (number_ok b off s p _ hc0 hc1 hf hs hp).mono ?_
      rintro e w1 ⟨rfl, ho, hc⟩
      rw [numV_some (unhide HN)]
      have hf1 : w1.frozen? ⟨b, off + 1, none⟩ = false := (ho.frozen ⟨b, off + 1, none⟩ hbl).trans hf
      go_wp2
      go_ret2
      exact ⟨rfl, ho.trans (OnlyAt.setCell _ _ _), World.cell?_setCell_same _ _ _ hc⟩

/-- What TakeText answers. -/
def textV (s : ByteArray) : Value := match tkT s 0 with
  | none => .tuple #[.string ByteArray.empty, .string ByteArray.empty, .bool false]
  | some (l, v) => .tuple #[.string (s.extract l (l + v)), .string (s.extract (l + v) s.size), .bool true]
theorem textV_none {s : ByteArray} (h : tkT s 0 = none) : textV s = .tuple #[.string ByteArray.empty, .string ByteArray.empty, .bool false] := by unfold textV; rw [h]
theorem textV_some {s : ByteArray} {l v : Nat} (h : tkT s 0 = some (l, v)) : textV s = .tuple #[.string (s.extract l (l + v)), .string (s.extract (l + v) s.size), .bool true] := by unfold textV; rw [h]

set_option maxHeartbeats 1000000 in
theorem spec_TakeText (s : ByteArray) (w : World) (hs : s.size ≤ 1000000000000) :
    Calls Tryz.prog 117 #[.string s] w fun e w' => e = .returned (textV s) ∧ Below w.heap.size w w' := by
  cases hr : tkN s 0 with
  | none =>
    rw [textV_none (tkT_none hr)]
    have HN := hide hr
    clear hr
    go_enter Tryz.func117, Tryz.ntmps117
    go_wp2_with fail
    refine (spec_TakeNumber s _ hs).mono ?_
    rintro e w1 ⟨rfl, kk, rfl⟩
    rw [takeV_none (unhide HN)]
    go_wp2
    go_ret3
    exact ⟨rfl, below_drewN (Below.refl _ _) _⟩
  | some vl =>
    obtain ⟨v, l⟩ := vl
    have hle := tkN_le hr
    have hsz : (s.extract l s.size).size = s.size - l := by rw [ByteArray.size_extract]; omega
    by_cases hfit : v ≤ 20000 ∧ 0 + l + v ≤ s.size
    · rw [textV_some (tkT_some hr hfit.1 hfit.2)]
      have hv := hfit.1
      have hv2 : l + v ≤ s.size := by omega
      have e1 := hide (ext_front s l v hv2)
      have e2 := hide (ext_back s l v hv2)
      have HN := hide hr
      clear hr hfit
      go_enter Tryz.func117, Tryz.ntmps117
      go_wp2_with fail
      refine (spec_TakeNumber s _ hs).mono ?_
      rintro e w1 ⟨rfl, kk, rfl⟩
      rw [takeV_some (unhide HN)]
      go_wp2
      go_region
      all_goals (try go_wp2)
      all_goals go_ret3
      all_goals exact ⟨by rw [← unhide e1, ← unhide e2]; rfl, (below_drewN (Below.refl _ _) kk).drew⟩
    · rw [textV_none (tkT_not hr hfit)]
      have HN := hide hr
      clear hr
      go_enter Tryz.func117, Tryz.ntmps117
      go_wp2_with fail
      refine (spec_TakeNumber s _ hs).mono ?_
      rintro e w1 ⟨rfl, kk, rfl⟩
      rw [takeV_some (unhide HN)]
      by_cases hv : v ≤ 20000
      all_goals
        go_wp2
        go_ret3
        exact ⟨rfl, below_drewN (Below.refl _ _) _⟩



end Go.Proofs.YtliklijcdcfomaaGreat


/- Commands that are formed, as plain mathematics; how two of them are compared. -/
namespace Go.Proofs.YtliklijcdcfomaaGreat
open Go.RowKit Plain
set_option linter.unusedVariables false

namespace Plain
def numC (n : Int) : Bool := decide (0 ≤ n) && decide (n ≤ 1000000000000)
def nilB (s : ByteArray) : Bool := decide (s.toList = [])
def manK (t : ByteArray) : Bool := decide ((rmV (cutB 10 t)).2.2 = 0)
/-- What the fields of an op must be. -/
def fldB (op : Int) (rp tg dg tx : ByteArray) : Bool :=
  if op = 1 ∨ op = 7 then ((nilB rp && nilB tg) && nilB tx) && digB dg
  else if op = 2 then ((nilB rp && nilB tg) && nilB dg) && manK tx
  else if op = 3 then nilB tx && ((repoB rp && tagB tg) && digB dg)
  else if op = 4 then (nilB tx && nilB dg) && (repoB rp && tagB tg)
  else if op = 5 ∨ op = 6 then ((nilB rp && nilB tg) && nilB tx) && nilB dg
  else false
def fmB (ss sr op : Int) (rp tg dg tx : ByteArray) : Bool := (numC ss && numC sr) && fldB op rp tg dg tx
def eqT (a b : ByteArray) : Bool := a.toList == b.toList
theorem eqT_self (a : ByteArray) : eqT a a = true := by unfold eqT; simp
theorem eqT_nil (a : ByteArray) : eqT a ⟨#[]⟩ = nilB a := by unfold eqT nilB; rw [ByteArray.toList_eq ⟨#[]⟩]; rw [Bool.eq_iff_iff]; simp
def eqC (rp tg dg tx rp' tg' dg' tx' : ByteArray) : Bool := eqT rp rp' && (eqT tg tg' && (eqT dg dg' && eqT tx tx'))
end Plain

end Go.Proofs.YtliklijcdcfomaaGreat

/- What is read of a command's bytes, as plain mathematics. -/
namespace Go.Proofs.YtliklijcdcfomaaGreat
open Go.RowKit Plain
set_option linter.unusedVariables false

namespace Plain
theorem tkGo_shift (s : ByteArray) (p : Nat) (hp : p ≤ s.size) : ∀ f i n, tkGo (s.extract p s.size) 0 f i n = tkGo s p f i n := by
  intro f
  induction f with
  | zero => intro i n; rfl
  | succ f ih =>
    intro i n
    have hz : (s.extract p s.size).size = s.size - p := by rw [ByteArray.size_extract]; omega
    by_cases h : p + i < s.size
    · have h0 : 0 + i < (s.extract p s.size).size := by omega
      have he : (s.extract p s.size)[0 + i].toNat = s[p + i].toNat := by
        rw [ByteArray.getElem_extract]
        simp
      by_cases hc : s[p + i].toNat < 128
      · by_cases hb : (s[p + i].toNat = 0 ∧ 0 < i) ∨ 1000000000000 < n + s[p + i].toNat % 128 * 128 ^ i
        · rw [tkGo_bad _ _ _ _ _ h hc hb, tkGo_bad _ _ _ _ _ h0 (by rw [he]; exact hc) (by rw [he]; exact hb)]
        · rw [tkGo_good _ _ _ _ _ h hc hb, tkGo_good _ _ _ _ _ h0 (by rw [he]; exact hc) (by rw [he]; exact hb), he]
      · rw [tkGo_more _ _ _ _ _ h hc, tkGo_more _ _ _ _ _ h0 (by rw [he]; exact hc), he, ih]
    · rw [tkGo_end _ _ _ _ _ h, tkGo_end _ _ _ _ _ (by omega)]
theorem tkN_shift (s : ByteArray) (p : Nat) (hp : p ≤ s.size) : tkN (s.extract p s.size) 0 = tkN s p := tkGo_shift s p hp 6 0 0
theorem tkT_shift (s : ByteArray) (p : Nat) (hp : p ≤ s.size) : tkT (s.extract p s.size) 0 = tkT s p := by
  have hz : (s.extract p s.size).size = s.size - p := by rw [ByteArray.size_extract]; omega
  unfold tkT
  rw [tkN_shift s p hp, hz]
  cases h : tkN s p with
  | none => rfl
  | some x =>
    obtain ⟨v, l⟩ := x
    have := tkN_le h
    by_cases h2 : v ≤ 20000 ∧ p + l + v ≤ s.size
    · show (if _ then _ else _) = if _ then _ else _
      rw [if_pos h2, if_pos (by omega)]
    · show (if _ then _ else _) = if _ then _ else _
      rw [if_neg h2, if_neg (by omega)]
theorem tkT_le {s : ByteArray} {p l v : Nat} (h : tkT s p = some (l, v)) : p + l + v ≤ s.size ∧ v ≤ 20000 := by
  unfold tkT at h
  cases hn : tkN s p with
  | none => rw [hn] at h; simp at h
  | some x =>
    obtain ⟨v', l'⟩ := x
    rw [hn] at h
    simp at h
    omega

/-- The number at a place, and the place behind it; the same of a text. -/
def stp (s : ByteArray) (p : Nat) : Option (Int × Nat) := (tkN s p).map fun x => ((x.1 : Int), p + x.2)
def txp (s : ByteArray) (p : Nat) : Option (ByteArray × Nat) := (tkT s p).map fun x => (s.extract (p + x.1) (p + x.1 + x.2), p + x.1 + x.2)
/-- One thing more is read: the flag f' behind it, from the flag f ahead of it. -/
def MoR {α : Type} (o : Option (α × Nat)) (p' : Nat) (f f' : Bool) (v : α) : Prop := (f' = true ∧ (f = true ∨ o = none)) ∨ (f' = false ∧ f = false ∧ o = some (v, p'))
def stN {α : Type} (s : ByteArray) (S : Option (α × Nat)) : Option ((α × Int) × Nat) := S.bind fun x => (stp s x.2).map fun y => ((x.1, y.1), y.2)
def stT {α : Type} (s : ByteArray) (S : Option (α × Nat)) : Option ((α × ByteArray) × Nat) := S.bind fun x => (txp s x.2).map fun y => ((x.1, y.1), y.2)
/-- So much has been read: nothing when the flag is up. -/
def HasR {α : Type} (S : Option (α × Nat)) (f : Bool) (a : α) (p : Nat) : Prop := (f = true ∧ S = none) ∨ (f = false ∧ S = some (a, p))
theorem HasR.num {α : Type} {s : ByteArray} {S : Option (α × Nat)} {f f' : Bool} {a : α} {p p' : Nat} {v : Int} (h : HasR S f a p) (m : MoR (stp s p) p' f f' v) : HasR (stN s S) f' (a, v) p' := by
  unfold HasR stN at *
  rcases h with ⟨rfl, rfl⟩ | ⟨rfl, rfl⟩
  · rcases m with ⟨rfl, _⟩ | ⟨_, h, _⟩
    · exact .inl ⟨rfl, rfl⟩
    · cases h
  · rcases m with ⟨rfl, h | h⟩ | ⟨rfl, _, h⟩
    · cases h
    · exact .inl ⟨rfl, by simp [h]⟩
    · exact .inr ⟨rfl, by simp [h]⟩
theorem HasR.txt {α : Type} {s : ByteArray} {S : Option (α × Nat)} {f f' : Bool} {a : α} {p p' : Nat} {v : ByteArray} (h : HasR S f a p) (m : MoR (txp s p) p' f f' v) : HasR (stT s S) f' (a, v) p' := by
  unfold HasR stT at *
  rcases h with ⟨rfl, rfl⟩ | ⟨rfl, rfl⟩
  · rcases m with ⟨rfl, _⟩ | ⟨_, h, _⟩
    · exact .inl ⟨rfl, rfl⟩
    · cases h
  · rcases m with ⟨rfl, h | h⟩ | ⟨rfl, _, h⟩
    · cases h
    · exact .inl ⟨rfl, by simp [h]⟩
    · exact .inr ⟨rfl, by simp [h]⟩
theorem HasR.start : HasR (some ((), 0)) false () 0 := .inr ⟨rfl, rfl⟩
def rd3 (s : ByteArray) : Option ((((Unit × Int) × Int) × Int) × Nat) := stN s (stN s (stN s (some ((), 0))))
def rd7 (s : ByteArray) : Option ((((((((Unit × Int) × Int) × Int) × ByteArray) × ByteArray) × ByteArray) × ByteArray) × Nat) := stT s (stT s (stT s (stT s (rd3 s))))
def cmdA (a b c : Int) (r t d x : ByteArray) : Value := .agg #[.int .i64 a, .int .i64 b, .int .i64 c, .string r, .string t, .string d, .string x]
def cmdZ : Value := .tuple #[cmdA 0 0 0 ⟨#[]⟩ ⟨#[]⟩ ⟨#[]⟩ ⟨#[]⟩, .bool false]
/-- What ReadCmd answers: a, b, c, .. are what was read, where something was. -/
def cmdW (s : ByteArray) : Option ((((((((Unit × Int) × Int) × Int) × ByteArray) × ByteArray) × ByteArray) × ByteArray) × Nat) → Value
  | none => cmdZ
  | some (((((((((), a), b), c), r), t), d), x), p) => if p = s.size ∧ fmB a b c r t d x = true then .tuple #[cmdA a b c r t d x, .bool true] else cmdZ
def cmdV (s : ByteArray) : Value := cmdW s (rd7 s)
theorem cmdV_fail {s : ByteArray} {a b c : Int} {r t d x : ByteArray} {p : Nat} (h : HasR (rd7 s) true ((((((((), a), b), c), r), t), d), x) p) : cmdV s = cmdZ := by
  rcases h with ⟨_, h⟩ | ⟨h, _⟩
  · unfold cmdV; rw [h]; rfl
  · cases h
theorem cmdV_rest {s : ByteArray} {a b c : Int} {r t d x : ByteArray} {p : Nat} (h : HasR (rd7 s) false ((((((((), a), b), c), r), t), d), x) p) (hp : ¬ p = s.size) : cmdV s = cmdZ := by
  rcases h with ⟨h, _⟩ | ⟨_, h⟩
  · cases h
  · unfold cmdV cmdW; rw [h]; exact if_neg (fun k => hp k.1)
theorem cmdV_form {s : ByteArray} {a b c : Int} {r t d x : ByteArray} {p : Nat} (h : HasR (rd7 s) false ((((((((), a), b), c), r), t), d), x) p) (hp : fmB a b c r t d x = false) : cmdV s = cmdZ := by
  rcases h with ⟨h, _⟩ | ⟨_, h⟩
  · cases h
  · unfold cmdV cmdW; rw [h]; exact if_neg (fun k => by rw [hp] at k; cases k.2)
theorem cmdV_good {s : ByteArray} {a b c : Int} {r t d x : ByteArray} {p : Nat} (h : HasR (rd7 s) false ((((((((), a), b), c), r), t), d), x) p) (hp : p = s.size) (hf : fmB a b c r t d x = true) : cmdV s = .tuple #[cmdA a b c r t d x, .bool true] := by
  rcases h with ⟨h, _⟩ | ⟨_, h⟩
  · cases h
  · unfold cmdV cmdW; rw [h]; exact if_pos ⟨hp, hf⟩
/-- Texts that were read are short. -/
theorem txp_size {s : ByteArray} {p p' : Nat} {v : ByteArray} (h : txp s p = some (v, p')) : v.size ≤ 20000 := by
  unfold txp at h
  cases ht : tkT s p with
  | none => rw [ht] at h; simp at h
  | some x =>
    obtain ⟨l, n⟩ := x
    rw [ht] at h
    simp at h
    have := tkT_le ht
    rw [← h.1, ByteArray.size_extract]
    omega
theorem rest_nil (s : ByteArray) (p : Nat) (hp : p ≤ s.size) : (s.extract p s.size).toList = [] ↔ p = s.size := by
  rw [ByteArray.toList_eq]
  constructor
  · intro h
    have hz : (s.extract p s.size).size = s.size - p := by rw [ByteArray.size_extract]; omega
    have : (s.extract p s.size).data.toList.length = 0 := by rw [h]; rfl
    rw [Array.length_toList] at this
    have h2 : (s.extract p s.size).size = 0 := this
    omega
  · intro h
    subst h
    simp
end Plain
end Go.Proofs.YtliklijcdcfomaaGreat

