/- The program's cursor: what take, rest and number of it answer and where they leave it. -/
import Derived.Test.YtnkjdojpegmlcaaMem
namespace Go.Proofs.Ytnkjdojpegmlcaa
open Go.RowKit Plain
set_option linter.unusedVariables false

theorem take_short (b off : Nat) (s : ByteArray) (p : Nat) (n : Int) (w : World) (hc0 : w.cell? ⟨b, off, none⟩ = some (.string s)) (hc1 : w.cell? ⟨b, off + 1, none⟩ = some (.int .i64 p))
    (hs : s.size ≤ 1000000000000) (hp : p ≤ s.size) (hn0 : 0 ≤ n) (hn : (s.size : Int) - p < n) :
    Calls Try.prog 56 #[.pointer (some ⟨b, off, none⟩), .int .i64 n] w fun e w' => e = .returned (.tuple #[.string ByteArray.empty, .bool false]) ∧ ∃ k, w' = w.drewN k := by
  go_enter Try.func56, Try.ntmps56
  go_wp2
  go_region
  all_goals (try go_wp2)
  all_goals go_ret2
  all_goals exact ⟨rfl, 1, rfl⟩

theorem take_ok (b off : Nat) (s : ByteArray) (p : Nat) (n : Int) (w : World) (hc0 : w.cell? ⟨b, off, none⟩ = some (.string s)) (hc1 : w.cell? ⟨b, off + 1, none⟩ = some (.int .i64 p))
    (hf : w.frozen? ⟨b, off + 1, none⟩ = false)
    (hs : s.size ≤ 1000000000000) (hp : p ≤ s.size) (hn0 : 0 ≤ n) (hn : n ≤ (s.size : Int) - p) :
    Calls Try.prog 56 #[.pointer (some ⟨b, off, none⟩), .int .i64 n] w fun e w' => e = .returned (.tuple #[.string (s.extract p (p + n.toNat)), .bool true]) ∧ OnlyAt ⟨b, off + 1, none⟩ w w' ∧ w'.cell? ⟨b, off + 1, none⟩ = some (.int .i64 (p + n)) := by
  obtain ⟨m, rfl⟩ := Int.eq_ofNat_of_zero_le hn0
  rw [Int.toNat_natCast]
  go_enter Try.func56, Try.ntmps56
  go_wp2
  go_region
  all_goals (try go_wp2)
  all_goals go_region
  all_goals (try go_wp2)
  all_goals go_ret2
  all_goals exact ⟨rfl, (OnlyAt.setCell _ _ _).drewN 2, World.cell?_setCell_same _ _ _ hc1⟩

theorem rest_ok (b off : Nat) (s : ByteArray) (p : Nat) (w : World) (hc0 : w.cell? ⟨b, off, none⟩ = some (.string s)) (hc1 : w.cell? ⟨b, off + 1, none⟩ = some (.int .i64 p))
    (hs : s.size ≤ 1000000000000) (hp : p ≤ s.size) :
    Calls Try.prog 45 #[.pointer (some ⟨b, off, none⟩)] w fun e w' => e = .returned (.string (s.extract p s.size)) ∧ ∃ k, w' = w.drewN k := by
  go_enter Try.func45, Try.ntmps45
  go_wp2
  go_region
  all_goals (try go_wp2)
  all_goals go_ret
  all_goals exact ⟨rfl, 1, rfl⟩

/-- What the reader's number answers, and where its cursor stands behind it. -/
def numV (r : Option (Nat × Nat)) : Value := match r with
  | none => .tuple #[.int .i64 0, .bool false]
  | some (v, l) => .tuple #[.int .i64 v, .bool true]
def numAt (p : Nat) (r : Option (Nat × Nat)) : Nat := match r with
  | none => p
  | some (v, l) => p + l

set_option maxRecDepth 100000 in
set_option maxHeartbeats 1000000 in
theorem number_ok (b off : Nat) (s : ByteArray) (p : Nat) (w : World) (hc0 : w.cell? ⟨b, off, none⟩ = some (.string s)) (hc1 : w.cell? ⟨b, off + 1, none⟩ = some (.int .i64 p))
    (hf : w.frozen? ⟨b, off + 1, none⟩ = false) (hs : s.size ≤ 1000000000000) (hp : p ≤ s.size) :
    Calls Try.prog 43 #[.pointer (some ⟨b, off, none⟩)] w fun e w' => e = .returned (numV (tkN s p)) ∧ OnlyAt ⟨b, off + 1, none⟩ w w' ∧ w'.cell? ⟨b, off + 1, none⟩ = some (.int .i64 (numAt p (tkN s p))) := by
  have hbl := lt_of_cell hc0
  go_enter Try.func43, Try.ntmps43
  go_wp2
  go_loopw [5, 6] (fun n i wr => ∃ (k N : Nat), i = .int .i64 ((7 * k : Nat) : Int) ∧ k ≤ 6 ∧ p + k ≤ s.size ∧ n = .int .i64 N ∧ N < 128 ^ k ∧ Hid (tkGo s p (6 - k) k N = tkN s p) ∧
      OnlyAt ⟨b, off + 1, none⟩ w wr ∧ wr.cell? ⟨b, off + 1, none⟩ = some (.int .i64 ((p + k : Nat) : Int)))
    (fun _ i _ => 42 - (intOf i).toNat)
  case atStart => exact ⟨0, 0, rfl, by omega, by omega, rfl, by omega, rfl, OnlyAt.refl _ _, hc1⟩
  case round =>
    obtain ⟨k, N, rfl, hk6, hks, rfl, hN, hrel, honly, hcp⟩ := hrel
    have hc0r : wr.cell? ⟨b, off, none⟩ = some (.string s) := (honly.cell ⟨b, off, none⟩ hbl (by simp)).trans hc0
    have hfr : wr.frozen? ⟨b, off + 1, none⟩ = false := (honly.frozen ⟨b, off + 1, none⟩ hbl).trans hf
    have hbr : b < wr.heap.size := Nat.lt_of_lt_of_le hbl honly.size
    by_cases h6 : k < 6
    · by_cases hlt : p + k < s.size
      · obtain ⟨c, hc⟩ : ∃ c, s[p + k].toNat = c := ⟨_, rfl⟩
        have hc256 : c < 256 := by rw [← hc]; exact s[p + k].toNat_lt
        have hM0 : 128 ^ k ≤ 34359738368 := Nat.le_trans (Nat.pow_le_pow_right (by decide) (show k ≤ 5 by omega)) (by decide)
        obtain ⟨M, hM⟩ : ∃ M, 128 ^ k = M := ⟨_, rfl⟩
        rw [hM] at hN hM0
        have HM := hide hM
        clear hM
        obtain ⟨P, hP⟩ : ∃ P, c % 128 * M = P := ⟨_, rfl⟩
        have hP0 : P ≤ 4398046511104 := by rw [← hP]; exact Nat.le_trans (Nat.mul_le_mul (show c % 128 ≤ 128 by omega) hM0) (by decide)
        have HP := hide hP
        clear hP
        obtain ⟨f, hf'⟩ : ∃ f, 6 - k = f + 1 := ⟨5 - k, by omega⟩
        have hrel' : tkGo s p (f + 1) k N = tkN s p := by rw [← hf']; exact unhide hrel
        have R := hide (tk_round rfl hlt hc (unhide HM) (unhide HP) hrel')
        have HF := hide hf'
        clear hf' hrel hrel'
        obtain ⟨t, ht, hz, ht1, htc⟩ := extract_name s (p + k) c hlt hc
        have HT := hide ht
        clear ht hc
        obtain ⟨hsh, hor⟩ := shift_rules (unhide HM) (unhide HP) hN hM0 hP0
        have hnx := hide (pow_next (unhide HM) (unhide HP) hN)
        obtain ⟨Q, hQ⟩ : ∃ Q, N + P = Q := ⟨_, rfl⟩
        rw [hQ] at hor R hnx
        have hQ0 := q_bound hQ hN hM0 hP0
        clear hQ
        go_wp2_with fail
        refine (take_ok b off s (p + k) 1 _ hc0r hcp hfr hs (by omega) (by omega) (by omega)).mono ?_
        rintro e w1 ⟨rfl, ho, hcell1⟩
        rw [show (p + k + (1 : Int).toNat) = p + k + 1 from rfl, unhide HT]
        have ho1 : OnlyAt ⟨b, off + 1, none⟩ w w1 := honly.trans ho
        have hf1 : w1.frozen? ⟨b, off + 1, none⟩ = false := (ho1.frozen ⟨b, off + 1, none⟩ hbl).trans hf
        clear ho hc0r hcp hfr
        by_cases h1 : c < 128
        · by_cases h2 : c = 0 ∧ 0 < k
          · have h2a : c ≤ 0 := by omega
            have h2b : 0 < k := h2.2
            have hn := (unhide R).2.1 h1 (.inl h2)
            have HN := hide hn
            clear hn R h2
            by_cases h3 : 1000000000000 < Q
            all_goals
              go_wp2
              go_ret2
              rw [unhide HN]
              exact ⟨rfl, ho1.trans (OnlyAt.setCell _ _ _), World.cell?_setCell_same _ _ _ hcell1⟩
          · by_cases h3 : 1000000000000 < Q
            · have hn := (unhide R).2.1 h1 (.inr h3)
              have HN := hide hn
              clear hn R h2
              go_wp2
              go_ret2
              rw [unhide HN]
              exact ⟨rfl, ho1.trans (OnlyAt.setCell _ _ _), World.cell?_setCell_same _ _ _ hcell1⟩
            · have hn := (unhide R).2.2 h1 (by omega)
              have HN := hide hn
              clear hn R
              by_cases hk0 : k ≤ 0
              · by_cases hcz : c ≤ 0
                all_goals
                  go_wp2
                  go_ret2
                  rw [unhide HN]
                  exact ⟨rfl, ho1, by rw [hcell1]; unfold numAt; go_num⟩
              · have hcz : 0 < c := by omega
                go_wp2
                go_ret2
                rw [unhide HN]
                exact ⟨rfl, ho1, by rw [hcell1]; unfold numAt; go_num⟩
        · go_wp2
          go_roundw
          case rel => exact ⟨k + 1, Q, by go_num, by omega, by omega, by go_num, unhide hnx, by rw [show 6 - (k + 1) = f from by have := unhide HF; omega]; exact (unhide R).1 h1, ho1, by rw [hcell1]; go_num⟩
          case measure => simp [intOf]; omega
      · have hn : tkN s p = none := by rw [← unhide hrel]; exact tkGo_end _ _ _ _ _ hlt
        have HN := hide hn
        clear hn hrel
        go_wp2_with fail
        refine (take_short b off s (p + k) 1 _ hc0r hcp hs (by omega) (by omega) (by omega)).mono ?_
        rintro e w1 ⟨rfl, kk, rfl⟩
        go_wp2
        go_ret2
        rw [unhide HN]
        exact ⟨rfl, (honly.drewN kk).trans (OnlyAt.setCell _ _ _), World.cell?_setCell_same _ _ _ hcp⟩
    · obtain rfl : k = 6 := by omega
      have hn : tkN s p = none := by rw [← unhide hrel]; rfl
      have HN := hide hn
      clear hn hrel hN
      go_wp2
      go_ret2
      rw [unhide HN]
      exact ⟨rfl, honly.trans (OnlyAt.setCell _ _ _), World.cell?_setCell_same _ _ _ hcp⟩
end Go.Proofs.Ytnkjdojpegmlcaa
