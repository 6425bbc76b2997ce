/- Texts of one kind, put together. -/
import Derived.Test.YtakalfckhailjaaGreatGAA

/- The program's cursor: what take, rest and number of it answer and where they leave it. -/
namespace Go.Proofs.YtakalfckhailjaaGreat
open Go.RowKit Plain
set_option linter.unusedVariables false

theorem take_short (b off : Nat) (s : ByteArray) (p : Nat) (n : Int) (w : World) (hc0 : w.cell? ⟨b, off, none⟩ = some (.string s)) (hc1 : w.cell? ⟨b, off + 1, none⟩ = some (.int .i64 p))
    (hs : s.size ≤ 1000000000000) (hp : p ≤ s.size) (hn0 : 0 ≤ n) (hn : (s.size : Int) - p < n) :
    Calls Tryz.prog 116 #[.pointer (some ⟨b, off, none⟩), .int .i64 n] w fun e w' => e = .returned (.tuple #[.string ByteArray.empty, .bool false]) ∧ ∃ k, w' = w.drewN k := by
  go_enter Tryz.func116, Tryz.ntmps116
  go_wp2
  go_region
  all_goals (try go_wp2)
  all_goals go_ret2
  all_goals exact ⟨rfl, 1, rfl⟩

theorem take_ok (b off : Nat) (s : ByteArray) (p : Nat) (n : Int) (w : World) (hc0 : w.cell? ⟨b, off, none⟩ = some (.string s)) (hc1 : w.cell? ⟨b, off + 1, none⟩ = some (.int .i64 p))
    (hf : w.frozen? ⟨b, off + 1, none⟩ = false)
    (hs : s.size ≤ 1000000000000) (hp : p ≤ s.size) (hn0 : 0 ≤ n) (hn : n ≤ (s.size : Int) - p) :
    Calls Tryz.prog 116 #[.pointer (some ⟨b, off, none⟩), .int .i64 n] w fun e w' => e = .returned (.tuple #[.string (s.extract p (p + n.toNat)), .bool true]) ∧ OnlyAt ⟨b, off + 1, none⟩ w w' ∧ w'.cell? ⟨b, off + 1, none⟩ = some (.int .i64 (p + n)) := by
  obtain ⟨m, rfl⟩ := Int.eq_ofNat_of_zero_le hn0
  rw [Int.toNat_natCast]
  go_enter Tryz.func116, Tryz.ntmps116
  go_wp2
  go_region
  all_goals (try go_wp2)
  all_goals go_region
  all_goals (try go_wp2)
  all_goals go_ret2
  all_goals exact ⟨rfl, (OnlyAt.setCell _ _ _).drewN 2, World.cell?_setCell_same _ _ _ hc1⟩

theorem rest_ok (b off : Nat) (s : ByteArray) (p : Nat) (w : World) (hc0 : w.cell? ⟨b, off, none⟩ = some (.string s)) (hc1 : w.cell? ⟨b, off + 1, none⟩ = some (.int .i64 p))
    (hs : s.size ≤ 1000000000000) (hp : p ≤ s.size) :
    Calls Tryz.prog 92 #[.pointer (some ⟨b, off, none⟩)] w fun e w' => e = .returned (.string (s.extract p s.size)) ∧ ∃ k, w' = w.drewN k := by
  go_enter Tryz.func92, Tryz.ntmps92
  go_wp2
  go_region
  all_goals (try go_wp2)
  all_goals go_ret
  all_goals exact ⟨rfl, 1, rfl⟩

/-- What the reader's number answers, and where its cursor stands behind it. -/
def numV (r : Option (Nat × Nat)) : Value := match r with
  | none => .tuple #[.int .i64 0, .bool false]
  | some (v, l) => .tuple #[.int .i64 v, .bool true]
def numAt (p : Nat) (r : Option (Nat × Nat)) : Nat := match r with
  | none => p
  | some (v, l) => p + l

set_option maxRecDepth 100000 in
set_option maxHeartbeats 1000000 in
theorem number_ok (b off : Nat) (s : ByteArray) (p : Nat) (w : World) (hc0 : w.cell? ⟨b, off, none⟩ = some (.string s)) (hc1 : w.cell? ⟨b, off + 1, none⟩ = some (.int .i64 p))
    (hf : w.frozen? ⟨b, off + 1, none⟩ = false) (hs : s.size ≤ 1000000000000) (hp : p ≤ s.size) :
    Calls Tryz.prog 91 #[.pointer (some ⟨b, off, none⟩)] w fun e w' => e = .returned (numV (tkN s p)) ∧ OnlyAt ⟨b, off + 1, none⟩ w w' ∧ w'.cell? ⟨b, off + 1, none⟩ = some (.int .i64 (numAt p (tkN s p))) := by
  have hbl := lt_of_cell hc0
  go_enter Tryz.func91, Tryz.ntmps91
  go_wp2
  go_loopw [5, 6] (fun n i wr => ∃ (k N : Nat), i = .int .i64 ((7 * k : Nat) : Int) ∧ k ≤ 6 ∧ p + k ≤ s.size ∧ n = .int .i64 N ∧ N < 128 ^ k ∧ Hid (tkGo s p (6 - k) k N = tkN s p) ∧
      OnlyAt ⟨b, off + 1, none⟩ w wr ∧ wr.cell? ⟨b, off + 1, none⟩ = some (.int .i64 ((p + k : Nat) : Int)))
    (fun _ i _ => 42 - (intOf i).toNat)
  case atStart => exact ⟨0, 0, rfl, by omega, by omega, rfl, by omega, rfl, OnlyAt.refl _ _, hc1⟩
  case round =>
    obtain ⟨k, N, rfl, hk6, hks, rfl, hN, hrel, honly, hcp⟩ := hrel
    have hc0r : wr.cell? ⟨b, off, none⟩ = some (.string s) := (honly.cell ⟨b, off, none⟩ hbl (by simp)).trans hc0
    have hfr : wr.frozen? ⟨b, off + 1, none⟩ = false := (honly.frozen ⟨b, off + 1, none⟩ hbl).trans hf
    have hbr : b < wr.heap.size := Nat.lt_of_lt_of_le hbl honly.size
    by_cases h6 : k < 6
    · by_cases hlt : p + k < s.size
      · obtain ⟨c, hc⟩ : ∃ c, s[p + k].toNat = c := ⟨_, rfl⟩
        have hc256 : c < 256 := by rw [← hc]; exact s[p + k].toNat_lt
        have hM0 : 128 ^ k ≤ 34359738368 := Nat.le_trans (Nat.pow_le_pow_right (by decide) (show k ≤ 5 by omega)) (by decide)
        obtain ⟨M, hM⟩ : ∃ M, 128 ^ k = M := ⟨_, rfl⟩
        rw [hM] at hN hM0
        have HM := hide hM
        clear hM
        obtain ⟨P, hP⟩ : ∃ P, c % 128 * M = P := ⟨_, rfl⟩
        have hP0 : P ≤ 4398046511104 := by rw [← hP]; exact Nat.le_trans (Nat.mul_le_mul (show c % 128 ≤ 128 by omega) hM0) (by decide)
        have HP := hide hP
        clear hP
        obtain ⟨f, hf'⟩ : ∃ f, 6 - k = f + 1 := ⟨5 - k, by omega⟩
        have hrel' : tkGo s p (f + 1) k N = tkN s p := by rw [← hf']; exact unhide hrel
        have R := hide (tk_round rfl hlt hc (unhide HM) (unhide HP) hrel')
        have HF := hide hf'
        clear hf' hrel hrel'
        obtain ⟨t, ht, hz, ht1, htc⟩ := extract_name s (p + k) c hlt hc
        have HT := hide ht
        clear ht hc
        obtain ⟨hsh, hor⟩ := shift_rules (unhide HM) (unhide HP) hN hM0 hP0
        have hnx := hide (pow_next (unhide HM) (unhide HP) hN)
        obtain ⟨Q, hQ⟩ : ∃ Q, N + P = Q := ⟨_, rfl⟩
        rw [hQ] at hor R hnx
        have hQ0 := q_bound hQ hN hM0 hP0
        clear hQ
        go_wp2_with fail
        refine (take_ok b off s (p + k) 1 _ hc0r hcp hfr hs (by omega) (by omega) (by omega)).mono ?_
        rintro e w1 ⟨rfl, ho, hcell1⟩
        rw [show (p + k + (1 : Int).toNat) = p + k + 1 from rfl, unhide HT]
        have ho1 : OnlyAt ⟨b, off + 1, none⟩ w w1 := honly.trans ho
        have hf1 : w1.frozen? ⟨b, off + 1, none⟩ = false := (ho1.frozen ⟨b, off + 1, none⟩ hbl).trans hf
        clear ho hc0r hcp hfr
        by_cases h1 : c < 128
        · by_cases h2 : c = 0 ∧ 0 < k
          · have h2a : c ≤ 0 := by omega
            have h2b : 0 < k := h2.2
            have hn := (unhide R).2.1 h1 (.inl h2)
            have HN := hide hn
            clear hn R h2
            by_cases h3 : 1000000000000 < Q
            all_goals
              go_wp2
              go_ret2
              rw [unhide HN]
              exact ⟨rfl, ho1.trans (OnlyAt.setCell _ _ _), World.cell?_setCell_same _ _ _ hcell1⟩
          · by_cases h3 : 1000000000000 < Q
            · have hn := (unhide R).2.1 h1 (.inr h3)
              have HN := hide hn
              clear hn R h2
              go_wp2
              go_ret2
              rw [unhide HN]
              exact ⟨rfl, ho1.trans (OnlyAt.setCell _ _ _), World.cell?_setCell_same _ _ _ hcell1⟩
            · have hn := (unhide R).2.2 h1 (by omega)
              have HN := hide hn
              clear hn R
              by_cases hk0 : k ≤ 0
              · by_cases hcz : c ≤ 0
                all_goals
                  go_wp2
                  go_ret2
                  rw [unhide HN]
                  exact ⟨rfl, ho1, by rw [hcell1]; unfold numAt; go_num⟩
              · have hcz : 0 < c := by omega
                go_wp2
                go_ret2
                rw [unhide HN]
                exact ⟨rfl, ho1, by rw [hcell1]; unfold numAt; go_num⟩
        · go_wp2
          go_roundw
          case rel => exact ⟨k + 1, Q, by go_num, by omega, by omega, by go_num, unhide hnx, by rw [show 6 - (k + 1) = f from by have := unhide HF; omega]; exact (unhide R).1 h1, ho1, by rw [hcell1]; go_num⟩
          case measure => simp [intOf]; omega
      · have hn : tkN s p = none := by rw [← unhide hrel]; exact tkGo_end _ _ _ _ _ hlt
        have HN := hide hn
        clear hn hrel
        go_wp2_with fail
        refine (take_short b off s (p + k) 1 _ hc0r hcp hs (by omega) (by omega) (by omega)).mono ?_
        rintro e w1 ⟨rfl, kk, rfl⟩
        go_wp2
        go_ret2
        rw [unhide HN]
        exact ⟨rfl, (honly.drewN kk).trans (OnlyAt.setCell _ _ _), World.cell?_setCell_same _ _ _ hcp⟩
    · obtain rfl : k = 6 := by omega
      have hn : tkN s p = none := by rw [← unhide hrel]; rfl
      have HN := hide hn
      clear hn hrel hN
      go_wp2
      go_ret2
      rw [unhide HN]
      exact ⟨rfl, honly.trans (OnlyAt.setCell _ _ _), World.cell?_setCell_same _ _ _ hcp⟩
end Go.Proofs.YtakalfckhailjaaGreat


/- TakeNumber of the specification by its contract. -/
namespace Go.Proofs.YtakalfckhailjaaGreat
open Go.RowKit Plain
set_option linter.unusedVariables false

/-- What TakeNumber answers. -/
def takeV (s : ByteArray) : Value := match tkN s 0 with
  | none => .tuple #[.int .i64 0, .string ByteArray.empty, .bool false]
  | some (v, l) => .tuple #[.int .i64 v, .string (s.extract l s.size), .bool true]

theorem takeV_none {s : ByteArray} (h : tkN s 0 = none) : takeV s = .tuple #[.int .i64 0, .string ByteArray.empty, .bool false] := by unfold takeV; rw [h]
theorem takeV_some {s : ByteArray} {v l : Nat} (h : tkN s 0 = some (v, l)) : takeV s = .tuple #[.int .i64 v, .string (s.extract l s.size), .bool true] := by unfold takeV; rw [h]

set_option maxRecDepth 100000 in
set_option maxHeartbeats 4000000 in
theorem spec_TakeNumber (s : ByteArray) (w : World) (hs : s.size ≤ 1000000000000) :
    Calls Tryz.prog 72 #[.string s] w fun e w' => e = .returned (takeV s) ∧ ∃ k, w' = w.drewN k := by
  go_enter Tryz.func72, Tryz.ntmps72
  go_wp2
  go_loop [5, 6, 7] (fun n b i => ∃ (k N : Nat), i = .int .i64 k ∧ k ≤ 6 ∧ k ≤ s.size ∧ n = .int .i64 N ∧ N < 128 ^ k ∧ b = .int .i64 ((128 ^ k : Nat) : Int) ∧ Hid (tkGo s 0 (6 - k) k N = tkN s 0))
    (fun _ _ i => 6 - (intOf i).toNat)
  case atStart => exact ⟨0, 0, rfl, by omega, by omega, rfl, by omega, rfl, rfl⟩
  case round =>
    obtain ⟨k, N, rfl, hk6, hks, rfl, hN, rfl, hrel⟩ := hrel
    by_cases hlt : k < s.size
    · by_cases h6 : k < 6
      · obtain ⟨c, hc⟩ : ∃ c, s[k].toNat = c := ⟨_, rfl⟩
        have hc256 : c < 256 := by rw [← hc]; exact s[k].toNat_lt
        have hM0 : 128 ^ k ≤ 34359738368 := Nat.le_trans (Nat.pow_le_pow_right (by decide) (show k ≤ 5 by omega)) (by decide)
        obtain ⟨M, hM⟩ : ∃ M, 128 ^ k = M := ⟨_, rfl⟩
        have hMi : ((128 ^ k : Nat) : Int) = (M : Int) := by rw [hM]
        rw [hMi]
        rw [hM] at hN hM0
        have HM := hide hM
        clear hM hMi
        obtain ⟨P, hP⟩ : ∃ P, c % 128 * M = P := ⟨_, rfl⟩
        have hP0 : P ≤ 4398046511104 := by rw [← hP]; exact Nat.le_trans (Nat.mul_le_mul (show c % 128 ≤ 128 by omega) hM0) (by decide)
        have hPi : (c : Int) % 128 * (M : Int) = (P : Int) := by rw [← hP]; simp
        have HP := hide hP
        clear hP
        obtain ⟨f, hf⟩ : ∃ f, 6 - k = f + 1 := ⟨5 - k, by omega⟩
        have hrel' : tkGo s 0 (f + 1) k N = tkN s 0 := by rw [← hf]; exact unhide hrel
        have R := hide (tk_round (Nat.zero_add k) hlt hc (unhide HM) (unhide HP) hrel')
        have HF := hide hf
        clear hf hrel hrel'
        by_cases h1 : c < 128
        · by_cases h2 : c = 0 ∧ 0 < k
          · obtain ⟨h2a, h2b⟩ := h2
            go_wp2
            go_ret3
            exact ⟨by rw [takeV_none ((unhide R).2.1 h1 (.inl ⟨h2a, h2b⟩))]; rfl, 0, rfl⟩
          · by_cases h3 : 1000000000000 < N + P
            · have hn := (unhide R).2.1 h1 (.inr h3)
              have HN := hide hn
              clear hn
              go_wp2
              all_goals (go_ret3; exact ⟨by rw [takeV_none (unhide HN)]; rfl, 0, rfl⟩)
            · have hn := (unhide R).2.2 h1 (by omega)
              have HN := hide hn
              clear hn R
              rcases Nat.eq_zero_or_pos k with rfl | hkp
              · go_wp2
                all_goals go_region
                all_goals (try go_wp2)
                all_goals (go_ret3; exact ⟨by rw [takeV_some (unhide HN)]; rfl, 1, rfl⟩)
              · have h4 : ¬ c = 0 := by omega
                go_wp2
                all_goals go_region
                all_goals (try go_wp2)
                all_goals (go_ret3; exact ⟨by rw [takeV_some (unhide HN)]; rfl, 1, rfl⟩)
        · go_wp2
          go_round
          case rel => exact ⟨k + 1, N + P, by go_num, by omega, by omega, by go_num, pow_next (unhide HM) (unhide HP) hN, by rw [Nat.pow_succ, unhide HM]; go_num, by rw [show 6 - (k + 1) = f from by have := unhide HF; omega]; exact (unhide R).1 h1⟩
          case measure => simp [intOf]; omega
      · have hr := unhide hrel
        obtain rfl : k = 6 := by omega
        clear hrel
        go_wp2
        go_ret3
        exact ⟨by rw [takeV_none hr.symm]; rfl, 0, rfl⟩
    · have hr := unhide hrel
      rw [tkGo_end _ _ _ _ _ (by omega)] at hr
      clear hrel
      go_wp2
      go_ret3
      exact ⟨by rw [takeV_none hr.symm]; rfl, 0, rfl⟩
end Go.Proofs.YtakalfckhailjaaGreat


/- The specification's drawer: whatever it draws is within its bounds, and it moves nothing but its own place. -/
namespace Go.Proofs.YtakalfckhailjaaGreat
open Go.RowKit Plain
set_option linter.unusedVariables false

namespace Plain
/-- A drawer lies in block R: its bytes are the slice (a, len, cap) that holds zs, its place is p. -/
structure RdAt (w : World) (R : Nat) (a : Option Addr) (len cap : Nat) (zs : List Int) (p : Nat) : Prop where
  c0 : w.cell? ⟨R, 0, none⟩ = some (.slice a len cap)
  c1 : w.cell? ⟨R, 1, none⟩ = some (.int .i64 p)
  fz : w.frozen? ⟨R, 1, none⟩ = false
  le : p ≤ len
  small : len ≤ 1048576
  row : IsRow .u8 w a len cap zs
  apart : ∀ x, a = some x → 0 < zs.length → x.block < R

def Rd (w : World) (R : Nat) (a : Option Addr) (len cap : Nat) (zs : List Int) : Prop := ∃ p, RdAt w R a len cap zs p

theorem IsRow.only {w w' : World} {k : IntKind} {a : Option Addr} {len cap : Nat} {zs : List Int} {q : Addr} (h : IsRow k w a len cap zs) (ho : OnlyAt q w w') (hq : ∀ x, a = some x → 0 < zs.length → x.block < w.heap.size ∧ x.block ≠ q.block) : IsRow k w' a len cap zs := by
  rcases h with h | ⟨x, hx, h1, h2, h3, h4, h5⟩
  · exact .inl h
  · refine .inr ⟨x, hx, h1, h2, h3, fun i hi => ?_, h5⟩
    have hb : (x.add i).block = x.block := by unfold Addr.add; split <;> rfl
    have := hq x hx (by omega)
    rw [ho.cell (x.add i) (by rw [hb]; exact this.1) (fun e => this.2 (by rw [← hb, e]))]
    exact h4 i hi

theorem RdAt.only {w w' : World} {R : Nat} {a : Option Addr} {len cap : Nat} {zs : List Int} {p p' : Nat} (h : RdAt w R a len cap zs p) (ho : OnlyAt ⟨R, 1, none⟩ w w') (hc : w'.cell? ⟨R, 1, none⟩ = some (.int .i64 p')) (hp : p' ≤ len) : RdAt w' R a len cap zs p' := by
  have hR := lt_of_cell h.c0
  exact ⟨(ho.cell ⟨R, 0, none⟩ hR (by simp)).trans h.c0, hc, (ho.frozen ⟨R, 1, none⟩ hR).trans h.fz, hp, h.small,
    h.row.only ho (fun x hx hz => ⟨by have := h.apart x hx hz; simp at hR; omega, by have := h.apart x hx hz; simp; omega⟩), h.apart⟩

theorem Rd.below {w w' : World} {R : Nat} {a : Option Addr} {len cap : Nat} {zs : List Int} (h : Rd w R a len cap zs) (hb : Below w.heap.size w w') : Rd w' R a len cap zs := by
  obtain ⟨p, h⟩ := h
  have ho : OnlyAt ⟨R, 1, none⟩ w w' := OnlyAt.of_below hb
  exact ⟨p, h.only ho ((hb.cell (p := ⟨R, 1, none⟩) (lt_of_cell h.c1)).trans h.c1) h.le⟩

theorem Rd.lt {w : World} {R : Nat} {a : Option Addr} {len cap : Nat} {zs : List Int} (h : Rd w R a len cap zs) : R < w.heap.size := by
  obtain ⟨p, h⟩ := h; exact lt_of_cell h.c0
end Plain

set_option maxHeartbeats 1000000 in
theorem next_calls (R : Nat) (a : Option Addr) (len cap : Nat) (zs : List Int) (w : World) (h : Rd w R a len cap zs) :
    Calls Tryz.prog 99 #[.pointer (some ⟨R, 0, none⟩)] w fun e w' => ∃ v : Int, e = .returned (.int .i64 v) ∧ 0 ≤ v ∧ v ≤ 255 ∧ Rd w' R a len cap zs ∧ OnlyAt ⟨R, 1, none⟩ w w' := by
  obtain ⟨p, hp⟩ := h
  have HP := hide hp
  obtain ⟨c0, c1, fz, le, small, row, apart⟩ := hp
  clear apart
  by_cases hlt : p < len
  · rcases row with ⟨_, h, _⟩ | ⟨x, rfl, h1, h2, h3, h4, h5⟩
    · omega
    · obtain ⟨b, off, spot⟩ := x
      have hc := h4 p (by omega)
      have hspot : spot = none := by simpa [Addr.add] using World.cell?_spot (h4 0 (by omega))
      subst hspot
      have hcp : w.cell? ⟨b, off + p, none⟩ = some (.int .u8 (zs.getD p 0)) := by
        rw [show (⟨b, off, none⟩ : Addr).add p = ⟨b, off + p, none⟩ from by unfold Addr.add; split <;> simp_all] at hc
        exact hc
      have hap : b ≠ R := by have := (unhide HP).apart _ rfl (by omega); simp at this; omega
      have hrng := Go.range_u8 h5 p
      have hzz : zs.getD p 0 = zs[p]?.getD 0 := by simp [List.getD]
      rw [hzz] at hcp
      obtain ⟨z, hz⟩ : ∃ z, zs[p]?.getD 0 = z := ⟨_, rfl⟩
      rw [hz] at hcp hrng
      clear h4 h5 hc hzz hz
      go_enter Tryz.func99, Tryz.ntmps99
      go_wp2
      go_region
      all_goals (try go_wp2)
      go_region
      all_goals (try go_wp2)
      all_goals go_ret
      all_goals
        have ho : OnlyAt ⟨R, 1, none⟩ w ((w.setCell ⟨R, 1, none⟩ (.int .i64 ((p : Int) + 1))).drewN 2) := (OnlyAt.setCell _ _ _).drewN 2
        have hcc : ((w.setCell ⟨R, 1, none⟩ (.int .i64 ((p : Int) + 1))).drewN 2).cell? ⟨R, 1, none⟩ = some (.int .i64 ((p + 1 : Nat) : Int)) := (World.cell?_setCell_same _ _ _ c1).trans (by go_num)
        exact ⟨z, rfl, hrng.1, hrng.2, ⟨p + 1, (unhide HP).only ho hcc (by omega)⟩, ho⟩
  · go_enter Tryz.func99, Tryz.ntmps99
    go_wp2
    go_region
    all_goals (try go_wp2)
    all_goals go_ret
    all_goals exact ⟨0, rfl, by omega, by omega, ⟨p, (unhide HP).only ((OnlyAt.refl _ _).drewN 1) c1 le⟩, (OnlyAt.refl _ _).drewN 1⟩

theorem below_calls (R : Nat) (a : Option Addr) (len cap : Nat) (zs : List Int) (n : Int) (w : World) (h : Rd w R a len cap zs) (h1 : 1 ≤ n) (h2 : n ≤ 60000) :
    Calls Tryz.prog 64 #[.pointer (some ⟨R, 0, none⟩), .int .i64 n] w fun e w' => ∃ v : Int, e = .returned (.int .i64 v) ∧ 0 ≤ v ∧ v < n ∧ Rd w' R a len cap zs ∧ OnlyAt ⟨R, 1, none⟩ w w' := by
  have H := hide h
  clear h
  by_cases h3 : n ≤ 1
  · go_enter Tryz.func64, Tryz.ntmps64
    go_wp2
    go_ret
    exact ⟨0, rfl, by omega, by omega, unhide H, OnlyAt.refl _ _⟩
  · by_cases h4 : n ≤ 256
    · go_enter Tryz.func64, Tryz.ntmps64
      go_wp2_with fail
      refine (next_calls R a len cap zs _ (unhide H)).mono ?_
      rintro e w1 ⟨v, rfl, hv0, hv1, hR1, ho1⟩
      have HR1 := hide hR1
      clear hR1
      go_wp2
      go_ret
      exact ⟨v % n, by first | rfl | (simp), Int.emod_nonneg _ (by omega), Int.emod_lt_of_pos _ (by omega), unhide HR1, ho1⟩
    · go_enter Tryz.func64, Tryz.ntmps64
      go_wp2_with fail
      refine (next_calls R a len cap zs _ (unhide H)).mono ?_
      rintro e w1 ⟨v, rfl, hv0, hv1, hR1, ho1⟩
      have HR1 := hide hR1
      clear hR1
      go_wp2_with fail
      refine (next_calls R a len cap zs _ (unhide HR1)).mono ?_
      rintro e w2 ⟨u, rfl, hu0, hu1, hR2, ho2⟩
      have HR2 := hide hR2
      clear hR2
      go_wp2
      go_ret
      exact ⟨(v * 256 + u) % n, by first | rfl | (simp), Int.emod_nonneg _ (by omega), Int.emod_lt_of_pos _ (by omega), unhide HR2, ho1.trans ho2⟩

theorem once_calls (R : Nat) (a : Option Addr) (len cap : Nat) (zs : List Int) (n : Int) (w : World) (h : Rd w R a len cap zs) (h1 : 1 ≤ n) (h2 : n ≤ 60000) :
    Calls Tryz.prog 24 #[.pointer (some ⟨R, 0, none⟩), .int .i64 n] w fun e w' => ∃ v : Bool, e = .returned (.bool v) ∧ Rd w' R a len cap zs ∧ OnlyAt ⟨R, 1, none⟩ w w' := by
  have H := hide h
  clear h
  go_enter Tryz.func24, Tryz.ntmps24
  go_wp2_with fail
  refine (below_calls R a len cap zs n _ (unhide H) h1 h2).mono ?_
  rintro e w1 ⟨v, rfl, hv0, hv1, hR1, ho1⟩
  have HR1 := hide hR1
  clear hR1
  go_wp2
  go_ret
  exact ⟨_, rfl, unhide HR1, ho1⟩

theorem bits_u64_range (op : BinOp) (x y : Int) : 0 ≤ bits op .u64 x y ∧ bits op .u64 x y < 18446744073709551616 := by
  unfold bits
  simp only
  rw [IntKind.wrap_u64]
  omega

set_option maxHeartbeats 1000000 in
theorem word_calls (R : Nat) (a : Option Addr) (len cap : Nat) (zs : List Int) (w : World) (h : Rd w R a len cap zs) :
    Calls Tryz.prog 101 #[.pointer (some ⟨R, 0, none⟩)] w fun e w' => ∃ v : Int, e = .returned (.int .u64 v) ∧ 0 ≤ v ∧ v < 18446744073709551616 ∧ Rd w' R a len cap zs ∧ OnlyAt ⟨R, 1, none⟩ w w' := by
  have H := hide h
  clear h
  go_enter Tryz.func101, Tryz.ntmps101
  go_wp2_with fail
  go_loopw [3, 4] (fun x i wr => ∃ (k : Nat) (X : Int), i = .int .i64 k ∧ k ≤ 8 ∧ x = .int .u64 X ∧ 0 ≤ X ∧ X < 18446744073709551616 ∧ Hid (Rd wr R a len cap zs) ∧ OnlyAt ⟨R, 1, none⟩ w wr) (fun _ i _ => 8 - (intOf i).toNat)
  case atStart => exact ⟨0, 0, rfl, by omega, rfl, by omega, by omega, H, OnlyAt.refl _ _⟩
  case round =>
    obtain ⟨k, X, rfl, hk, rfl, hx0, hx1, HR, ho⟩ := hrel
    by_cases hlt : k < 8
    · go_wp2_with fail
      refine (next_calls R a len cap zs _ (unhide HR)).mono ?_
      rintro e w1 ⟨v, rfl, hv0, hv1, hR1, ho1⟩
      have HR1 := hide hR1
      clear hR1 HR
      go_wp2
      go_roundw
      case rel => exact ⟨k + 1, _, by go_num, by omega, rfl, (bits_u64_range _ _ _).1, (bits_u64_range _ _ _).2, HR1, ho.trans ho1⟩
      case measure => simp [intOf]; omega
    · go_wp2
      go_ret
      exact ⟨X, rfl, hx0, hx1, unhide HR, ho⟩
end Go.Proofs.YtakalfckhailjaaGreat


/- The drawer's numbers near bounds, and the words and numbers for Rotate. -/
namespace Go.Proofs.YtakalfckhailjaaGreat
open Go.RowKit Plain
set_option linter.unusedVariables false

namespace Plain
theorem near_rules {lo hi v : Int} (h1 : lo ≤ hi) (h2 : -1000000 ≤ lo) (h3 : hi ≤ 10000000000000) (hv0 : 0 ≤ v) (hv1 : v < 18446744073709551616) :
    IntKind.u64.wrap (hi - lo + 1) = hi - lo + 1 ∧ 0 ≤ v / 2 % (hi - lo + 1) ∧ v / 2 % (hi - lo + 1) ≤ hi - lo := by
  refine ⟨by rw [IntKind.wrap_u64]; omega, Int.emod_nonneg _ (by omega), ?_⟩
  have := Int.emod_lt_of_pos (v / 2) (show 0 < hi - lo + 1 by omega)
  omega
end Plain

set_option maxHeartbeats 1000000 in
theorem near_calls (R : Nat) (a : Option Addr) (len cap : Nat) (zs : List Int) (lo hi : Int) (w : World) (h : Rd w R a len cap zs) (h1 : lo ≤ hi) (h2 : -1000000 ≤ lo) (h3 : hi ≤ 10000000000000) :
    Calls Tryz.prog 66 #[.pointer (some ⟨R, 0, none⟩), .int .i64 lo, .int .i64 hi] w fun e w' => ∃ v : Int, e = .returned (.int .i64 v) ∧ lo ≤ v ∧ v ≤ hi ∧ Rd w' R a len cap zs ∧ OnlyAt ⟨R, 1, none⟩ w w' := by
  have H := hide h
  clear h
  go_enter Tryz.func66, Tryz.ntmps66
  go_wp2_with fail
  refine (below_calls R a len cap zs 8 _ (unhide H) (by omega) (by omega)).mono ?_
  rintro e w1 ⟨u, rfl, hu0, hu1, hR1, ho1⟩
  have HR1 := hide hR1
  clear hR1
  by_cases e0 : u ≤ 0
  · go_wp2
    go_ret
    exact ⟨lo, rfl, by omega, by omega, unhide HR1, ho1⟩
  · by_cases e1 : u ≤ 1
    · go_wp2
      go_ret
      exact ⟨hi, rfl, by omega, by omega, unhide HR1, ho1⟩
    · go_wp2_with fail
      refine (word_calls R a len cap zs _ (unhide HR1)).mono ?_
      rintro e w2 ⟨v, rfl, hv0, hv1, hR2, ho2⟩
      have HR2 := hide hR2
      clear hR2
      obtain ⟨r1, r2, r3⟩ := near_rules h1 h2 h3 hv0 hv1
      obtain ⟨q, hq⟩ : ∃ q, v / 2 % (hi - lo + 1) = q := ⟨_, rfl⟩
      rw [hq] at r2 r3
      go_wp2
      go_ret
      exact ⟨lo + q, by first | rfl | (simp), by omega, by omega, unhide HR2, ho1.trans ho2⟩

theorem open_calls (a : Option Addr) (len cap : Nat) (zs : List Int) (w : World) (h : IsRow .u8 w a len cap zs) (hl : len ≤ 1048576) :
    Calls Tryz.prog 21 #[.slice a len cap] w fun e w' => e = .returned (.pointer (some ⟨w.heap.size, 0, none⟩)) ∧ Rd w' w.heap.size a len cap zs ∧ Below w.heap.size w w' := by
  have H := hide h
  have hap : ∀ x, a = some x → 0 < zs.length → x.block < w.heap.size := by
    intro x hx hz
    subst hx
    rcases h with ⟨h, _⟩ | ⟨y, hy, h1, h2, h3, h4, h5⟩
    · simp at h
    · have hc := lt_of_cell (h4 0 hz)
      have e : y = x := by simpa using hy.symm
      have hb : (y.add 0).block = y.block := by unfold Addr.add; split <;> rfl
      rw [hb, e] at hc
      exact hc
  have HA := hide hap
  clear h hap
  go_enter Tryz.func21, Tryz.ntmps21
  go_wp2
  go_ret
  have hb : Below w.heap.size w (w.alloc (.cells #[.slice a len cap, .int .i64 0] 97)) := (Below.refl _ _).alloc (Nat.le_refl _) _
  refine ⟨rfl, ⟨0, ⟨by simp, by simp, by simp, by omega, hl, ?_, unhide HA⟩⟩, hb⟩
  exact (unhide H).only (q := ⟨w.heap.size, 0, none⟩) (OnlyAt.of_below hb) (fun x hx hz => ⟨unhide HA x hx hz, by have := unhide HA x hx hz; simp; omega⟩)

set_option maxHeartbeats 1000000 in
theorem off_calls (R : Nat) (a : Option Addr) (len cap : Nat) (zs : List Int) (lo hi : Int) (w : World) (h : Rd w R a len cap zs) (h1 : lo ≤ hi) (h2 : -100000 ≤ lo) (h3 : hi ≤ 1000000000000) :
    Calls Tryz.prog 25 #[.pointer (some ⟨R, 0, none⟩), .int .i64 lo, .int .i64 hi] w fun e w' => ∃ v : Int, e = .returned (.int .i64 v) ∧ -9223372036854775808 ≤ v ∧ v ≤ 9223372036854775807 ∧ Rd w' R a len cap zs ∧ OnlyAt ⟨R, 1, none⟩ w w' := by
  have H := hide h
  clear h
  go_enter Tryz.func25, Tryz.ntmps25
  go_wp2_with fail
  refine (once_calls R a len cap zs 24 _ (unhide H) (by omega) (by omega)).mono ?_
  rintro e w1 ⟨b, rfl, hR1, ho1⟩
  have HR1 := hide hR1
  clear hR1
  cases b with
  | false =>
    go_wp2_with fail
    refine (near_calls R a len cap zs lo hi _ (unhide HR1) h1 (by omega) (by omega)).mono ?_
    rintro e w2 ⟨v, rfl, hv0, hv1, hR2, ho2⟩
    have HR2 := hide hR2
    clear hR2
    go_wp2
    go_ret
    exact ⟨v, rfl, by omega, by omega, unhide HR2, ho1.trans ho2⟩
  | true =>
    go_wp2_with fail
    have hb1 : Below w1.heap.size w1 (w1.alloc (.cells #[.int .i64 (lo - 1), .int .i64 (hi + 1), .int .i64 (-9223372036854775808), .int .i64 9223372036854775807] 2)) := (Below.refl _ _).alloc (Nat.le_refl _) _
    have hlt := (unhide HR1).lt
    refine (below_calls R a len cap zs 4 _ ((unhide HR1).below hb1) (by omega) (by omega)).mono ?_
    rintro e w2 ⟨v, rfl, hv0, hv1, hR2, ho2⟩
    have HR2 := hide hR2
    have c0 : w2.cell? ⟨w1.heap.size, 0, none⟩ = some (.int .i64 (lo - 1)) := (ho2.cell ⟨w1.heap.size, 0, none⟩ (by simp) (by simp)).trans (by simp)
    have c1 : w2.cell? ⟨w1.heap.size, 1, none⟩ = some (.int .i64 (hi + 1)) := (ho2.cell ⟨w1.heap.size, 1, none⟩ (by simp) (by simp)).trans (by simp)
    have c2 : w2.cell? ⟨w1.heap.size, 2, none⟩ = some (.int .i64 (-9223372036854775808)) := (ho2.cell ⟨w1.heap.size, 2, none⟩ (by simp) (by simp)).trans (by simp)
    have c3 : w2.cell? ⟨w1.heap.size, 3, none⟩ = some (.int .i64 9223372036854775807) := (ho2.cell ⟨w1.heap.size, 3, none⟩ (by simp) (by simp)).trans (by simp)
    have hoo : OnlyAt ⟨R, 1, none⟩ w w2 := ho1.trans ((OnlyAt.of_below hb1).trans ho2)
    clear hR2 hb1 hlt ho2 ho1
    rcases (show v = 0 ∨ v = 1 ∨ v = 2 ∨ v = 3 from by omega) with rfl | rfl | rfl | rfl
    · go_wp2
      go_ret
      exact ⟨_, rfl, by omega, by omega, unhide HR2, hoo⟩
    · go_wp2
      go_ret
      exact ⟨_, rfl, by omega, by omega, unhide HR2, hoo⟩
    · go_wp2
      go_ret
      exact ⟨_, rfl, by omega, by omega, unhide HR2, hoo⟩
    · go_wp2
      go_ret
      exact ⟨_, rfl, by omega, by omega, unhide HR2, hoo⟩

end Go.Proofs.YtakalfckhailjaaGreat

