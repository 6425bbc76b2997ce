/- Texts of one kind, put together. -/
import Derived.Test.YtnkjdojpegmlcaaMem
import Derived.Test.YtnkjdojpegmlcaaShaP
import Derived.Test.YtnkjdojpegmlcaaNum
import Derived.Test.YtnkjdojpegmlcaaPlainB
import Derived.Lib.SlBytesConst
import Derived.Laws.MakeOwn
import Derived.Test.YtnkjdojpegmlcaaPcM
import Derived.Test.YtnkjdojpegmlcaaCut
import Derived.Test.YtnkjdojpegmlcaaPcS
import Derived.Deep.RegionLaw

/- The specification's drawer: whatever it draws is within its bounds, and it moves nothing but its own place. -/
namespace Go.Proofs.Ytnkjdojpegmlcaa
open Go.RowKit Plain
set_option linter.unusedVariables false

namespace Plain
/-- A drawer lies in block R: its bytes are the slice (a, len, cap) that holds zs, its place is p. -/
structure RdAt (w : World) (R : Nat) (a : Option Addr) (len cap : Nat) (zs : List Int) (p : Nat) : Prop where
  c0 : w.cell? ⟨R, 0, none⟩ = some (.slice a len cap)
  c1 : w.cell? ⟨R, 1, none⟩ = some (.int .i64 p)
  fz : w.frozen? ⟨R, 1, none⟩ = false
  le : p ≤ len
  small : len ≤ 1048576
  row : IsRow .u8 w a len cap zs
  apart : ∀ x, a = some x → 0 < zs.length → x.block < R

def Rd (w : World) (R : Nat) (a : Option Addr) (len cap : Nat) (zs : List Int) : Prop := ∃ p, RdAt w R a len cap zs p

theorem IsRow.only {w w' : World} {k : IntKind} {a : Option Addr} {len cap : Nat} {zs : List Int} {q : Addr} (h : IsRow k w a len cap zs) (ho : OnlyAt q w w') (hq : ∀ x, a = some x → 0 < zs.length → x.block < w.heap.size ∧ x.block ≠ q.block) : IsRow k w' a len cap zs := by
  rcases h with h | ⟨x, hx, h1, h2, h3, h4, h5⟩
  · exact .inl h
  · refine .inr ⟨x, hx, h1, h2, h3, fun i hi => ?_, h5⟩
    have hb : (x.add i).block = x.block := by unfold Addr.add; split <;> rfl
    have := hq x hx (by omega)
    rw [ho.cell (x.add i) (by rw [hb]; exact this.1) (fun e => this.2 (by rw [← hb, e]))]
    exact h4 i hi

theorem RdAt.only {w w' : World} {R : Nat} {a : Option Addr} {len cap : Nat} {zs : List Int} {p p' : Nat} (h : RdAt w R a len cap zs p) (ho : OnlyAt ⟨R, 1, none⟩ w w') (hc : w'.cell? ⟨R, 1, none⟩ = some (.int .i64 p')) (hp : p' ≤ len) : RdAt w' R a len cap zs p' := by
  have hR := lt_of_cell h.c0
  exact ⟨(ho.cell ⟨R, 0, none⟩ hR (by simp)).trans h.c0, hc, (ho.frozen ⟨R, 1, none⟩ hR).trans h.fz, hp, h.small,
    h.row.only ho (fun x hx hz => ⟨by have := h.apart x hx hz; simp at hR; omega, by have := h.apart x hx hz; simp; omega⟩), h.apart⟩

theorem Rd.below {w w' : World} {R : Nat} {a : Option Addr} {len cap : Nat} {zs : List Int} (h : Rd w R a len cap zs) (hb : Below w.heap.size w w') : Rd w' R a len cap zs := by
  obtain ⟨p, h⟩ := h
  have ho : OnlyAt ⟨R, 1, none⟩ w w' := OnlyAt.of_below hb
  exact ⟨p, h.only ho ((hb.cell (p := ⟨R, 1, none⟩) (lt_of_cell h.c1)).trans h.c1) h.le⟩

theorem Rd.lt {w : World} {R : Nat} {a : Option Addr} {len cap : Nat} {zs : List Int} (h : Rd w R a len cap zs) : R < w.heap.size := by
  obtain ⟨p, h⟩ := h; exact lt_of_cell h.c0
end Plain

set_option maxHeartbeats 1000000 in
theorem next_calls (R : Nat) (a : Option Addr) (len cap : Nat) (zs : List Int) (w : World) (h : Rd w R a len cap zs) :
    Calls Try.prog 34 #[.pointer (some ⟨R, 0, none⟩)] w fun e w' => ∃ v : Int, e = .returned (.int .i64 v) ∧ 0 ≤ v ∧ v ≤ 255 ∧ Rd w' R a len cap zs ∧ OnlyAt ⟨R, 1, none⟩ w w' := by
  obtain ⟨p, hp⟩ := h
  have HP := hide hp
  obtain ⟨c0, c1, fz, le, small, row, apart⟩ := hp
  clear apart
  by_cases hlt : p < len
  · rcases row with ⟨_, h, _⟩ | ⟨x, rfl, h1, h2, h3, h4, h5⟩
    · omega
    · obtain ⟨b, off, spot⟩ := x
      have hc := h4 p (by omega)
      have hspot : spot = none := by simpa [Addr.add] using World.cell?_spot (h4 0 (by omega))
      subst hspot
      have hcp : w.cell? ⟨b, off + p, none⟩ = some (.int .u8 (zs.getD p 0)) := by
        rw [show (⟨b, off, none⟩ : Addr).add p = ⟨b, off + p, none⟩ from by unfold Addr.add; split <;> simp_all] at hc
        exact hc
      have hap : b ≠ R := by have := (unhide HP).apart _ rfl (by omega); simp at this; omega
      have hrng := Go.range_u8 h5 p
      have hzz : zs.getD p 0 = zs[p]?.getD 0 := by simp [List.getD]
      rw [hzz] at hcp
      obtain ⟨z, hz⟩ : ∃ z, zs[p]?.getD 0 = z := ⟨_, rfl⟩
      rw [hz] at hcp hrng
      clear h4 h5 hc hzz hz
      go_enter Try.func34, Try.ntmps34
      go_wp2
      go_region
      all_goals (try go_wp2)
      go_region
      all_goals (try go_wp2)
      all_goals go_ret
      all_goals
        have ho : OnlyAt ⟨R, 1, none⟩ w ((w.setCell ⟨R, 1, none⟩ (.int .i64 ((p : Int) + 1))).drewN 2) := (OnlyAt.setCell _ _ _).drewN 2
        have hcc : ((w.setCell ⟨R, 1, none⟩ (.int .i64 ((p : Int) + 1))).drewN 2).cell? ⟨R, 1, none⟩ = some (.int .i64 ((p + 1 : Nat) : Int)) := (World.cell?_setCell_same _ _ _ c1).trans (by go_num)
        exact ⟨z, rfl, hrng.1, hrng.2, ⟨p + 1, (unhide HP).only ho hcc (by omega)⟩, ho⟩
  · go_enter Try.func34, Try.ntmps34
    go_wp2
    go_region
    all_goals (try go_wp2)
    all_goals go_ret
    all_goals exact ⟨0, rfl, by omega, by omega, ⟨p, (unhide HP).only ((OnlyAt.refl _ _).drewN 1) c1 le⟩, (OnlyAt.refl _ _).drewN 1⟩

theorem below_calls (R : Nat) (a : Option Addr) (len cap : Nat) (zs : List Int) (n : Int) (w : World) (h : Rd w R a len cap zs) (h1 : 1 ≤ n) (h2 : n ≤ 60000) :
    Calls Try.prog 20 #[.pointer (some ⟨R, 0, none⟩), .int .i64 n] w fun e w' => ∃ v : Int, e = .returned (.int .i64 v) ∧ 0 ≤ v ∧ v < n ∧ Rd w' R a len cap zs ∧ OnlyAt ⟨R, 1, none⟩ w w' := by
  have H := hide h
  clear h
  by_cases h3 : n ≤ 1
  · go_enter Try.func20, Try.ntmps20
    go_wp2
    go_ret
    exact ⟨0, rfl, by omega, by omega, unhide H, OnlyAt.refl _ _⟩
  · by_cases h4 : n ≤ 256
    · go_enter Try.func20, Try.ntmps20
      go_wp2_with fail
      refine (next_calls R a len cap zs _ (unhide H)).mono ?_
      rintro e w1 ⟨v, rfl, hv0, hv1, hR1, ho1⟩
      have HR1 := hide hR1
      clear hR1
      go_wp2
      go_ret
      exact ⟨v % n, by first | rfl | (simp), Int.emod_nonneg _ (by omega), Int.emod_lt_of_pos _ (by omega), unhide HR1, ho1⟩
    · go_enter Try.func20, Try.ntmps20
      go_wp2_with fail
      refine (next_calls R a len cap zs _ (unhide H)).mono ?_
      rintro e w1 ⟨v, rfl, hv0, hv1, hR1, ho1⟩
      have HR1 := hide hR1
      clear hR1
      go_wp2_with fail
      refine (next_calls R a len cap zs _ (unhide HR1)).mono ?_
      rintro e w2 ⟨u, rfl, hu0, hu1, hR2, ho2⟩
      have HR2 := hide hR2
      clear hR2
      go_wp2
      go_ret
      exact ⟨(v * 256 + u) % n, by first | rfl | (simp), Int.emod_nonneg _ (by omega), Int.emod_lt_of_pos _ (by omega), unhide HR2, ho1.trans ho2⟩

theorem once_calls (R : Nat) (a : Option Addr) (len cap : Nat) (zs : List Int) (n : Int) (w : World) (h : Rd w R a len cap zs) (h1 : 1 ≤ n) (h2 : n ≤ 60000) :
    Calls Try.prog 22 #[.pointer (some ⟨R, 0, none⟩), .int .i64 n] w fun e w' => ∃ v : Bool, e = .returned (.bool v) ∧ Rd w' R a len cap zs ∧ OnlyAt ⟨R, 1, none⟩ w w' := by
  have H := hide h
  clear h
  go_enter Try.func22, Try.ntmps22
  go_wp2_with fail
  refine (below_calls R a len cap zs n _ (unhide H) h1 h2).mono ?_
  rintro e w1 ⟨v, rfl, hv0, hv1, hR1, ho1⟩
  have HR1 := hide hR1
  clear hR1
  go_wp2
  go_ret
  exact ⟨_, rfl, unhide HR1, ho1⟩

theorem bits_u64_range (op : BinOp) (x y : Int) : 0 ≤ bits op .u64 x y ∧ bits op .u64 x y < 18446744073709551616 := by
  unfold bits
  simp only
  rw [IntKind.wrap_u64]
  omega

set_option maxHeartbeats 1000000 in
theorem word_calls (R : Nat) (a : Option Addr) (len cap : Nat) (zs : List Int) (w : World) (h : Rd w R a len cap zs) :
    Calls Try.prog 51 #[.pointer (some ⟨R, 0, none⟩)] w fun e w' => ∃ v : Int, e = .returned (.int .u64 v) ∧ 0 ≤ v ∧ v < 18446744073709551616 ∧ Rd w' R a len cap zs ∧ OnlyAt ⟨R, 1, none⟩ w w' := by
  have H := hide h
  clear h
  go_enter Try.func51, Try.ntmps51
  go_wp2_with fail
  go_loopw [3, 4] (fun x i wr => ∃ (k : Nat) (X : Int), i = .int .i64 k ∧ k ≤ 8 ∧ x = .int .u64 X ∧ 0 ≤ X ∧ X < 18446744073709551616 ∧ Hid (Rd wr R a len cap zs) ∧ OnlyAt ⟨R, 1, none⟩ w wr) (fun _ i _ => 8 - (intOf i).toNat)
  case atStart => exact ⟨0, 0, rfl, by omega, rfl, by omega, by omega, H, OnlyAt.refl _ _⟩
  case round =>
    obtain ⟨k, X, rfl, hk, rfl, hx0, hx1, HR, ho⟩ := hrel
    by_cases hlt : k < 8
    · go_wp2_with fail
      refine (next_calls R a len cap zs _ (unhide HR)).mono ?_
      rintro e w1 ⟨v, rfl, hv0, hv1, hR1, ho1⟩
      have HR1 := hide hR1
      clear hR1 HR
      go_wp2
      go_roundw
      case rel => exact ⟨k + 1, _, by go_num, by omega, rfl, (bits_u64_range _ _ _).1, (bits_u64_range _ _ _).2, HR1, ho.trans ho1⟩
      case measure => simp [intOf]; omega
    · go_wp2
      go_ret
      exact ⟨X, rfl, hx0, hx1, unhide HR, ho⟩
end Go.Proofs.Ytnkjdojpegmlcaa


/- The drawer's numbers near bounds, and the words and numbers for Rotate. -/
namespace Go.Proofs.Ytnkjdojpegmlcaa
open Go.RowKit Plain
set_option linter.unusedVariables false

namespace Plain
theorem near_rules {lo hi v : Int} (h1 : lo ≤ hi) (h2 : -1000000 ≤ lo) (h3 : hi ≤ 10000000000000) (hv0 : 0 ≤ v) (hv1 : v < 18446744073709551616) :
    IntKind.u64.wrap (hi - lo + 1) = hi - lo + 1 ∧ 0 ≤ v / 2 % (hi - lo + 1) ∧ v / 2 % (hi - lo + 1) ≤ hi - lo := by
  refine ⟨by rw [IntKind.wrap_u64]; omega, Int.emod_nonneg _ (by omega), ?_⟩
  have := Int.emod_lt_of_pos (v / 2) (show 0 < hi - lo + 1 by omega)
  omega
end Plain

set_option maxHeartbeats 1000000 in
theorem near_calls (R : Nat) (a : Option Addr) (len cap : Nat) (zs : List Int) (lo hi : Int) (w : World) (h : Rd w R a len cap zs) (h1 : lo ≤ hi) (h2 : -1000000 ≤ lo) (h3 : hi ≤ 10000000000000) :
    Calls Try.prog 35 #[.pointer (some ⟨R, 0, none⟩), .int .i64 lo, .int .i64 hi] w fun e w' => ∃ v : Int, e = .returned (.int .i64 v) ∧ lo ≤ v ∧ v ≤ hi ∧ Rd w' R a len cap zs ∧ OnlyAt ⟨R, 1, none⟩ w w' := by
  have H := hide h
  clear h
  go_enter Try.func35, Try.ntmps35
  go_wp2_with fail
  refine (below_calls R a len cap zs 8 _ (unhide H) (by omega) (by omega)).mono ?_
  rintro e w1 ⟨u, rfl, hu0, hu1, hR1, ho1⟩
  have HR1 := hide hR1
  clear hR1
  by_cases e0 : u ≤ 0
  · go_wp2
    go_ret
    exact ⟨lo, rfl, by omega, by omega, unhide HR1, ho1⟩
  · by_cases e1 : u ≤ 1
    · go_wp2
      go_ret
      exact ⟨hi, rfl, by omega, by omega, unhide HR1, ho1⟩
    · go_wp2_with fail
      refine (word_calls R a len cap zs _ (unhide HR1)).mono ?_
      rintro e w2 ⟨v, rfl, hv0, hv1, hR2, ho2⟩
      have HR2 := hide hR2
      clear hR2
      obtain ⟨r1, r2, r3⟩ := near_rules h1 h2 h3 hv0 hv1
      obtain ⟨q, hq⟩ : ∃ q, v / 2 % (hi - lo + 1) = q := ⟨_, rfl⟩
      rw [hq] at r2 r3
      go_wp2
      go_ret
      exact ⟨lo + q, by first | rfl | (simp), by omega, by omega, unhide HR2, ho1.trans ho2⟩

theorem open_calls (a : Option Addr) (len cap : Nat) (zs : List Int) (w : World) (h : IsRow .u8 w a len cap zs) (hl : len ≤ 1048576) :
    Calls Try.prog 19 #[.slice a len cap] w fun e w' => e = .returned (.pointer (some ⟨w.heap.size, 0, none⟩)) ∧ Rd w' w.heap.size a len cap zs ∧ Below w.heap.size w w' := by
  have H := hide h
  have hap : ∀ x, a = some x → 0 < zs.length → x.block < w.heap.size := by
    intro x hx hz
    subst hx
    rcases h with ⟨h, _⟩ | ⟨y, hy, h1, h2, h3, h4, h5⟩
    · simp at h
    · have hc := lt_of_cell (h4 0 hz)
      have e : y = x := by simpa using hy.symm
      have hb : (y.add 0).block = y.block := by unfold Addr.add; split <;> rfl
      rw [hb, e] at hc
      exact hc
  have HA := hide hap
  clear h hap
  go_enter Try.func19, Try.ntmps19
  go_wp2
  go_ret
  have hb : Below w.heap.size w (w.alloc (.cells #[.slice a len cap, .int .i64 0] 63)) := (Below.refl _ _).alloc (Nat.le_refl _) _
  refine ⟨rfl, ⟨0, ⟨by simp, by simp, by simp, by omega, hl, ?_, unhide HA⟩⟩, hb⟩
  exact (unhide H).only (q := ⟨w.heap.size, 0, none⟩) (OnlyAt.of_below hb) (fun x hx hz => ⟨unhide HA x hx hz, by have := unhide HA x hx hz; simp; omega⟩)

set_option maxHeartbeats 1000000 in
theorem off_calls (R : Nat) (a : Option Addr) (len cap : Nat) (zs : List Int) (lo hi : Int) (w : World) (h : Rd w R a len cap zs) (h1 : lo ≤ hi) (h2 : -100000 ≤ lo) (h3 : hi ≤ 1000000000000) :
    Calls Try.prog 23 #[.pointer (some ⟨R, 0, none⟩), .int .i64 lo, .int .i64 hi] w fun e w' => ∃ v : Int, e = .returned (.int .i64 v) ∧ -9223372036854775808 ≤ v ∧ v ≤ 9223372036854775807 ∧ Rd w' R a len cap zs ∧ OnlyAt ⟨R, 1, none⟩ w w' := by
  have H := hide h
  clear h
  go_enter Try.func23, Try.ntmps23
  go_wp2_with fail
  refine (once_calls R a len cap zs 24 _ (unhide H) (by omega) (by omega)).mono ?_
  rintro e w1 ⟨b, rfl, hR1, ho1⟩
  have HR1 := hide hR1
  clear hR1
  cases b with
  | false =>
    go_wp2_with fail
    refine (near_calls R a len cap zs lo hi _ (unhide HR1) h1 (by omega) (by omega)).mono ?_
    rintro e w2 ⟨v, rfl, hv0, hv1, hR2, ho2⟩
    have HR2 := hide hR2
    clear hR2
    go_wp2
    go_ret
    exact ⟨v, rfl, by omega, by omega, unhide HR2, ho1.trans ho2⟩
  | true =>
    go_wp2_with fail
    have hb1 : Below w1.heap.size w1 (w1.alloc (.cells #[.int .i64 (lo - 1), .int .i64 (hi + 1), .int .i64 (-9223372036854775808), .int .i64 9223372036854775807] 2)) := (Below.refl _ _).alloc (Nat.le_refl _) _
    have hlt := (unhide HR1).lt
    refine (below_calls R a len cap zs 4 _ ((unhide HR1).below hb1) (by omega) (by omega)).mono ?_
    rintro e w2 ⟨v, rfl, hv0, hv1, hR2, ho2⟩
    have HR2 := hide hR2
    have c0 : w2.cell? ⟨w1.heap.size, 0, none⟩ = some (.int .i64 (lo - 1)) := (ho2.cell ⟨w1.heap.size, 0, none⟩ (by simp) (by simp)).trans (by simp)
    have c1 : w2.cell? ⟨w1.heap.size, 1, none⟩ = some (.int .i64 (hi + 1)) := (ho2.cell ⟨w1.heap.size, 1, none⟩ (by simp) (by simp)).trans (by simp)
    have c2 : w2.cell? ⟨w1.heap.size, 2, none⟩ = some (.int .i64 (-9223372036854775808)) := (ho2.cell ⟨w1.heap.size, 2, none⟩ (by simp) (by simp)).trans (by simp)
    have c3 : w2.cell? ⟨w1.heap.size, 3, none⟩ = some (.int .i64 9223372036854775807) := (ho2.cell ⟨w1.heap.size, 3, none⟩ (by simp) (by simp)).trans (by simp)
    have hoo : OnlyAt ⟨R, 1, none⟩ w w2 := ho1.trans ((OnlyAt.of_below hb1).trans ho2)
    clear hR2 hb1 hlt ho2 ho1
    rcases (show v = 0 ∨ v = 1 ∨ v = 2 ∨ v = 3 from by omega) with rfl | rfl | rfl | rfl
    · go_wp2
      go_ret
      exact ⟨_, rfl, by omega, by omega, unhide HR2, hoo⟩
    · go_wp2
      go_ret
      exact ⟨_, rfl, by omega, by omega, unhide HR2, hoo⟩
    · go_wp2
      go_ret
      exact ⟨_, rfl, by omega, by omega, unhide HR2, hoo⟩
    · go_wp2
      go_ret
      exact ⟨_, rfl, by omega, by omega, unhide HR2, hoo⟩

end Go.Proofs.Ytnkjdojpegmlcaa

/- The text that DrawSum draws is short. -/
namespace Go.Proofs.Ytnkjdojpegmlcaa
open Go.RowKit Plain
set_option linter.unusedVariables false

theorem own_only {w w' : World} {B R : Nat} {v : Value} {xs : List Int} (h : OwnB w B v xs) (ho : OnlyAt ⟨R, 1, none⟩ w w') (hR : R < B) : OwnB w' B v xs := by
  rcases h with ⟨hl, h1 | ⟨g, cap, cur, rfl, hg, hb, hr⟩⟩
  · exact ⟨hl, .inl h1⟩
  · refine ⟨hl, .inr ⟨g, cap, cur, rfl, hg, ?_, hr⟩⟩
    have hlt : g < w.heap.size := by
      rcases Nat.lt_or_ge g w.heap.size with h | h
      · exact h
      · rw [Array.getElem?_eq_none h] at hb; cases hb
    rw [ho.block g hlt (by simp; omega)]
    exact hb

theorem Plain.Rd.onlyB {w w' : World} {R B : Nat} {a : Option Addr} {len cap : Nat} {zs : List Int} (h : Rd w R a len cap zs) (hb : Below B w w') (hR : R < B) : Rd w' R a len cap zs := by
  obtain ⟨p, h⟩ := h
  refine ⟨p, ⟨(hb.cell (p := ⟨R, 0, none⟩) hR).trans h.c0, (hb.cell (p := ⟨R, 1, none⟩) hR).trans h.c1, (hb.frozen (p := ⟨R, 1, none⟩) hR).trans h.fz, h.le, h.small, ?_, h.apart⟩⟩
  rcases h.row with hr | ⟨x, hx, h1, h2, h3, h4, h5⟩
  · exact .inl hr
  · refine .inr ⟨x, hx, h1, h2, h3, fun i hi => ?_, h5⟩
    have hbk : (x.add i).block = x.block := by unfold Addr.add; split <;> rfl
    rw [hb.cell (p := x.add i) (by rw [hbk]; have := h.apart x hx (by omega); omega)]
    exact h4 i hi

end Go.Proofs.Ytnkjdojpegmlcaa

/- What is drawn for numbers and texts is short; what is drawn as a number is one. -/
namespace Go.Proofs.Ytnkjdojpegmlcaa
open Go.RowKit Plain
set_option linter.unusedVariables false

namespace Plain
def dataL : List ByteArray := [⟨#[]⟩, ⟨#[97]⟩, ⟨#[98]⟩, ⟨#[97, 98, 99]⟩, ⟨#[108, 97, 121, 101, 114]⟩, ⟨#[99, 111, 110, 102, 105, 103]⟩, ⟨#[122, 122, 57]⟩, ⟨#[48]⟩]
def dataV : Array Value := (dataL.map Value.string).toArray
theorem dataV_get (k : Nat) (h : k < 8) : dataV[k]? = some (.string (dataL.getD k ByteArray.empty)) := by
  match k, h with
  | 0, _ => rfl
  | 1, _ => rfl
  | 2, _ => rfl
  | 3, _ => rfl
  | 4, _ => rfl
  | 5, _ => rfl
  | 6, _ => rfl
  | 7, _ => rfl
theorem data_size : ∀ k : Fin 8, (dataL.getD k.val ByteArray.empty).size ≤ 6 := by decide +kernel
def hiV : Array Value := #[.int .i64 200, .int .i64 20000, .int .i64 1000000000000]
theorem hiV_get (k : Nat) (h : k < 3) : ∃ x : Int, hiV[k]? = some (.int .i64 x) ∧ 0 ≤ x ∧ x ≤ 1000000000000 := by
  match k, h with
  | 0, _ => exact ⟨_, rfl, by omega, by omega⟩
  | 1, _ => exact ⟨_, rfl, by omega, by omega⟩
  | 2, _ => exact ⟨_, rfl, by omega, by omega⟩
end Plain

theorem data_calls (R : Nat) (a : Option Addr) (len cap : Nat) (zs : List Int) (w : World) (h : Rd w R a len cap zs) :
    Calls Try.prog 21 #[.pointer (some ⟨R, 0, none⟩)] w fun e w' => ∃ s : ByteArray, e = .returned (.string s) ∧ s.size ≤ 6 ∧ Rd w' R a len cap zs ∧ OnlyAt ⟨R, 1, none⟩ w w' := by
  have hlt := h.lt
  have hb1 : Below w.heap.size w (w.alloc (.cells dataV 9)) := (Below.refl _ _).alloc (Nat.le_refl _) _
  have H1 := hide (h.below hb1)
  clear h
  go_enter Try.func21, Try.ntmps21
  go_wp2_with fail
  refine (below_calls R a len cap zs 8 _ (unhide H1) (by omega) (by omega)).mono ?_
  rintro e w2 ⟨v, rfl, hv0, hv1, hR2, ho2⟩
  obtain ⟨K, rfl⟩ := Int.eq_ofNat_of_zero_le hv0
  have hK : K < 8 := by omega
  have hc : w2.cell? ⟨w.heap.size, K, none⟩ = some (.string (dataL.getD K ByteArray.empty)) := by
    rw [ho2.cell ⟨w.heap.size, K, none⟩ (by simp) (by simp)]
    exact (cell_of_row _ _ K dataV _ _ (h_new w _ rfl)).trans (dataV_get K hK)
  have hs := data_size ⟨K, hK⟩
  simp only at hs
  generalize dataL.getD K ByteArray.empty = s at hc hs
  have HR2 := hide hR2
  have hoo := hide ((OnlyAt.of_below (a := ⟨R, 1, none⟩) hb1).trans ho2)
  clear hR2 ho2 hb1
  go_wp2_with fail
  go_ret
  exact ⟨s, rfl, hs, unhide HR2, unhide hoo⟩



def zerosA (n : Nat) : Array Value := madeCells #[.int .u8 0] (n * 1)
theorem zerosA_get (n i : Nat) (h : i < n) : (zerosA n)[i]? = some (.int .u8 0) := by
  simp [zerosA, madeCells, h, Nat.mod_one]
theorem make_bytes (n : Nat) (w : World) (hn : n ≤ 30000) : (Instr.makeSlice 22 (.int .i64 n) (.int .i64 n)).run Try.prog w = .ok (.slice (some ⟨w.heap.size, 0, none⟩) n n) (w.alloc (.cells (zerosA n) 5)) := by
  obtain ⟨i0, hi, hz0, hz1, hz2⟩ := info_parts info5
  have := run_make w 22 5 i0 (.int .u8 0) Try.underlying22 hi hz0 .i64 .i64 n n (by omega) (by omega) (by rw [hz2]; omega) (by omega)
  rw [hz1] at this
  exact this

end Go.Proofs.Ytnkjdojpegmlcaa

/- How far a drawing has come. -/
namespace Go.Proofs.Ytnkjdojpegmlcaa
open Go.RowKit Plain
set_option linter.unusedVariables false

namespace Plain
theorem OnlyAt.c {R b i : Nat} {W W' : World} {v : Value} (ho : OnlyAt ⟨R, 1, none⟩ W W') (hc : W.cell? ⟨b, i, none⟩ = some v) (hb : b ≠ R) : W'.cell? ⟨b, i, none⟩ = some v :=
  (ho.cell ⟨b, i, none⟩ (lt_of_cell hc) (fun e => hb (congrArg Addr.block e))).trans hc
theorem OnlyAt.z {R b i : Nat} {W W' : World} (ho : OnlyAt ⟨R, 1, none⟩ W W') (hb : b < W.heap.size) (hf : W.frozen? ⟨b, i, none⟩ = false) : W'.frozen? ⟨b, i, none⟩ = false := (ho.frozen ⟨b, i, none⟩ hb).trans hf
theorem OnlyAt.setNew2 {a : Addr} {u v : World} (h : OnlyAt a u v) {q : Addr} (hq : u.heap.size ≤ q.block) (x : Value) : OnlyAt a u (v.setCell q x) :=
  ⟨h.os, h.tape, h.output, by simpa using h.size, fun k hk hne => (Below.heap_setCell _ _ _ _ (by omega)).trans (h.block k hk hne), fun c hc hne => (World.cell?_setCell_other v q c x (fun e => by subst e; omega)).trans (h.cell c hc hne), fun c hc => by simpa using h.frozen c hc⟩
/-- From w the drawing has come to W. -/
structure DS (w : World) (R : Nat) (a : Option Addr) (len cap : Nat) (zs : List Int) (W : World) : Prop where
  rd : Rd W R a len cap zs
  only : OnlyAt ⟨R, 1, none⟩ w W
theorem DS.start {w : World} {R : Nat} {a : Option Addr} {len cap : Nat} {zs : List Int} (h : Rd w R a len cap zs) : DS w R a len cap zs w := ⟨h, OnlyAt.refl _ _⟩
theorem DS.call {w W W' : World} {R : Nat} {a : Option Addr} {len cap : Nat} {zs : List Int} (h : DS w R a len cap zs W) (h1 : Rd W' R a len cap zs) (h2 : OnlyAt ⟨R, 1, none⟩ W W') : DS w R a len cap zs W' := ⟨h1, h.only.trans h2⟩
theorem DS.below {w W W' : World} {R : Nat} {a : Option Addr} {len cap : Nat} {zs : List Int} (h : DS w R a len cap zs W) (h2 : Below W.heap.size W W') : DS w R a len cap zs W' := ⟨h.rd.below h2, h.only.trans (OnlyAt.of_below h2)⟩
theorem DS.alloc {w W : World} {R : Nat} {a : Option Addr} {len cap : Nat} {zs : List Int} (h : DS w R a len cap zs W) (o : Obj) : DS w R a len cap zs (W.alloc o) := h.below ((Below.refl _ _).alloc (Nat.le_refl _) _)
theorem DS.set {w W : World} {R : Nat} {a : Option Addr} {len cap : Nat} {zs : List Int} (h : DS w R a len cap zs W) {b i : Nat} (hR : R < w.heap.size) (hb : w.heap.size ≤ b) (v : Value) : DS w R a len cap zs (W.setCell ⟨b, i, none⟩ v) :=
  ⟨h.rd.onlyB (B := b) ((Below.refl b W).setCell (Nat.le_refl _) _) (by omega), h.only.setNew2 (q := ⟨b, i, none⟩) hb v⟩
theorem DS.drewN {w W : World} {R : Nat} {a : Option Addr} {len cap : Nat} {zs : List Int} (h : DS w R a len cap zs W) (k : Nat) : DS w R a len cap zs (W.drewN k) :=
  ⟨by obtain ⟨p, hp⟩ := h.rd; exact ⟨p, hp.only ((OnlyAt.refl _ _).drewN k) hp.c1 hp.le⟩, h.only.drewN k⟩
theorem OnlyAt.thenBelow {a : Addr} {u v w : World} {B : Nat} (h : OnlyAt a u v) (hb : Below B v w) (hB : u.heap.size ≤ B) : OnlyAt a u w :=
  ⟨hb.os.trans h.os, hb.tape.trans h.tape, hb.output.trans h.output, Nat.le_trans h.size hb.size, fun k hk hne => (hb.block k (by omega)).trans (h.block k hk hne), fun c hc hne => (hb.cell (by omega)).trans (h.cell c hc hne), fun c hc => (hb.frozen (by omega)).trans (h.frozen c hc)⟩
theorem DS.belowB {w W W' : World} {R B : Nat} {a : Option Addr} {len cap : Nat} {zs : List Int} (h : DS w R a len cap zs W) (hb : Below B W W') (hR : R < B) (hB : w.heap.size ≤ B) : DS w R a len cap zs W' := ⟨h.rd.onlyB hb hR, h.only.thenBelow hb hB⟩
theorem DS.drew {w W : World} {R : Nat} {a : Option Addr} {len cap : Nat} {zs : List Int} (h : DS w R a len cap zs W) : DS w R a len cap zs W.drew := h.drewN 1
end Plain
end Go.Proofs.Ytnkjdojpegmlcaa


/- Texts and sizes, drawn of a code; lists of pieces, drawn of a code. -/
namespace Go.Proofs.Ytnkjdojpegmlcaa
open Go.RowKit Plain
set_option linter.unusedVariables false

namespace Plain
def pcV : Array Value := #[.int .i64 5, .int .i64 4000]
theorem pcV_get (k : Nat) (h : k < 2) : ∃ x : Int, pcV[k]? = some (.int .i64 x) ∧ 1 ≤ x ∧ x ≤ 1000000000000 := by
  match k, h with
  | 0, _ => exact ⟨_, rfl, by omega, by omega⟩
  | 1, _ => exact ⟨_, rfl, by omega, by omega⟩
end Plain

set_option maxRecDepth 10000 in
set_option maxHeartbeats 4000000 in
theorem DrawPieces_calls (a : Option Addr) (len cap : Nat) (zs : List Int) (w : World) (h : IsRow .u8 w a len cap zs) (hl : len ≤ 1048576) :
    Calls Try.prog 7 #[.slice a len cap] w fun e w' => ∃ (s : ByteArray) (n : Int), e = .returned (.tuple #[.string s, .int .i64 n]) ∧ s.size ≤ 30000 ∧ -9223372036854775808 ≤ n ∧ n ≤ 9223372036854775807 ∧ Below w.heap.size w w' := by
  have H := hide h
  clear h
  go_enter Try.func7, Try.ntmps7
  go_wp2_with fail
  refine (open_calls a len cap zs _ (unhide H) hl).mono ?_
  rintro e w1 ⟨rfl, hR1, hb1⟩
  have H1 := hide hR1
  have HB1 := hide hb1
  clear hR1 hb1 H
  go_wp2_with fail
  refine (below_calls w.heap.size a len cap zs 8 _ (unhide H1) (by omega) (by omega)).mono ?_
  rintro e w2 ⟨v, rfl, hv0, hv1, hR2, ho2⟩
  obtain ⟨K, rfl⟩ := Int.eq_ofNat_of_zero_le hv0
  have HR2 := hide hR2
  have HB2 := hide ((unhide HB1).trans (ho2.below (Nat.le_refl _) (unhide HB1).size))
  clear hR2 ho2 H1 HB1
  go_wp2_with fail
  go_loopw [5, 6] (fun s5 s6 wr => ∃ (s : ByteArray) (k : Nat), s5 = .string s ∧ s6 = .int .i64 k ∧ k ≤ 7 ∧ s.size + 6 * k ≤ 42 ∧ Hid (Rd wr w.heap.size a len cap zs) ∧ Hid (Below w.heap.size w wr)) (fun _ s6 _ => (intOf s6).toNat)
  case atStart => exact ⟨⟨#[]⟩, K, rfl, rfl, by omega, by simp [show (⟨#[]⟩ : ByteArray).size = 0 from rfl]; omega, HR2, HB2⟩
  case round =>
    obtain ⟨s, k, rfl, rfl, hk, hs, HRr, HBr⟩ := hrel
    by_cases hk0 : 0 < k
    · have hk1 : IntKind.i64.wrap ((k : Int) - 1) = ((k - 1 : Nat) : Int) := by rw [IntKind.wrap_i64]; omega
      have hsm : s.size + 6 ≤ 1000000 := by omega
      go_wp2_with fail
      refine (data_calls w.heap.size a len cap zs _ (unhide HRr)).mono ?_
      rintro e w3 ⟨x, rfl, hxs, hR3, ho3⟩
      have HR3 := hide hR3
      have HB3 := hide ((unhide HBr).trans (ho3.below (Nat.le_refl _) (unhide HBr).size))
      have hadd := strP_add (a := s) (b := x) w3 (by omega)
      have hz : (s ++ x).size + 6 * (k - 1) ≤ 42 := by rw [ByteArray.size_append]; omega
      clear hR3 ho3
      go_wp2_with fail
      go_roundw
      case rel => exact ⟨s ++ x, k - 1, rfl, by first | rfl | (rw [hk1]), by omega, hz, HR3, HB3⟩
      case measure => simp [intOf]; omega
    · have hk00 : k = 0 := by omega
      subst hk00
      go_wp2_with fail
      refine (once_calls w.heap.size a len cap zs 60 _ (unhide HRr) (by omega) (by omega)).mono ?_
      rintro e w4 ⟨b, rfl, hR4, ho4⟩
      have H4 := hide hR4
      have HB4 := hide ((unhide HBr).trans (ho4.below (Nat.le_refl _) (unhide HBr).size))
      clear hR4 ho4 HRr HBr HR2 HB2
      cases b with
      | true =>
        have hmk : (Instr.makeSlice 22 (.int .i64 20001) (.int .i64 20001)).run Try.prog w4 = .ok (.slice (some ⟨w4.heap.size, 0, none⟩) 20001 20001) (w4.alloc (.cells (zerosA 20001) 5)) := make_bytes 20001 w4 (by omega)
        have hcv : (convert 22 9 (.slice (some ⟨w4.heap.size, 0, none⟩) 20001 20001)).run Try.prog (w4.alloc (.cells (zerosA 20001) 5)) = .ok (.string (strOfNums (List.replicate 20001 0))) (w4.alloc (.cells (zerosA 20001) 5)) :=
          run_convert_bytes_arg _ _ _ Try.underlying22 Try.underlying5 w4.heap.size 0 20001 20001 (List.replicate 20001 0) (by rw [List.length_replicate]) (fun i hi => by
            rw [Nat.zero_add, cell_of_row _ _ i _ _ _ (h_new w4 _ rfl)]
            rw [zerosA_get 20001 i hi]
            rw [List.getD_eq_getElem?_getD, List.getElem?_replicate, if_pos hi]
            rfl) _ Try.underlying9
        have hzz : (strOfNums (List.replicate 20001 0)).size ≤ 30000 := by rw [strOfNums_size, List.length_replicate]; omega
        obtain ⟨w7, hw7⟩ : ∃ w7, w4.alloc (.cells (zerosA 20001) 5) = w7 := ⟨_, rfl⟩
        obtain ⟨S, hS⟩ : ∃ S, strOfNums (List.replicate 20001 0) = S := ⟨_, rfl⟩
        have hb7 : Below w4.heap.size w4 w7 := by rw [← hw7]; exact (Below.refl _ _).alloc (Nat.le_refl _) _
        have H7 := hide ((unhide H4).below hb7)
        have HB7 := hide ((unhide HB4).trans (hb7.mono (unhide HB4).size))
        rw [hw7] at hmk hcv
        rw [hS] at hcv hzz
        clear hb7 hw7 hS
        have hbv : Below w7.heap.size w7 (w7.alloc (.cells pcV 2)) := (Below.refl _ _).alloc (Nat.le_refl _) _
        have H5 := hide ((unhide H7).below hbv)
        have hlt5 := (unhide H7).lt
        go_wp2_with fail
        refine (below_calls w.heap.size a len cap zs 2 _ (unhide H5) (by omega) (by omega)).mono ?_
        rintro e w5 ⟨v, rfl, hv0, hv1, hR5, ho5⟩
        obtain ⟨K, rfl⟩ := Int.eq_ofNat_of_zero_le hv0
        obtain ⟨x, hx, hx0, hx1⟩ := pcV_get K (by omega)
        have hc : w5.cell? ⟨w7.heap.size, K, none⟩ = some (.int .i64 x) := by
          rw [ho5.cell ⟨w7.heap.size, K, none⟩ (by simp) (by simp)]
          exact (cell_of_row _ _ K pcV _ _ (h_new w7 _ rfl)).trans hx
        have HR5 := hide hR5
        have hoo := hide ((OnlyAt.of_below (a := ⟨w.heap.size, 1, none⟩) hbv).trans ho5)
        clear hR5 ho5 hbv hx
        go_wp2_with fail
        refine (off_calls w.heap.size a len cap zs 1 x _ (unhide HR5) hx0 (by omega) hx1).mono ?_
        rintro e w6 ⟨n, rfl, hn0, hn1, hR6, ho6⟩
        have hb6 := hide ((unhide HB7).trans (((unhide hoo).trans ho6).below (Nat.le_refl _) (unhide HB7).size))
        clear hR6 ho6
        go_wp2_with fail
        go_ret2
        exact ⟨_, n, rfl, hzz, hn0, hn1, unhide hb6⟩
      | false =>
        have hbv : Below w4.heap.size w4 (w4.alloc (.cells pcV 2)) := (Below.refl _ _).alloc (Nat.le_refl _) _
        have H5 := hide ((unhide H4).below hbv)
        have hlt5 := (unhide H4).lt
        go_wp2_with fail
        refine (below_calls w.heap.size a len cap zs 2 _ (unhide H5) (by omega) (by omega)).mono ?_
        rintro e w5 ⟨v, rfl, hv0, hv1, hR5, ho5⟩
        obtain ⟨K, rfl⟩ := Int.eq_ofNat_of_zero_le hv0
        obtain ⟨x, hx, hx0, hx1⟩ := pcV_get K (by omega)
        have hc : w5.cell? ⟨w4.heap.size, K, none⟩ = some (.int .i64 x) := by
          rw [ho5.cell ⟨w4.heap.size, K, none⟩ (by simp) (by simp)]
          exact (cell_of_row _ _ K pcV _ _ (h_new w4 _ rfl)).trans hx
        have HR5 := hide hR5
        have hoo := hide ((OnlyAt.of_below (a := ⟨w.heap.size, 1, none⟩) hbv).trans ho5)
        clear hR5 ho5 hbv hx
        go_wp2_with fail
        refine (off_calls w.heap.size a len cap zs 1 x _ (unhide HR5) hx0 (by omega) hx1).mono ?_
        rintro e w6 ⟨n, rfl, hn0, hn1, hR6, ho6⟩
        have hb6 := hide ((unhide HB4).trans (((unhide hoo).trans ho6).below (Nat.le_refl _) (unhide HB4).size))
        clear hR6 ho6
        go_wp2_with fail
        go_ret2
        exact ⟨_, n, rfl, by omega, hn0, hn1, unhide hb6⟩
end Go.Proofs.Ytnkjdojpegmlcaa


/- Lists of pieces, drawn of a code. -/
namespace Go.Proofs.Ytnkjdojpegmlcaa
open Go.RowKit Plain
set_option linter.unusedVariables false

/-- How a slice's address may be. -/
def Plain.AdQ (ad : Option Addr) (c : Nat) : Prop := (ad = none ∧ c = 0) ∨ ∃ g, ad = some ⟨g, 0, none⟩
theorem OwnR.adQ {α : Type} {e : Elem α} {W : World} {B : Nat} {ad : Option Addr} {n c : Nat} {xs : List α} (h : OwnR e W B (.slice ad n c) xs) : AdQ ad c := by
  rcases h.2 with ⟨e1, _⟩ | ⟨g, cap, cur, e1, _⟩
  · simp at e1; exact .inl ⟨e1.1, e1.2.2⟩
  · simp at e1; exact .inr ⟨g, e1.1⟩

theorem appGQ {α : Type} {e : Elem α} {ops : Array Oper} {rest : List Oper} {o : Oper} {a : Act} {Q : Exit → Act → World → Prop} (hgd : o.guard = none) (s x : Operand)
    (ho : o.op = .call { callee := .builtin .append, args := #[s, x], argTypes := #[e.S, e.S] })
    {w : World} {B : Nat} {v : Value} {xs ys : List α} (hown : OwnR e w B v xs) (hs : a.eval s = v) (ad : Option Addr) (m c : Nat) (hx : a.eval x = .slice ad m c) (hy : ys.length = m) (hr : RowAt e w ad ys) (had : AdQ ad c)
    (hlen : xs.length + m < 100000000) (hB : B ≤ w.heap.size)
    (h : ∀ v' w', OwnR e w' B v' (xs ++ ys) → Below B w w' → wpList Try.prog ops Q rest (a.put o.dst v') w') :
    wpList Try.prog ops Q (o :: rest) a w := by
  obtain ⟨i0, hi, hz0, hz1, hz2⟩ := info_parts e.hinfo
  subst hy
  rcases had with ⟨rfl, rfl⟩ | ⟨g, rfl⟩
  · have hys : ys = [] := by
      cases ys with
      | nil => rfl
      | cons y l => obtain ⟨g, e1, _⟩ := hr 0 (by simp); simp at e1
    subst hys
    refine wpList_plain hgd fun K hK => ?_
    have hrun := run_append_owned_none (P := Try.prog) w B e.S o.type e.E i0 e.n e.hund hi v xs.length (xs.flatMap e.enc) hown
    have hx2 : a.eval x = .slice none 0 0 := hx
    unfold Oper.wp execOp
    simp only [ho, resolve, invoke, builtin, Sem.run_bind, Sem.run_pure, Result.andThen_ok, List.map_toArray, List.map_cons, List.map_nil, hs, hx2, hrun]
    exact hK _ _ (h v w (by rw [List.append_nil]; exact hown) (Below.refl _ _))
  · have hby := e.hb
    refine wpList_append_own _ hgd s x e.S ho B e.E i0 e.zero e.n e.bytes e.hund hi hz0 hz1 hz2 e.hz e.hn v xs.length (xs.flatMap e.enc) hs hown
      ⟨g, 0, none⟩ ys.length c (ys.flatMap e.enc) hx (flat_len e.enc e.n e.hlen ys) ?_ ?_ (by unfold maxLen; omega) ?_ hB ?_
    · intro j u hj
      have hjl : j < ys.length * e.n := by
        have := (List.getElem?_eq_some_iff.1 hj).1
        rw [flat_len e.enc e.n e.hlen] at this
        exact this
      have hn := e.hn
      have hq : j / e.n < ys.length := Nat.div_lt_of_lt_mul (by rw [Nat.mul_comm]; exact hjl)
      have hm : j % e.n < e.n := Nat.mod_lt _ hn
      have hd : j / e.n * e.n + j % e.n = j := by rw [Nat.mul_comm]; exact Nat.div_add_mod j e.n
      obtain ⟨g', e1, hl, hc⟩ := hr (j / e.n) hq
      cases e1
      have h1 := (hc (j % e.n) hm).1
      rw [hd] at h1
      have h2 := flat_get e.enc e.n e.hlen ys (j / e.n) (j % e.n) hq hm
      rw [hd] at h2
      rw [show (⟨g, 0, none⟩ : Addr).add j = ⟨g, j, none⟩ from by unfold Addr.add; split <;> simp_all, h1, ← h2]
      exact hj
    · intro u hu
      obtain ⟨y, _, hy⟩ := List.mem_flatMap.1 hu
      exact e.hone y u hy
    · exact Nat.le_trans (Nat.mul_le_mul_left _ hby) (by omega)
    · intro v' w' h1 h2 _
      refine h v' w' ?_ (own_below hown h2 hB)
      unfold OwnR
      rw [List.flatMap_append, List.length_append]
      exact h1

theorem OwnR.onlQ {α : Type} {e : Elem α} {W w' : World} {B : Nat} {v : Value} {xs : List α} {q : Addr} (h : OwnR e W B v xs) (ho : OnlyAt q W w') (hq : q.block < B) : OwnR e w' B v xs := by
  refine ⟨h.1, ?_⟩
  rcases h.2 with ⟨a, c⟩ | ⟨g, cap, cur, rfl, c, d, r⟩
  · exact .inl ⟨a, c⟩
  · have hg : g < W.heap.size := (World.ownsRow.lt h g rfl).2
    exact .inr ⟨g, cap, cur, rfl, c, (ho.block g hg (by omega)).trans d, r⟩

theorem OwnR.cutQ {W : World} {B g n m cap : Nat} {xs : List ByteArray} (h : OwnR strE W B (.slice (some ⟨g, 0, none⟩) n cap) xs) (hn : xs.length = n) (hm : m ≤ n) : OwnR strE W B (.slice (some ⟨g, 0, none⟩) m cap) (xs.take m) := by
  subst hn
  unfold OwnR at h ⊢
  rw [flat_str] at h ⊢
  rcases h.2 with ⟨e, _⟩ | ⟨g', cap', cur, e, hb, hc, h1, h2, h3, h4⟩
  · simp at e
  · simp only [Value.slice.injEq, Option.some.injEq, Addr.mk.injEq, and_true, true_and] at e
    obtain ⟨rfl, rfl⟩ := e
    have hl : (xs.take m).length = m := by rw [List.length_take]; omega
    have hs : strE.n = 1 := rfl
    refine ⟨by rw [List.length_map, hl, hs, Nat.mul_one], .inr ⟨g, cap, cur, by rw [hl], hb, hc, by omega, h2, h3, ?_⟩⟩
    rw [hl, List.map_take, ← h4, hs, Nat.mul_one, Nat.mul_one, List.take_take, Nat.min_eq_left hm]

theorem stepQs {ops : Array Oper} {o : Oper} {a : Act} {K : Act → World → Prop} {Q : Exit → Act → World → Prop} {F : Prop} (hgd : o.guard = none) (s x : Operand)
    (ho : o.op = .call { callee := .builtin .append, args := #[s, x], argTypes := #[26, 26] })
    {w : World} {B : Nat} {v : Value} {xs ys : List ByteArray} (hown : OwnR strE w B v xs) (hs : a.eval s = v) (ad : Option Addr) (m c : Nat) (hx : a.eval x = .slice ad m c) (hy : ys.length = m) (hr : StrsAt w ad ys) (had : ∃ g o, ad = some ⟨g, o, none⟩)
    (hlen : xs.length + m < 100000000) (hB : B ≤ w.heap.size)
    (h : ∀ v' w', OwnR strE w' B v' (xs ++ ys) → w.grownBy w' v.ownBlock → K (a.put o.dst v') w') :
    if Region.wanted o (yielded ops a.tmps) = true then Oper.wp Try.prog o a w K Q else F := by
  rw [if_pos (by simp [Region.wanted, hgd])]
  obtain ⟨i0, hi, hz0, hz1, hz2⟩ := info_parts strE.hinfo
  subst hy
  obtain ⟨gx, ox, rfl⟩ := had
  refine wp_append_own _ s x 26 ho B 9 i0 strE.zero 1 16 Try.underlying26 hi hz0 hz1 hz2 rfl (by decide) v xs.length (xs.flatMap strE.enc) hs hown
    ⟨gx, ox, none⟩ ys.length c (ys.map Value.string) hx (by rw [List.length_map, Nat.mul_one]) ?_ ?_ (by unfold maxLen; omega) (by omega) hB ?_
  · intro j u hj
    rw [List.getElem?_map] at hj
    obtain ⟨y, hy, rfl⟩ := Option.map_eq_some_iff.1 hj
    obtain ⟨hj2, rfl⟩ := List.getElem?_eq_some_iff.1 hy
    obtain ⟨g', o', e, hl, hc⟩ := hr j hj2
    cases e
    rw [show (⟨gx, ox, none⟩ : Addr).add j = ⟨gx, ox + j, none⟩ from by unfold Addr.add; split <;> simp_all]
    exact hc
  · intro u hu
    obtain ⟨y, _, rfl⟩ := List.mem_map.1 hu
    rfl
  · intro v' w' h1 h2 _
    refine h v' w' ?_ h2
    unfold OwnR
    rw [List.flatMap_append, List.length_append, flat_str ys]
    exact h1

namespace Plain
theorem frameB_le (k : Int) (b : ByteArray) : (frameB k b).size ≤ 20009 := by
  unfold frameB
  split
  · rename_i h
    rw [ByteArray.size_append, seal_size, four_size]
    omega
  · exact Nat.zero_le _
theorem pcR_in (t : ByteArray) (n : Nat) (hn : 1 ≤ n) (hn2 : n ≤ 4000) (ht : t.size ≤ 20000) : pcR t (n : Int) = (pcL t n (pcN t n), true) := by
  unfold pcR
  rw [if_pos (by omega), Int.toNat_natCast]
theorem pcL_small (t : ByteArray) (n k : Nat) : ∀ s ∈ pcL t n k, s.size ≤ 20009 := by
  intro s hs
  unfold pcL at hs
  obtain ⟨i, _, rfl⟩ := List.mem_map.1 hs
  exact frameB_le _ _
/-- What DrawWhole leaves. -/
def DwPost (w : World) (e : Ending) (w' : World) : Prop := ∃ (ao : Option Addr) (q c : Nat) (os : List ByteArray), e = .returned (.slice ao q c) ∧ os.length = q ∧ q ≤ 30000 ∧ (∀ s ∈ os, s.size ≤ 30000) ∧ StrsAt w' ao os ∧ Below w.heap.size w w'
theorem dw_end {w wp W : World} {a : Option Addr} {len cap : Nat} {zs : List Int} {ao : Option Addr} {q c : Nat} {os : List ByteArray} (hb : Below w.heap.size w wp) (hD : DS wp w.heap.size a len cap zs W) (hO : OwnR strE W wp.heap.size (.slice ao q c) os) (hq : os.length = q) (hq2 : q ≤ 30000) (hs : ∀ s ∈ os, s.size ≤ 30000) : DwPost w (.returned (.slice ao q c)) W :=
  ⟨ao, q, c, os, rfl, hq, hq2, hs, hO.at.strs, hb.trans (hD.only.below (Nat.le_refl _) hb.size)⟩
theorem ls_set {os : List ByteArray} {q M : Nat} (h : os.length = q ∧ ∀ s ∈ os, s.size ≤ M) (i : Nat) {y : ByteArray} (hy : y.size ≤ M) : (os.set i y).length = q ∧ ∀ s ∈ os.set i y, s.size ≤ M := ⟨by rw [List.length_set]; exact h.1, fun s hs => by
  rcases List.mem_or_eq_of_mem_set hs with k | k
  · exact h.2 s k
  · rw [k]; exact hy⟩
theorem ls_del {os : List ByteArray} {q M i : Nat} (h : os.length = q ∧ ∀ s ∈ os, s.size ≤ M) (hi : i < q) : (os.take i ++ os.drop (i + 1)).length = q - 1 ∧ ∀ s ∈ os.take i ++ os.drop (i + 1), s.size ≤ M := ⟨by rw [List.length_append, List.length_take, List.length_drop, h.1]; omega, fun s hs => by
  rcases List.mem_append.1 hs with k | k
  · exact h.2 s (List.mem_of_mem_take k)
  · exact h.2 s (List.mem_of_mem_drop k)⟩
end Plain
theorem pcs_draw (s : ByteArray) (n : Nat) (hn : 1 ≤ n) (hn2 : n ≤ 4000) (hs : s.size ≤ 20000) : ∃ (ls : List ByteArray) (m : Nat), Hid (∀ W : World, Calls Try.prog 8 #[.string s, .int .i64 (n : Int)] W (PcPost (ls, true) W)) ∧ Hid (ls.length = m ∧ ∀ x ∈ ls, x.size ≤ 20009) ∧ m ≤ 20000 ∧ (0 < s.size → 0 < m) := by
  refine ⟨pcL s n (pcN s n), pcN s n, hide (fun W => ?_), hide ⟨pcL_len _ _ _, pcL_small _ _ _⟩, pcN_le s n hn hs, fun h => (pcN_lt s n 0 hn).2 (by omega)⟩
  have := spec_Pieces s (n : Int) W (by omega)
  rw [pcR_in s n hn hn2 hs] at this
  exact this

set_option maxRecDepth 10000 in
set_option maxHeartbeats 8000000 in
theorem DrawWhole_calls (a : Option Addr) (len cap : Nat) (zs : List Int) (w : World) (h : IsRow .u8 w a len cap zs) (hl : len ≤ 1048576) :
    Calls Try.prog 12 #[.slice a len cap] w (DwPost w) := by
  have H := hide h
  clear h
  go_enter Try.func12, Try.ntmps12
  go_wp2_with fail
  refine (open_calls a len cap zs _ (unhide H) hl).mono ?_
  rintro e w1 ⟨rfl, hR1, hb1⟩
  have H1 := hide hR1
  have HB1 := hide hb1
  clear hR1 hb1 H
  go_wp2_with fail
  refine (below_calls w.heap.size a len cap zs 6 _ (unhide H1) (by omega) (by omega)).mono ?_
  rintro e w2 ⟨v, rfl, hv0, hv1, hR2, ho2⟩
  obtain ⟨K, rfl⟩ := Int.eq_ofNat_of_zero_le hv0
  have HR2 := hide hR2
  have HB2 := hide ((unhide HB1).trans (ho2.below (Nat.le_refl _) (unhide HB1).size))
  clear hR2 ho2 H1 HB1
  go_wp2_with fail
  go_loopw [4, 5] (fun s5 s6 wr => ∃ (s : ByteArray) (k : Nat), s5 = .string s ∧ s6 = .int .i64 k ∧ k ≤ 5 ∧ s.size + 6 * k ≤ 30 ∧ Hid (Rd wr w.heap.size a len cap zs) ∧ Hid (Below w.heap.size w wr)) (fun _ s6 _ => (intOf s6).toNat)
  case atStart => exact ⟨⟨#[]⟩, K, rfl, rfl, by omega, by simp [show (⟨#[]⟩ : ByteArray).size = 0 from rfl]; omega, HR2, HB2⟩
  case round =>
    obtain ⟨s, k, rfl, rfl, hk, hs, HRr, HBr⟩ := hrel
    by_cases hk0 : 0 < k
    · have hk1 : IntKind.i64.wrap ((k : Int) - 1) = ((k - 1 : Nat) : Int) := by rw [IntKind.wrap_i64]; omega
      have hsm : s.size + 6 ≤ 1000000 := by omega
      go_wp2_with fail
      refine (data_calls w.heap.size a len cap zs _ (unhide HRr)).mono ?_
      rintro e w3 ⟨x, rfl, hxs, hR3, ho3⟩
      have HR3 := hide hR3
      have HB3 := hide ((unhide HBr).trans (ho3.below (Nat.le_refl _) (unhide HBr).size))
      have hadd := strP_add (a := s) (b := x) w3 (by omega)
      have hz : (s ++ x).size + 6 * (k - 1) ≤ 30 := by rw [ByteArray.size_append]; omega
      clear hR3 ho3
      go_wp2_with fail
      go_roundw
      case rel => exact ⟨s ++ x, k - 1, rfl, by first | rfl | (rw [hk1]), by omega, hz, HR3, HB3⟩
      case measure => simp [intOf]; omega
    · have hk00 : k = 0 := by omega
      subst hk00
      go_wp2_with fail
      refine (below_calls w.heap.size a len cap zs 5 _ (unhide HRr) (by omega) (by omega)).mono ?_
      rintro e w4 ⟨v, rfl, hv0, hv1, hR4, ho4⟩
      obtain ⟨m0, hm0⟩ : ∃ m0 : Nat, (m0 : Int) = 1 + v := ⟨(1 + v).toNat, by omega⟩
      have hm1 : IntKind.i64.wrap (1 + v) = (m0 : Int) := by rw [IntKind.wrap_i64]; omega
      have H4 := hide hR4
      have HB4 := hide ((unhide HBr).trans (ho4.below (Nat.le_refl _) (unhide HBr).size))
      have hlt4 := hR4.lt
      have hs30 : s.size ≤ 30 := by omega
      clear hR4 ho4 HRr HBr HR2 HB2 hs hk
      obtain ⟨ls, m, HSP, HLS, hN, -⟩ := pcs_draw s m0 (by omega) (by omega) (by omega)
      rw [hm0] at HSP
      clear hm1
      go_wp2_with fail
      refine (unhide HSP _).mono ?_
      rintro e wp ⟨vp, rfl, hOp, hbp⟩
      clear HSP
      obtain ⟨ap, cp, e4⟩ := hOp.form
      rw [(unhide HLS).1] at e4
      subst e4
      have HRp := hide ((unhide H4).below hbp)
      have HBp := hide ((unhide HB4).trans (hbp.mono (unhide HB4).size))
      have hltp : w.heap.size < wp.heap.size := Nat.lt_of_lt_of_le hlt4 hbp.size
      have HPr := hide (fun (W : World) (hW : DS wp w.heap.size a len cap zs W) (j : Nat) (hj : j < ls.length) => show ∃ g, ap = some ⟨g, 0, none⟩ ∧ g < W.heap.size ∧ W.cell? ⟨g, j, none⟩ = some (.string ls[j]) from by
        obtain ⟨g, e1, l1, c1, f1⟩ := hOp.at.str j hj
        subst e1
        have hg := (World.ownsRow.lt hOp g rfl).1
        exact ⟨g, rfl, Nat.lt_of_lt_of_le l1 hW.only.size, OnlyAt.c hW.only c1 (by omega)⟩)
      have HPa := hide hOp.at
      have HAD := hide hOp.adQ
      have HE := hide (ownR_empty strE wp wp.heap.size (Nat.le_refl _))
      have HBE := hide (bel1 wp (.cells #[] 9))
      have HPb := hide (hOp.at.below (unhide HBE))
      clear hbp hOp H4 HB4 hm0
      go_wp2_with (at_builtin; go_must (refine appGQ (e := strE) rfl _ _ rfl (unhide HE) rfl ap m cp rfl (unhide HLS).1 (unhide HPb) (unhide HAD) (by simp; omega) (by simp) ?_); intro vo w5 hown5 hb5)
      have HB5 := hide (Below.trans ((unhide HBE).mono (Nat.le_refl _)) hb5)
      have HD5 := hide ((DS.start (unhide HRp)).below (unhide HB5))
      obtain ⟨ao, co, e5⟩ := hown5.form
      rw [List.nil_append, (unhide HLS).1] at e5
      subst e5
      rw [List.nil_append] at hown5
      have HO5 := hide hown5
      clear hown5 hb5 HB5 HE HBE HPb HAD HPa
      go_wp2_with fail
      refine (below_calls w.heap.size a len cap zs 4 _ (unhide HD5).rd (by omega) (by omega)).mono ?_
      rintro e w6 ⟨v, rfl, hv0, hv1, hR6, ho6⟩
      obtain ⟨K2, rfl⟩ := Int.eq_ofNat_of_zero_le hv0
      have HD6 := hide ((unhide HD5).call hR6 ho6)
      have HO6 := hide ((unhide HO5).onlQ ho6 (by simp; omega))
      clear hR6 ho6 HD5 HO5
      go_wp2_with fail
      go_loopw [8, 9] (fun s8 s9 wr => ∃ (os : List ByteArray) (k q c : Nat) (ao : Option Addr), s8 = .slice ao q c ∧ s9 = .int .i64 k ∧ k ≤ 3 ∧ m ≤ q ∧ q + k ≤ 20010 ∧ Hid (os.length = q ∧ ∀ s ∈ os, s.size ≤ 20009) ∧ Hid (OwnR strE wr wp.heap.size (.slice ao q c) os) ∧ Hid (DS wp w.heap.size a len cap zs wr)) (fun _ s9 _ => (intOf s9).toNat)
      case atStart => exact ⟨ls, K2, m, co, ao, rfl, rfl, by omega, Nat.le_refl _, by omega, HLS, HO6, HD6⟩
      case round =>
        clear HO6 HD6 HRp
        obtain ⟨os, k, q, c, ao2, rfl, rfl, hk3, hmq, hqk, HP, HO, HD⟩ := hrel
        by_cases hk0 : 0 < k
        · by_cases hmp : 0 < m
          · obtain ⟨g, c', e7, -, -⟩ := World.ownsRow.form (unhide HO) (by rw [(unhide HP).1]; omega)
            obtain rfl : ao2 = some ⟨g, 0, none⟩ := by simpa using (Value.slice.inj e7).1
            clear e7 c'
            have hk1 : IntKind.i64.wrap ((k : Int) - 1) = ((k - 1 : Nat) : Int) := by rw [IntKind.wrap_i64]; omega
            go_wp2_with fail
            refine (below_calls w.heap.size a len cap zs q _ (unhide HD).rd (by omega) (by omega)).mono ?_
            rintro e w7 ⟨v, rfl, hi0, hi1, hR7, ho7⟩
            obtain ⟨I, rfl⟩ := Int.eq_ofNat_of_zero_le hi0
            have HD7 := hide ((unhide HD).call hR7 ho7)
            have HO7 := hide ((unhide HO).onlQ ho7 (by simp; omega))
            clear hR7 ho7 HD HO
            go_wp2_with fail
            refine (below_calls w.heap.size a len cap zs q _ (unhide HD7).rd (by omega) (by omega)).mono ?_
            rintro e w8 ⟨v, rfl, hj0, hj1, hR8, ho8⟩
            obtain ⟨J, rfl⟩ := Int.eq_ofNat_of_zero_le hj0
            have HD8 := hide ((unhide HD7).call hR8 ho8)
            have HO8 := hide ((unhide HO7).onlQ ho8 (by simp; omega))
            clear hR8 ho8 HD7 HO7
            have hg := (World.ownsRow.lt (unhide HO8) g rfl).1
            obtain ⟨g1, e1, l1, r1, f1⟩ := (unhide HO8).at.str I (by rw [(unhide HP).1]; omega)
            obtain rfl : g = g1 := by simpa using e1
            have hx := (unhide HP).2 (os[I]'(by rw [(unhide HP).1]; omega)) (by simp)
            generalize os[I]'(by rw [(unhide HP).1]; omega) = x at r1 hx
            obtain ⟨g2, e2, l2, r2, f2⟩ := (unhide HO8).at.str J (by rw [(unhide HP).1]; omega)
            obtain rfl : g = g2 := by simpa using e2
            have hy := (unhide HP).2 (os[J]'(by rw [(unhide HP).1]; omega)) (by simp)
            generalize os[J]'(by rw [(unhide HP).1]; omega) = y at r2 hy
            have HO9 := hide ((unhide HO8).setS (k := I) (unhide HP).1 y)
            have HP9 := hide (ls_set (unhide HP) I hy)
            have HD9 := hide ((unhide HD8).set (b := g) (i := I) hltp hg (.string y))
            generalize os.set I y = os2 at HO9 HP9
            obtain ⟨g3, e3, l3, r3, f3⟩ := (unhide HO9).at.str J (by rw [(unhide HP9).1]; omega)
            obtain rfl : g = g3 := by simpa using e3
            have HO10 := hide ((unhide HO9).setS (k := J) (unhide HP9).1 x)
            have HP10 := hide (ls_set (unhide HP9) J hx)
            have HD10 := hide ((unhide HD9).set (b := g) (i := J) hltp hg (.string x))
            generalize os2.set J x = os3 at HO10 HP10
            generalize os2[J]'(by rw [(unhide HP9).1]; omega) = y3 at r3
            clear e1 e2 e3 HO8 HD8 HO9 HD9 HP9 HP
            go_wp2_with fail
            refine (below_calls w.heap.size a len cap zs m _ (unhide HD10).rd (by omega) (by omega)).mono ?_
            rintro e w11 ⟨v, rfl, ht0, ht1, hR11, ho11⟩
            obtain ⟨T, rfl⟩ := Int.eq_ofNat_of_zero_le ht0
            have HD11 := hide ((unhide HD10).call hR11 ho11)
            have HO11 := hide ((unhide HO10).onlQ ho11 (by simp; omega))
            obtain ⟨gp, ep, lp, rp⟩ := unhide HPr w11 (unhide HD11) T (by rw [(unhide HLS).1]; omega)
            subst ep
            have hz := (unhide HLS).2 (ls[T]'(by rw [(unhide HLS).1]; omega)) (by simp)
            generalize ls[T]'(by rw [(unhide HLS).1]; omega) = z at rp hz
            have hlen : os3.length < 100000000 := by rw [(unhide HP10).1]; omega
            have hzz : wp.heap.size ≤ w11.heap.size := (unhide HD11).only.size
            clear hR11 ho11 HD10 HO10 r1 r2 r3 f1 f2 f3 l1 l2 l3
            go_wp2_with (at_builtin; go_must (refine appR (e := strE) rfl _ _ rfl (unhide HO11) rfl z rfl _ rfl rfl hlen hzz ?_); intro v' w12 hown12 hb12 hg12)
            obtain ⟨a12, c12, e12⟩ := hown12.form
            subst e12
            have HO12 := hide hown12
            have HD12 := hide ((unhide HD11).belowB hb12 hltp (Nat.le_refl _))
            have HP12 := hide (show (os3 ++ [z]).length = q + 1 ∧ ∀ s ∈ os3 ++ [z], s.size ≤ 20009 from ⟨by rw [List.length_append, (unhide HP10).1]; rfl, fun s hs => by
              rcases List.mem_append.1 hs with k | k
              · exact (unhide HP10).2 s k
              · rw [List.mem_singleton.1 k]; exact hz⟩)
            generalize os3 ++ [z] = os4 at HO12 HP12
            rw [(unhide HP12).1] at HO12 ⊢
            clear hown12 hb12 hg12
            go_roundw
            case rel => exact ⟨os4, k - 1, q + 1, c12, a12, rfl, by first | rfl | (rw [hk1]), by omega, by omega, by omega, HP12, HO12, HD12⟩
            case measure => simp [intOf]; omega
          · have hm00 : ¬ (0 : Int) < (m : Int) := by omega
            by_cases hq0 : q = 0
            · subst hq0
              go_wp2_with fail
              go_ret
              exact dw_end (unhide HBp) (unhide HD) (unhide HO) (unhide HP).1 (by omega) (fun s hs => by have := (unhide HP).2 s hs; omega)
            · have hq1 : 0 < q := by omega
              obtain ⟨g, c', e7, -, -⟩ := World.ownsRow.form (unhide HO) (by rw [(unhide HP).1]; omega)
              obtain rfl : ao2 = some ⟨g, 0, none⟩ := by simpa using (Value.slice.inj e7).1
              clear e7 c'
              go_wp2_with fail
              refine (below_calls w.heap.size a len cap zs q _ (unhide HD).rd (by omega) (by omega)).mono ?_
              rintro e w7 ⟨v, rfl, hi0, hi1, hR7, ho7⟩
              obtain ⟨I, rfl⟩ := Int.eq_ofNat_of_zero_le hi0
              have HD7 := hide ((unhide HD).call hR7 ho7)
              have HO7 := hide ((unhide HO).onlQ ho7 (by simp; omega))
              clear hR7 ho7 HD HO
              go_wp2_with fail
              refine (below_calls w.heap.size a len cap zs 10 _ (unhide HD7).rd (by omega) (by omega)).mono ?_
              rintro e w8 ⟨u, rfl, hu0, hu1, hR8, ho8⟩
              have HD8 := hide ((unhide HD7).call hR8 ho8)
              have HO8 := hide ((unhide HO7).onlQ ho8 (by simp; omega))
              clear hR8 ho8 HD7 HO7
              have hg := (World.ownsRow.lt (unhide HO8) g rfl).1
              have hg2 := (World.ownsRow.lt (unhide HO8) g rfl).2
              obtain ⟨g1, e1, l1, r1, f1⟩ := (unhide HO8).at.str I (by rw [(unhide HP).1]; omega)
              obtain rfl : g = g1 := by simpa using e1
              have hx := (unhide HP).2 (os[I]'(by rw [(unhide HP).1]; omega)) (by simp)
              generalize os[I]'(by rw [(unhide HP).1]; omega) = x at r1 hx
              have hzz : wp.heap.size ≤ w8.heap.size := (unhide HD8).only.size
              by_cases c0 : u = 0
              · subst c0
                have hcl : q ≤ c ∧ c ≤ 9223372036854775807 := by
                  rcases (unhide HO8).2 with ⟨e, _⟩ | ⟨g', cap', cur, e, hb, hc, h1, h2, h3, h4⟩
                  · simp at e
                  · simp only [Value.slice.injEq, Option.some.injEq, Addr.mk.injEq, and_true] at e
                    obtain ⟨-, -, rfl⟩ := e
                    rw [(unhide HP).1] at h1
                    exact ⟨h1, h2⟩
                obtain ⟨AD, hAD, hAD2⟩ : ∃ AD, (if c = I + 1 then some (⟨g, 0, none⟩ : Addr) else some ⟨g, I + 1, none⟩) = AD ∧ (AD = some ⟨g, 0, none⟩ ∧ q = I + 1 ∨ AD = some ⟨g, I + 1, none⟩) := by
                  by_cases h : c = I + 1
                  · exact ⟨_, if_pos h, .inl ⟨rfl, by omega⟩⟩
                  · exact ⟨_, if_neg h, .inr rfl⟩
                have HTL := hide (show StrsAt w8 AD (os.drop (I + 1)) from by
                  intro i hi
                  rw [List.length_drop, (unhide HP).1] at hi
                  rcases hAD2 with ⟨_, h⟩ | h
                  · omega
                  · obtain ⟨g', o', e', l', p'⟩ := (unhide HO8).at.strs (I + 1 + i) (by rw [(unhide HP).1]; omega)
                    cases e'
                    refine ⟨g, I + 1, h, l', ?_⟩
                    rw [List.getElem_drop]
                    rw [Nat.zero_add] at p'
                    exact p')
                have HADS := hide (show ∃ g o, AD = some ⟨g, o, none⟩ from by rcases hAD2 with ⟨h, _⟩ | h; exact ⟨_, _, h⟩; exact ⟨_, _, h⟩)
                have HCU := hide ((unhide HO8).cutQ (m := I) (unhide HP).1 (by omega))
                have HL2 := hide (show (os.drop (I + 1)).length = q - (I + 1) from by rw [List.length_drop, (unhide HP).1])
                have HL1 := hide (show (os.take I).length + (q - (I + 1)) < 100000000 from by rw [List.length_take, (unhide HP).1]; omega)
                have HPd := hide (ls_del (unhide HP) (show I < q by omega))
                have hi1w : IntKind.i64.wrap ((I : Int) + 1) = ((I + 1 : Nat) : Int) := by rw [IntKind.wrap_i64]; omega
                have j1 : (I : Int) ≤ (c : Int) := by omega
                have j0 : 0 ≤ (I : Int) + 1 := by omega
                have j3 : (I : Int) + 1 ≤ (q : Int) := by omega
                have j2 : ((I + 1 : Nat) : Int) ≤ (q : Int) := by omega
                clear hAD2 r1 f1 l1 e1
                go_wp2_with fail
                go_region_law (first
                  | (refine stepQs rfl (.tmp 96) (.tmp 100) rfl ((unhide HCU).drewN 1) (by simp [Act.eval, Act.put]) AD (q - (I + 1)) (c - (I + 1)) (by simp [Act.eval, Act.put]) (unhide HL2) (unhide HTL) (unhide HADS) (unhide HL1) hzz ?_; intro v' w9 hown9 hgr9; obtain ⟨a9, c9, e9⟩ := hown9.form; rw [(unhide HPd).1] at e9; subst e9; have HD9 := hide ((unhide HD8).drew.belowB (own_below ((unhide HCU).drewN 1) hgr9 hzz) hltp (Nat.le_refl _)); have HO9 := hide hown9))
                all_goals (try go_wp2_with fail)
                all_goals go_ret
                all_goals exact dw_end (unhide HBp) (unhide HD9) (unhide HO9) (unhide HPd).1 (by omega) (fun s hs => by have := (unhide HPd).2 s hs; omega)
              · have b0 : (u == 0) = false := by simpa using c0
                by_cases c1 : u = 1
                · subst c1
                  have hadd := strP_add (a := x) (b := ⟨#[120]⟩) w8 (by simp [show (⟨#[120]⟩ : ByteArray).size = 1 from rfl]; omega)
                  have hxx : (x ++ ⟨#[120]⟩).size ≤ 20010 := by rw [ByteArray.size_append, show (⟨#[120]⟩ : ByteArray).size = 1 from rfl]; omega
                  have HP8 := hide (show os.length = q ∧ ∀ s ∈ os, s.size ≤ 20010 from ⟨(unhide HP).1, fun s hs => Nat.le_succ_of_le ((unhide HP).2 s hs)⟩)
                  have HO9 := hide ((unhide HO8).setS (k := I) (unhide HP).1 (x ++ ⟨#[120]⟩))
                  have HP9 := hide (ls_set (unhide HP8) I hxx)
                  have HD9 := hide ((unhide HD8).set (b := g) (i := I) hltp hg (.string (x ++ ⟨#[120]⟩)))
                  clear HO8 HD8 HP HP8
                  go_wp2_with fail
                  go_ret
                  exact dw_end (unhide HBp) (unhide HD9) (unhide HO9) (unhide HP9).1 (by omega) (fun s hs => by have := (unhide HP9).2 s hs; omega)
                · have b1 : (u == 1) = false := by simpa using c1
                  by_cases c2 : u = 2
                  · subst c2
                    have hadd := strP_add (a := s) (b := ⟨#[122]⟩) w8 (by simp [show (⟨#[122]⟩ : ByteArray).size = 1 from rfl]; omega)
                    have hss : (s ++ ⟨#[122]⟩).size = s.size + 1 := by rw [ByteArray.size_append]; rfl
                    generalize s ++ ⟨#[122]⟩ = t at hadd hss
                    clear r1 f1 l1 e1
                    obtain ⟨ls3, m3, HSP, HL9, hN3, hn0⟩ := pcs_draw t 3 (by omega) (by omega) (by omega)
                    have hn0 := hn0 (by omega)
                    rw [show ((3 : Nat) : Int) = 3 from rfl] at HSP
                    go_wp2_with fail
                    refine (unhide HSP _).mono ?_
                    rintro e w9 ⟨v9, rfl, hO9, hb9⟩
                    clear HSP
                    obtain ⟨g9, c9, e9, -, -⟩ := World.ownsRow.form hO9 (by rw [(unhide HL9).1]; exact hn0)
                    rw [(unhide HL9).1] at e9
                    subst e9
                    obtain ⟨g8, e8, l8, r8, f8⟩ := hO9.at.str 0 (by rw [(unhide HL9).1]; exact hn0)
                    obtain rfl : g9 = g8 := by simpa using e8
                    have hy := (unhide HL9).2 (ls3[0]'(by rw [(unhide HL9).1]; exact hn0)) (by simp)
                    generalize ls3[0]'(by rw [(unhide HL9).1]; exact hn0) = y at r8 hy
                    have HO9 := hide ((unhide HO8).keep hb9)
                    have HD9 := hide ((unhide HD8).below hb9)
                    obtain ⟨g1, e1, l1, r1, f1⟩ := (unhide HO9).at.str I (by rw [(unhide HP).1]; omega)
                    obtain rfl : g = g1 := by simpa using e1
                    have HO10 := hide ((unhide HO9).setS (k := I) (unhide HP).1 y)
                    have HP10 := hide (ls_set (unhide HP) I hy)
                    have HD10 := hide ((unhide HD9).set (b := g) (i := I) hltp hg (.string y))
                    generalize os[I]'(by rw [(unhide HP).1]; omega) = y9 at r1
                    have hm3 : (0 : Int) < (m3 : Int) := by omega
                    clear HO9 HD9 HO8 HD8 HP hO9 hb9 e8 e1
                    go_wp2_with fail
                    go_ret
                    exact dw_end (unhide HBp) (unhide HD10) (unhide HO10) (unhide HP10).1 (by omega) (fun s hs => by have := (unhide HP10).2 s hs; omega)
                  · have b2 : (u == 2) = false := by simpa using c2
                    go_wp2_with fail
                    go_ret
                    exact dw_end (unhide HBp) (unhide HD8) (unhide HO8) (unhide HP).1 (by omega) (fun s hs => by have := (unhide HP).2 s hs; omega)
        · have hk00 : k = 0 := by omega
          subst hk00
          by_cases hq0 : q = 0
          · subst hq0
            go_wp2_with fail
            go_ret
            exact dw_end (unhide HBp) (unhide HD) (unhide HO) (unhide HP).1 (by omega) (fun s hs => by have := (unhide HP).2 s hs; omega)
          · have hq1 : 0 < q := by omega
            obtain ⟨g, c', e7, -, -⟩ := World.ownsRow.form (unhide HO) (by rw [(unhide HP).1]; omega)
            obtain rfl : ao2 = some ⟨g, 0, none⟩ := by simpa using (Value.slice.inj e7).1
            clear e7 c'
            go_wp2_with fail
            refine (below_calls w.heap.size a len cap zs q _ (unhide HD).rd (by omega) (by omega)).mono ?_
            rintro e w7 ⟨v, rfl, hi0, hi1, hR7, ho7⟩
            obtain ⟨I, rfl⟩ := Int.eq_ofNat_of_zero_le hi0
            have HD7 := hide ((unhide HD).call hR7 ho7)
            have HO7 := hide ((unhide HO).onlQ ho7 (by simp; omega))
            clear hR7 ho7 HD HO
            go_wp2_with fail
            refine (below_calls w.heap.size a len cap zs 10 _ (unhide HD7).rd (by omega) (by omega)).mono ?_
            rintro e w8 ⟨u, rfl, hu0, hu1, hR8, ho8⟩
            have HD8 := hide ((unhide HD7).call hR8 ho8)
            have HO8 := hide ((unhide HO7).onlQ ho8 (by simp; omega))
            clear hR8 ho8 HD7 HO7
            have hg := (World.ownsRow.lt (unhide HO8) g rfl).1
            have hg2 := (World.ownsRow.lt (unhide HO8) g rfl).2
            obtain ⟨g1, e1, l1, r1, f1⟩ := (unhide HO8).at.str I (by rw [(unhide HP).1]; omega)
            obtain rfl : g = g1 := by simpa using e1
            have hx := (unhide HP).2 (os[I]'(by rw [(unhide HP).1]; omega)) (by simp)
            generalize os[I]'(by rw [(unhide HP).1]; omega) = x at r1 hx
            have hzz : wp.heap.size ≤ w8.heap.size := (unhide HD8).only.size
            by_cases c0 : u = 0
            · subst c0
              have hcl : q ≤ c ∧ c ≤ 9223372036854775807 := by
                rcases (unhide HO8).2 with ⟨e, _⟩ | ⟨g', cap', cur, e, hb, hc, h1, h2, h3, h4⟩
                · simp at e
                · simp only [Value.slice.injEq, Option.some.injEq, Addr.mk.injEq, and_true] at e
                  obtain ⟨-, -, rfl⟩ := e
                  rw [(unhide HP).1] at h1
                  exact ⟨h1, h2⟩
              obtain ⟨AD, hAD, hAD2⟩ : ∃ AD, (if c = I + 1 then some (⟨g, 0, none⟩ : Addr) else some ⟨g, I + 1, none⟩) = AD ∧ (AD = some ⟨g, 0, none⟩ ∧ q = I + 1 ∨ AD = some ⟨g, I + 1, none⟩) := by
                by_cases h : c = I + 1
                · exact ⟨_, if_pos h, .inl ⟨rfl, by omega⟩⟩
                · exact ⟨_, if_neg h, .inr rfl⟩
              have HTL := hide (show StrsAt w8 AD (os.drop (I + 1)) from by
                intro i hi
                rw [List.length_drop, (unhide HP).1] at hi
                rcases hAD2 with ⟨_, h⟩ | h
                · omega
                · obtain ⟨g', o', e', l', p'⟩ := (unhide HO8).at.strs (I + 1 + i) (by rw [(unhide HP).1]; omega)
                  cases e'
                  refine ⟨g, I + 1, h, l', ?_⟩
                  rw [List.getElem_drop]
                  rw [Nat.zero_add] at p'
                  exact p')
              have HADS := hide (show ∃ g o, AD = some ⟨g, o, none⟩ from by rcases hAD2 with ⟨h, _⟩ | h; exact ⟨_, _, h⟩; exact ⟨_, _, h⟩)
              have HCU := hide ((unhide HO8).cutQ (m := I) (unhide HP).1 (by omega))
              have HL2 := hide (show (os.drop (I + 1)).length = q - (I + 1) from by rw [List.length_drop, (unhide HP).1])
              have HL1 := hide (show (os.take I).length + (q - (I + 1)) < 100000000 from by rw [List.length_take, (unhide HP).1]; omega)
              have HPd := hide (ls_del (unhide HP) (show I < q by omega))
              have hi1w : IntKind.i64.wrap ((I : Int) + 1) = ((I + 1 : Nat) : Int) := by rw [IntKind.wrap_i64]; omega
              have j1 : (I : Int) ≤ (c : Int) := by omega
              have j0 : 0 ≤ (I : Int) + 1 := by omega
              have j3 : (I : Int) + 1 ≤ (q : Int) := by omega
              have j2 : ((I + 1 : Nat) : Int) ≤ (q : Int) := by omega
              clear hAD2 r1 f1 l1 e1
              go_wp2_with fail
              go_region_law (first
                | (refine stepQs rfl (.tmp 96) (.tmp 100) rfl ((unhide HCU).drewN 1) (by simp [Act.eval, Act.put]) AD (q - (I + 1)) (c - (I + 1)) (by simp [Act.eval, Act.put]) (unhide HL2) (unhide HTL) (unhide HADS) (unhide HL1) hzz ?_; intro v' w9 hown9 hgr9; obtain ⟨a9, c9, e9⟩ := hown9.form; rw [(unhide HPd).1] at e9; subst e9; have HD9 := hide ((unhide HD8).drew.belowB (own_below ((unhide HCU).drewN 1) hgr9 hzz) hltp (Nat.le_refl _)); have HO9 := hide hown9))
              all_goals (try go_wp2_with fail)
              all_goals go_ret
              all_goals exact dw_end (unhide HBp) (unhide HD9) (unhide HO9) (unhide HPd).1 (by omega) (fun s hs => by have := (unhide HPd).2 s hs; omega)
            · have b0 : (u == 0) = false := by simpa using c0
              by_cases c1 : u = 1
              · subst c1
                have hadd := strP_add (a := x) (b := ⟨#[120]⟩) w8 (by simp [show (⟨#[120]⟩ : ByteArray).size = 1 from rfl]; omega)
                have hxx : (x ++ ⟨#[120]⟩).size ≤ 20010 := by rw [ByteArray.size_append, show (⟨#[120]⟩ : ByteArray).size = 1 from rfl]; omega
                have HP8 := hide (show os.length = q ∧ ∀ s ∈ os, s.size ≤ 20010 from ⟨(unhide HP).1, fun s hs => Nat.le_succ_of_le ((unhide HP).2 s hs)⟩)
                have HO9 := hide ((unhide HO8).setS (k := I) (unhide HP).1 (x ++ ⟨#[120]⟩))
                have HP9 := hide (ls_set (unhide HP8) I hxx)
                have HD9 := hide ((unhide HD8).set (b := g) (i := I) hltp hg (.string (x ++ ⟨#[120]⟩)))
                clear HO8 HD8 HP HP8
                go_wp2_with fail
                go_ret
                exact dw_end (unhide HBp) (unhide HD9) (unhide HO9) (unhide HP9).1 (by omega) (fun s hs => by have := (unhide HP9).2 s hs; omega)
              · have b1 : (u == 1) = false := by simpa using c1
                by_cases c2 : u = 2
                · subst c2
                  have hadd := strP_add (a := s) (b := ⟨#[122]⟩) w8 (by simp [show (⟨#[122]⟩ : ByteArray).size = 1 from rfl]; omega)
                  have hss : (s ++ ⟨#[122]⟩).size = s.size + 1 := by rw [ByteArray.size_append]; rfl
                  generalize s ++ ⟨#[122]⟩ = t at hadd hss
                  clear r1 f1 l1 e1
                  obtain ⟨ls3, m3, HSP, HL9, hN3, hn0⟩ := pcs_draw t 3 (by omega) (by omega) (by omega)
                  have hn0 := hn0 (by omega)
                  rw [show ((3 : Nat) : Int) = 3 from rfl] at HSP
                  go_wp2_with fail
                  refine (unhide HSP _).mono ?_
                  rintro e w9 ⟨v9, rfl, hO9, hb9⟩
                  clear HSP
                  obtain ⟨g9, c9, e9, -, -⟩ := World.ownsRow.form hO9 (by rw [(unhide HL9).1]; exact hn0)
                  rw [(unhide HL9).1] at e9
                  subst e9
                  obtain ⟨g8, e8, l8, r8, f8⟩ := hO9.at.str 0 (by rw [(unhide HL9).1]; exact hn0)
                  obtain rfl : g9 = g8 := by simpa using e8
                  have hy := (unhide HL9).2 (ls3[0]'(by rw [(unhide HL9).1]; exact hn0)) (by simp)
                  generalize ls3[0]'(by rw [(unhide HL9).1]; exact hn0) = y at r8 hy
                  have HO9 := hide ((unhide HO8).keep hb9)
                  have HD9 := hide ((unhide HD8).below hb9)
                  obtain ⟨g1, e1, l1, r1, f1⟩ := (unhide HO9).at.str I (by rw [(unhide HP).1]; omega)
                  obtain rfl : g = g1 := by simpa using e1
                  have HO10 := hide ((unhide HO9).setS (k := I) (unhide HP).1 y)
                  have HP10 := hide (ls_set (unhide HP) I hy)
                  have HD10 := hide ((unhide HD9).set (b := g) (i := I) hltp hg (.string y))
                  generalize os[I]'(by rw [(unhide HP).1]; omega) = y9 at r1
                  have hm3 : (0 : Int) < (m3 : Int) := by omega
                  clear HO9 HD9 HO8 HD8 HP hO9 hb9 e8 e1
                  go_wp2_with fail
                  go_ret
                  exact dw_end (unhide HBp) (unhide HD10) (unhide HO10) (unhide HP10).1 (by omega) (fun s hs => by have := (unhide HP10).2 s hs; omega)
                · have b2 : (u == 2) = false := by simpa using c2
                  go_wp2_with fail
                  go_ret
                  exact dw_end (unhide HBp) (unhide HD8) (unhide HO8) (unhide HP).1 (by omega) (fun s hs => by have := (unhide HP).2 s hs; omega)
end Go.Proofs.Ytnkjdojpegmlcaa


/- The laws' own test of a code's length. -/
namespace Go.Proofs.Ytnkjdojpegmlcaa
open Go.RowKit Plain
set_option linter.unusedVariables false

theorem big_calls (a : Option Addr) (len cap : Nat) (w : World) (h : len ≤ maxLen) :
    Calls Try.prog 6 #[.slice a len cap] w fun e w' => e = .returned (.bool (decide (1048576 < (len : Int)))) ∧ w = w' := by
  unfold maxLen at h
  go_enter Try.func6, Try.ntmps6
  go_wp2
  go_ret
  exact ⟨rfl, rfl⟩

namespace Plain
theorem IsRow.len {w : World} {k : IntKind} {a : Option Addr} {len cap : Nat} {zs : List Int} (h : IsRow k w a len cap zs) : len ≤ maxLen := by
  rcases h with ⟨_, h, _⟩ | ⟨x, _, h1, h2, _⟩
  · omega
  · omega
end Plain
end Go.Proofs.Ytnkjdojpegmlcaa

