/- The drawer's numbers near bounds, and the words and numbers for Rotate. -/
import Derived.Test.YtknpccpfjclngaaDraw
namespace Go.Proofs.Ytknpccpfjclngaa
open Go.RowKit Plain
set_option linter.unusedVariables false

namespace Plain
theorem near_rules {lo hi v : Int} (h1 : lo ≤ hi) (h2 : -1000000 ≤ lo) (h3 : hi ≤ 10000000000000) (hv0 : 0 ≤ v) (hv1 : v < 18446744073709551616) :
    IntKind.u64.wrap (hi - lo + 1) = hi - lo + 1 ∧ 0 ≤ v / 2 % (hi - lo + 1) ∧ v / 2 % (hi - lo + 1) ≤ hi - lo := by
  refine ⟨by rw [IntKind.wrap_u64]; omega, Int.emod_nonneg _ (by omega), ?_⟩
  have := Int.emod_lt_of_pos (v / 2) (show 0 < hi - lo + 1 by omega)
  omega
end Plain

set_option maxHeartbeats 1000000 in
theorem near_calls (R : Nat) (a : Option Addr) (len cap : Nat) (zs : List Int) (lo hi : Int) (w : World) (h : Rd w R a len cap zs) (h1 : lo ≤ hi) (h2 : -1000000 ≤ lo) (h3 : hi ≤ 10000000000000) :
    Calls Try.prog 49 #[.pointer (some ⟨R, 0, none⟩), .int .i64 lo, .int .i64 hi] w fun e w' => ∃ v : Int, e = .returned (.int .i64 v) ∧ lo ≤ v ∧ v ≤ hi ∧ Rd w' R a len cap zs ∧ OnlyAt ⟨R, 1, none⟩ w w' := by
  have H := hide h
  clear h
  go_enter Try.func49, Try.ntmps49
  go_wp2_with fail
  refine (below_calls R a len cap zs 8 _ (unhide H) (by omega) (by omega)).mono ?_
  rintro e w1 ⟨u, rfl, hu0, hu1, hR1, ho1⟩
  have HR1 := hide hR1
  clear hR1
  by_cases e0 : u ≤ 0
  · go_wp2
    go_ret
    exact ⟨lo, rfl, by omega, by omega, unhide HR1, ho1⟩
  · by_cases e1 : u ≤ 1
    · go_wp2
      go_ret
      exact ⟨hi, rfl, by omega, by omega, unhide HR1, ho1⟩
    · go_wp2_with fail
      refine (word_calls R a len cap zs _ (unhide HR1)).mono ?_
      rintro e w2 ⟨v, rfl, hv0, hv1, hR2, ho2⟩
      have HR2 := hide hR2
      clear hR2
      obtain ⟨r1, r2, r3⟩ := near_rules h1 h2 h3 hv0 hv1
      obtain ⟨q, hq⟩ : ∃ q, v / 2 % (hi - lo + 1) = q := ⟨_, rfl⟩
      rw [hq] at r2 r3
      go_wp2
      go_ret
      exact ⟨lo + q, by first | rfl | (simp), by omega, by omega, unhide HR2, ho1.trans ho2⟩

theorem open_calls (a : Option Addr) (len cap : Nat) (zs : List Int) (w : World) (h : IsRow .u8 w a len cap zs) (hl : len ≤ 1048576) :
    Calls Try.prog 18 #[.slice a len cap] w fun e w' => e = .returned (.pointer (some ⟨w.heap.size, 0, none⟩)) ∧ Rd w' w.heap.size a len cap zs ∧ Below w.heap.size w w' := by
  have H := hide h
  have hap : ∀ x, a = some x → 0 < zs.length → x.block < w.heap.size := by
    intro x hx hz
    subst hx
    rcases h with ⟨h, _⟩ | ⟨y, hy, h1, h2, h3, h4, h5⟩
    · simp at h
    · have hc := lt_of_cell (h4 0 hz)
      have e : y = x := by simpa using hy.symm
      have hb : (y.add 0).block = y.block := by unfold Addr.add; split <;> rfl
      rw [hb, e] at hc
      exact hc
  have HA := hide hap
  clear h hap
  go_enter Try.func18, Try.ntmps18
  go_wp2
  go_ret
  have hb : Below w.heap.size w (w.alloc (.cells #[.slice a len cap, .int .i64 0] 81)) := (Below.refl _ _).alloc (Nat.le_refl _) _
  refine ⟨rfl, ⟨0, ⟨by simp, by simp, by simp, by omega, hl, ?_, unhide HA⟩⟩, hb⟩
  exact (unhide H).only (q := ⟨w.heap.size, 0, none⟩) (OnlyAt.of_below hb) (fun x hx hz => ⟨unhide HA x hx hz, by have := unhide HA x hx hz; simp; omega⟩)

set_option maxHeartbeats 1000000 in
theorem off_calls (R : Nat) (a : Option Addr) (len cap : Nat) (zs : List Int) (lo hi : Int) (w : World) (h : Rd w R a len cap zs) (h1 : lo ≤ hi) (h2 : -100000 ≤ lo) (h3 : hi ≤ 1000000000000) :
    Calls Try.prog 21 #[.pointer (some ⟨R, 0, none⟩), .int .i64 lo, .int .i64 hi] w fun e w' => ∃ v : Int, e = .returned (.int .i64 v) ∧ -9223372036854775808 ≤ v ∧ v ≤ 9223372036854775807 ∧ Rd w' R a len cap zs ∧ OnlyAt ⟨R, 1, none⟩ w w' := by
  have H := hide h
  clear h
  go_enter Try.func21, Try.ntmps21
  go_wp2_with fail
  refine (once_calls R a len cap zs 24 _ (unhide H) (by omega) (by omega)).mono ?_
  rintro e w1 ⟨b, rfl, hR1, ho1⟩
  have HR1 := hide hR1
  clear hR1
  cases b with
  | false =>
    go_wp2_with fail
    refine (near_calls R a len cap zs lo hi _ (unhide HR1) h1 (by omega) (by omega)).mono ?_
    rintro e w2 ⟨v, rfl, hv0, hv1, hR2, ho2⟩
    have HR2 := hide hR2
    clear hR2
    go_wp2
    go_ret
    exact ⟨v, rfl, by omega, by omega, unhide HR2, ho1.trans ho2⟩
  | true =>
    go_wp2_with fail
    have hb1 : Below w1.heap.size w1 (w1.alloc (.cells #[.int .i64 (lo - 1), .int .i64 (hi + 1), .int .i64 (-9223372036854775808), .int .i64 9223372036854775807] 2)) := (Below.refl _ _).alloc (Nat.le_refl _) _
    have hlt := (unhide HR1).lt
    refine (below_calls R a len cap zs 4 _ ((unhide HR1).below hb1) (by omega) (by omega)).mono ?_
    rintro e w2 ⟨v, rfl, hv0, hv1, hR2, ho2⟩
    have HR2 := hide hR2
    have c0 : w2.cell? ⟨w1.heap.size, 0, none⟩ = some (.int .i64 (lo - 1)) := (ho2.cell ⟨w1.heap.size, 0, none⟩ (by simp) (by simp)).trans (by simp)
    have c1 : w2.cell? ⟨w1.heap.size, 1, none⟩ = some (.int .i64 (hi + 1)) := (ho2.cell ⟨w1.heap.size, 1, none⟩ (by simp) (by simp)).trans (by simp)
    have c2 : w2.cell? ⟨w1.heap.size, 2, none⟩ = some (.int .i64 (-9223372036854775808)) := (ho2.cell ⟨w1.heap.size, 2, none⟩ (by simp) (by simp)).trans (by simp)
    have c3 : w2.cell? ⟨w1.heap.size, 3, none⟩ = some (.int .i64 9223372036854775807) := (ho2.cell ⟨w1.heap.size, 3, none⟩ (by simp) (by simp)).trans (by simp)
    have hoo : OnlyAt ⟨R, 1, none⟩ w w2 := ho1.trans ((OnlyAt.of_below hb1).trans ho2)
    clear hR2 hb1 hlt ho2 ho1
    rcases (show v = 0 ∨ v = 1 ∨ v = 2 ∨ v = 3 from by omega) with rfl | rfl | rfl | rfl
    · go_wp2
      go_ret
      exact ⟨_, rfl, by omega, by omega, unhide HR2, hoo⟩
    · go_wp2
      go_ret
      exact ⟨_, rfl, by omega, by omega, unhide HR2, hoo⟩
    · go_wp2
      go_ret
      exact ⟨_, rfl, by omega, by omega, unhide HR2, hoo⟩
    · go_wp2
      go_ret
      exact ⟨_, rfl, by omega, by omega, unhide HR2, hoo⟩

end Go.Proofs.Ytknpccpfjclngaa
