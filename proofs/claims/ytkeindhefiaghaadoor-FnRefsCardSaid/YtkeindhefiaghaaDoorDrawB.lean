/- The drawer's numbers near bounds, and the words and numbers for Rotate. -/
import Derived.Test.YtkeindhefiaghaaDoorDraw
namespace Go.Proofs.YtkeindhefiaghaaDoor
open Go.RowKit Plain
set_option linter.unusedVariables false

namespace Plain
theorem near_rules {lo hi v : Int} (h1 : lo ≤ hi) (h2 : -1000000 ≤ lo) (h3 : hi ≤ 10000000000000) (hv0 : 0 ≤ v) (hv1 : v < 18446744073709551616) :
    IntKind.u64.wrap (hi - lo + 1) = hi - lo + 1 ∧ 0 ≤ v / 2 % (hi - lo + 1) ∧ v / 2 % (hi - lo + 1) ≤ hi - lo := by
  refine ⟨by rw [IntKind.wrap_u64]; omega, Int.emod_nonneg _ (by omega), ?_⟩
  have := Int.emod_lt_of_pos (v / 2) (show 0 < hi - lo + 1 by omega)
  omega
end Plain



theorem open_calls (a : Option Addr) (len cap : Nat) (zs : List Int) (w : World) (h : IsRow .u8 w a len cap zs) (hl : len ≤ 1048576) :
    Calls Tryd.prog 20 #[.slice a len cap] w fun e w' => e = .returned (.pointer (some ⟨w.heap.size, 0, none⟩)) ∧ Rd w' w.heap.size a len cap zs ∧ Below w.heap.size w w' := by
  have H := hide h
  have hap : ∀ x, a = some x → 0 < zs.length → x.block < w.heap.size := by
    intro x hx hz
    subst hx
    rcases h with ⟨h, _⟩ | ⟨y, hy, h1, h2, h3, h4, h5⟩
    · simp at h
    · have hc := lt_of_cell (h4 0 hz)
      have e : y = x := by simpa using hy.symm
      have hb : (y.add 0).block = y.block := by unfold Addr.add; split <;> rfl
      rw [hb, e] at hc
      exact hc
  have HA := hide hap
  clear h hap
  go_enter Tryd.func20, Tryd.ntmps20
  go_wp2
  go_ret
  have hb : Below w.heap.size w (w.alloc (.cells #[.slice a len cap, .int .i64 0] 57)) := (Below.refl _ _).alloc (Nat.le_refl _) _
  refine ⟨rfl, ⟨0, ⟨by simp, by simp, by simp, by omega, hl, ?_, unhide HA⟩⟩, hb⟩
  exact (unhide H).only (q := ⟨w.heap.size, 0, none⟩) (OnlyAt.of_below hb) (fun x hx hz => ⟨unhide HA x hx hz, by have := unhide HA x hx hz; simp; omega⟩)



end Go.Proofs.YtkeindhefiaghaaDoor