/- The specification's drawer: whatever it draws is within its bounds, and it moves nothing but its own place. -/
import Derived.Test.YtknpccpfjclngaaGAA
namespace Go.Proofs.Ytknpccpfjclngaa
open Go.RowKit Plain
set_option linter.unusedVariables false

namespace Plain
/-- A drawer lies in block R: its bytes are the slice (a, len, cap) that holds zs, its place is p. -/
structure RdAt (w : World) (R : Nat) (a : Option Addr) (len cap : Nat) (zs : List Int) (p : Nat) : Prop where
  c0 : w.cell? ⟨R, 0, none⟩ = some (.slice a len cap)
  c1 : w.cell? ⟨R, 1, none⟩ = some (.int .i64 p)
  fz : w.frozen? ⟨R, 1, none⟩ = false
  le : p ≤ len
  small : len ≤ 1048576
  row : IsRow .u8 w a len cap zs
  apart : ∀ x, a = some x → 0 < zs.length → x.block < R

def Rd (w : World) (R : Nat) (a : Option Addr) (len cap : Nat) (zs : List Int) : Prop := ∃ p, RdAt w R a len cap zs p

theorem IsRow.only {w w' : World} {k : IntKind} {a : Option Addr} {len cap : Nat} {zs : List Int} {q : Addr} (h : IsRow k w a len cap zs) (ho : OnlyAt q w w') (hq : ∀ x, a = some x → 0 < zs.length → x.block < w.heap.size ∧ x.block ≠ q.block) : IsRow k w' a len cap zs := by
  rcases h with h | ⟨x, hx, h1, h2, h3, h4, h5⟩
  · exact .inl h
  · refine .inr ⟨x, hx, h1, h2, h3, fun i hi => ?_, h5⟩
    have hb : (x.add i).block = x.block := by unfold Addr.add; split <;> rfl
    have := hq x hx (by omega)
    rw [ho.cell (x.add i) (by rw [hb]; exact this.1) (fun e => this.2 (by rw [← hb, e]))]
    exact h4 i hi

theorem RdAt.only {w w' : World} {R : Nat} {a : Option Addr} {len cap : Nat} {zs : List Int} {p p' : Nat} (h : RdAt w R a len cap zs p) (ho : OnlyAt ⟨R, 1, none⟩ w w') (hc : w'.cell? ⟨R, 1, none⟩ = some (.int .i64 p')) (hp : p' ≤ len) : RdAt w' R a len cap zs p' := by
  have hR := lt_of_cell h.c0
  exact ⟨(ho.cell ⟨R, 0, none⟩ hR (by simp)).trans h.c0, hc, (ho.frozen ⟨R, 1, none⟩ hR).trans h.fz, hp, h.small,
    h.row.only ho (fun x hx hz => ⟨by have := h.apart x hx hz; simp at hR; omega, by have := h.apart x hx hz; simp; omega⟩), h.apart⟩

theorem Rd.below {w w' : World} {R : Nat} {a : Option Addr} {len cap : Nat} {zs : List Int} (h : Rd w R a len cap zs) (hb : Below w.heap.size w w') : Rd w' R a len cap zs := by
  obtain ⟨p, h⟩ := h
  have ho : OnlyAt ⟨R, 1, none⟩ w w' := OnlyAt.of_below hb
  exact ⟨p, h.only ho ((hb.cell (p := ⟨R, 1, none⟩) (lt_of_cell h.c1)).trans h.c1) h.le⟩

theorem Rd.lt {w : World} {R : Nat} {a : Option Addr} {len cap : Nat} {zs : List Int} (h : Rd w R a len cap zs) : R < w.heap.size := by
  obtain ⟨p, h⟩ := h; exact lt_of_cell h.c0
end Plain

set_option maxHeartbeats 1000000 in
theorem next_calls (R : Nat) (a : Option Addr) (len cap : Nat) (zs : List Int) (w : World) (h : Rd w R a len cap zs) :
    Calls Try.prog 57 #[.pointer (some ⟨R, 0, none⟩)] w fun e w' => ∃ v : Int, e = .returned (.int .i64 v) ∧ 0 ≤ v ∧ v ≤ 255 ∧ Rd w' R a len cap zs ∧ OnlyAt ⟨R, 1, none⟩ w w' := by
  obtain ⟨p, hp⟩ := h
  have HP := hide hp
  obtain ⟨c0, c1, fz, le, small, row, apart⟩ := hp
  clear apart
  by_cases hlt : p < len
  · rcases row with ⟨_, h, _⟩ | ⟨x, rfl, h1, h2, h3, h4, h5⟩
    · omega
    · obtain ⟨b, off, spot⟩ := x
      have hc := h4 p (by omega)
      have hspot : spot = none := by simpa [Addr.add] using World.cell?_spot (h4 0 (by omega))
      subst hspot
      have hcp : w.cell? ⟨b, off + p, none⟩ = some (.int .u8 (zs.getD p 0)) := by
        rw [show (⟨b, off, none⟩ : Addr).add p = ⟨b, off + p, none⟩ from by unfold Addr.add; split <;> simp_all] at hc
        exact hc
      have hap : b ≠ R := by have := (unhide HP).apart _ rfl (by omega); simp at this; omega
      have hrng := Go.range_u8 h5 p
      have hzz : zs.getD p 0 = zs[p]?.getD 0 := by simp [List.getD]
      rw [hzz] at hcp
      obtain ⟨z, hz⟩ : ∃ z, zs[p]?.getD 0 = z := ⟨_, rfl⟩
      rw [hz] at hcp hrng
      clear h4 h5 hc hzz hz
      go_enter Try.func57, Try.ntmps57
      go_wp2
      go_region
      all_goals (try go_wp2)
      go_region
      all_goals (try go_wp2)
      all_goals go_ret
      all_goals
        have ho : OnlyAt ⟨R, 1, none⟩ w ((w.setCell ⟨R, 1, none⟩ (.int .i64 ((p : Int) + 1))).drewN 2) := (OnlyAt.setCell _ _ _).drewN 2
        have hcc : ((w.setCell ⟨R, 1, none⟩ (.int .i64 ((p : Int) + 1))).drewN 2).cell? ⟨R, 1, none⟩ = some (.int .i64 ((p + 1 : Nat) : Int)) := (World.cell?_setCell_same _ _ _ c1).trans (by go_num)
        exact ⟨z, rfl, hrng.1, hrng.2, ⟨p + 1, (unhide HP).only ho hcc (by omega)⟩, ho⟩
  · go_enter Try.func57, Try.ntmps57
    go_wp2
    go_region
    all_goals (try go_wp2)
    all_goals go_ret
    all_goals exact ⟨0, rfl, by omega, by omega, ⟨p, (unhide HP).only ((OnlyAt.refl _ _).drewN 1) c1 le⟩, (OnlyAt.refl _ _).drewN 1⟩

theorem below_calls (R : Nat) (a : Option Addr) (len cap : Nat) (zs : List Int) (n : Int) (w : World) (h : Rd w R a len cap zs) (h1 : 1 ≤ n) (h2 : n ≤ 60000) :
    Calls Try.prog 38 #[.pointer (some ⟨R, 0, none⟩), .int .i64 n] w fun e w' => ∃ v : Int, e = .returned (.int .i64 v) ∧ 0 ≤ v ∧ v < n ∧ Rd w' R a len cap zs ∧ OnlyAt ⟨R, 1, none⟩ w w' := by
  have H := hide h
  clear h
  by_cases h3 : n ≤ 1
  · go_enter Try.func38, Try.ntmps38
    go_wp2
    go_ret
    exact ⟨0, rfl, by omega, by omega, unhide H, OnlyAt.refl _ _⟩
  · by_cases h4 : n ≤ 256
    · go_enter Try.func38, Try.ntmps38
      go_wp2_with fail
      refine (next_calls R a len cap zs _ (unhide H)).mono ?_
      rintro e w1 ⟨v, rfl, hv0, hv1, hR1, ho1⟩
      have HR1 := hide hR1
      clear hR1
      go_wp2
      go_ret
      exact ⟨v % n, by first | rfl | (simp), Int.emod_nonneg _ (by omega), Int.emod_lt_of_pos _ (by omega), unhide HR1, ho1⟩
    · go_enter Try.func38, Try.ntmps38
      go_wp2_with fail
      refine (next_calls R a len cap zs _ (unhide H)).mono ?_
      rintro e w1 ⟨v, rfl, hv0, hv1, hR1, ho1⟩
      have HR1 := hide hR1
      clear hR1
      go_wp2_with fail
      refine (next_calls R a len cap zs _ (unhide HR1)).mono ?_
      rintro e w2 ⟨u, rfl, hu0, hu1, hR2, ho2⟩
      have HR2 := hide hR2
      clear hR2
      go_wp2
      go_ret
      exact ⟨(v * 256 + u) % n, by first | rfl | (simp), Int.emod_nonneg _ (by omega), Int.emod_lt_of_pos _ (by omega), unhide HR2, ho1.trans ho2⟩

theorem once_calls (R : Nat) (a : Option Addr) (len cap : Nat) (zs : List Int) (n : Int) (w : World) (h : Rd w R a len cap zs) (h1 : 1 ≤ n) (h2 : n ≤ 60000) :
    Calls Try.prog 20 #[.pointer (some ⟨R, 0, none⟩), .int .i64 n] w fun e w' => ∃ v : Bool, e = .returned (.bool v) ∧ Rd w' R a len cap zs ∧ OnlyAt ⟨R, 1, none⟩ w w' := by
  have H := hide h
  clear h
  go_enter Try.func20, Try.ntmps20
  go_wp2_with fail
  refine (below_calls R a len cap zs n _ (unhide H) h1 h2).mono ?_
  rintro e w1 ⟨v, rfl, hv0, hv1, hR1, ho1⟩
  have HR1 := hide hR1
  clear hR1
  go_wp2
  go_ret
  exact ⟨_, rfl, unhide HR1, ho1⟩

end Go.Proofs.Ytknpccpfjclngaa
