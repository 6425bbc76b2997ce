/- The text that DrawSum draws is short. -/
import Derived.Test.YtmmibkbodcfkkaaDrawB
namespace Go.Proofs.Ytmmibkbodcfkkaa
open Go.RowKit Plain
set_option linter.unusedVariables false

theorem own_only {w w' : World} {B R : Nat} {v : Value} {xs : List Int} (h : OwnB w B v xs) (ho : OnlyAt ⟨R, 1, none⟩ w w') (hR : R < B) : OwnB w' B v xs := by
  rcases h with ⟨hl, h1 | ⟨g, cap, cur, rfl, hg, hb, hr⟩⟩
  · exact ⟨hl, .inl h1⟩
  · refine ⟨hl, .inr ⟨g, cap, cur, rfl, hg, ?_, hr⟩⟩
    have hlt : g < w.heap.size := by
      rcases Nat.lt_or_ge g w.heap.size with h | h
      · exact h
      · rw [Array.getElem?_eq_none h] at hb; cases hb
    rw [ho.block g hlt (by simp; omega)]
    exact hb

theorem Plain.Rd.onlyB {w w' : World} {R B : Nat} {a : Option Addr} {len cap : Nat} {zs : List Int} (h : Rd w R a len cap zs) (hb : Below B w w') (hR : R < B) : Rd w' R a len cap zs := by
  obtain ⟨p, h⟩ := h
  refine ⟨p, ⟨(hb.cell (p := ⟨R, 0, none⟩) hR).trans h.c0, (hb.cell (p := ⟨R, 1, none⟩) hR).trans h.c1, (hb.frozen (p := ⟨R, 1, none⟩) hR).trans h.fz, h.le, h.small, ?_, h.apart⟩⟩
  rcases h.row with hr | ⟨x, hx, h1, h2, h3, h4, h5⟩
  · exact .inl hr
  · refine .inr ⟨x, hx, h1, h2, h3, fun i hi => ?_, h5⟩
    have hbk : (x.add i).block = x.block := by unfold Addr.add; split <;> rfl
    rw [hb.cell (p := x.add i) (by rw [hbk]; have := h.apart x hx (by omega); omega)]
    exact h4 i hi

end Go.Proofs.Ytmmibkbodcfkkaa