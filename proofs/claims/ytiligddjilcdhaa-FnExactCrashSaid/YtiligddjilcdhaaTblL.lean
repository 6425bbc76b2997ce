/- The names of the table, sorted, are the rising row's. -/
import Derived.Test.YtiligddjilcdhaaDskQ
namespace Go.Proofs.Ytiligddjilcdhaa
open Go.RowKit Go.Maps Plain
set_option linter.unusedVariables false

namespace Plain
theorem Risen.sorted {fs : List Fl} (h : Risen fs) : (namesF fs).Pairwise (fun a b => a ≤ b) := by
  unfold namesF
  rw [List.pairwise_map]
  exact List.Pairwise.imp (fun {a b} hab => List.le_of_lt hab) h
theorem sort_names {w : World} {b m : Nat} {D : DataW Unit} {fs : List Fl} (hown : w.ownsMap Try.prog 9 flElem b m D) (hD : TabD D (tabF fs)) (h : Risen fs) {ss : List (List UInt8)} (hs : ss.Perm (strKeys D)) : ss.mergeSort (fun x y => decide (x ≤ y)) = namesF fs := by
  have hp : (ss.mergeSort (fun x y => decide (x ≤ y))).Perm (namesF fs) := (List.mergeSort_perm ss _).trans (hs.trans (tab_keys hown hD h.names).symm)
  have hso : (ss.mergeSort (fun x y => decide (x ≤ y))).Pairwise (fun a b => a ≤ b) := by
    have := List.pairwise_mergeSort (le := fun x y : List UInt8 => decide (x ≤ y)) (fun a b c h1 h2 => by simp only [decide_eq_true_eq] at *; exact List.le_trans h1 h2) (fun a b => by have := List.le_total a b; simpa using this) ss
    simpa using this
  exact hp.eq_of_pairwise (le := fun a b => a ≤ b) (fun a b _ _ h1 h2 => List.le_antisymm h1 h2) hso h.sorted
end Plain
end Go.Proofs.Ytiligddjilcdhaa
