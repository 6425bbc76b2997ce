/- Texts of one kind, put together. -/
import Derived.Test.YtknpccpfjclngaaGAC
import Derived.Test.YtknpccpfjclngaaGAD
import Derived.Deep.QuietTactic
import Derived.BigQuiet
import Derived.Test.YtknpccpfjclngaaDopD

/- Rows of numbers, as the exact laws copy, measure and compare them. -/
namespace Go.Proofs.Ytknpccpfjclngaa
open Go.RowKit Plain
set_option linter.unusedVariables false

namespace Plain
def intL (z : Int) : List Value := [.int .i64 z]
end Plain
/-- Numbers as elements. -/
def i64E : Elem Int where
  E := 2
  S := 28
  n := 1
  bytes := 8
  zero := .int .i64 0
  enc := intL
  hund := Try.underlying28
  hinfo := by kernel_rfl
  hz := rfl
  hn := by decide
  hb := by decide
  hlen := fun _ => rfl
  hone := fun x u hu => by simp [intL] at hu; subst hu; rfl
theorem Plain.ArgAt.ix {W : World} {a : Option Addr} {xs : List Int} (h : ArgAt 1 intL W a xs) (i : Nat) (hi : i < xs.length) : ∃ g o, a = some ⟨g, o, none⟩ ∧ g < W.heap.size ∧ W.cell? ⟨g, o + i, none⟩ = some (.int .i64 xs[i]) := by
  obtain ⟨g, o, e, hl, hc⟩ := h i hi
  have := hc 0 (by decide)
  rw [Nat.mul_one, Nat.add_zero] at this
  exact ⟨g, o, e, hl, this⟩
theorem RowAt.ix {W : World} {a : Option Addr} {xs : List Int} (h : RowAt i64E W a xs) (i : Nat) (hi : i < xs.length) : ∃ g, a = some ⟨g, 0, none⟩ ∧ g < W.heap.size ∧ W.cell? ⟨g, i, none⟩ = some (.int .i64 xs[i]) ∧ W.frozen? ⟨g, i, none⟩ = false := by
  obtain ⟨g, e1, hl, h1⟩ := h i hi
  have := h1 0 (by decide)
  rw [show i * i64E.n + 0 = i from Nat.mul_one i] at this
  exact ⟨g, e1, hl, this⟩





end Go.Proofs.Ytknpccpfjclngaa


/- How many ops a disk is drawn with. -/
namespace Go.Proofs.Ytknpccpfjclngaa
open Go.RowKit Plain
set_option linter.unusedVariables false

set_option maxRecDepth 10000 in
theorem sizeD_calls (R : Nat) (a : Option Addr) (len cap : Nat) (zs : List Int) (w : World) (h : Rd w R a len cap zs) :
    Calls Try.prog 45 #[.pointer (some ⟨R, 0, none⟩), .int .i64 3, .int .i64 10] w fun e w' => ∃ v : Int, e = .returned (.int .i64 v) ∧ 1 ≤ v ∧ v ≤ 10 ∧ Rd w' R a len cap zs ∧ OnlyAt ⟨R, 1, none⟩ w w' := by
  obtain ⟨p, hp⟩ := h
  have c0 := hp.c0
  have hs := hp.small
  have HP := hide (show Rd w R a len cap zs from ⟨p, hp⟩)
  have hq : (0 : Int) ≤ (len : Int) / 3 := by omega
  clear hp
  by_cases hl : 10 < 1 + (len : Int) / 3
  · have HB := hide (below_calls R a len cap zs 10 w (unhide HP) (by omega) (by omega))
    go_enter Try.func45, Try.ntmps45
    go_wp2_with fail
    refine (unhide HB).mono ?_
    rintro e w1 ⟨v, rfl, h0, h1, hR, ho⟩
    have HR := hide hR
    have HO := hide ho
    clear hR ho
    go_wp2_with fail
    go_ret
    exact ⟨1 + v, rfl, by omega, by omega, unhide HR, unhide HO⟩
  · have HB := hide (below_calls R a len cap zs (1 + (len : Int) / 3) w (unhide HP) (by omega) (by omega))
    go_enter Try.func45, Try.ntmps45
    go_wp2_with fail
    refine (unhide HB).mono ?_
    rintro e w1 ⟨v, rfl, h0, h1, hR, ho⟩
    have HR := hide hR
    have HO := hide ho
    clear hR ho
    go_wp2_with fail
    go_ret
    exact ⟨1 + v, rfl, by omega, by omega, unhide HR, unhide HO⟩

end Go.Proofs.Ytknpccpfjclngaa

