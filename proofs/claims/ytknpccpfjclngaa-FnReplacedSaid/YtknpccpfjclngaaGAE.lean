/- Texts of one kind, put together. -/
import Derived.Test.YtknpccpfjclngaaGAC
import Derived.Test.YtknpccpfjclngaaDskV
import Derived.Test.YtknpccpfjclngaaGAD
import Derived.Deep.QuietTactic
import Derived.BigQuiet
import Derived.Test.YtknpccpfjclngaaDopD
import Derived.Test.YtknpccpfjclngaaGen
import Derived.Test.YtknpccpfjclngaaGAA

/- Rows of files, as the exact laws copy, measure and compare them. -/
namespace Go.Proofs.Ytknpccpfjclngaa
open Go.RowKit Plain
set_option linter.unusedVariables false

namespace Plain
theorem ArgAt.file {W : World} {a : Option Addr} {xs : List Fl} (h : ArgAt 2 fileL W a xs) (i : Nat) (hi : i < xs.length) : ∃ g o, a = some ⟨g, o, none⟩ ∧ g < W.heap.size ∧ W.cell? ⟨g, o + i * 2, none⟩ = some (.string xs[i].1) ∧ W.cell? ⟨g, o + i * 2 + 1, none⟩ = some (.string xs[i].2) := by
  obtain ⟨g, o, e, hl, hc⟩ := h i hi
  exact ⟨g, o, e, hl, hc 0 (by decide), hc 1 (by decide)⟩
end Plain











end Go.Proofs.Ytknpccpfjclngaa


/- Rows of ops, as the exact laws copy, measure and compare them. -/
namespace Go.Proofs.Ytknpccpfjclngaa
open Go.RowKit Plain
set_option linter.unusedVariables false


namespace Plain
theorem ArgAt.o {W : World} {a : Option Addr} {xs : List Dop} (h : ArgAt 4 dopL W a xs) (i : Nat) (hi : i < xs.length) : ∃ g o, a = some ⟨g, o, none⟩ ∧ g < W.heap.size ∧ W.cell? ⟨g, o + i * 4, none⟩ = some (.int .i64 xs[i].kind) ∧ W.cell? ⟨g, o + i * 4 + 1, none⟩ = some (.string xs[i].name) ∧ W.cell? ⟨g, o + i * 4 + 2, none⟩ = some (.string xs[i].to) ∧ W.cell? ⟨g, o + i * 4 + 3, none⟩ = some (.string xs[i].data) := by
  obtain ⟨g, o, e, hl, hc⟩ := h i hi
  exact ⟨g, o, e, hl, hc 0 (by decide), hc 1 (by decide), hc 2 (by decide), hc 3 (by decide)⟩
end Plain
end Go.Proofs.Ytknpccpfjclngaa


/- Rows of numbers, as the exact laws copy, measure and compare them. -/
namespace Go.Proofs.Ytknpccpfjclngaa
open Go.RowKit Plain
set_option linter.unusedVariables false

namespace Plain
def intL (z : Int) : List Value := [.int .i64 z]
end Plain
/-- Numbers as elements. -/
def i64E : Elem Int where
  E := 2
  S := 28
  n := 1
  bytes := 8
  zero := .int .i64 0
  enc := intL
  hund := Try.underlying28
  hinfo := by kernel_rfl
  hz := rfl
  hn := by decide
  hb := by decide
  hlen := fun _ => rfl
  hone := fun x u hu => by simp [intL] at hu; subst hu; rfl
theorem Plain.ArgAt.ix {W : World} {a : Option Addr} {xs : List Int} (h : ArgAt 1 intL W a xs) (i : Nat) (hi : i < xs.length) : ∃ g o, a = some ⟨g, o, none⟩ ∧ g < W.heap.size ∧ W.cell? ⟨g, o + i, none⟩ = some (.int .i64 xs[i]) := by
  obtain ⟨g, o, e, hl, hc⟩ := h i hi
  have := hc 0 (by decide)
  rw [Nat.mul_one, Nat.add_zero] at this
  exact ⟨g, o, e, hl, this⟩
theorem RowAt.ix {W : World} {a : Option Addr} {xs : List Int} (h : RowAt i64E W a xs) (i : Nat) (hi : i < xs.length) : ∃ g, a = some ⟨g, 0, none⟩ ∧ g < W.heap.size ∧ W.cell? ⟨g, i, none⟩ = some (.int .i64 xs[i]) ∧ W.frozen? ⟨g, i, none⟩ = false := by
  obtain ⟨g, e1, hl, h1⟩ := h i hi
  have := h1 0 (by decide)
  rw [show i * i64E.n + 0 = i from Nat.mul_one i] at this
  exact ⟨g, e1, hl, this⟩





end Go.Proofs.Ytknpccpfjclngaa


/- How many ops a disk is drawn with. -/
namespace Go.Proofs.Ytknpccpfjclngaa
open Go.RowKit Plain
set_option linter.unusedVariables false

set_option maxRecDepth 10000 in
theorem sizeD_calls (R : Nat) (a : Option Addr) (len cap : Nat) (zs : List Int) (w : World) (h : Rd w R a len cap zs) :
    Calls Try.prog 45 #[.pointer (some ⟨R, 0, none⟩), .int .i64 3, .int .i64 10] w fun e w' => ∃ v : Int, e = .returned (.int .i64 v) ∧ 1 ≤ v ∧ v ≤ 10 ∧ Rd w' R a len cap zs ∧ OnlyAt ⟨R, 1, none⟩ w w' := by
  obtain ⟨p, hp⟩ := h
  have c0 := hp.c0
  have hs := hp.small
  have HP := hide (show Rd w R a len cap zs from ⟨p, hp⟩)
  have hq : (0 : Int) ≤ (len : Int) / 3 := by omega
  clear hp
  by_cases hl : 10 < 1 + (len : Int) / 3
  · have HB := hide (below_calls R a len cap zs 10 w (unhide HP) (by omega) (by omega))
    go_enter Try.func45, Try.ntmps45
    go_wp2_with fail
    refine (unhide HB).mono ?_
    rintro e w1 ⟨v, rfl, h0, h1, hR, ho⟩
    have HR := hide hR
    have HO := hide ho
    clear hR ho
    go_wp2_with fail
    go_ret
    exact ⟨1 + v, rfl, by omega, by omega, unhide HR, unhide HO⟩
  · have HB := hide (below_calls R a len cap zs (1 + (len : Int) / 3) w (unhide HP) (by omega) (by omega))
    go_enter Try.func45, Try.ntmps45
    go_wp2_with fail
    refine (unhide HB).mono ?_
    rintro e w1 ⟨v, rfl, h0, h1, hR, ho⟩
    have HR := hide hR
    have HO := hide ho
    clear hR ho
    go_wp2_with fail
    go_ret
    exact ⟨1 + v, rfl, by omega, by omega, unhide HR, unhide HO⟩

end Go.Proofs.Ytknpccpfjclngaa


/- A row that is owned, behind a cell that is written elsewhere. -/
namespace Go.Proofs.Ytknpccpfjclngaa
open Go.RowKit Plain
set_option linter.unusedVariables false

theorem OwnR.onlN {α : Type} {e : Elem α} {W w' : World} {B : Nat} {v : Value} {xs : List α} {q : Addr} (h : OwnR e W B v xs) (ho : OnlyAt q W w') (hq : q.block < B) : OwnR e w' B v xs := by
  have hlt := h.lt
  refine ⟨h.1, ?_⟩
  rcases h.2 with ⟨a, c⟩ | ⟨g, cap, cur, rfl, c, d, r⟩
  · exact .inl ⟨a, c⟩
  · exact .inr ⟨g, cap, cur, rfl, c, (ho.block g (hlt g rfl) (by omega)).trans d, r⟩
end Go.Proofs.Ytknpccpfjclngaa


/- The laws' own test of a code's length. -/
namespace Go.Proofs.Ytknpccpfjclngaa
open Go.RowKit Plain
set_option linter.unusedVariables false

theorem big_calls (a : Option Addr) (len cap : Nat) (w : World) (h : len ≤ maxLen) :
    Calls Try.prog 5 #[.slice a len cap] w fun e w' => e = .returned (.bool (decide (1048576 < (len : Int)))) ∧ w = w' := by
  unfold maxLen at h
  go_enter Try.func5, Try.ntmps5
  go_wp2
  go_ret
  exact ⟨rfl, rfl⟩

namespace Plain
theorem IsRow.len {w : World} {k : IntKind} {a : Option Addr} {len cap : Nat} {zs : List Int} (h : IsRow k w a len cap zs) : len ≤ maxLen := by
  rcases h with ⟨_, h, _⟩ | ⟨x, _, h1, h2, _⟩
  · omega
  · omega
end Plain
end Go.Proofs.Ytknpccpfjclngaa

