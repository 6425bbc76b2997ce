/- Rows of numbers, as the exact laws copy, measure and compare them. -/
import Derived.Test.YtkpnnchgngcppaaRowK
import Derived.Test.YtkpnnchgngcppaaPrs
import Derived.Deep.QuietTactic
import Derived.BigQuiet
namespace Go.Proofs.Ytkpnnchgngcppaa
open Go.RowKit Plain
set_option linter.unusedVariables false

namespace Plain
def intL (z : Int) : List Value := [.int .i64 z]
def goodI (z : Int) : Prop := (Lit.int .i64 z).wf = true
end Plain
theorem rdInt {H : Type} {enc : TypeId × Value → H} {W : World} {spare : Nat → Bool} {held : Bool} : ∀ m us y, DataW.trod enc Try.prog W 0 spare held m 2 us = some y → ∃ z, us = intL z ∧ goodI z := by
  intro m us y h
  obtain ⟨s0, e0, _, w0⟩ := DataW.trod_int Try.underlying2 h
  exact ⟨s0, by simpa [intL] using e0, w0⟩
/-- Numbers as elements. -/
def i64E : Elem Int where
  E := 2
  S := 41
  n := 1
  bytes := 8
  zero := .int .i64 0
  enc := intL
  hund := Try.underlying41
  hinfo := by kernel_rfl
  hz := rfl
  hn := by decide
  hb := by decide
  hlen := fun _ => rfl
  hone := fun x u hu => by simp [intL] at hu; subst hu; rfl
theorem Plain.ArgAt.ix {W : World} {a : Option Addr} {xs : List Int} (h : ArgAt 1 intL W a xs) (i : Nat) (hi : i < xs.length) : ∃ g o, a = some ⟨g, o, none⟩ ∧ g < W.heap.size ∧ W.cell? ⟨g, o + i, none⟩ = some (.int .i64 xs[i]) := by
  obtain ⟨g, o, e, hl, hc⟩ := h i hi
  have := hc 0 (by decide)
  rw [Nat.mul_one, Nat.add_zero] at this
  exact ⟨g, o, e, hl, this⟩
theorem RowAt.ix {W : World} {a : Option Addr} {xs : List Int} (h : RowAt i64E W a xs) (i : Nat) (hi : i < xs.length) : ∃ g, a = some ⟨g, 0, none⟩ ∧ g < W.heap.size ∧ W.cell? ⟨g, i, none⟩ = some (.int .i64 xs[i]) ∧ W.frozen? ⟨g, i, none⟩ = false := by
  obtain ⟨g, e1, hl, h1⟩ := h i hi
  have := h1 0 (by decide)
  rw [show i * i64E.n + 0 = i from Nat.mul_one i] at this
  exact ⟨g, e1, hl, this⟩

set_option maxRecDepth 10000 in
set_option maxHeartbeats 1000000 in
theorem toInt64S_calls (a : Option Addr) (n c : Nat) (ls : List Int) (w : World) (hn : ls.length = n) (hn2 : n ≤ 1048576) (h : ArgAt 1 intL w a ls) :
    Calls Try.prog 23 #[.slice a n c] w fun e w' => ∃ g, e = .returned (.slice (some ⟨g, 0, none⟩) n n) ∧ OwnR i64E w' w.heap.size (.slice (some ⟨g, 0, none⟩) n n) ls ∧ Below w.heap.size w w' := by
  have H := hide h
  have HN := hide hn
  have hmk : (Instr.makeSlice 41 (.int .i64 n) (.int .i64 n)).run Try.prog w = _ := make_row i64E n w (by omega)
  have HO := hide (own_made i64E 0 rfl n w (by omega))
  have hba : Below w.heap.size w (w.alloc (.cells (madeCells i64E.zero.cells (n * i64E.n)) i64E.E)) := bel1 _ _
  have HBA := hide hba
  have hlt : w.heap.size < (w.alloc (.cells (madeCells i64E.zero.cells (n * i64E.n)) i64E.E)).heap.size := by simp
  generalize w.alloc (.cells (madeCells i64E.zero.cells (n * i64E.n)) i64E.E) = wa at hmk HO HBA hlt hba
  clear h hn hba
  go_enter Try.func23, Try.ntmps23
  go_wp2_with fail
  go_loopw [4] (fun i wr => ∃ k : Nat, i = .int .i64 k ∧ k ≤ n ∧ Hid (OwnR i64E wr w.heap.size (.slice (some ⟨w.heap.size, 0, none⟩) n n) (ls.take k ++ List.replicate (n - k) 0)) ∧ Hid (Below w.heap.size w wr)) (fun i _ => n - (intOf i).toNat)
  case atStart => exact ⟨0, rfl, by omega, hide (by simpa using unhide HO), HBA⟩
  case round =>
    clear hmk HO HBA hlt
    obtain ⟨k, rfl, hk, HR, HB⟩ := hrel
    by_cases hlt : k < n
    · have hkl : k < ls.length := by rw [unhide HN]; exact hlt
      obtain ⟨g, o, e1, l1, p0⟩ := ((unhide H).below (unhide HB)).ix k hkl
      have hlen : (ls.take k ++ List.replicate (n - k) (0 : Int)).length = n := by rw [List.length_append, List.length_take, List.length_replicate, unhide HN]; omega
      have hset : (ls.take k ++ List.replicate (n - k) (0 : Int)).set k ls[k] = ls.take (k + 1) ++ List.replicate (n - (k + 1)) 0 := by
        rw [List.set_append_right _ _ (by rw [List.length_take]; omega), List.length_take, show k - min k ls.length = 0 from by omega, show n - k = (n - (k + 1)) + 1 from by omega, List.replicate_succ, List.set_cons_zero, List.take_succ_eq_append_getElem hkl, List.append_assoc]
        rfl
      generalize (ls.take k ++ List.replicate (n - k) (0 : Int)) = cur at HR hlen hset
      generalize ls[k] = x at p0 hset
      clear H hkl
      subst e1
      have i0 : (0 : Int) ≤ (k : Int) := by omega
      have i1 : (k : Int) < (n : Int) := by omega
      have hkc : k < cur.length := by omega
      obtain ⟨g', e2, l2, q0, z0⟩ := (unhide HR).at.ix k hkc
      have hg : w.heap.size = g' := by simpa using e2
      subst hg
      have hS0 := (unhide HR).setJ hlen k hkc 0 (by decide) (.int .i64 x) x rfl
      rw [hset, show k * i64E.n + 0 = k from Nat.mul_one k] at hS0
      have HR3 := hide hS0
      generalize cur[k] = y at q0
      clear hS0 HR e2
      go_wp2_with fail
      go_roundw
      case rel => exact ⟨k + 1, by go_num, by omega, HR3, hide ((unhide HB).setCell (Nat.le_refl _) _)⟩
      case measure => simp [intOf]; omega
    · obtain rfl : k = n := by omega
      have HF := hide (unhide HR)
      rw [show ls.take k ++ List.replicate (k - k) (0 : Int) = ls from by rw [Nat.sub_self, List.replicate_zero, List.append_nil]; exact List.take_of_length_le (by rw [unhide HN]; exact Nat.le_refl _)] at HF
      clear HR
      go_wp2_with fail
      go_ret
      exact ⟨_, rfl, unhide HF, unhide HB⟩



set_option maxRecDepth 10000 in
set_option maxHeartbeats 1000000 in
theorem eqInt64S_calls (a1 a2 : Option Addr) (c1 c2 n : Nat) (ls : List Int) (w : World) (hn : ls.length = n) (hn2 : n ≤ 100000000) (h1 : RowAt i64E w a1 ls) (h2 : RowAt i64E w a2 ls) :
    Calls Try.prog 19 #[.slice a1 n c1, .slice a2 n c2] w fun e w' => e = .returned (.bool true) ∧ Below w.heap.size w w' := by
  have H1 := hide h1
  have H2 := hide h2
  have HN := hide hn
  clear h1 h2 hn
  go_enter Try.func19, Try.ntmps19
  go_wp2_with fail
  go_loopw [5] (fun i wr => ∃ (k : Nat), i = .int .i64 k ∧ k ≤ n ∧ Hid (Below w.heap.size w wr)) (fun i _ => n - (intOf i).toNat)
  case atStart => exact ⟨0, rfl, by omega, Below.refl _ _⟩
  case round =>
    obtain ⟨k, rfl, hk, HB⟩ := hrel
    by_cases hlt : k < n
    · have hkl : k < ls.length := by rw [unhide HN]; exact hlt
      obtain ⟨g1, e1, l1, p0, -⟩ := ((unhide H1).below (unhide HB)).ix k hkl
      obtain ⟨g2, e2, l2, q0, -⟩ := ((unhide H2).below (unhide HB)).ix k hkl
      generalize ls[k] = x at p0 q0
      clear H1 H2 hkl
      subst e1 e2
      have i0 : (0 : Int) ≤ (k : Int) := by omega
      have i1 : (k : Int) < (n : Int) := by omega
      go_wp2_with fail
      go_quiet (fail)
      all_goals (try go_wp2_with fail)
      all_goals exact ⟨⟨k + 1, by go_num, by omega, hide (belQ (unhide HB) _)⟩, by simp [intOf]; omega⟩
    · obtain rfl : k = n := by omega
      go_wp2_with fail
      go_ret
      exact ⟨rfl, unhide HB⟩
end Go.Proofs.Ytkpnnchgngcppaa
