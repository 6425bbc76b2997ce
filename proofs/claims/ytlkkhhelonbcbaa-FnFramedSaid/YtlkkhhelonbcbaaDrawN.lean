/- What is drawn for numbers and texts is short; what is drawn as a number is one. -/
import Derived.Test.YtlkkhhelonbcbaaDrawS
import Derived.Test.YtlkkhhelonbcbaaShaP
import Derived.Test.YtlkkhhelonbcbaaNum
import Derived.Test.YtlkkhhelonbcbaaPlainB
import Derived.Lib.SlBytesConst
import Derived.Laws.MakeOwn
namespace Go.Proofs.Ytlkkhhelonbcbaa
open Go.RowKit Plain
set_option linter.unusedVariables false

namespace Plain
def dataL : List ByteArray := [⟨#[]⟩, ⟨#[97]⟩, ⟨#[98]⟩, ⟨#[97, 98, 99]⟩, ⟨#[108, 97, 121, 101, 114]⟩, ⟨#[99, 111, 110, 102, 105, 103]⟩, ⟨#[122, 122, 57]⟩, ⟨#[48]⟩]
def dataV : Array Value := (dataL.map Value.string).toArray
theorem dataV_get (k : Nat) (h : k < 8) : dataV[k]? = some (.string (dataL.getD k ByteArray.empty)) := by
  match k, h with
  | 0, _ => rfl
  | 1, _ => rfl
  | 2, _ => rfl
  | 3, _ => rfl
  | 4, _ => rfl
  | 5, _ => rfl
  | 6, _ => rfl
  | 7, _ => rfl
theorem data_size : ∀ k : Fin 8, (dataL.getD k.val ByteArray.empty).size ≤ 6 := by decide +kernel
def hiV : Array Value := #[.int .i64 200, .int .i64 20000, .int .i64 1000000000000]
theorem hiV_get (k : Nat) (h : k < 3) : ∃ x : Int, hiV[k]? = some (.int .i64 x) ∧ 0 ≤ x ∧ x ≤ 1000000000000 := by
  match k, h with
  | 0, _ => exact ⟨_, rfl, by omega, by omega⟩
  | 1, _ => exact ⟨_, rfl, by omega, by omega⟩
  | 2, _ => exact ⟨_, rfl, by omega, by omega⟩
end Plain

theorem data_calls (R : Nat) (a : Option Addr) (len cap : Nat) (zs : List Int) (w : World) (h : Rd w R a len cap zs) :
    Calls Try.prog 64 #[.pointer (some ⟨R, 0, none⟩)] w fun e w' => ∃ s : ByteArray, e = .returned (.string s) ∧ s.size ≤ 6 ∧ Rd w' R a len cap zs ∧ OnlyAt ⟨R, 1, none⟩ w w' := by
  have hlt := h.lt
  have hb1 : Below w.heap.size w (w.alloc (.cells dataV 9)) := (Below.refl _ _).alloc (Nat.le_refl _) _
  have H1 := hide (h.below hb1)
  clear h
  go_enter Try.func64, Try.ntmps64
  go_wp2_with fail
  refine (below_calls R a len cap zs 8 _ (unhide H1) (by omega) (by omega)).mono ?_
  rintro e w2 ⟨v, rfl, hv0, hv1, hR2, ho2⟩
  obtain ⟨K, rfl⟩ := Int.eq_ofNat_of_zero_le hv0
  have hK : K < 8 := by omega
  have hc : w2.cell? ⟨w.heap.size, K, none⟩ = some (.string (dataL.getD K ByteArray.empty)) := by
    rw [ho2.cell ⟨w.heap.size, K, none⟩ (by simp) (by simp)]
    exact (cell_of_row _ _ K dataV _ _ (h_new w _ rfl)).trans (dataV_get K hK)
  have hs := data_size ⟨K, hK⟩
  simp only at hs
  generalize dataL.getD K ByteArray.empty = s at hc hs
  have HR2 := hide hR2
  have hoo := hide ((OnlyAt.of_below (a := ⟨R, 1, none⟩) hb1).trans ho2)
  clear hR2 ho2 hb1
  go_wp2_with fail
  go_ret
  exact ⟨s, rfl, hs, unhide HR2, unhide hoo⟩

theorem DrawPutNumber_calls (a : Option Addr) (len cap : Nat) (zs : List Int) (w : World) (h : IsRow .u8 w a len cap zs) (hl : len ≤ 1048576) :
    Calls Try.prog 28 #[.slice a len cap] w fun e w' => ∃ n : Int, e = .returned (.int .i64 n) ∧ -9223372036854775808 ≤ n ∧ n ≤ 9223372036854775807 ∧ Below w.heap.size w w' := by
  have H := hide h
  clear h
  go_enter Try.func28, Try.ntmps28
  go_wp2_with fail
  refine (open_calls a len cap zs _ (unhide H) hl).mono ?_
  rintro e w1 ⟨rfl, hR1, hb1⟩
  have hb2 : Below w1.heap.size w1 (w1.alloc (.cells hiV 2)) := (Below.refl _ _).alloc (Nat.le_refl _) _
  have H1 := hide (hR1.below hb2)
  have hlt := hR1.lt
  have HB1 := hide hb1
  clear hR1 hb1
  go_wp2_with fail
  refine (below_calls w.heap.size a len cap zs 3 _ (unhide H1) (by omega) (by omega)).mono ?_
  rintro e w2 ⟨v, rfl, hv0, hv1, hR2, ho2⟩
  obtain ⟨K, rfl⟩ := Int.eq_ofNat_of_zero_le hv0
  obtain ⟨x, hx, hx0, hx1⟩ := hiV_get K (by omega)
  have hc : w2.cell? ⟨w1.heap.size, K, none⟩ = some (.int .i64 x) := by
    rw [ho2.cell ⟨w1.heap.size, K, none⟩ (by simp) (by simp)]
    exact (cell_of_row _ _ K hiV _ _ (h_new w1 _ rfl)).trans hx
  have HR2 := hide hR2
  have hoo := hide ((OnlyAt.of_below (a := ⟨w.heap.size, 1, none⟩) hb2).trans ho2)
  clear hR2 ho2 hb2 hx
  go_wp2_with fail
  refine (off_calls w.heap.size a len cap zs 0 x _ (unhide HR2) hx0 (by omega) hx1).mono ?_
  rintro e w3 ⟨n, rfl, hn0, hn1, hR3, ho3⟩
  have hb3 := hide ((unhide HB1).trans (((unhide hoo).trans ho3).below (Nat.le_refl _) (unhide HB1).size))
  clear hR3 ho3
  go_wp2_with fail
  go_ret
  exact ⟨n, rfl, hn0, hn1, unhide hb3⟩

def zerosA (n : Nat) : Array Value := madeCells #[.int .u8 0] (n * 1)
theorem zerosA_get (n i : Nat) (h : i < n) : (zerosA n)[i]? = some (.int .u8 0) := by
  simp [zerosA, madeCells, h, Nat.mod_one]
theorem make_bytes (n : Nat) (w : World) (hn : n ≤ 30000) : (Instr.makeSlice 22 (.int .i64 n) (.int .i64 n)).run Try.prog w = .ok (.slice (some ⟨w.heap.size, 0, none⟩) n n) (w.alloc (.cells (zerosA n) 5)) := by
  obtain ⟨i0, hi, hz0, hz1, hz2⟩ := info_parts info5
  have := run_make w 22 5 i0 (.int .u8 0) Try.underlying22 hi hz0 .i64 .i64 n n (by omega) (by omega) (by rw [hz2]; omega) (by omega)
  rw [hz1] at this
  exact this

theorem DrawPutText_calls (a : Option Addr) (len cap : Nat) (zs : List Int) (w : World) (h : IsRow .u8 w a len cap zs) (hl : len ≤ 1048576) :
    Calls Try.prog 30 #[.slice a len cap] w fun e w' => ∃ s : ByteArray, e = .returned (.string s) ∧ s.size ≤ 30000 ∧ Below w.heap.size w w' := by
  have H := hide h
  clear h
  go_enter Try.func30, Try.ntmps30
  go_wp2_with fail
  refine (open_calls a len cap zs _ (unhide H) hl).mono ?_
  rintro e w1 ⟨rfl, hR1, hb1⟩
  have H1 := hide hR1
  have HB1 := hide hb1
  clear hR1 hb1
  go_wp2_with fail
  refine (once_calls w.heap.size a len cap zs 30 _ (unhide H1) (by omega) (by omega)).mono ?_
  rintro e w2 ⟨b, rfl, hR2, ho2⟩
  have H2 := hide hR2
  have HB2 := hide ((unhide HB1).trans (ho2.below (Nat.le_refl _) (unhide HB1).size))
  clear hR2 ho2 H1 HB1
  cases b with
  | true =>
    go_wp2_with fail
    refine (below_calls w.heap.size a len cap zs 2 _ (unhide H2) (by omega) (by omega)).mono ?_
    rintro e w3 ⟨v, rfl, hv0, hv1, hR3, ho3⟩
    obtain ⟨n, hn⟩ : ∃ n : Nat, 20000 + v = (n : Int) := ⟨(20000 + v).toNat, by omega⟩
    have hn3 : n ≤ 30000 := by omega
    have hmk := make_bytes n w3 hn3
    have hcv : (convert 22 9 (.slice (some ⟨w3.heap.size, 0, none⟩) n n)).run Try.prog (w3.alloc (.cells (zerosA n) 5)) = .ok (.string (strOfNums (List.replicate n 0))) (w3.alloc (.cells (zerosA n) 5)) :=
      run_convert_bytes_arg _ _ _ Try.underlying22 Try.underlying5 w3.heap.size 0 n n (List.replicate n 0) (by simp) (fun i hi => by
        rw [Nat.zero_add, cell_of_row _ _ i _ _ _ (h_new w3 _ rfl)]
        rw [zerosA_get n i hi]
        simp [hi, List.getD]) _ Try.underlying9
    have hb3 := hide (((unhide HB2).trans (ho3.below (Nat.le_refl _) (unhide HB2).size)))
    clear hR3 ho3
    go_wp2_with fail
    go_ret
    exact ⟨_, rfl, by rw [strOfNums_size]; simpa using hn3, (unhide hb3).alloc (unhide hb3).size _⟩
  | false =>
    go_wp2_with fail
    refine (data_calls w.heap.size a len cap zs _ (unhide H2)).mono ?_
    rintro e w3 ⟨s, rfl, hs, hR3, ho3⟩
    have hb3 := hide (((unhide HB2).trans (ho3.below (Nat.le_refl _) (unhide HB2).size)))
    clear hR3 ho3
    go_wp2_with fail
    go_ret
    exact ⟨s, rfl, by omega, unhide hb3⟩
end Go.Proofs.Ytlkkhhelonbcbaa
