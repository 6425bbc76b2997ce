/- A packet searched for by its id, by the program. -/
import Derived.Test.YtkpnnchgngcppaaTakM
namespace Go.Proofs.Ytkpnnchgngcppaa
open Go.RowKit Go.Maps Plain
set_option linter.unusedVariables false

set_option maxRecDepth 10000 in
theorem closT_calls (p : Pkt) (id : Int) (W : World) :
    Calls Try.prog 39 #[.agg #[.int .i64 p.id, .int .i64 p.src, .int .i64 p.dst, .string p.body], .int .i64 id] W fun e w' => e = .returned (.int .i64 (cmpZ p.id id)) ∧ Below W.heap.size W w' := by
  have HI := hide (fun W => cmpI_calls p.id id W)
  have HB := hide (bel1 W (.cells #[.int .i64 p.id, .int .i64 p.src, .int .i64 p.dst, .string p.body] 36))
  generalize cmpZ p.id id = c2 at HI ⊢
  go_enter Try.func39, Try.ntmps39
  go_wp2_with fail
  refine (unhide HI _).mono ?_
  rintro e w1 ⟨rfl, rfl⟩
  go_wp2_with fail
  go_ret
  exact ⟨rfl, unhide HB⟩

namespace Plain
/-- Where a search ends. -/
def BsP (es : List Pkt) (id : Int) (i : Nat) : Prop := i ≤ es.length ∧ (∀ j (h : j < es.length), j < i → es[j].id < id) ∧ ∀ j (h : j < es.length), i ≤ j → id ≤ es[j].id
def bsB (es : List Pkt) (id : Int) (i : Nat) : Bool := match es[i]? with
  | none => false
  | some p => decide (p.id = id)
end Plain

set_option maxRecDepth 10000 in
set_option maxHeartbeats 4000000 in
theorem bsf_calls (a : Option Addr) (n c : Nat) (es : List Pkt) (id : Int) (w : World) (h : RowAt pktE w a es) (hn : es.length = n) (hn2 : n ≤ 1048576) (hr : RisP es) :
    Calls Try.prog 38 #[.slice a n c, .int .i64 id, .func (.func 39) #[] #[]] w fun e w' => ∃ i, e = .returned (.tuple #[.int .i64 (i : Nat), .bool (bsB es id i)]) ∧ BsP es id i ∧ Below w.heap.size w w' := by
  have HH := hide h
  have hri := fun (x y : Nat) (hx : x < es.length) (hy : y < es.length) (hxy : x < y) => (List.pairwise_iff_getElem.1 hr) x y hx hy hxy
  have HRI := hide hri
  clear h hr hri
  go_enter Try.func38, Try.ntmps38
  go_wp2_with fail
  go_loopw [9, 10] (fun s9 s10 wr => ∃ i j : Nat, s9 = .int .i64 i ∧ s10 = .int .i64 j ∧ i ≤ j ∧ j ≤ n ∧ Hid (∀ q (hq : q < es.length), q < i → es[q].id < id) ∧ Hid (∀ q (hq : q < es.length), j ≤ q → id ≤ es[q].id) ∧ Hid (Below w.heap.size w wr)) (fun s9 s10 _ => (intOf s10).toNat - (intOf s9).toNat)
  case atStart => exact ⟨0, n, rfl, rfl, by omega, by omega, hide (fun q _ hq => by omega), hide (fun q h1 hq => by omega), hide (Below.refl _ _)⟩
  case round =>
    obtain ⟨i, j, rfl, rfl, hij, hjn, HL, HG, HB⟩ := hrel
    by_cases hlt : i < j
    · obtain ⟨m, hm⟩ : ∃ m, (i + j) / 2 = m := ⟨_, rfl⟩
      have him : i ≤ m := by omega
      have hmj : m < j := by omega
      have hml : m < es.length := by omega
      obtain ⟨g, e1, l1, p0, p1, p2, p3⟩ := ((unhide HH).below (unhide HB)).px m hml
      have hlo := fun (q : Nat) (hq : q < es.length) (h1 : q < m) => unhide HRI q m hq hml h1
      have hhi := fun (q : Nat) (hq : q < es.length) (h1 : m < q) => unhide HRI m q hml hq h1
      have HCL := hide (closT_calls es[m] id wr)
      obtain ⟨y, HEQ⟩ : ∃ y, es[m] = y := ⟨_, rfl⟩
      rw [HEQ] at p0 p1 p2 p3 HCL
      have hlo := fun (q : Nat) (hq : q < es.length) (h1 : q < m) => by have := hlo q hq h1; rw [HEQ] at this; exact this
      have hhi := fun (q : Nat) (hq : q < es.length) (h1 : m < q) => by have := hhi q hq h1; rw [HEQ] at this; exact this
      have HEQ := congrArg Pkt.id HEQ
      obtain ⟨pi, fr, ds, bd⟩ := y
      simp only at p0 p1 p2 p3 hlo hhi HCL HEQ
      subst e1
      have i0 : (0 : Int) ≤ (m : Int) := by omega
      have i1 : (m : Int) < (n : Int) := by omega
      have i2 : (i : Int) < (j : Int) := by omega
      have hw : IntKind.i64.wrap ((i : Int) + (j : Int)) = (i : Int) + (j : Int) := by rw [IntKind.wrap_i64]; omega
      by_cases hc : pi < id
      · have hcz : cmpZ pi id = -1 := by unfold cmpZ; rw [if_pos hc]
        rw [hcz] at HCL
        have HL2 := hide (show ∀ q (hq : q < es.length), q < m + 1 → es[q].id < id from fun q hq h1 => by
          rcases Nat.lt_or_ge q m with h2 | h2
          · have := hlo q hq h2; omega
          · obtain rfl : q = m := by omega
            have := HEQ; omega)
        clear hlo hhi HEQ hcz
        go_wp2_with fail
        refine (unhide HCL).mono ?_
        rintro e w1 ⟨rfl, hb1⟩
        have HB1 := hide (belOn (unhide HB) hb1)
        clear hb1
        go_wp2_with fail
        go_roundw
        case rel => exact ⟨m + 1, j, by go_num, rfl, by omega, hjn, HL2, HG, HB1⟩
        case measure => simp [intOf]; omega
      · have hcz : cmpZ pi id = if id < pi then 1 else 0 := by unfold cmpZ; rw [if_neg hc]
        obtain ⟨cz, hcz2⟩ : ∃ cz : Int, cmpZ pi id = cz ∧ 0 ≤ cz := ⟨_, rfl, by rw [hcz]; split <;> omega⟩
        rw [hcz2.1] at HCL
        have hcz3 := hcz2.2
        have HG2 := hide (show ∀ q (hq : q < es.length), m ≤ q → id ≤ es[q].id from fun q hq h1 => by
          rcases Nat.lt_or_ge m q with h2 | h2
          · have := hhi q hq h2; omega
          · obtain rfl : q = m := by omega
            have := HEQ; omega)
        clear hlo hhi HEQ hcz hcz2
        go_wp2_with fail
        refine (unhide HCL).mono ?_
        rintro e w1 ⟨rfl, hb1⟩
        have HB1 := hide (belOn (unhide HB) hb1)
        clear hb1
        go_wp2_with fail
        go_roundw
        case rel => exact ⟨i, m, rfl, by go_num, by omega, by omega, HL, HG2, HB1⟩
        case measure => simp [intOf]; omega
    · obtain rfl : i = j := by omega
      have HP := hide (show BsP es id i from ⟨by omega, unhide HL, unhide HG⟩)
      by_cases hin : i < n
      · have hil : i < es.length := by omega
        obtain ⟨g, e1, l1, p0, p1, p2, p3⟩ := ((unhide HH).below (unhide HB)).px i hil
        have HCL := hide (closT_calls es[i] id wr)
        have hbs : bsB es id i = decide (es[i].id = id) := by unfold bsB; rw [List.getElem?_eq_getElem hil]
        have hge := unhide HG i hil (Nat.le_refl _)
        generalize es[i] = y at p0 p1 p2 p3 HCL hbs hge
        obtain ⟨pi, fr, ds, bd⟩ := y
        simp only at p0 p1 p2 p3 HCL hbs hge
        subst e1
        have i0 : (0 : Int) ≤ (i : Int) := by omega
        have i1 : (i : Int) < (n : Int) := by omega
        have HBS := hide hbs
        by_cases he : pi = id
        · have hcz : cmpZ pi id = 0 := by unfold cmpZ; rw [if_neg (by omega), if_neg (by omega)]
          rw [hcz] at HCL
          have HX := hide (show bsB es id i = true from by rw [unhide HBS]; exact decide_eq_true he)
          clear hbs hcz
          subst he
          go_wp2_with fail
          refine (unhide HCL).mono ?_
          rintro e w1 ⟨rfl, hb1⟩
          have HB1 := hide (belOn (unhide HB) hb1)
          clear hb1
          go_wp2_with fail
          go_ret2
          exact ⟨i, by rw [unhide HX]; rfl, unhide HP, unhide HB1⟩
        · have hcz : cmpZ pi id = 1 := by unfold cmpZ; rw [if_neg (by omega), if_pos (by omega)]
          rw [hcz] at HCL
          have HX := hide (show bsB es id i = false from by rw [unhide HBS]; exact decide_eq_false he)
          clear hbs hcz
          go_wp2_with fail
          refine (unhide HCL).mono ?_
          rintro e w1 ⟨rfl, hb1⟩
          have HB1 := hide (belOn (unhide HB) hb1)
          clear hb1
          go_wp2_with fail
          go_ret2
          exact ⟨i, by rw [unhide HX]; rfl, unhide HP, unhide HB1⟩
      · have HX := hide (show bsB es id i = false from by unfold bsB; rw [List.getElem?_eq_none (by omega)])
        go_wp2_with fail
        go_ret2
        exact ⟨i, by rw [unhide HX]; rfl, unhide HP, unhide HB⟩
end Go.Proofs.Ytkpnnchgngcppaa
