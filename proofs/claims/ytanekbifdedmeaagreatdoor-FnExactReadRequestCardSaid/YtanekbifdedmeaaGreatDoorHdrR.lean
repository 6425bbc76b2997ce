/- Rows of headers, as the exact laws copy, measure and compare them. -/
import Derived.Test.YtanekbifdedmeaaGreatDoorRowK
import Derived.Test.YtanekbifdedmeaaGreatDoorGAD
namespace Go.Proofs.YtanekbifdedmeaaGreatDoor
open Go.RowKit Plain
set_option linter.unusedVariables false

namespace Plain
/-- A header: its name and its value. -/
abbrev Hd := ByteArray × ByteArray
def hdrL (f : Hd) : List Value := [.string f.1, .string f.2]
def goodH (f : Hd) : Prop := f.1.size ≤ maxLen ∧ f.2.size ≤ maxLen
end Plain
/-- Headers as elements. -/
def hdrE : Elem Hd where
  E := 45
  S := 24
  n := 2
  bytes := 32
  zero := .agg #[.string ⟨#[]⟩, .string ⟨#[]⟩]
  enc := fun f => [.string f.1, .string f.2]
  hund := Tryz.underlying24
  hinfo := by kernel_rfl
  hz := rfl
  hn := by decide
  hb := by decide
  hlen := fun _ => rfl
  hone := fun x u hu => by simp at hu; rcases hu with rfl | rfl <;> rfl
theorem RowAt.hdr {W : World} {a : Option Addr} {xs : List Hd} (h : RowAt hdrE W a xs) (i : Nat) (hi : i < xs.length) : ∃ g, a = some ⟨g, 0, none⟩ ∧ g < W.heap.size ∧ W.cell? ⟨g, i * 2, none⟩ = some (.string xs[i].1) ∧ W.cell? ⟨g, i * 2 + 1, none⟩ = some (.string xs[i].2) := by
  obtain ⟨g, e1, hl, h1⟩ := h i hi
  exact ⟨g, e1, hl, (h1 0 (by decide)).1, (h1 1 (by decide)).1⟩



namespace Plain
theorem ArgAt.hdr {W : World} {a : Option Addr} {xs : List Hd} (h : ArgAt 2 hdrL W a xs) (i : Nat) (hi : i < xs.length) : ∃ g o, a = some ⟨g, o, none⟩ ∧ g < W.heap.size ∧ W.cell? ⟨g, o + i * 2, none⟩ = some (.string xs[i].1) ∧ W.cell? ⟨g, o + i * 2 + 1, none⟩ = some (.string xs[i].2) := by
  obtain ⟨g, o, e, hl, hc⟩ := h i hi
  exact ⟨g, o, e, hl, hc 0 (by decide), hc 1 (by decide)⟩
end Plain





theorem eqHeader_calls (nm dt : ByteArray) (w : World) : Calls Tryz.prog 99 #[.agg #[.string nm, .string dt], .agg #[.string nm, .string dt]] w fun e w' => e = .returned (.bool true) ∧ Below w.heap.size w w' := by
  have HB := hide (belOn (bel1 w (.cells #[.string nm, .string dt] 45)) (bel1 _ (.cells #[.string nm, .string dt] 45)))
  go_enter Tryz.func99, Tryz.ntmps99
  go_wp2_with fail
  go_ret
  exact ⟨rfl, unhide HB⟩





set_option maxRecDepth 10000 in
set_option maxHeartbeats 1000000 in
theorem eqHeaderS_calls (a1 a2 : Option Addr) (c1 c2 n : Nat) (ls : List Hd) (w : World) (hn : ls.length = n) (hn2 : n ≤ 100000000) (h1 : RowAt hdrE w a1 ls) (h2 : RowAt hdrE w a2 ls) :
    Calls Tryz.prog 57 #[.slice a1 n c1, .slice a2 n c2] w fun e w' => e = .returned (.bool true) ∧ Below w.heap.size w w' := by
  have H1 := hide h1
  have H2 := hide h2
  have HN := hide hn
  clear h1 h2 hn
  go_enter Tryz.func57, Tryz.ntmps57
  go_wp2_with fail
  go_loopw [5] (fun i wr => ∃ (k : Nat), i = .int .i64 k ∧ k ≤ n ∧ Hid (Below w.heap.size w wr)) (fun i _ => n - (intOf i).toNat)
  case atStart => exact ⟨0, rfl, by omega, Below.refl _ _⟩
  case round =>
    obtain ⟨k, rfl, hk, HB⟩ := hrel
    by_cases hlt : k < n
    · have hkl : k < ls.length := by rw [unhide HN]; exact hlt
      obtain ⟨g1, e1, l1, p0, p1⟩ := ((unhide H1).below (unhide HB)).hdr k hkl
      obtain ⟨g2, e2, l2, q0, q1⟩ := ((unhide H2).below (unhide HB)).hdr k hkl
      generalize ls[k] = x at p0 p1 q0 q1
      obtain ⟨nm, dt⟩ := x
      simp only at p0 p1 q0 q1
      clear H1 H2 hkl
      subst e1 e2
      have i0 : (0 : Int) ≤ (k : Int) := by omega
      have i1 : (k : Int) < (n : Int) := by omega
      go_wp2_with fail
      go_region_with (go_at_call 99; refine (eqHeader_calls nm dt _).mono ?_; rintro e w1 ⟨rfl, hb1⟩)
      all_goals (try go_wp2_with fail)
      all_goals exact ⟨⟨k + 1, by go_num, by omega, hide (belOn (unhide HB) (bOfDrew hb1))⟩, by simp [intOf]; omega⟩
    · obtain rfl : k = n := by omega
      go_wp2_with fail
      go_ret
      exact ⟨rfl, unhide HB⟩
end Go.Proofs.YtanekbifdedmeaaGreatDoor
