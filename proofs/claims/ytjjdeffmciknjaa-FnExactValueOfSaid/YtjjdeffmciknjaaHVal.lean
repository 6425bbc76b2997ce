/- The first value of a name, by the program and by the specification. -/
import Derived.Test.YtjjdeffmciknjaaHdrR
namespace Go.Proofs.Ytjjdeffmciknjaa
open Go.RowKit Plain
set_option linter.unusedVariables false

namespace Plain
/-- The first value of a name in a list. -/
def valH : List Hd → ByteArray → Option ByteArray
  | [], _ => none
  | h :: t, nm => if (h.1.toList == nm.toList) = true then some h.2 else valH t nm
theorem valH_drop (ls : List Hd) (nm : ByteArray) (k : Nat) (h : k < ls.length) : valH (ls.drop k) nm = if (ls[k].1.toList == nm.toList) = true then some ls[k].2 else valH (ls.drop (k + 1)) nm := by
  rw [List.drop_eq_getElem_cons h]
  rfl
theorem valH_end (ls : List Hd) (nm : ByteArray) (k : Nat) (h : ls.length ≤ k) : valH (ls.drop k) nm = none := by
  rw [List.drop_of_length_le h]
  rfl
end Plain

theorem valueOf1_calls (x y nm : ByteArray) (b : Nat) (w : World) (hb : w.cell? ⟨b, 0, none⟩ = some (.string nm)) :
    Calls Try.prog 14 #[.agg #[.string x, .string y], .pointer (some ⟨b, 0, none⟩)] w fun e w' => e = .returned (.bool (x.toList == nm.toList)) ∧ Below w.heap.size w w' := by
  have HB := hide (bel1 w (.cells #[.string x, .string y] 33))
  have h2 := bcl (unhide HB) (lt_of_cell hb) hb
  go_enter Try.func14, Try.ntmps14
  go_wp2_with fail
  go_ret
  exact ⟨rfl, unhide HB⟩

set_option maxRecDepth 10000 in
set_option maxHeartbeats 1000000 in
theorem indexH_calls (a : Option Addr) (n c : Nat) (ls : List Hd) (nm : ByteArray) (b : Nat) (w : World) (hn : ls.length = n) (hn2 : n ≤ 1048576) (h : RowAt hdrE w a ls) (hb : w.cell? ⟨b, 0, none⟩ = some (.string nm)) :
    Calls Try.prog 13 #[.slice a n c, .func (.func 14) #[] #[.pointer (some ⟨b, 0, none⟩)]] w fun e w' => ((e = .returned (.int .i64 (-1)) ∧ valH ls nm = none) ∨ ∃ k : Nat, e = .returned (.int .i64 k) ∧ ∃ hk : k < ls.length, valH ls nm = some ls[k].2) ∧ Below w.heap.size w w' := by
  have H := hide h
  have HN := hide hn
  have HC := hide (fun (W : World) (hW : Below w.heap.size w W) => bcl hW (lt_of_cell hb) hb)
  clear h hn hb
  go_enter Try.func13, Try.ntmps13
  go_wp2_with fail
  go_loopw [8] (fun i wr => ∃ k : Nat, i = .int .i64 k ∧ k ≤ n ∧ Hid (valH ls nm = valH (ls.drop k) nm) ∧ Hid (Below w.heap.size w wr)) (fun i _ => n - (intOf i).toNat)
  case atStart => exact ⟨0, rfl, by omega, hide (by rw [List.drop_zero]), hide (Below.refl _ _)⟩
  case round =>
    obtain ⟨k, rfl, hk, HV, HB⟩ := hrel
    by_cases hlk : k < n
    · have hkl : k < ls.length := by rw [unhide HN]; exact hlk
      obtain ⟨g, e1, l1, p0, p1⟩ := ((unhide H).below (unhide HB)).hdr k hkl
      have HS := hide (unhide HV |>.trans (valH_drop ls nm k hkl))
      have HE := hide (show ∃ x : Hd, ls[k] = x from ⟨_, rfl⟩)
      obtain ⟨x, hx⟩ := unhide HE
      rw [hx] at p0 p1 HS
      have HX := hide hx
      obtain ⟨y, z⟩ := x
      simp only at p0 p1
      have hc := unhide HC _ (unhide HB)
      clear HE HV
      clear hx
      subst e1
      have i0 : (0 : Int) ≤ (k : Int) := by omega
      have i1 : (k : Int) < (n : Int) := by omega
      obtain ⟨t, ht⟩ : ∃ t, (y.toList == nm.toList) = t := ⟨_, rfl⟩
      have HCL := hide (fun W hW => valueOf1_calls y z nm b W (unhide HC W hW))
      rw [ht] at HCL
      simp only [ht] at HS
      clear ht
      cases t with
      | true =>
        go_wp2_with (go_at_call 14; refine (unhide HCL _ (unhide HB)).mono ?_; rintro e w1 ⟨rfl, hb1⟩)
        go_ret
        refine ⟨.inr ⟨k, rfl, by rw [unhide HN]; exact hlk, ?_⟩, belOn (unhide HB) hb1⟩
        rw [unhide HX]
        exact (unhide HS).trans (by simp)
      | false =>
        go_wp2_with (go_at_call 14; refine (unhide HCL _ (unhide HB)).mono ?_; rintro e w1 ⟨rfl, hb1⟩)
        go_roundw
        case rel => exact ⟨k + 1, by go_num, by omega, hide ((unhide HS).trans (if_neg (by simp))), hide (belOn (unhide HB) hb1)⟩
        case measure => simp [intOf]; omega
    · have HF := hide ((unhide HV).trans (valH_end ls nm k (by rw [unhide HN]; omega)))
      go_wp2_with fail
      go_ret
      exact ⟨.inl ⟨rfl, unhide HF⟩, unhide HB⟩

def Plain.valV (o : Option ByteArray) : Value := .tuple #[.string (o.getD ⟨#[]⟩), .bool o.isSome]

set_option maxRecDepth 10000 in
set_option maxHeartbeats 1000000 in
theorem valueOfM_calls (a : Option Addr) (n c : Nat) (ls : List Hd) (nm : ByteArray) (w : World) (hn : ls.length = n) (hn2 : n ≤ 1048576) (h : RowAt hdrE w a ls) :
    Calls Try.prog 11 #[.slice a n c, .string nm] w fun e w' => e = .returned (valV (valH ls nm)) ∧ Below w.heap.size w w' := by
  have HN := hide hn
  have hmf : ∀ (fn : Fn) (first cap : Array Value) (w : World), (Instr.makeFunc fn first cap).run Try.prog w = .ok (.func fn first cap) w := fun _ _ _ _ => rfl
  obtain ⟨W0, hW0⟩ : ∃ W0, W0 = w.alloc (.cells #[.string nm] 9) := ⟨_, rfl⟩
  have hb0 : Below w.heap.size w W0 := by rw [hW0]; exact bel1 _ _
  have c0 : W0.cell? ⟨w.heap.size, 0, none⟩ = some (.string nm) := by rw [hW0]; simp [go_sem]
  have H := hide (h.below hb0)
  have HI := hide (indexH_calls a n c ls nm w.heap.size W0 hn hn2 (unhide H) c0)
  have HW0 := hide hW0.symm
  have HB0 := hide hb0
  clear h hb0 hn hW0
  go_enter Try.func11, Try.ntmps11
  go_wp2_with fail
  rw [unhide HW0]
  refine (unhide HI).mono ?_
  rintro e w1 ⟨he, hb1⟩
  have HB := hide (belOn (unhide HB0) hb1)
  rcases he with ⟨rfl, hv⟩ | ⟨k, rfl, hk, hv⟩
  · have HV := hide hv
    clear hv
    go_wp2_with fail
    go_ret2
    exact ⟨by rw [unhide HV]; rfl, unhide HB⟩
  · have HV := hv
    obtain ⟨g, e1, l1, p0, p1⟩ := ((unhide H).below hb1).hdr k hk
    have i0 : (0 : Int) ≤ (k : Int) := by omega
    have i1 : (k : Int) < (n : Int) := by have := unhide HN; omega
    generalize ls[k] = x at p0 p1 HV
    obtain ⟨y, z⟩ := x
    simp only at p0 p1 HV
    have HV2 := hide HV
    subst e1
    clear hb1 hv HI HV
    go_wp2_with fail
    go_ret2
    exact ⟨by rw [unhide HV2]; rfl, unhide HB⟩

set_option maxRecDepth 10000 in
set_option maxHeartbeats 1000000 in
theorem impl_ValueOf (a : Option Addr) (n c : Nat) (ls : List Hd) (nm : ByteArray) (w : World) (hn : ls.length = n) (hn2 : n ≤ 1048576) (h : RowAt hdrE w a ls) :
    Calls Try.prog 7 #[.slice a n c, .string nm] w fun e w' => e = .returned (valV (valH ls nm)) ∧ Below w.heap.size w w' := by
  have HI := hide (valueOfM_calls a n c ls nm w hn hn2 h)
  clear h hn
  unfold valV at HI ⊢
  go_enter Try.func7, Try.ntmps7
  go_wp2_with fail
  refine (unhide HI).mono ?_
  rintro e w1 ⟨rfl, hb1⟩
  go_wp2_with fail
  go_ret2
  exact ⟨rfl, hb1⟩

set_option maxRecDepth 10000 in
set_option maxHeartbeats 1000000 in
theorem spec_ValueOf (a : Option Addr) (n c : Nat) (ls : List Hd) (nm : ByteArray) (w : World) (hn : ls.length = n) (hn2 : n ≤ 1048576) (h : RowAt hdrE w a ls) :
    Calls Try.prog 5 #[.slice a n c, .string nm] w fun e w' => e = .returned (valV (valH ls nm)) ∧ Below w.heap.size w w' := by
  have H := hide h
  have HN := hide hn
  obtain ⟨R, hR⟩ : ∃ R, valH ls nm = R := ⟨_, rfl⟩
  rw [hR]
  have HR := hide hR
  clear h hn hR
  go_enter Try.func5, Try.ntmps5
  go_wp2_with fail
  go_loopw [6] (fun i wr => ∃ k : Nat, i = .int .i64 k ∧ k ≤ n ∧ Hid (R = valH (ls.drop k) nm) ∧ Hid (Below w.heap.size w wr)) (fun i _ => n - (intOf i).toNat)
  case atStart => exact ⟨0, rfl, by omega, hide (by rw [List.drop_zero]; exact (unhide HR).symm), hide (Below.refl _ _)⟩
  case round =>
    obtain ⟨k, rfl, hk, HV, HB⟩ := hrel
    by_cases hlk : k < n
    · have hkl : k < ls.length := by rw [unhide HN]; exact hlk
      obtain ⟨g, e1, l1, p0, p1⟩ := ((unhide H).below (unhide HB)).hdr k hkl
      have HS := unhide HV |>.trans (valH_drop ls nm k hkl)
      generalize ls[k] = x at p0 p1 HS
      obtain ⟨y, z⟩ := x
      simp only at p0 p1 HS
      clear HV
      subst e1
      have i0 : (0 : Int) ≤ (k : Int) := by omega
      have i1 : (k : Int) < (n : Int) := by omega
      by_cases ht : (y.toList == nm.toList) = true
      · have HF := hide (HS.trans (if_pos ht))
        clear HS
        go_wp2_with fail
        go_ret2
        exact ⟨by rw [unhide HF]; rfl, unhide HB⟩
      · have HF := hide (HS.trans (if_neg ht))
        have ht2 : (y.toList == nm.toList) = false := by simpa using ht
        clear HS ht
        go_wp2_with fail
        go_roundw
        case rel => exact ⟨k + 1, by go_num, by omega, HF, HB⟩
        case measure => simp [intOf]; omega
    · have HF := hide ((unhide HV).trans (valH_end ls nm k (by rw [unhide HN]; omega)))
      clear HV
      go_wp2_with fail
      go_ret2
      exact ⟨by rw [unhide HF]; rfl, unhide HB⟩
end Go.Proofs.Ytjjdeffmciknjaa
