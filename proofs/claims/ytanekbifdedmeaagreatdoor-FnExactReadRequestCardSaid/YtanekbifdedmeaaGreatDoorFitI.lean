/- Lists whose rows are of a kind, by the program. -/
import Derived.Test.YtanekbifdedmeaaGreatDoorReqJ
namespace Go.Proofs.YtanekbifdedmeaaGreatDoor
open Go.RowKit Plain
set_option linter.unusedVariables false

/-- Headers that are short enough to be looked at. -/
def Plain.smallH (ls : List Hd) : Prop := ∀ h ∈ ls, h.1.size ≤ 1000000000000 ∧ h.2.size ≤ 1000000000000

set_option maxRecDepth 10000 in
set_option maxHeartbeats 1000000 in
theorem fits1_qrw (x y : ByteArray) (b : Nat) (w : World) (hx : x.size ≤ 1000000000000) (hy : y.size ≤ 1000000000000) (hb : w.cell? ⟨b, 0, none⟩ = some (.func (.func 73) #[] #[])) :
    Calls Tryz.prog 108 #[.agg #[.string x, .string y], .pointer (some ⟨b, 0, none⟩)] w fun e w' => e = .returned (.bool (!qrwB (x, y))) ∧ Below w.heap.size w w' := by
  have HB := hide (bel1 w (.cells #[.string x, .string y] 45))
  have h2 := bcl (unhide HB) (lt_of_cell hb) hb
  have HR := hide (queryRow_calls x y (w.alloc (.cells #[.string x, .string y] 45)) hx hy)
  go_enter Tryz.func108, Tryz.ntmps108
  go_wp2_with fail
  refine (unhide HR).mono ?_
  rintro e w1 ⟨rfl, hb1⟩
  have HB1 := hide (belOn (unhide HB) hb1)
  go_wp2_with fail
  go_ret
  exact ⟨rfl, unhide HB1⟩

set_option maxRecDepth 10000 in
set_option maxHeartbeats 1000000 in
theorem index_qrw (a : Option Addr) (n c : Nat) (ls : List Hd) (b : Nat) (w : World) (hn : ls.length = n) (hn2 : n ≤ 1048576) (hsm : smallH ls) (h : RowAt hdrE w a ls) (hb : w.cell? ⟨b, 0, none⟩ = some (.func (.func 73) #[] #[])) :
    Calls Tryz.prog 96 #[.slice a n c, .func (.func 108) #[] #[.pointer (some ⟨b, 0, none⟩)]] w fun e w' => ((e = .returned (.int .i64 (-1)) ∧ ls.all qrwB = true) ∨ ∃ k : Nat, e = .returned (.int .i64 k) ∧ ls.all qrwB = false) ∧ Below w.heap.size w w' := by
  have H := hide h
  have HN := hide hn
  have HSM := hide hsm
  have HC := hide (fun (W : World) (hW : Below w.heap.size w W) => bcl hW (lt_of_cell hb) hb)
  clear h hn hb hsm
  go_enter Tryz.func96, Tryz.ntmps96
  go_wp2_with fail
  go_loopw [8] (fun i wr => ∃ k : Nat, i = .int .i64 k ∧ k ≤ n ∧ Hid (ls.all qrwB = (ls.drop k).all qrwB) ∧ Hid (Below w.heap.size w wr)) (fun i _ => n - (intOf i).toNat)
  case atStart => exact ⟨0, rfl, by omega, hide (by rw [List.drop_zero]), hide (Below.refl _ _)⟩
  case round =>
    obtain ⟨k, rfl, hk, HV, HB⟩ := hrel
    by_cases hlk : k < n
    · have hkl : k < ls.length := by rw [unhide HN]; exact hlk
      obtain ⟨g, e1, l1, p0, p1⟩ := ((unhide H).below (unhide HB)).hdr k hkl
      have HS := (unhide HV).trans (allH_step qrwB ls k hkl)
      have hsz := unhide HSM ls[k] (by simp)
      generalize ls[k] = x at p0 p1 HS hsz
      obtain ⟨y, z⟩ := x
      simp only at p0 p1
      have HCL := hide (fun W hW => fits1_qrw y z b W hsz.1 hsz.2 (unhide HC W hW))
      obtain ⟨t, ht⟩ : ∃ t, qrwB (y, z) = t := ⟨_, rfl⟩
      rw [ht] at HCL HS
      have HS2 := hide HS
      clear HV ht HS hsz hkl
      subst e1
      have i0 : (0 : Int) ≤ (k : Int) := by omega
      have i1 : (k : Int) < (n : Int) := by omega
      cases t with
      | false =>
        go_wp2_with (go_at_call 108; refine (unhide HCL _ (unhide HB)).mono ?_; rintro e w1 ⟨rfl, hb1⟩)
        go_ret
        exact ⟨.inr ⟨k, rfl, unhide HS2⟩, belOn (unhide HB) hb1⟩
      | true =>
        go_wp2_with (go_at_call 108; refine (unhide HCL _ (unhide HB)).mono ?_; rintro e w1 ⟨rfl, hb1⟩)
        go_roundw
        case rel => exact ⟨k + 1, by go_num, by omega, HS2, hide (belOn (unhide HB) hb1)⟩
        case measure => simp [intOf]; omega
    · have HF := hide ((unhide HV).trans (allH_end qrwB ls k (by rw [unhide HN]; omega)))
      go_wp2_with fail
      go_ret
      exact ⟨.inl ⟨rfl, unhide HF⟩, unhide HB⟩

set_option maxRecDepth 10000 in
set_option maxHeartbeats 1000000 in
theorem contains_qrw (a : Option Addr) (n c : Nat) (ls : List Hd) (b : Nat) (w : World) (hn : ls.length = n) (hn2 : n ≤ 1048576) (hsm : smallH ls) (h : RowAt hdrE w a ls) (hb : w.cell? ⟨b, 0, none⟩ = some (.func (.func 73) #[] #[])) :
    Calls Tryz.prog 107 #[.slice a n c, .func (.func 108) #[] #[.pointer (some ⟨b, 0, none⟩)]] w fun e w' => e = .returned (.bool (!ls.all qrwB)) ∧ Below w.heap.size w w' := by
  have HI := hide (index_qrw a n c ls b w hn hn2 hsm h hb)
  clear h hb hsm hn
  go_enter Tryz.func107, Tryz.ntmps107
  go_wp2_with fail
  refine (unhide HI).mono ?_
  rintro e w1 ⟨he, hb1⟩
  have HB := hide hb1
  clear hb1
  rcases he with ⟨rfl, hv⟩ | ⟨k, rfl, hv⟩
  · have HV := hide hv
    clear hv
    go_wp2_with fail
    go_ret
    exact ⟨by rw [unhide HV]; rfl, unhide HB⟩
  · have HV := hide hv
    clear hv
    have i0 : (0 : Int) ≤ (k : Int) := by omega
    go_wp2_with fail
    go_ret
    exact ⟨by rw [unhide HV]; rfl, unhide HB⟩

set_option maxRecDepth 10000 in
set_option maxHeartbeats 1000000 in
theorem fits_qrw (a : Option Addr) (n c : Nat) (ls : List Hd) (w : World) (hn : ls.length = n) (hn2 : n ≤ 1048576) (hsm : smallH ls) (h : RowAt hdrE w a ls) :
    Calls Tryz.prog 72 #[.slice a n c, .func (.func 73) #[] #[]] w fun e w' => e = .returned (.bool (fitB qrwB ls)) ∧ Below w.heap.size w w' := by
  have hmf : ∀ (fn : Fn) (first cap : Array Value) (w : World), (Instr.makeFunc fn first cap).run Tryz.prog w = .ok (.func fn first cap) w := fun _ _ _ _ => rfl
  obtain ⟨W0, hW0⟩ : ∃ W0, W0 = w.alloc (.cells #[.func (.func 73) #[] #[]] 101) := ⟨_, rfl⟩
  have hb0 : Below w.heap.size w W0 := by rw [hW0]; exact bel1 _ _
  have c0 : W0.cell? ⟨w.heap.size, 0, none⟩ = some (.func (.func 73) #[] #[]) := by rw [hW0]; simp [go_sem]
  have HI := hide (contains_qrw a n c ls w.heap.size W0 hn hn2 hsm (h.below hb0) c0)
  have HW0 := hide hW0.symm
  have HB0 := hide hb0
  clear h hb0 hW0 hsm
  by_cases h20 : 20 < n
  · rw [fitB_no (by omega)]
    clear HI hn
    go_enter Tryz.func72, Tryz.ntmps72
    go_wp2_with fail
    go_ret
    exact ⟨rfl, by rw [unhide HW0]; exact unhide HB0⟩
  · rw [fitB_yes (by omega), List.drop_zero]
    clear hn
    generalize ls.all qrwB = t at HI
    go_enter Tryz.func72, Tryz.ntmps72
    go_wp2_with fail
    rw [unhide HW0]
    refine (unhide HI).mono ?_
    rintro e w1 ⟨rfl, hb1⟩
    have HB := hide (belOn (unhide HB0) hb1)
    clear hb1
    go_wp2_with fail
    go_ret
    exact ⟨by simp, unhide HB⟩

end Go.Proofs.YtanekbifdedmeaaGreatDoor
