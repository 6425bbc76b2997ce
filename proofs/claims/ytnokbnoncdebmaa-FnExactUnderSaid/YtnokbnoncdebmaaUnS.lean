/- What lies under a prefix, by the specification. -/
import Derived.Test.YtnokbnoncdebmaaKyV
namespace Go.Proofs.Ytnokbnoncdebmaa
open Go.RowKit Go.Maps Plain
set_option linter.unusedVariables false

namespace Plain
def prB (p : ByteArray) : Bool := hexFrom p 0 && decide ((p.size : Int) ≤ 2)
/-- The digest's digits begin so. -/
def preB (p s : ByteArray) : Bool := (s.extract 7 (7 + p.size)).toList == p.toList
end Plain

set_option maxRecDepth 10000 in
set_option maxHeartbeats 2000000 in
theorem l7Prefix_calls (p : ByteArray) (w : World) (hp : p.size ≤ 1000000000) :
    Calls Try.prog 18 #[.string p] w fun e w' => e = .returned (.bool (prB p)) ∧ w = w' := by
  obtain ⟨R, hR⟩ : ∃ R, hexFrom p 0 = R := ⟨_, rfl⟩
  have HR := hide hR
  unfold prB
  rw [hR]
  clear hR
  go_enter Try.func18, Try.ntmps18
  go_wp2_with fail
  go_loopw [3] (fun s3 wr => ∃ (i : Nat), s3 = .int .i64 i ∧ i ≤ p.size ∧ Hid (hexFrom p i = R) ∧ w = wr) (fun s3 _ => p.size - (intOf s3).toNat)
  case atStart => exact ⟨0, rfl, by omega, HR, rfl⟩
  case round =>
    clear HR
    obtain ⟨i, rfl, hi, HO, rfl⟩ := hrel
    by_cases hlt : i < p.size
    · have hst := unhide HO
      rw [hexFrom_step p i hlt] at hst
      obtain ⟨q, hq, hq2⟩ : ∃ q : Nat, p[i].toNat = q ∧ q < 256 := ⟨_, rfl, p[i].toNat_lt⟩
      rw [hq] at hst
      have hi1 : (i : Int) < (p.size : Int) := by omega
      have i0 : (0 : Int) ≤ (i : Int) := by omega
      have HV := hide (spec_l1Hexit (q : Int) w (by omega) (by omega))
      have hxb := hexI_bounds (q : Int)
      generalize hexI (q : Int) = y at HV hst hxb
      by_cases hy : y < 0
      · rw [decide_eq_false (by omega)] at hst
        have HX := hide (show R = false from by rw [← hst]; rfl)
        clear hst HO
        go_wp2_with fail
        refine (unhide HV).mono ?_
        rintro e w2 ⟨rfl, rfl⟩
        go_wp2_with fail
        go_ret
        exact ⟨by rw [unhide HX]; rfl, rfl⟩
      · rw [decide_eq_true (by omega), Bool.true_and] at hst
        have HX := hide hst
        clear hst HO
        go_wp2_with fail
        refine (unhide HV).mono ?_
        rintro e w2 ⟨rfl, rfl⟩
        go_wp2_with fail
        go_roundw
        case rel => exact ⟨i + 1, by go_num, by omega, HX, trivial⟩
        case measure => simp [intOf]; omega
    · obtain rfl : i = p.size := by omega
      have hO := unhide HO
      rw [hexFrom_end _ _ (Nat.le_refl _)] at hO
      have HX := hide hO.symm
      clear hO HO
      go_wp2_with fail
      go_ret
      exact ⟨by rw [unhide HX, Bool.true_and]; rfl, rfl⟩

set_option maxRecDepth 10000 in
set_option maxHeartbeats 2000000 in
theorem l7Under_calls (a : Option Addr) (n c : Nat) (ls : List ByteArray) (p : ByteArray) (w : World) (h : TxtsAt w a n ls) (hs : ∀ s ∈ ls, s.size = 71) (hp : p.size ≤ 2) :
    Calls Try.prog 19 #[.slice a n c, .string p] w fun e w' => ∃ v, e = .returned v ∧ OwnR strE w' w.heap.size v (ls.filter (preB p)) ∧ Below w.heap.size w w' := by
  have HD := hide (fun (W : World) (hW : Below w.heap.size w W) => (h.below hW).row)
  have HLN := hide h.len
  have hn2 := h.bn
  have HS := hide hs
  clear h hs
  go_enter Try.func19, Try.ntmps19
  go_wp2_with fail
  go_loopw [5, 6] (fun s5 s6 wr => ∃ (i : Nat) (ta : Option Addr) (tc tn : Nat), s6 = .int .i64 i ∧ s5 = .slice ta tn tc ∧ i ≤ n ∧ Hid (OwnR strE wr w.heap.size (.slice ta tn tc) ((ls.take i).filter (preB p))) ∧ Hid (Below w.heap.size w wr)) (fun _ s6 _ => n - (intOf s6).toNat)
  case atStart => exact ⟨0, _, _, _, rfl, rfl, by omega, hide (ownR_empty strE _ _ (Nat.le_refl _)), hide ((Below.refl _ _).alloc (Nat.le_refl _) _)⟩
  case round =>
    obtain ⟨i, ta, tc, tn, rfl, rfl, hi, HO, HB⟩ := hrel
    by_cases hlt : i < n
    · have hil : i < ls.length := by rw [unhide HLN]; exact hlt
      obtain ⟨g, rfl, hgl, hc, -⟩ := (unhide HD wr (unhide HB)).str i hil
      have HNX := hide (show (ls.take (i + 1)).filter (preB p) = (ls.take i).filter (preB p) ++ (if preB p ls[i] = true then [ls[i]] else []) from by
        rw [List.take_succ_eq_append_getElem hil, List.filter_append]
        cases h9 : preB p ls[i] <;> simp [h9])
      have hfl : ((ls.take i).filter (preB p)).length ≤ i := Nat.le_trans (List.length_filter_le _ _) (by rw [List.length_take]; omega)
      have hxs := unhide HS ls[i] (List.getElem_mem _)
      generalize ls[i] = x at hc HNX hxs
      obtain ⟨k, hk⟩ : ∃ k : Nat, p.size = k := ⟨_, rfl⟩
      have i0 : (0 : Int) ≤ (i : Int) := by omega
      have i1 : (i : Int) < (n : Int) := by omega
      have hBz := (unhide HB).size
      obtain ⟨m, hm, hm2⟩ : ∃ m : Nat, 7 + p.size = m ∧ m ≤ 71 := ⟨_, rfl, by omega⟩
      have e1 : (7 : Int) + (p.size : Int) = (m : Int) := by omega
      have e2 : (7 : Int) ≤ (m : Int) := by omega
      have e3 : (m : Int) ≤ (x.size : Int) := by omega
      obtain ⟨r, h9⟩ : ∃ r, preB p x = r := ⟨_, rfl⟩
      rw [h9] at HNX
      unfold preB at h9
      rw [hm] at h9
      clear hk
      cases r with
      | false =>
        rw [if_neg (by simp), List.append_nil] at HNX
        go_wp2_with fail
        go_roundw
        case rel => exact ⟨i + 1, ta, tc, tn, by go_num, rfl, by omega, hide (by rw [unhide HNX]; exact unhide HO), HB⟩
        case measure => simp [intOf]; omega
      | true =>
        rw [if_pos rfl] at HNX
        go_wp2_with (at_builtin; refine appR rfl _ _ rfl (unhide HO) rfl x rfl _ rfl rfl (by omega) hBz ?_; intro v5 w5 hO5 hb5 _; obtain ⟨a5, c5, rfl⟩ := hO5.form; have HO5 := hide hO5; have HB5 := hide ((unhide HB).trans hb5); clear hO5 hb5)
        go_roundw
        case rel => exact ⟨i + 1, a5, c5, _, by go_num, rfl, by omega, hide (by rw [unhide HNX]; simpa using unhide HO5), HB5⟩
        case measure => simp [intOf]; omega
    · obtain rfl : i = n := by omega
      have hO := unhide HO
      rw [List.take_of_length_le (by rw [unhide HLN]; exact Nat.le_refl _)] at hO
      have HX := hide hO
      clear hO HO
      go_wp2_with fail
      go_ret
      exact ⟨_, rfl, unhide HX, unhide HB⟩
end Go.Proofs.Ytnokbnoncdebmaa
