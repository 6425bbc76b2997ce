/- The texts that another list has not, by the specification. -/
import Derived.Test.YtnokbnoncdebmaaKyV
namespace Go.Proofs.Ytnokbnoncdebmaa
open Go.RowKit Go.Maps Plain
set_option linter.unusedVariables false

set_option maxRecDepth 10000 in
set_option maxHeartbeats 2000000 in
theorem l7Less_calls (a : Option Addr) (n c : Nat) (ls : List ByteArray) (a2 : Option Addr) (n2 c2 : Nat) (bs : List ByteArray) (w : World) (hr : RowAt strE w a ls) (hn : ls.length = n) (hn2 : n ≤ 1000000) (hr2 : StrsAt w a2 bs) (hm : bs.length = n2) (hm2 : n2 ≤ 1000000) :
    Calls Try.prog 30 #[.slice a n c, .slice a2 n2 c2] w fun e w' => ∃ v, e = .returned v ∧ OwnR strE w' w.heap.size v (ls.filter fun x => !anyB bs x) ∧ Below w.heap.size w w' := by
  have HD := hide (fun (W : World) (hW : Below w.heap.size w W) => hr.below hW)
  have HH := hide (fun (W : World) (hW : Below w.heap.size w W) (s : ByteArray) => l1Has_calls a2 n2 c2 bs s W hm (by omega) (hr2.below hW))
  have HLN := hide hn
  clear hr hr2 hn hm
  go_enter Try.func30, Try.ntmps30
  go_wp2_with fail
  go_loopw [5, 6] (fun s5 s6 wr => ∃ (i : Nat) (ta : Option Addr) (tc tn : Nat), s6 = .int .i64 i ∧ s5 = .slice ta tn tc ∧ i ≤ n ∧ Hid (OwnR strE wr w.heap.size (.slice ta tn tc) ((ls.take i).filter fun x => !anyB bs x)) ∧ Hid (Below w.heap.size w wr)) (fun _ s6 _ => n - (intOf s6).toNat)
  case atStart => exact ⟨0, _, _, _, rfl, rfl, by omega, hide (ownR_empty strE _ _ (Nat.le_refl _)), hide ((Below.refl _ _).alloc (Nat.le_refl _) _)⟩
  case round =>
    obtain ⟨i, ta, tc, tn, rfl, rfl, hi, HO, HB⟩ := hrel
    by_cases hlt : i < n
    · have hil : i < ls.length := by rw [unhide HLN]; exact hlt
      obtain ⟨g, rfl, hgl, hc, -⟩ := (unhide HD wr (unhide HB)).str i hil
      have HNX := hide (show (ls.take (i + 1)).filter (fun x => !anyB bs x) = (ls.take i).filter (fun x => !anyB bs x) ++ (if anyB bs ls[i] = true then [] else [ls[i]]) from by
        rw [List.take_succ_eq_append_getElem hil, List.filter_append]
        cases h9 : anyB bs ls[i] <;> simp [h9])
      have hfl : ((ls.take i).filter fun x => !anyB bs x).length ≤ i := Nat.le_trans (List.length_filter_le _ _) (by rw [List.length_take]; omega)
      have HHS := hide (unhide HH wr (unhide HB) ls[i])
      generalize ls[i] = x at hc HNX HHS
      have i0 : (0 : Int) ≤ (i : Int) := by omega
      have i1 : (i : Int) < (n : Int) := by omega
      have hBz := (unhide HB).size
      cases h9 : anyB bs x with
      | true =>
        rw [h9] at HHS HNX
        rw [if_pos rfl, List.append_nil] at HNX
        clear h9
        go_wp2_with fail
        refine (unhide HHS).mono ?_
        rintro e w2 ⟨rfl, rfl⟩
        go_wp2_with fail
        go_roundw
        case rel => exact ⟨i + 1, ta, tc, tn, by go_num, rfl, by omega, hide (by rw [unhide HNX]; exact unhide HO), HB⟩
        case measure => simp [intOf]; omega
      | false =>
        rw [h9] at HHS HNX
        rw [if_neg (by simp)] at HNX
        clear h9
        go_wp2_with fail
        refine (unhide HHS).mono ?_
        rintro e w2 ⟨rfl, rfl⟩
        go_wp2_with (at_builtin; refine appR rfl _ _ rfl (unhide HO) rfl x rfl _ rfl rfl (by omega) hBz ?_; intro v5 w5 hO5 hb5 _; obtain ⟨a5, c5, rfl⟩ := hO5.form; have HO5 := hide hO5; have HB5 := hide ((unhide HB).trans hb5); clear hO5 hb5)
        go_roundw
        case rel => exact ⟨i + 1, a5, c5, _, by go_num, rfl, by omega, hide (by rw [unhide HNX]; simpa using unhide HO5), HB5⟩
        case measure => simp [intOf]; omega
    · obtain rfl : i = n := by omega
      have hO := unhide HO
      rw [List.take_of_length_le (by rw [unhide HLN]; exact Nat.le_refl _)] at hO
      have HX := hide hO
      clear hO HO
      go_wp2_with fail
      go_ret
      exact ⟨_, rfl, unhide HX, unhide HB⟩
end Go.Proofs.Ytnokbnoncdebmaa
