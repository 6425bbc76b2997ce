/- The texts of keys, by the program. -/
import Derived.Test.YtldgkpnlplfopaaGreatDoorKyD
namespace Go.Proofs.YtldgkpnlplfopaaGreatDoor
open Go.RowKit Go.Maps Plain
set_option linter.unusedVariables false

theorem Plain.keyRange {W : World} {a : Option Addr} {ks : List (List UInt8)} (h : RowAt keyE W a ks) (i : Nat) (hi : i < ks.length) : ∃ g, a = some ⟨g, 0, none⟩ ∧ g < W.heap.size ∧ W.rangeAt g (i * 32) (encK ks[i]) := by
  obtain ⟨g, e, hl, hc⟩ := h i hi
  refine ⟨g, e, hl, fun j v hv => ?_⟩
  have hj : j < 32 := by rw [← encK_len ks[i]]; exact (List.getElem?_eq_some_iff.1 hv).1
  exact (hc j hj).1.trans hv
theorem dgT_size (x : List UInt8) (h : x.length = 32) : (dgT x).size = 71 := by
  have := tI_len x
  rw [← tI_str, strOfNums_size, this, h]

set_option maxRecDepth 100000 in
set_option maxHeartbeats 2000000 in
theorem textsOf_calls (a : Option Addr) (n c : Nat) (ks : List (List UInt8)) (w : World) (hr : RowAt keyE w a ks) (hn : ks.length = n) (hn2 : n ≤ 100000) (h32 : ∀ x ∈ ks, x.length = 32) :
    Calls Tryz.prog 46 #[.slice a n c] w fun e w' => ∃ v, e = .returned v ∧ OwnR strE w' w.heap.size v (ks.map dgT) ∧ Below w.heap.size w w' := by
  have HD := hide (fun (W : World) (hW : Below w.heap.size w W) => hr.below hW)
  have HLN := hide hn
  have H32 := hide h32
  clear hr hn h32
  go_enter Tryz.func46, Tryz.ntmps46
  go_wp2_with fail
  go_loopw [3, 5, 8] (fun s3 _ s8 wr => ∃ (i : Nat) (ta : Option Addr) (tc tn : Nat), s8 = .int .i64 i ∧ s3 = .slice ta tn tc ∧ i ≤ n ∧ Hid (tn = i) ∧ Hid (OwnR strE wr w.heap.size (.slice ta tn tc) ((ks.take i).map dgT)) ∧ Hid (Below w.heap.size w wr)) (fun _ _ s8 _ => n - (intOf s8).toNat)
  case atStart => exact ⟨0, none, 0, 0, rfl, rfl, by omega, hide rfl, hide (ownR_nil _ _ _), hide (Below.refl _ _)⟩
  case round =>
    obtain ⟨i, ta, tc, tn, rfl, rfl, hi, HN, HO, HB⟩ := hrel
    by_cases hlt : i < n
    · have hil : i < ks.length := by rw [unhide HLN]; exact hlt
      obtain ⟨g, rfl, hgl, hrg⟩ := keyRange (unhide HD wr (unhide HB)) i hil
      have hx32 := unhide H32 ks[i] (List.getElem_mem _)
      have HNX := hide (show (ks.take (i + 1)).map dgT = (ks.take i).map dgT ++ [dgT ks[i]] from by rw [List.take_succ_eq_append_getElem hil, List.map_append]; rfl)
      have hsz := dgT_size ks[i] hx32
      have HDG := hide (fun W => kdig_calls ks[i] hx32 W)
      have hlnn : ((ks.take i).map dgT).length = i := by simp; omega
      generalize ks[i] = x at hrg HNX HDG hsz
      have hinx := infX x
      have hiny : (Tryz.prog.info? 63).map (·.size) = some (encK x).length := by rw [encK_len]; exact infoK
      have h32x := s32X x
      have honx := oneX x
      have i0 : (0 : Int) ≤ (i : Int) := by omega
      have i1 : (i : Int) < (n : Int) := by omega
      have hBz := (unhide HB).size
      go_wp2_with (first
        | (refine wpList_load_mid rfl 63 (.tmp 10) rfl g (i * 32) rfl (encK x) _ hrg Tryz.underlying63 rfl hiny ?_)
        | (refine wpList_store_any rfl 63 (.tmp 5) (.tmp 11) rfl wr.heap.size (encK x).toArray rfl rfl 63 _ (heap_alloc_new wr _) hinx h32x honx ?_; intro w3 hrow3 hgr3 hsz3)
        | (refine wpList_load_row rfl 63 (.tmp 5) rfl wr.heap.size rfl 63 (encK x).toArray (0, 0) _ hrow3 Tryz.underlying63 rfl hinx ?_))
      have hb3 : Below wr.heap.size wr w3 := ((Below.refl _ wr).alloc (Nat.le_refl _) _).trans ((Below.refl _ _).grown hgr3 (by simp) (fun k e => by cases e; exact Nat.le_refl _))
      clear hrow3 hgr3 hsz3 hrg
      refine (unhide HDG _).mono ?_
      rintro e w4 ⟨rfl, hb4⟩
      have hb5 := hb3.trans (hb4.mono hb3.size)
      have HO4 := hide ((unhide HO).keep hb5)
      have HB4 := hide ((unhide HB).trans (hb5.mono hBz))
      have hB4 := (unhide HB4).size
      clear hb3 hb4 hb5 HO
      go_wp2_with (at_builtin; refine appR rfl _ _ rfl (unhide HO4) rfl (dgT x) rfl _ rfl rfl (by rw [hlnn]; omega) hB4 ?_; intro v5 w5 hO5 hb5 _; obtain ⟨a5, c5, rfl⟩ := hO5.form; have HO5 := hide hO5; have HB5 := hide ((unhide HB4).trans hb5); clear hO5 hb5)
      go_roundw
      case rel => exact ⟨i + 1, a5, c5, _, by go_num, rfl, by omega, hide (by omega), hide (by rw [unhide HNX]; simpa using unhide HO5), HB5⟩
      case measure => simp [intOf]; omega
    · obtain rfl : i = n := by omega
      have hO := unhide HO
      rw [List.take_of_length_le (by rw [unhide HLN]; exact Nat.le_refl _)] at hO
      have HX := hide hO
      clear hO HO
      go_wp2_with fail
      go_ret
      exact ⟨_, rfl, unhide HX, unhide HB⟩
end Go.Proofs.YtldgkpnlplfopaaGreatDoor
