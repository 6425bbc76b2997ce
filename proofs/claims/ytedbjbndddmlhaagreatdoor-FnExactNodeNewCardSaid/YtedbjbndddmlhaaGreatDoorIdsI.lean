/- The nodes of a set as a list, by the program. -/
import Derived.Test.YtedbjbndddmlhaaGreatDoorChgM
import Derived.Test.YtedbjbndddmlhaaGreatDoorOnlP
import Derived.Shelf.Spec.TrailingZeros
namespace Go.Proofs.YtedbjbndddmlhaaGreatDoor
open Go.RowKit Plain
set_option linter.unusedVariables false

/-- The library's table is as its text lays it. -/
def Plain.TzAt (w : World) : Prop := TabAt 0 Lib.deBruijn64tab w ∧ 0 < w.heap.size
theorem Plain.TzAt.below {w w' : World} {B : Nat} (h : TzAt w) (hb : Below B w w') (hB : 0 < B) : TzAt w' := ⟨fun j hj => (hb.cell (p := ⟨0, j, none⟩) hB).trans (h.1 j hj), Nat.lt_of_lt_of_le h.2 hb.size⟩

set_option maxRecDepth 10000 in
set_option maxHeartbeats 1000000 in
theorem tz_core (x k idx : Nat) (w : World) (hx0 : ((x : Int) == 0) = false)
    (key : IntKind.u64.wrap (bits BinOp.and IntKind.u64 (x : Int) (IntKind.u64.wrap (-(x : Int))) * 285870213051353865) / 288230376151711744 = (idx : Int))
    (hi : idx < 64) (hk : k < 64) (hcell : w.cell? ⟨0, idx, none⟩ = some (.int .u8 k)) :
    Calls Tryz.prog 84 #[.int .u64 x] w fun e w' => e = .returned (.int .i64 k) ∧ w = w' := by
  go_enter Tryz.func84, Tryz.ntmps84
  go_wp2_with (simp only [key])
  go_ret
  exact ⟨rfl, rfl⟩
theorem TrailingZeros64_calls (x : Nat) (w : World) (hx : x < 18446744073709551616) (h0 : x ≠ 0) (hT : TzAt w) :
    Calls Tryz.prog 84 #[.int .u64 x] w fun e w' => e = .returned (.int .i64 (Lib.ctz 64 x : Nat)) ∧ w = w' := by
  obtain ⟨hlow, hk⟩ := Lib.lowest_bit 64 x h0 hx
  obtain ⟨hi, htab⟩ := Lib.deBruijn64_at _ hk
  have hcell := hT.1 _ hi
  rw [htab] at hcell
  exact tz_core x _ _ w (by simp; omega) (tz64_key x _ hx h0 hlow) hi hk hcell

set_option maxRecDepth 10000 in
set_option maxHeartbeats 2000000 in
theorem ids_calls (l : List Int) (w : World) (hk : okIds 0 l = true) (hl : l.length ≤ 100) (hT : TzAt w) :
    Calls Tryz.prog 77 #[.int .u64 (setN l : Nat)] w fun e w' => ∃ a c, e = .returned (.slice a l.length c) ∧ OwnR i64E w' w.heap.size (.slice a l.length c) l ∧ Below w.heap.size w w' := by
  have HK := hide hk
  have HT := hide hT
  have hlt := setN_lt l
  clear hT hk
  go_enter Tryz.func77, Tryz.ntmps77
  go_wp2_with fail
  go_loopw [0, 3] (fun s0 s3 wr => ∃ (k : Nat), s0 = .int .u64 (setN (l.drop k) : Nat) ∧ k ≤ l.length ∧ Hid (okIds (prevZ l k) (l.drop k) = true) ∧ w.heap.size ≤ wr.heap.size ∧ Hid (OwnR i64E wr w.heap.size s3 (l.take k)) ∧ Hid (Below w.heap.size w wr)) (fun s0 _ _ => (intOf s0).toNat)
  case atStart => exact ⟨0, rfl, by omega, hide (unhide HK), Nat.le_refl _, hide (ownR_nil _ _ _), hide (Below.refl _ _)⟩
  case round =>
    obtain ⟨k, rfl, hkl, HO, hz, HR, HB⟩ := hrel
    obtain ⟨a, c, hv⟩ := (unhide HR).form
    subst hv
    have hlk : (l.take k).length = k := by rw [List.length_take]; omega
    rw [hlk] at HR ⊢
    by_cases hkn : k < l.length
    · have hst := okIds_step l k hkn
      rw [unhide HO] at hst
      have hst2 := hst.symm
      rw [Bool.and_eq_true, Bool.and_eq_true, decide_eq_true_iff, decide_eq_true_iff] at hst2
      have hp0 : 0 ≤ prevZ l k := by
        cases k with
        | zero => exact Int.le_refl 0
        | succ k =>
          have hk2 : k < l.length := by omega
          rw [prevZ, List.getElem?_eq_getElem hk2]
          have := ((okIds_facts l 0 (by decide) (unhide HK)).2 l[k] (by simp)).1
          simp
          omega
      have hpn : prevZ l (k + 1) = l[k] := by rw [prevZ, List.getElem?_eq_getElem hkn]; rfl
      have hdr := List.drop_eq_getElem_cons hkn
      have htk := List.take_succ_eq_append_getElem hkn
      rw [hpn] at hst2
      obtain ⟨⟨b1, b2⟩, b3⟩ := hst2
      generalize l[k] = x at b1 b2 b3 hpn hdr htk
      obtain ⟨X, rfl⟩ := Int.eq_ofNat_of_zero_le (show 0 ≤ x by omega)
      obtain ⟨z1, z2, z3⟩ := low_bit X (by omega) (by omega) _ b3
      rw [← hdr] at z1 z2 z3
      have hlt2 := setN_lt (l.drop k)
      have hlt3 := setN_lt (l.drop (k + 1))
      have HTZ := hide (TrailingZeros64_calls (setN (l.drop k)) wr (by omega) z3 ((unhide HT).below (unhide HB) (unhide HT).2))
      rw [z1] at HTZ
      have hne : (((setN (l.drop k) : Nat) : Int) != 0) = true := by rw [bne_iff_ne]; omega
      have hsub : IntKind.u64.wrap (((setN (l.drop k) : Nat) : Int) - 1) = ((setN (l.drop k) - 1 : Nat) : Int) := by rw [IntKind.wrap_u64]; omega
      have hand : bits .and .u64 ((setN (l.drop k) : Nat) : Int) ((setN (l.drop k) - 1 : Nat) : Int) = ((setN (l.drop (k + 1)) : Nat) : Int) := by rw [u64_and_nat _ _ (by omega) (by omega), z2]
      have hle : setN (l.drop (k + 1)) ≤ setN (l.drop k) - 1 := by rw [← z2]; exact Nat.and_le_right
      have HO2 := hide (show okIds (prevZ l (k + 1)) (l.drop (k + 1)) = true from by rw [hpn]; exact b3)
      have HTK := hide htk
      have hlen : (l.take k).length < 100000000 := by omega
      generalize hS2 : setN (l.drop (k + 1)) = S2 at hand hle hlt3
      generalize setN (l.drop k) = S at HTZ hne hsub hand hle hlt2 z3
      have HS2 := hide hS2
      clear hst hdr htk b3 z1 z2 hS2 hlt
      have hless : S2 < S := by omega
      generalize S - 1 = S1 at hsub hand hle
      go_wp2_with fail
      refine (unhide HTZ).mono ?_
      rintro e w1 ⟨rfl, rfl⟩
      go_wp2_with (at_builtin; go_must (refine appR (e := i64E) rfl _ _ rfl (unhide HR) rfl (X : Int) rfl _ rfl rfl hlen hz ?_); intro v' w6 hown6 hb6 hg6; obtain ⟨a', c', hv'⟩ := hown6.form; subst hv')
      go_roundw
      case rel => exact ⟨k + 1, by rw [unhide HS2], by omega, HO2, by have := hb6.size; omega, hide (by rw [unhide HTK, show k + 1 = (l.take k ++ [(X : Int)]).length from by rw [List.length_append, hlk]; rfl]; exact hown6), hide ((unhide HB).trans hb6)⟩
      case measure => simp [intOf]; omega
    · obtain rfl : k = l.length := by omega
      have he : setN (l.drop l.length) = 0 := by rw [List.drop_length]; rfl
      rw [List.take_length] at HR
      rw [he]
      go_wp2_with fail
      go_ret
      exact ⟨a, c, rfl, unhide HR, unhide HB⟩
end Go.Proofs.YtedbjbndddmlhaaGreatDoor
