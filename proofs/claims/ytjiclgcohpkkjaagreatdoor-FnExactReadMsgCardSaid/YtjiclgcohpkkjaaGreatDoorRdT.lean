/- ReadFrames of the specification. -/
import Derived.Test.YtjiclgcohpkkjaaGreatDoorGzBA
import Derived.Test.YtjiclgcohpkkjaaGreatDoorGzAP
namespace Go.Proofs.YtjiclgcohpkkjaaGreatDoor
open Go.RowKit Plain
set_option linter.unusedVariables false

set_option maxRecDepth 10000 in
set_option maxHeartbeats 2000000 in
theorem specRead_calls (s : ByteArray) (w : World) (hs : s.size ≤ 1000000000) :
    Calls Tryz.prog 19 #[.string s] w fun e w' => ∃ v, e = .returned (.tuple #[v, .int .i64 ((readF s).2.1 : Nat), .int .i64 (readF s).2.2]) ∧ OwnF w' w.heap.size v (readF s).1 ∧ Below w.heap.size w w' := by
  go_enter Tryz.func19, Tryz.ntmps19
  go_wp2_with fail
  go_loopw [5, 6, 7, 8, 9] (fun v i _ _ _ wr => ∃ (F : List (Int × ByteArray)) (p : Nat), i = .int .i64 p ∧ Hid (Mid s F p) ∧ Hid (OwnF wr w.heap.size v F) ∧ Hid (Below w.heap.size w wr)) (fun _ i _ _ _ _ => s.size - (intOf i).toNat)
  case atStart => exact ⟨[], 0, rfl, Mid.start s, ownF_empty w _ (Nat.le_refl _), (Below.refl _ _).alloc (Nat.le_refl _) _⟩
  case round =>
    obtain ⟨F, p, rfl, HM, HO, HB⟩ := hrel
    obtain ⟨hm1, hm2, -⟩ := unhide HM
    obtain ⟨fa, fc, rfl⟩ := ownF_form (unhide HO)
    have hzr := (unhide HB).size
    by_cases hp : s.size ≤ p
    · have HE := hide ((unhide HM).ends hp)
      go_wp2_with fail
      go_ret3
      exact ⟨_, by rw [unhide HE]; rfl, by rw [unhide HE]; exact unhide HO, unhide HB⟩
    · by_cases hF : F.length = 2000
      · have HE := hide ((unhide HM).many hp hF)
        go_wp2_with fail
        go_ret3
        exact ⟨_, by rw [unhide HE]; rfl, by rw [unhide HE]; exact unhide HO, unhide HB⟩
      · have hF2 : F.length < 2000 := by omega
        have hnx := (unhide HM).next hp hF
        have hcd := (unhide HM).code hp hF
        have hrs := rest_size s p
        obtain ⟨r, hr⟩ : ∃ r, s.extract p s.size = r := ⟨_, rfl⟩
        rw [hr] at hnx hcd hrs
        have HNX := hide hnx
        have HCD := hide hcd
        clear hnx hcd
        go_wp2_with fail
        refine (l2Frame_calls r _ (by omega) (by omega)).mono ?_
        rintro e w4 ⟨rfl, hb4⟩
        have hz4 := hb4.size
        have HO4 := hide (ownF_below (unhide HO) hb4)
        have HB4 := hide ((unhide HB).trans (hb4.mono hzr))
        have hz5 := (unhide HB4).size
        clear hb4 HO HB
        by_cases hc : frC r = 0
        · have hfv : spV r = .tuple #[.agg #[.int .i64 (bAt r 0 : Nat), .string (frB r)], .int .i64 (frN r : Nat), .int .i64 0] := by unfold spV; rw [if_pos hc]
          have HN := hide (unhide HNX hc)
          obtain ⟨hpos, hpz, hpm, -, -⟩ := szI_ok (frC_ok hc)
          have hfn : frN r = (szI r).2 := rfl
          rw [← hfn] at hpos hpz hpm
          rw [hfv]
          have hfm : frm r = ((bAt r 0 : Int), frB r) := rfl
          rw [hfm] at HN
          clear hfv HNX HCD hc hfm hfn
          generalize (bAt r 0 : Int) = kd at HN
          generalize frB r = bd at HN
          generalize frN r = nn at HN hpos hpz hpm
          have hX : Below w4.heap.size w4 (w4.alloc (.cells #[.int .i64 kd, .string bd] 55)) := (Below.refl _ _).alloc (Nat.le_refl _) _
          have HOX := hide (ownF_below (unhide HO4) hX)
          have hzX := hX.size
          clear hX
          have j1 : (p : Int) + (nn : Int) ≤ 1000000000 := by omega
          go_wp2_with (at_builtin; go_must (refine appF rfl _ _ rfl (unhide HOX) rfl _ rfl (by simp) (by omega) (Nat.le_trans hz5 hzX) ?_); intro v' w6 hown6 hb6)
          go_roundw
          case rel =>
            have hball : Below w.heap.size w4 w6 := ((Below.refl w.heap.size w4).alloc hz5 _).trans hb6
            exact ⟨F ++ [(kd, bd)], p + nn, by go_num, HN, hide hown6, hide ((unhide HB4).trans hball)⟩
          case measure => simp [intOf]; omega
        · have hfv := spV_bad (r := r) rfl hc
          have HN := hide (unhide HCD hc)
          rw [hfv]
          clear hfv HNX HCD
          generalize frC r = cd at HN hc
          have hX : Below w4.heap.size w4 (w4.alloc (.cells #[.int .i64 0, .string ⟨#[]⟩] 55)) := (Below.refl _ _).alloc (Nat.le_refl _) _
          have HX := hide hX
          have HOX := hide (ownF_below (unhide HO4) hX)
          clear hX
          go_wp2_with fail
          go_ret3
          exact ⟨_, by rw [unhide HN]; rfl, by rw [unhide HN]; exact unhide HOX, (unhide HB4).trans ((unhide HX).mono hz5)⟩
end Go.Proofs.YtjiclgcohpkkjaaGreatDoor
