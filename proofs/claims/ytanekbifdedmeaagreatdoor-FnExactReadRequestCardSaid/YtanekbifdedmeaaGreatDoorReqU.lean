/- The specification's RequestOk, whole. -/
import Derived.Test.YtanekbifdedmeaaGreatDoorReqT
namespace Go.Proofs.YtanekbifdedmeaaGreatDoor
open Go.RowKit Plain
set_option linter.unusedVariables false

set_option maxRecDepth 10000 in
set_option maxHeartbeats 2000000 in
theorem l16Query_calls (a : Option Addr) (n c : Nat) (ls : List Hd) (w : World) (hn : ls.length = n) (hn2 : n ≤ 1048576) (hsm : smallH ls) (h : RowAt hdrE w a ls) :
    Calls Tryz.prog 67 #[.slice a n c] w fun e w' => e = .returned (.bool (fitB qrwB ls)) ∧ Below w.heap.size w w' := by
  have H := hide h
  have HN := hide hn
  have HSM := hide hsm
  have HE := hide (show fitB qrwB ls = (decide (n ≤ 20) && ls.all qrwB) from by rw [← hn]; rfl)
  obtain ⟨R, hR⟩ : ∃ R, ls.all qrwB = R := ⟨_, rfl⟩
  rw [hR] at HE
  rw [unhide HE]
  have HR := hide hR
  clear h hn hsm hR HE
  go_enter Tryz.func67, Tryz.ntmps67
  go_wp2_with fail
  go_loopw [3] (fun i wr => ∃ k : Nat, i = .int .i64 k ∧ k ≤ n ∧ Hid (R = (ls.drop k).all qrwB) ∧ Hid (Below w.heap.size w wr)) (fun i _ => n - (intOf i).toNat)
  case atStart => exact ⟨0, rfl, by omega, hide (by rw [List.drop_zero]; exact (unhide HR).symm), hide (Below.refl _ _)⟩
  case round =>
    obtain ⟨k, rfl, hk, HV, HB⟩ := hrel
    by_cases hlk : k < n
    · have hkl : k < ls.length := by rw [unhide HN]; exact hlk
      obtain ⟨g, e1, l1, p0, p1⟩ := ((unhide H).below (unhide HB)).hdr k hkl
      have HS := (unhide HV).trans (allH_step qrwB ls k hkl)
      have hsz := unhide HSM ls[k] (by simp)
      generalize ls[k] = x at p0 p1 HS hsz
      obtain ⟨y, z⟩ := x
      simp only at p0 p1
      have H1 := hide (fun W => l16Bytes_calls y ⟨#[38, 61, 35]⟩ 1 60 33 W hsz.1 (by decide) (by decide) (by decide) (by decide))
      have H2 := hide (fun W => l16Bytes_calls z ⟨#[38, 61, 35]⟩ 0 200 33 W hsz.2 (by decide) (by decide) (by decide) (by decide))
      rw [texB_ext low_qry] at H1 H2
      have hq : qrwB (y, z) = (texB 1 60 qryC y && texB 0 200 qryC z) := rfl
      rw [hq] at HS
      clear hq HV hkl hsz
      generalize texB 1 60 qryC y = b1 at H1 HS
      generalize texB 0 200 qryC z = b2 at H2 HS
      have HS2 := hide HS
      clear HS
      subst e1
      have i0 : (0 : Int) ≤ (k : Int) := by omega
      have i1 : (k : Int) < (n : Int) := by omega
      cases b1 with
      | false =>
        go_wp2_with fail
        refine (unhide H1 _).mono ?_
        rintro e w1 ⟨rfl, hb1⟩
        have HB1 := hide (belOn (unhide HB) hb1)
        clear hb1
        go_wp2_with fail
        go_ret
        exact ⟨by rw [unhide HS2]; simp, unhide HB1⟩
      | true =>
        go_wp2_with fail
        refine (unhide H1 _).mono ?_
        rintro e w1 ⟨rfl, hb1⟩
        have HB1 := hide (belOn (unhide HB) hb1)
        have q1 := bcl hb1 l1 p1
        clear hb1
        cases b2 with
        | false =>
          go_wp2_with fail
          refine (unhide H2 _).mono ?_
          rintro e w2 ⟨rfl, hb2⟩
          have HB2 := hide (belOn (unhide HB1) hb2)
          clear hb2
          go_wp2_with fail
          go_ret
          exact ⟨by rw [unhide HS2]; simp, unhide HB2⟩
        | true =>
          go_wp2_with fail
          refine (unhide H2 _).mono ?_
          rintro e w2 ⟨rfl, hb2⟩
          have HB2 := hide (belOn (unhide HB1) hb2)
          clear hb2
          go_wp2_with fail
          go_roundw
          case rel => exact ⟨k + 1, by go_num, by omega, hide ((unhide HS2).trans (by simp)), HB2⟩
          case measure => simp [intOf]; omega
    · have HF := hide ((unhide HV).trans (allH_end qrwB ls k (by rw [unhide HN]; omega)))
      go_wp2_with fail
      go_ret
      exact ⟨retB (by rw [unhide HF, Bool.eq_iff_iff]; simp; try omega), unhide HB⟩

set_option maxRecDepth 10000 in
set_option maxHeartbeats 2000000 in
theorem l16Headers_calls (a : Option Addr) (n c : Nat) (ls : List Hd) (w : World) (hn : ls.length = n) (hn2 : n ≤ 1048576) (hsm : smallH ls) (h : RowAt hdrE w a ls) :
    Calls Tryz.prog 52 #[.slice a n c] w fun e w' => e = .returned (.bool (fitB hrwB ls)) ∧ Below w.heap.size w w' := by
  have H := hide h
  have HN := hide hn
  have HSM := hide hsm
  have HE := hide (show fitB hrwB ls = (decide (n ≤ 20) && ls.all hrwB) from by rw [← hn]; rfl)
  obtain ⟨R, hR⟩ : ∃ R, ls.all hrwB = R := ⟨_, rfl⟩
  rw [hR] at HE
  rw [unhide HE]
  have HR := hide hR
  clear h hn hsm hR HE
  go_enter Tryz.func52, Tryz.ntmps52
  go_wp2_with fail
  go_loopw [3] (fun i wr => ∃ k : Nat, i = .int .i64 k ∧ k ≤ n ∧ Hid (R = (ls.drop k).all hrwB) ∧ Hid (Below w.heap.size w wr)) (fun i _ => n - (intOf i).toNat)
  case atStart => exact ⟨0, rfl, by omega, hide (by rw [List.drop_zero]; exact (unhide HR).symm), hide (Below.refl _ _)⟩
  case round =>
    obtain ⟨k, rfl, hk, HV, HB⟩ := hrel
    by_cases hlk : k < n
    · have hkl : k < ls.length := by rw [unhide HN]; exact hlk
      obtain ⟨g, e1, l1, p0, p1⟩ := ((unhide H).below (unhide HB)).hdr k hkl
      have HS := (unhide HV).trans (allH_step hrwB ls k hkl)
      have hsz := unhide HSM ls[k] (by simp)
      generalize ls[k] = x at p0 p1 HS hsz
      obtain ⟨y, z⟩ := x
      simp only at p0 p1
      have H1 := hide (fun W => l16Name_calls y W hsz.1)
      have H2 := hide (fun W => l16Value_calls z W hsz.2)
      have hq : hrwB (y, z) = (!(y.toList == clenL) && texB 1 60 nmeC y && valB z) := rfl
      rw [hq] at HS
      clear hq HV hkl hsz
      generalize texB 1 60 nmeC y = b1 at H1 HS
      generalize valB z = b2 at H2 HS
      unfold clenL at HS
      subst e1
      have i0 : (0 : Int) ≤ (k : Int) := by omega
      have i1 : (k : Int) < (n : Int) := by omega
      cases b1 with
      | false =>
        have HS2 := hide HS
        clear HS
        go_wp2_with (go_at_call 92; refine (unhide H1 _).mono ?_; rintro e w1 ⟨rfl, rfl⟩)
        go_ret
        exact ⟨by rw [unhide HS2]; simp, unhide HB⟩
      | true =>
        by_cases hcl : (y.toList == [99, 111, 110, 116, 101, 110, 116, 45, 108, 101, 110, 103, 116, 104]) = true
        · have HS2 := hide (show R = false from by rw [HS, hcl]; simp)
          clear HS
          go_wp2_with (go_at_call 92; refine (unhide H1 _).mono ?_; rintro e w1 ⟨rfl, rfl⟩)
          go_ret
          exact ⟨by rw [unhide HS2]; simp, unhide HB⟩
        · have hcl2 : (y.toList == [99, 111, 110, 116, 101, 110, 116, 45, 108, 101, 110, 103, 116, 104]) = false := by simpa using hcl
          rw [hcl2] at HS
          have HS2 := hide HS
          clear HS hcl
          cases b2 with
          | false =>
            go_wp2_with (first
              | (go_at_call 92; refine (unhide H1 _).mono ?_; rintro e w1 ⟨rfl, rfl⟩)
              | (go_at_call 93; refine (unhide H2 _).mono ?_; rintro e w2 ⟨rfl, hb2⟩))
            go_ret
            exact ⟨by rw [unhide HS2]; simp, belOn (unhide HB) hb2⟩
          | true =>
            go_wp2_with (first
              | (go_at_call 92; refine (unhide H1 _).mono ?_; rintro e w1 ⟨rfl, rfl⟩)
              | (go_at_call 93; refine (unhide H2 _).mono ?_; rintro e w2 ⟨rfl, hb2⟩))
            go_roundw
            case rel => exact ⟨k + 1, by go_num, by omega, hide ((unhide HS2).trans (by simp)), hide (belOn (unhide HB) hb2)⟩
            case measure => simp [intOf]; omega
    · have HF := hide ((unhide HV).trans (allH_end hrwB ls k (by rw [unhide HN]; omega)))
      go_wp2_with fail
      go_ret
      exact ⟨retB (by rw [unhide HF, Bool.eq_iff_iff]; simp; try omega), unhide HB⟩

end Go.Proofs.YtanekbifdedmeaaGreatDoor
