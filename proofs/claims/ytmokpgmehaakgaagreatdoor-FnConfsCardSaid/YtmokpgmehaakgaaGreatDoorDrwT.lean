/- A text that is drawn to be read as members. -/
import Derived.Test.YtmokpgmehaakgaaGreatDoorDrwG
import Derived.Test.YtmokpgmehaakgaaGreatDoorCtxS
namespace Go.Proofs.YtmokpgmehaakgaaGreatDoor
open Go.RowKit Plain
set_option linter.unusedVariables false

theorem Plain.confL_sz (v l : List Int) : (strL (confL v l)).size ≤ 1000 := by
  rw [strL_size]
  unfold confL
  split
  · rename_i h
    obtain ⟨h1, h2, h3⟩ := confB_l h
    have h4 := numL_len v h1
    have h5 := numL_len l h2
    have h6 : v.length ≤ 7 := by unfold confB at h; simp only [Bool.and_eq_true, decide_eq_true_iff] at h; exact h.2.2.1
    rw [List.length_append, List.length_cons]
    split <;> simp <;> omega
  · simp
theorem Plain.lit6 (w : World) (q : Nat) (h : q < 6) : ∃ t : ByteArray, t.size ≤ 2 ∧ (w.alloc (.cells #[.string ⟨#[32]⟩, .string ⟨#[108]⟩, .string ⟨#[48]⟩, .string ⟨#[57]⟩, .string ⟨#[118]⟩, .string ⟨#[32, 108]⟩] 9)).cell? ⟨w.heap.size, q, none⟩ = some (.string t) := by
  rcases q with _ | _ | _ | _ | _ | _ | q
  · exact ⟨⟨#[32]⟩, by decide, by simp [go_sem]⟩
  · exact ⟨⟨#[108]⟩, by decide, by simp [go_sem]⟩
  · exact ⟨⟨#[48]⟩, by decide, by simp [go_sem]⟩
  · exact ⟨⟨#[57]⟩, by decide, by simp [go_sem]⟩
  · exact ⟨⟨#[118]⟩, by decide, by simp [go_sem]⟩
  · exact ⟨⟨#[32, 108]⟩, by decide, by simp [go_sem]⟩
  · omega
theorem Plain.addR {a b : ByteArray} (W : World) (h : a.size + b.size ≤ 1000000000000) : (Op.stringOp .add a b).run Tryz.prog W = .ok (.string (a ++ b)) W := by
  have hm : (a.size : Int) + (b.size : Int) ≤ 9223372036854775807 := by omega
  simp [Op.stringOp, hm]
/-- What DrawReadConf leaves. -/
def Plain.DrtPost (w : World) (e : Ending) (w' : World) : Prop := ∃ t : ByteArray, e = .returned (.string t) ∧ t.size ≤ 10000 ∧ Below w.heap.size w w'

set_option maxRecDepth 10000 in
set_option maxHeartbeats 4000000 in
theorem DrawReadConf_calls (a : Option Addr) (len cap : Nat) (zs : List Int) (w : World) (h : IsRow .u8 w a len cap zs) (hl : len ≤ 1048576) :
    Calls Tryz.prog 13 #[.slice a len cap] w (DrtPost w) := by
  have HOP := hide (open_calls a len cap zs w h hl)
  clear h
  go_enter Tryz.func13, Tryz.ntmps13
  go_wp2_with fail
  refine (unhide HOP).mono ?_
  rintro e w1 ⟨rfl, hR1, hb1⟩
  have HB1 := hide hb1
  have HD1 := hide (DS.start hR1)
  have hRl := hR1.lt
  clear hb1 hR1 HOP
  go_wp2_with fail
  refine (conf_calls w.heap.size a len cap zs w1 (unhide HD1).rd).mono ?_
  rintro e w2 ⟨av, cv, v, al, cl, l, rfl, hOw, hv10, hl10, hR2, ho2⟩
  obtain ⟨hV, hL, -⟩ := unhide hOw
  have HD2 := hide ((unhide HD1).call hR2 ho2)
  have HCT := hide (spec_ConfText av v.length cv v al l.length cl l w2 ⟨⟨hV.at, rfl, by omega⟩, ⟨hL.at, rfl, by omega⟩⟩)
  have hsz := confL_sz v l
  generalize strL (confL v l) = s at HCT hsz
  clear hOw hV hL hR2 ho2 HD1
  go_wp2_with fail
  refine (unhide HCT).mono ?_
  rintro e w3 ⟨rfl, hb3⟩
  have HD3 := hide ((unhide HD2).below hb3)
  clear hb3 HCT HD2
  go_wp2_with fail
  refine (below_calls w.heap.size a len cap zs 6 w3 (unhide HD3).rd (by omega) (by omega)).mono ?_
  rintro e w4 ⟨k, rfl, hk0, hk6, hR4, ho4⟩
  have HD4 := hide ((unhide HD3).call hR4 ho4)
  have hz1 : w1.heap.size ≤ w4.heap.size := (unhide HD4).only.size
  have HFIN := hide (fun (W : World) (hW : DS w1 w.heap.size a len cap zs W) => (unhide HB1).trans (hW.only.below (B := w.heap.size) (by simp) (unhide HB1).size))
  clear hR4 ho4 HD3
  by_cases k0 : k = 0
  · subst k0
    have HBL := hide (below_calls w.heap.size a len cap zs ((s.size : Int) + 1) w4 (unhide HD4).rd (by omega) (by omega))
    go_wp2_with fail
    refine (unhide HBL).mono ?_
    rintro e w5 ⟨i, rfl, hi0, hi1, hR5, ho5⟩
    obtain ⟨i, rfl⟩ := Int.eq_ofNat_of_zero_le hi0
    have HD5 := hide ((unhide HD4).call hR5 ho5)
    have hz5 : w1.heap.size ≤ w5.heap.size := (unhide HD5).only.size
    have hil : (i : Int) ≤ (s.size : Int) := by omega
    have HBA := hide (below_calls w.heap.size a len cap zs 6 (w5.alloc (.cells #[.string ⟨#[32]⟩, .string ⟨#[108]⟩, .string ⟨#[48]⟩, .string ⟨#[57]⟩, .string ⟨#[118]⟩, .string ⟨#[32, 108]⟩] 9)).drew ((unhide HD5).alloc _).drew.rd (by omega) (by omega))
    have HBB := hide (below_calls w.heap.size a len cap zs 6 w5.drew (unhide HD5).drew.rd (by omega) (by omega))
    have hX : (s.extract 0 i).size ≤ 1000 := by simp; omega
    have hY : (s.extract i s.size).size ≤ 1000 := by simp; omega
    have hne : w5.heap.size ≠ w.heap.size := by omega
    have b1 := fun (t : ByteArray) (ht : t.size ≤ 2) (W : World) => addR (a := s.extract 0 i) (b := t) W (by omega)
    have b2 := fun (t : ByteArray) (ht : t.size ≤ 2) (W : World) => addR (a := s.extract 0 i ++ t) (b := s.extract i s.size) W (by rw [ByteArray.size_append]; omega)
    have HSZ := hide (fun (t : ByteArray) (ht : t.size ≤ 2) => (show (s.extract 0 i ++ t ++ s.extract i s.size).size ≤ 10000 from by rw [ByteArray.size_append, ByteArray.size_append]; omega))
    clear hR5 ho5 hi0 hi1 HBL hX hY
    go_wp2_with fail
    have hi0 : (0 : Int) ≤ (i : Int) := by omega
    go_region_with (first
      | (go_at_call 38; refine (unhide HBA).mono ?_; rintro e w6 ⟨q, rfl, hq0, hq1, hR6, ho6⟩; obtain ⟨q, rfl⟩ := Int.eq_ofNat_of_zero_le hq0; obtain ⟨t, ht, hz⟩ := lit6 w5 q (by omega); have hz6 := OnlyAt.c ho6 (show (w5.alloc (.cells #[.string ⟨#[32]⟩, .string ⟨#[108]⟩, .string ⟨#[48]⟩, .string ⟨#[57]⟩, .string ⟨#[118]⟩, .string ⟨#[32, 108]⟩] 9)).drew.cell? ⟨w5.heap.size, q, none⟩ = some (.string t) from hz) hne; have c1 := b1 t ht; have c2 := b2 t ht; have HX := hide (unhide HFIN _ (((unhide HD5).alloc (.cells #[.string ⟨#[32]⟩, .string ⟨#[108]⟩, .string ⟨#[48]⟩, .string ⟨#[57]⟩, .string ⟨#[118]⟩, .string ⟨#[32, 108]⟩] 9)).drew.call hR6 ho6)))
      | (go_at_call 38; refine (unhide HBB).mono ?_; rintro e w6 ⟨q, rfl, hq0, hq1, hR6, ho6⟩; obtain ⟨q, rfl⟩ := Int.eq_ofNat_of_zero_le hq0; obtain ⟨t, ht, hz6⟩ := lit6 w6 q (by omega); have c1 := b1 t ht; have c2 := b2 t ht; have HX := hide (unhide HFIN _ (((unhide HD5).drew.call hR6 ho6).alloc (.cells #[.string ⟨#[32]⟩, .string ⟨#[108]⟩, .string ⟨#[48]⟩, .string ⟨#[57]⟩, .string ⟨#[118]⟩, .string ⟨#[32, 108]⟩] 9)))))
    all_goals (try go_wp2_with fail)
    all_goals (try go_ret)
    all_goals exact ⟨_, rfl, unhide HSZ t ht, unhide HX⟩
  · have k0b : (k == 0) = false := by rw [beq_eq_false_iff_ne]; exact k0
    by_cases k1 : k = 1
    · subst k1
      have HBL := hide (below_calls w.heap.size a len cap zs ((s.size : Int) + 1) w4 (unhide HD4).rd (by omega) (by omega))
      go_wp2_with fail
      refine (unhide HBL).mono ?_
      rintro e w5 ⟨i, rfl, hi0, hi1, hR5, ho5⟩
      obtain ⟨i, rfl⟩ := Int.eq_ofNat_of_zero_le hi0
      have HX := hide (unhide HFIN _ ((unhide HD4).call hR5 ho5))
      have hil : (i : Int) ≤ (s.size : Int) := by omega
      have hY : (s.extract 0 i).size ≤ 10000 := by simp; omega
      clear hR5 ho5 hi1 HBL
      go_wp2_with fail
      go_ret
      exact ⟨_, rfl, hY, unhide HX⟩
    · have k1b : (k == 1) = false := by rw [beq_eq_false_iff_ne]; exact k1
      have HX := hide (unhide HFIN _ (unhide HD4))
      go_wp2_with fail
      go_ret
      exact ⟨_, rfl, by omega, unhide HX⟩
end Go.Proofs.YtmokpgmehaakgaaGreatDoor
