/- The walk of the law FnRanked. -/
import Derived.Test.YtblbmjpmdmihlaaGreatDoorRzI
import Derived.Test.YtblbmjpmdmihlaaGreatDoorRzH
import Derived.Test.YtblbmjpmdmihlaaGreatDoorWgtJ
import Derived.Test.YtblbmjpmdmihlaaGreatDoorRzG
import Derived.Deep.QuietTactic
import Derived.BigQuiet
import Derived.WalkKit
import Derived.ProofKit
import Derived.Below
set_option linter.unusedVariables false
namespace Go.Proofs.YtblbmjpmdmihlaaGreatDoor.fnRanked
open Go.RowKit
open Plain

theorem take_iff (rs : List Int) (hn : rs.Nodup) (i k : Nat) (h : i < rs.length) : rs[i] ∈ rs.take k ↔ i < k := by
  constructor
  · intro hm
    rcases Nat.lt_or_ge i k with q | q
    · exact q
    · exfalso
      have h2 := hn
      rw [← List.take_append_drop k rs, List.nodup_append] at h2
      refine h2.2.2 _ hm rs[i] ?_ rfl
      rw [List.mem_iff_getElem]
      exact ⟨i - k, by rw [List.length_drop]; omega, by rw [List.getElem_drop]; congr 1; omega⟩
  · intro q
    rw [List.mem_iff_getElem]
    exact ⟨i, by rw [List.length_take]; omega, by rw [List.getElem_take]⟩

theorem belQD {B : Nat} {w w' : World} (h : Below B w w') (k : Nat) : Below B w (w'.drewN k) := ⟨h.os, h.tape, h.output, h.size, h.block⟩

set_option maxRecDepth 10000 in
set_option maxHeartbeats 8000000 in
theorem walk0 (a0 : Option Addr) (len0 cap0 : Nat) (z0 : List Int) (w : World) (w0 : IsRow .u8 w a0 len0 cap0 z0) (hK : KAt w) (hT : TzAt w) :
    Calls Tryz.prog 3 #[.slice a0 len0 cap0] w fun e w' => e = .returned (.bool true) ∧ Below w.heap.size w w' := by
  have h0 : 1 < w.heap.size := lt_of_cell (hK 0 (by omega))
  have hlen := w0.len
  have H := hide w0
  clear w0
  by_cases hbig : len0 ≤ 1048576
  · have hd : decide (1048576 < (len0 : Int)) = false := by simp; omega
    have HKT := hide (fun (W : World) (hW : Below w.heap.size w W) => And.intro (hK.below hW h0) (hT.below hW hT.2))
    clear hK hT
    go_enter Tryz.func3, Tryz.ntmps3
    go_wp2_with fail
    refine (big_calls a0 len0 cap0 _ hlen).mono ?_
    rintro e w1 ⟨rfl, rfl⟩
    rw [hd]
    go_wp2_with fail
    refine (DrawHolders_calls a0 len0 cap0 z0 _ (unhide H) hbig).mono ?_
    rintro e w1 ⟨d, v, ds, k, rfl, hdz, HO1, hds, hb1⟩
    obtain ⟨a, c, hv⟩ := (unhide HO1).form
    obtain ⟨n, hn⟩ : ∃ n, ds.length = n := ⟨_, rfl⟩
    rw [hn] at hv hds
    subst hv
    have HIA := hide (fun (W : World) (hW : Below w1.heap.size w1 W) => (show IntsAt W a n ds from ⟨(unhide HO1).at.below hW, hn, by omega⟩))
    have HB1 := hide hb1
    have HNN := hide hn
    clear hb1 HO1 hn hd H hbig hlen
    have HSP := hide (spec_Holders d a n c ds k w1 (unhide HIA _ (Below.refl _ _)) (by omega))
    go_wp2_with fail
    refine (unhide HSP).mono ?_
    rintro e w2 ⟨vS, rfl, oS, hb2⟩
    have HB2 := hide hb2
    have HOS := hide oS
    clear hb2 oS HSP
    have HIM := hide (impl_Holders d a n c ds k w2 (unhide HIA _ (unhide HB2)) (by omega) (unhide HKT _ (belOnD (unhide HB1) (unhide HB2))).1 (unhide HKT _ (belOnD (unhide HB1) (unhide HB2))).2)
    go_wp2_with fail
    refine (unhide HIM).mono ?_
    rintro e w3 ⟨vI, rfl, oI, hb3⟩
    have HB3 := hide (belOnD (unhide HB2) hb3)
    have HOS3 := hide ((unhide HOS).keep hb3)
    clear hb3 HIM
    obtain ⟨m, hm⟩ : ∃ m, (hldL d ds k).length = m := ⟨_, rfl⟩
    have hmn : m ≤ 7 := by have := hldL_len d ds k; rw [unhide HNN] at this; omega
    obtain ⟨aS, cS, hvS⟩ := (unhide HOS).form
    obtain ⟨aI, cI, hvI⟩ := oI.form
    rw [hm] at hvS hvI
    subst hvS hvI
    have HRI := hide oI.at
    have HRS := hide (unhide HOS3).at
    have HHL := hide hm
    have HSA := hide (sameInts_calls aI aS cI cS m (hldL d ds k) w3 hm (by omega) (unhide HRI) (unhide HRS))
    clear oI hm HOS HOS3
    obtain ⟨B, hB⟩ : ∃ B, hldB d ds k = B := ⟨_, rfl⟩
    rw [hB]
    cases B with
    | false =>
      clear hB
      go_wp2_with fail
      refine (unhide HSA).mono ?_
      rintro e w4 ⟨rfl, hb4⟩
      have HB4 := hide (belOnD (unhide HB3) hb4)
      clear hb4
      go_wp2_with fail
      go_ret
      exact ⟨rfl, belOnD (unhide HB1) (unhide HB4)⟩
    | true =>
      have hdig : digB d = true ∧ rosB ds k = true := by unfold hldB at hB; rwa [Bool.and_eq_true] at hB
      have hros : okIds 0 ds = true ∧ kB k = true := by have := hdig.2; unfold rosB at this; rwa [Bool.and_eq_true] at this
      have hkk := (kB_iff k).1 hros.2
      have hrb : rnkB d ds = true := by unfold rnkB; rw [hdig.1, hros.1]; rfl
      have hall := (okIds_facts ds 0 (by decide) hros.1).2
      have hsort := rk_sorted (wt d) ds (okIds_lt ds 0 hros.1).1
      have hnod := rk_nodup (wt d) ds hros.1
      have HMEM := hide (fun (x : Int) => (show x ∈ hldL d ds k ↔ x ∈ (rk (wt d) ds).take k.toNat from by rw [hldL_yes hB]; exact hld_mem _ _ _ _))
      have HWG := hide (fun (W : World) (hW : Below w.heap.size w W) (x : Int) (h1 : 1 ≤ x) (h2 : x ≤ 50) => (show Calls Tryz.prog 11 #[.string d, .int .i64 x] W fun e w' => e = .returned (.tuple #[.int .u64 (wt d x), .bool true]) ∧ Below W.heap.size W w' from by
        have := impl_WeightOf d x W (by omega) (unhide HKT W hW).1
        unfold wgV at this
        rwa [hdig.1, (nodB_iff x).2 ⟨h1, h2⟩] at this))
      have HRK := hide (fun (W : World) (hW : Below w1.heap.size w1 W) => impl_Ranked d a n c ds W (unhide HIA W hW) (by omega) (unhide HKT W (belOnD (unhide HB1) hW)).1)
      rw [hrb, rnkL_yes hrb] at HRK
      have hrl := rk_len (wt d) ds
      rw [unhide HNN] at hrl
      have HRM := hide (rk_mem (wt d) ds)
      generalize hld0 : hldL d ds k = HL at HMEM HRI HHL
      generalize rk (wt d) ds = rs at HRK hrl hsort hnod HMEM HRM
      generalize wt d = f at HWG hsort
      have HALL := hide hall
      have HSORT := hide hsort
      have HNOD := hide hnod
      have HRL := hide hrl
      clear hB hdig hros hrb hall hsort hnod hrl hld0
      go_wp2_with fail
      refine (unhide HSA).mono ?_
      rintro e w4 ⟨rfl, hb4⟩
      have HB4 := hide (belOnD (unhide HB3) hb4)
      have HRI4 := hide ((unhide HRI).below hb4)
      clear hb4 HSA HRI HRS
      go_wp2_with fail
      refine (unhide HRK w4 (unhide HB4)).mono ?_
      rintro e w5 ⟨vR, rfl, oR, hb5⟩
      obtain ⟨aR, cR, hvR⟩ := oR.form
      rw [unhide HRL] at hvR
      subst hvR
      have HB5 := hide (belOnD (unhide HB4) hb5)
      have HRR := hide oR.at
      have HRI5 := hide ((unhide HRI4).below hb5)
      clear hb5 oR HRK HRI4
      have hneq : ((n : Int) != (n : Int)) = false := by simp
      go_wp2_with fail
      go_loopw [12] (fun s12 wq => ∃ i : Nat, s12 = .int .i64 i ∧ i ≤ n ∧ Hid (Below w5.heap.size w5 wq)) (fun s12 _ => n - (intOf s12).toNat)
      case atStart => exact ⟨0, rfl, by omega, hide (Below.refl _ _)⟩
      case round =>
        obtain ⟨i, rfl, hi, HBi⟩ := hrel
        by_cases hin : i < n
        · have hil : i < rs.length := by rw [unhide HRL]; exact hin
          have HBw := hide (belOnD (unhide HB5) (unhide HBi))
          have HBW := hide (belOnD (unhide HB1) (unhide HBw))
          obtain ⟨g, e1, l1, p0, -⟩ := ((unhide HRR).below (unhide HBi)).ix i hil
          have hx := unhide HALL rs[i] ((unhide HRM _).1 (by simp))
          have hxd : rs[i] ∈ ds := (unhide HRM _).1 (by simp)
          have htk := (unhide HMEM rs[i]).trans (take_iff rs (unhide HNOD) i k.toNat hil)
          have HGET := hide (fun (j : Nat) (hj : i = j + 1) => (show ∃ hj2 : j < rs.length, ahd f rs[j] rs[i] from ⟨by omega, List.pairwise_iff_getElem.1 (unhide HSORT) j i (by omega) hil (by omega)⟩))
          have HROW := hide (fun (W : World) (hW : Below wr.heap.size wr W) (j : Nat) (hj : j < rs.length) => ((unhide HRR).below (belOnD (unhide HBi) hW)).ix j hj)
          have HN1 := hide (hasIntR_calls a n c ds rs[i] wr (unhide HIA _ (unhide HBw)))
          rw [decide_eq_true hxd] at HN1
          have HN2 := hide (hasIntR_calls aI m cI HL rs[i] wr ⟨(unhide HRI5).below (unhide HBi), unhide HHL, by omega⟩)
          have HW1 := hide (unhide HWG wr (unhide HBW) rs[i] (by omega) (by omega))
          generalize hxi : rs[i] = x at p0 hx htk HGET HN1 HN2 HW1
          have HXI := hide hxi
          clear hxi
          subst e1
          have i0 : (0 : Int) ≤ (i : Int) := by omega
          have i1 : (i : Int) < (n : Int) := by omega
          clear hxd
          have HSTEP : ∀ (bb : Bool), decide (x ∈ HL) = bb → decide ((i : Int) < k) = bb := fun bb hb => by
            rw [← hb]
            exact decide_eq_decide.2 (by rw [htk]; omega)
          generalize hbb : decide (x ∈ HL) = bb at HN2
          have hlt := HSTEP bb hbb
          clear hbb htk HSTEP
          cases bb with
          | true =>
            have hlt2 : (i : Int) < k := of_decide_eq_true hlt
            clear hlt
            go_wp2_with fail
            refine (unhide HN1).mono ?_
            rintro e wz ⟨rfl, rfl⟩
            go_wp2_with fail
            refine (unhide HN2).mono ?_
            rintro e wz ⟨rfl, rfl⟩
            go_wp2_with fail
            refine (unhide HW1).mono ?_
            rintro e w6 ⟨rfl, hb6⟩
            have HB6 := hide hb6
            have HBW6 := hide (belOnD (unhide HBW) hb6)
            have HBi6 := hide (belOnD (unhide HBi) hb6)
            clear hb6 HN1 HN2 HW1 p0
            by_cases hi0 : i = 0
            · subst hi0
              go_wp2_with fail
              go_roundw
              case rel => exact ⟨1, by go_num, by omega, HBi6⟩
              case measure => simp [intOf]; omega
            · obtain ⟨j, hj⟩ : ∃ j, i = j + 1 := ⟨i - 1, by omega⟩
              obtain ⟨hj2, hah⟩ := unhide HGET j hj
              have hyb := unhide HALL rs[j] ((unhide HRM _).1 (by simp))
              have HRJ := hide (fun (W : World) (hW : Below wr.heap.size wr W) => unhide HROW W hW j hj2)
              have HW2 := hide (unhide HWG w6 (unhide HBW6) rs[j] (by omega) (by omega))
              generalize rs[j] = y at hah hyb HRJ HW2
              subst hj
              obtain ⟨g2, e2, l2, p2, -⟩ := unhide HRJ w6 (unhide HB6)
              cases e2
              have j0 : (0 : Int) ≤ (j : Int) := by omega
              have j1 : (j : Int) < (n : Int) := by omega
              have j2 : (0 : Int) < ((j + 1 : Nat) : Int) := by omega
              go_wp2_with fail
              refine (unhide HW2).mono ?_
              rintro e w7 ⟨rfl, hb7⟩
              have HBi7 := hide (belOnD (unhide HBi6) hb7)
              obtain ⟨g3, e3, l3, p3, -⟩ := unhide HRJ w7 (belOnD (unhide HB6) hb7)
              cases e3
              obtain ⟨g4, e4, l4, p4, -⟩ := unhide HROW w7 (belOnD (unhide HB6) hb7) (j + 1) hil
              cases e4
              clear hb7 p2 HW2
              rw [show rs[j + 1] = x from unhide HXI] at p4
              unfold ahd at hah
              generalize f x = fx at hah ⊢
              generalize f y = fy at hah ⊢
              go_wp2_with fail
              rcases hah with h1 | ⟨h1, h2⟩
              · have h3 : decide (fy < fx) = false := decide_eq_false (by omega)
                have h4 : (fy == fx) = false := by rw [beq_eq_false_iff_ne]; omega
                clear h1
                go_quiet (fail)
                go_wp2_with fail
                go_roundw
                case rel => exact ⟨j + 1 + 1, by go_num, by omega, by first | exact HBi7 | exact hide (unhide HBi7).drew | exact hide (belQD (unhide HBi7) _)⟩
                case measure => simp [intOf]; omega
              · have h3 : decide (fy < fx) = false := decide_eq_false (by omega)
                have h4 : (fy == fx) = true := by rw [beq_iff_eq]; omega
                have h5 : decide (x < y) = false := decide_eq_false (by omega)
                clear h1 h2
                go_quiet (fail)
                go_wp2_with fail
                go_roundw
                case rel => exact ⟨j + 1 + 1, by go_num, by omega, by first | exact HBi7 | exact hide (unhide HBi7).drew | exact hide (belQD (unhide HBi7) _)⟩
                case measure => simp [intOf]; omega
          | false =>
            have hlt2 : ¬ (i : Int) < k := of_decide_eq_false hlt
            clear hlt
            go_wp2_with fail
            refine (unhide HN1).mono ?_
            rintro e wz ⟨rfl, rfl⟩
            go_wp2_with fail
            refine (unhide HN2).mono ?_
            rintro e wz ⟨rfl, rfl⟩
            go_wp2_with fail
            refine (unhide HW1).mono ?_
            rintro e w6 ⟨rfl, hb6⟩
            have HB6 := hide hb6
            have HBW6 := hide (belOnD (unhide HBW) hb6)
            have HBi6 := hide (belOnD (unhide HBi) hb6)
            clear hb6 HN1 HN2 HW1 p0
            by_cases hi0 : i = 0
            · subst hi0
              go_wp2_with fail
              go_roundw
              case rel => exact ⟨1, by go_num, by omega, HBi6⟩
              case measure => simp [intOf]; omega
            · obtain ⟨j, hj⟩ : ∃ j, i = j + 1 := ⟨i - 1, by omega⟩
              obtain ⟨hj2, hah⟩ := unhide HGET j hj
              have hyb := unhide HALL rs[j] ((unhide HRM _).1 (by simp))
              have HRJ := hide (fun (W : World) (hW : Below wr.heap.size wr W) => unhide HROW W hW j hj2)
              have HW2 := hide (unhide HWG w6 (unhide HBW6) rs[j] (by omega) (by omega))
              generalize rs[j] = y at hah hyb HRJ HW2
              subst hj
              obtain ⟨g2, e2, l2, p2, -⟩ := unhide HRJ w6 (unhide HB6)
              cases e2
              have j0 : (0 : Int) ≤ (j : Int) := by omega
              have j1 : (j : Int) < (n : Int) := by omega
              have j2 : (0 : Int) < ((j + 1 : Nat) : Int) := by omega
              go_wp2_with fail
              refine (unhide HW2).mono ?_
              rintro e w7 ⟨rfl, hb7⟩
              have HBi7 := hide (belOnD (unhide HBi6) hb7)
              obtain ⟨g3, e3, l3, p3, -⟩ := unhide HRJ w7 (belOnD (unhide HB6) hb7)
              cases e3
              obtain ⟨g4, e4, l4, p4, -⟩ := unhide HROW w7 (belOnD (unhide HB6) hb7) (j + 1) hil
              cases e4
              clear hb7 p2 HW2
              rw [show rs[j + 1] = x from unhide HXI] at p4
              unfold ahd at hah
              generalize f x = fx at hah ⊢
              generalize f y = fy at hah ⊢
              go_wp2_with fail
              rcases hah with h1 | ⟨h1, h2⟩
              · have h3 : decide (fy < fx) = false := decide_eq_false (by omega)
                have h4 : (fy == fx) = false := by rw [beq_eq_false_iff_ne]; omega
                clear h1
                go_quiet (fail)
                go_wp2_with fail
                go_roundw
                case rel => exact ⟨j + 1 + 1, by go_num, by omega, by first | exact HBi7 | exact hide (unhide HBi7).drew | exact hide (belQD (unhide HBi7) _)⟩
                case measure => simp [intOf]; omega
              · have h3 : decide (fy < fx) = false := decide_eq_false (by omega)
                have h4 : (fy == fx) = true := by rw [beq_iff_eq]; omega
                have h5 : decide (x < y) = false := decide_eq_false (by omega)
                clear h1 h2
                go_quiet (fail)
                go_wp2_with fail
                go_roundw
                case rel => exact ⟨j + 1 + 1, by go_num, by omega, by first | exact HBi7 | exact hide (unhide HBi7).drew | exact hide (belQD (unhide HBi7) _)⟩
                case measure => simp [intOf]; omega
        · obtain rfl : i = n := by omega
          go_wp2_with fail
          go_ret
          exact ⟨rfl, belOnD (unhide HB1) (belOnD (unhide HB5) (unhide HBi))⟩
  · have hd : decide (1048576 < (len0 : Int)) = true := by simp; omega
    go_enter Tryz.func3, Tryz.ntmps3
    go_wp2_with fail
    refine (big_calls a0 len0 cap0 _ hlen).mono ?_
    rintro e w1 ⟨rfl, rfl⟩
    rw [hd]
    go_wp2_with fail
    go_ret
    exact ⟨rfl, Below.refl _ _⟩
end Go.Proofs.YtblbmjpmdmihlaaGreatDoor.fnRanked
