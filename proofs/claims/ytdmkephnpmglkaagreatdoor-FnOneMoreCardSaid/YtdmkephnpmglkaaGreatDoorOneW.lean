/- The walk of the law FnOneMore. -/
import Derived.Test.YtdmkephnpmglkaaGreatDoorDzB
import Derived.Test.YtdmkephnpmglkaaGreatDoorRzW
import Derived.Test.YtdmkephnpmglkaaGreatDoorRzN
import Derived.Test.YtdmkephnpmglkaaGreatDoorRzM
import Derived.Test.YtdmkephnpmglkaaGreatDoorRzH
import Derived.Deep.QuietTactic
import Derived.BigQuiet
import Derived.WalkKit
import Derived.ProofKit
import Derived.Below
set_option linter.unusedVariables false
namespace Go.Proofs.YtdmkephnpmglkaaGreatDoor.fnOneMore
open Go.RowKit
open Plain

theorem belQE {B : Nat} {w w' : World} (h : Below B w w') (k : Nat) : Below B w (w'.drewN k) := ⟨h.os, h.tape, h.output, h.size, h.block⟩
/-- How many of the first j are lost. -/
def lostN (o nw : List Int) (j : Nat) : Nat := ((o.take j).filter fun y => !decide (y ∈ nw)).length
theorem lostN_step (o nw : List Int) (j : Nat) (h : j < o.length) : lostN o nw (j + 1) = if o[j] ∈ nw then lostN o nw j else lostN o nw j + 1 := by
  unfold lostN
  rw [List.take_succ_eq_append_getElem h, List.filter_append, List.length_append]
  by_cases hm : o[j] ∈ nw
  · simp [hm]
  · simp [hm]
theorem lostN_le (o nw : List Int) (j : Nat) : lostN o nw j ≤ j := by
  unfold lostN
  exact Nat.le_trans (List.length_filter_le _ _) (by rw [List.length_take]; omega)
theorem lostN_end (d : ByteArray) (ls : List Int) (k : Int) (h : okIds 0 (ls ++ [50]) = true) (hl : okIds 0 ls = true) (j : Nat) (hj : (hldL d ls k).length ≤ j) :
    lostN (hldL d ls k) (hldL d (ls ++ [50]) k) j = 0 ∨ (lostN (hldL d ls k) (hldL d (ls ++ [50]) k) j = 1 ∧ (50 : Int) ∈ hldL d (ls ++ [50]) k) := by
  unfold lostN
  rw [List.take_of_length_le hj]
  have e1 : hldB d ls k = (digB d && kB k) := by unfold hldB rosB; rw [hl, Bool.true_and]
  have e2 : hldB d (ls ++ [50]) k = (digB d && kB k) := by unfold hldB rosB; rw [h, Bool.true_and]
  cases hb : (digB d && kB k) with
  | false =>
    rw [hldL_no (l := ls) (by rw [e1, hb])]
    exact .inl rfl
  | true =>
    rw [hldL_yes (l := ls) (by rw [e1, hb]), hldL_yes (l := ls ++ [50]) (by rw [e2, hb])]
    exact lost_one (wt d) ls 50 k.toNat h hl

set_option maxRecDepth 10000 in
set_option maxHeartbeats 8000000 in
theorem walk0 (a0 : Option Addr) (len0 cap0 : Nat) (z0 : List Int) (w : World) (w0 : IsRow .u8 w a0 len0 cap0 z0) (hK : KAt w) (hT : TzAt w) :
    Calls Tryz.prog 3 #[.slice a0 len0 cap0] w fun e w' => e = .returned (.bool true) ∧ Below w.heap.size w w' := by
  have h0 : 1 < w.heap.size := lt_of_cell (hK 0 (by omega))
  have hlen := w0.len
  have H := hide w0
  clear w0
  by_cases hbig : len0 ≤ 1048576
  · have hd : decide (1048576 < (len0 : Int)) = false := by simp; omega
    have HKT := hide (fun (W : World) (hW : Below w.heap.size w W) => And.intro (hK.below hW h0) (hT.below hW hT.2))
    clear hK hT
    go_enter Tryz.func3, Tryz.ntmps3
    go_wp2_with fail
    refine (big_calls a0 len0 cap0 _ hlen).mono ?_
    rintro e w1 ⟨rfl, rfl⟩
    rw [hd]
    go_wp2_with fail
    refine (DrawMoves_calls a0 len0 cap0 z0 _ (unhide H) hbig).mono ?_
    rintro e w1 ⟨vs, ss, v, v3, ds, k, rfl, HS1, HF, hsl, HO1, hds, hb1⟩
    obtain ⟨a, c, hv⟩ := (unhide HO1).form
    obtain ⟨n, hn⟩ : ∃ n, ds.length = n := ⟨_, rfl⟩
    rw [hn] at hv hds
    subst hv
    obtain ⟨asx, cs, hvs⟩ := (unhide HS1).form
    obtain ⟨nd, hnd⟩ : ∃ nd, ss.length = nd := ⟨_, rfl⟩
    rw [hnd] at hvs hsl
    subst hvs
    have HIA := hide (fun (W : World) (hW : Below w1.heap.size w1 W) => (show IntsAt W a n ds from ⟨(unhide HO1).at.below hW, hn, by omega⟩))
    have HTA := hide (fun (W : World) (hW : Below w1.heap.size w1 W) => (show TxtsAt W asx nd ss from ⟨(unhide HS1).at.below hW, hnd, by omega, fun s hs => by have := unhide HF s hs; omega⟩))
    have HB1 := hide hb1
    have HNN := hide hn
    have HND := hide hnd
    clear hb1 hn hnd hd H hbig hlen HS1
    have HBA := hide (show Below w1.heap.size w1 (w1.alloc (.cells #[] 2)) from bel1 _ _)
    have HOE := hide (ownR_empty i64E w1 w1.heap.size (Nat.le_refl _))
    have HR := hide ((unhide HO1).keep (unhide HBA)).at
    have HAD := hide (unhide HO1).adG
    have hlen0 : ([] : List Int).length + n < 100000000 := by simp; omega
    have hzA : w1.heap.size ≤ (w1.alloc (.cells #[] 2)).heap.size := by simp
    have HGO := hide (show (0 < n → ∃ (m : Nat) (x : Int) (g : Nat), (n : Int) - 1 = (m : Int) ∧ m < n ∧ a = some ⟨g, 0, none⟩ ∧ w1.cell? ⟨g, m, none⟩ = some (.int .i64 x)) from fun h => by
      have hnn := unhide HNN
      have hml : n - 1 < ds.length := by omega
      obtain ⟨g, e1, l1, p0, -⟩ := (unhide HIA _ (Below.refl _ _)).row.ix (n - 1) hml
      exact ⟨n - 1, _, g, by omega, by omega, e1, p0⟩)
    rcases Nat.lt_or_ge 0 n with hn0 | hn0
    case' inl =>
      obtain ⟨m, x, g, hm1, hm2, hag, hcx⟩ := unhide HGO hn0
      subst hag
      have i0 : (0 : Int) ≤ (m : Int) := by omega
      have i1 : (m : Int) < (n : Int) := by omega
      by_cases hx : 50 ≤ x
      case pos =>
        go_wp2_with fail
        go_ret
        exact ⟨rfl, unhide HB1⟩
      case' neg =>
        have hxd : decide (50 ≤ x) = false := decide_eq_false hx
        go_wp2_with (first
          | (at_builtin; refine appGG (e := i64E) rfl _ _ rfl (unhide HOE) rfl _ n c rfl (unhide HNN) (unhide HR) (unhide HAD) hlen0 hzA ?_; intro v5 w5 hown5 hb5; obtain ⟨a5, c5, hv5⟩ := hown5.form; rw [List.nil_append, unhide HNN] at hv5; subst hv5; rw [List.nil_append] at hown5; have hn := unhide HNN; have hz5 := hb5.size; have HB5 := hide ((unhide HBA).trans hb5); have HO5 := hide (World.ownsRow.alloc hown5 (.cells #[.int .i64 50] 2)); have HR5 := hide (rowI_one w5 50); have hlen5 : ds.length + 1 < 100000000 := (by omega); have hzB : w1.heap.size ≤ (w5.alloc (.cells #[.int .i64 50] 2)).heap.size := (by simp at hzA hz5 ⊢; omega); have HBX := hide (((unhide HB5).alloc (by simp at hzA hz5 ⊢; omega) (.cells #[.int .i64 50] 2))); clear hb5 hown5 hz5 hzA hn)
          | (at_builtin; refine appGG (e := i64E) (ys := [50]) rfl _ _ rfl (unhide HO5) rfl (some ⟨w5.heap.size, 0, none⟩) 1 1 rfl rfl (unhide HR5) (.inr ⟨_, rfl⟩) hlen5 hzB ?_; intro v6 w6 hown6 hb6; obtain ⟨a6, c6, hv6⟩ := hown6.form; obtain ⟨m6, hm6⟩ : ∃ m6, (ds ++ [50]).length = m6 := ⟨_, rfl⟩; rw [hm6] at hv6; have HM6 := hide hm6; clear hm6; subst hv6))
        clear i0 i1 hcx hm1 hm2 hxd hx hn0
    case' inr =>
      have hnd : decide ((0 : Int) < (n : Int)) = false := decide_eq_false (by omega)
      have hnd2 : decide (0 < n) = false := decide_eq_false (by omega)
      clear hn0
      go_wp2_with (first
          | (at_builtin; refine appGG (e := i64E) rfl _ _ rfl (unhide HOE) rfl _ n c rfl (unhide HNN) (unhide HR) (unhide HAD) hlen0 hzA ?_; intro v5 w5 hown5 hb5; obtain ⟨a5, c5, hv5⟩ := hown5.form; rw [List.nil_append, unhide HNN] at hv5; subst hv5; rw [List.nil_append] at hown5; have hn := unhide HNN; have hz5 := hb5.size; have HB5 := hide ((unhide HBA).trans hb5); have HO5 := hide (World.ownsRow.alloc hown5 (.cells #[.int .i64 50] 2)); have HR5 := hide (rowI_one w5 50); have hlen5 : ds.length + 1 < 100000000 := (by omega); have hzB : w1.heap.size ≤ (w5.alloc (.cells #[.int .i64 50] 2)).heap.size := (by simp at hzA hz5 ⊢; omega); have HBX := hide (((unhide HB5).alloc (by simp at hzA hz5 ⊢; omega) (.cells #[.int .i64 50] 2))); clear hb5 hown5 hz5 hzA hn)
          | (at_builtin; refine appGG (e := i64E) (ys := [50]) rfl _ _ rfl (unhide HO5) rfl (some ⟨w5.heap.size, 0, none⟩) 1 1 rfl rfl (unhide HR5) (.inr ⟨_, rfl⟩) hlen5 hzB ?_; intro v6 w6 hown6 hb6; obtain ⟨a6, c6, hv6⟩ := hown6.form; obtain ⟨m6, hm6⟩ : ∃ m6, (ds ++ [50]).length = m6 := ⟨_, rfl⟩; rw [hm6] at hv6; have HM6 := hide hm6; clear hm6; subst hv6))
      clear hnd hnd2
    all_goals
      have HBX6 := hide ((unhide HBX).trans hb6)
      have HI6 := hide (fun (W : World) (hW : Below w6.heap.size w6 W) => (show IntsAt W a6 m6 (ds ++ [50]) from ⟨hown6.at.below hW, unhide HM6, by rw [← unhide HM6, List.length_append, unhide HNN]; simp; omega⟩))
      have HI1 := hide (fun (W : World) (hW : Below w6.heap.size w6 W) => unhide HIA W ((unhide HBX6).trans (hW.mono (unhide HBX6).size)))
      have HT1 := hide (fun (W : World) (hW : Below w6.heap.size w6 W) => unhide HTA W ((unhide HBX6).trans (hW.mono (unhide HBX6).size)))
      have HKT6 := hide (fun (W : World) (hW : Below w6.heap.size w6 W) => unhide HKT W (belOnD (unhide HB1) ((unhide HBX6).trans (hW.mono (unhide HBX6).size))))
      have HFIN := hide (fun (W : World) (hW : Below w6.heap.size w6 W) => belOnD (unhide HB1) ((unhide HBX6).trans (hW.mono (unhide HBX6).size)))
      have HSP := hide (spec_Moves asx nd cs ss _ n c ds a6 m6 c6 (ds ++ [50]) k w6 (unhide HT1 _ (Below.refl _ _)) (unhide HI1 _ (Below.refl _ _)) (unhide HI6 _ (Below.refl _ _)))
      have HIM0 := hide (fun (W : World) (hW : Below w6.heap.size w6 W) => impl_Moves asx nd cs ss _ n c ds a6 m6 c6 (ds ++ [50]) k W (unhide HT1 _ hW) (unhide HI1 _ hW) (unhide HI6 _ hW) (unhide HKT6 _ hW).1 (unhide HKT6 _ hW).2)
      have HOLD := hide (fun (d : ByteArray) (hd : d.size ≤ 100) (W : World) (hW : Below w6.heap.size w6 W) => impl_Holders d _ n c ds k W (unhide HI1 _ hW) (by omega) (unhide HKT6 _ hW).1 (unhide HKT6 _ hW).2)
      have HNEW := hide (fun (d : ByteArray) (hd : d.size ≤ 100) (W : World) (hW : Below w6.heap.size w6 W) => impl_Holders d a6 m6 c6 (ds ++ [50]) k W (unhide HI6 _ hW) (by omega) (unhide HKT6 _ hW).1 (unhide HKT6 _ hW).2)
      have HLO := hide (fun (d : ByteArray) => (show (hldL d ds k).length ≤ 7 ∧ (hldL d (ds ++ [50]) k).length ≤ 8 from by
        have h1 := hldL_len d ds k
        have h2 := hldL_len d (ds ++ [50]) k
        rw [List.length_append] at h2
        have := unhide HNN
        simp at h2
        omega))
      have HOK := hide (fun (h : mvB ss ds (ds ++ [50]) k = true) => (show okIds 0 (ds ++ [50]) = true ∧ okIds 0 ds = true from by
        unfold mvB at h
        simp only [Bool.and_eq_true] at h
        exact ⟨h.2.1.2, h.2.1.1⟩))
      have HEND := hide (fun (h : mvB ss ds (ds ++ [50]) k = true) (d : ByteArray) (j : Nat) (hj : (hldL d ds k).length ≤ j) => lostN_end d ds k (unhide HOK h).1 (unhide HOK h).2 j hj)
      have HMV := hide (show (∀ e ∈ mvL ss ds (ds ++ [50]) k, e.dst = 50) ∧ ((mvL ss ds (ds ++ [50]) k).map Cpy.dig).Nodup from by
        cases hB : mvB ss ds (ds ++ [50]) k with
        | false => rw [mvL_no hB]; exact ⟨fun e he => by simp at he, by simp⟩
        | true =>
          rw [mvL_yes hB]
          have hB2 := hB
          unfold mvB at hB2
          simp only [Bool.and_eq_true] at hB2
          exact mvs_one ds 50 k.toNat ss (unhide HOK hB).1 hB2.1)
      have HML := hide (mvL_len ss ds (ds ++ [50]) k)
      generalize mvL ss ds (ds ++ [50]) k = mv at HSP HIM0 HMV HML
      generalize mvB ss ds (ds ++ [50]) k = B at HSP HIM0 HEND
      obtain ⟨q, hq⟩ : ∃ q, mv.length = q := ⟨_, rfl⟩
      have hqb : q ≤ 10000 := by rw [← hq]; exact unhide HML
      have HQ := hide hq
      clear hq hown6 hb6 HO5 HR5 HBX HB5 HOE HR HAD HBA HGO HML HIA HTA HKT hzB hlen5 hlen0 HOK HI6 HI1 HKT6 HBX6
      refine (unhide HSP).mono ?_
      rintro e w7 ⟨vS, rfl, oS, hb7⟩
      have HB7 := hide hb7
      clear hb7 oS HSP
      have HIM := hide (unhide HIM0 w7 (unhide HB7))
      clear HIM0
      go_wp2_with fail
      refine (unhide HIM).mono ?_
      rintro e w8 ⟨vM, rfl, oM, hb8⟩
      obtain ⟨aM, cM, hvM⟩ := oM.form
      rw [unhide HQ] at hvM
      subst hvM
      have HB8 := hide (belOnD (unhide HB7) hb8)
      have HRM := hide oM.at
      clear hb8 oM HIM HB7
      go_wp2_with fail
      go_loopw [12] (fun i wr => ∃ j : Nat, i = .int .i64 j ∧ j ≤ q ∧ Hid (Below w6.heap.size w6 wr) ∧ Hid (RowAt cpyE wr aM mv)) (fun i _ => q - (intOf i).toNat)
      case atStart => exact ⟨0, rfl, by omega, HB8, HRM⟩
      case round =>
        obtain ⟨j, rfl, hj, HBj, HRj⟩ := hrel
        by_cases hjq : j < q
        · have hjl : j < mv.length := by rw [unhide HQ]; exact hjq
          obtain ⟨g1, e1, l1, p0, p1, p2⟩ := (unhide HRj).cx j hjl
          have hdst : mv[j].dst = 50 := (unhide HMV).1 _ (List.getElem_mem hjl)
          rw [hdst] at p2
          have hbd : Below w6.heap.size w6 wr := unhide HBj
          rcases Nat.eq_zero_or_pos j with hj0 | hj0
          · subst hj0
            subst e1
            have i1 : (0 : Int) < (q : Int) := by omega
            clear hdst hbd
            go_wp2_with fail
            go_quiet (fail)
            go_wp2_with fail
            go_roundw
            case rel => exact ⟨0 + 1, by go_num, by omega, by first | exact HBj | exact hide (unhide HBj).drew | exact hide (belQE (unhide HBj) _), by first | exact HRj | exact hide ((unhide HRj).below (belQE (Below.refl _ _) _))⟩
            case measure => simp [intOf]; omega
          · obtain ⟨j', hj'⟩ : ∃ j' : Nat, j = j' + 1 := ⟨j - 1, by omega⟩
            have hj'l : j' < mv.length := by omega
            obtain ⟨g2, e2, l2, r0, r1, r2⟩ := (unhide HRj).cx j' hj'l
            have hne : (mv[j].dig.toList == mv[j'].dig.toList) = false := by
              rw [beq_eq_false_iff_ne]
              intro h
              rw [ByteArray.toList_eq, ByteArray.toList_eq] at h
              have h2 : mv[j].dig = mv[j'].dig := ByteArray.ext (Array.toList_inj.1 h)
              have h3 := (List.pairwise_iff_getElem.1 (unhide HMV).2) j' j (by simpa using hj'l) (by simpa using hjl) (by omega)
              rw [List.getElem_map, List.getElem_map] at h3
              exact h3 h2.symm
            have hjj : (j : Int) - 1 = (j' : Int) := by omega
            generalize mv[j].dig = d1 at p0 hne
            generalize mv[j'].dig = d2 at r0 hne
            generalize mv[j].src = s1 at p1
            subst e1
            cases e2
            have i0 : (0 : Int) ≤ (j : Int) := by omega
            have i1 : (j : Int) < (q : Int) := by omega
            have i2 : (0 : Int) ≤ (j' : Int) := by omega
            have i3 : (j' : Int) < (q : Int) := by omega
            have i4 : decide ((0 : Int) < (j : Int)) = true := decide_eq_true (by omega)
            have i5 : decide (0 < j) = true := decide_eq_true hj0
            clear hdst hbd hj' hj0 r1 r2 hjl hj'l
            go_wp2_with fail
            go_quiet (fail)
            go_wp2_with fail
            go_roundw
            case rel => exact ⟨j + 1, by go_num, by omega, by first | exact HBj | exact hide (unhide HBj).drew | exact hide (belQE (unhide HBj) _), by first | exact HRj | exact hide ((unhide HRj).below (belQE (Below.refl _ _) _))⟩
            case measure => simp [intOf]; omega
        · clear HMV HQ HRM HB8 HRj
          have hjd : decide ((j : Int) < (q : Int)) = false := decide_eq_false (by omega)
          cases B with
          | false =>
            go_wp2_with fail
            go_loopw [13] (fun i wr2 => (∃ j : Nat, i = .int .i64 j) ∧ Hid (Below w6.heap.size w6 wr2)) (fun i _ => nd - (intOf i).toNat)
            case atStart => exact ⟨⟨0, rfl⟩, HBj⟩
            case round =>
              obtain ⟨⟨i, rfl⟩, HBi⟩ := hrel
              go_wp2_with fail
              go_ret
              exact ⟨rfl, unhide HFIN _ (unhide HBi)⟩
          | true =>
            go_wp2_with fail
            clear hjd hjq hj
            go_loopw [13] (fun i wr2 => ∃ j : Nat, i = .int .i64 j ∧ j ≤ nd ∧ Hid (Below w6.heap.size w6 wr2)) (fun i _ => nd - (intOf i).toNat)
            case atStart => exact ⟨0, rfl, by omega, HBj⟩
            case round =>
              obtain ⟨i, rfl, hi, HBi⟩ := hrel
              by_cases hin : i < nd
              · have hil : i < ss.length := by rw [unhide HND]; exact hin
                obtain ⟨g3, e3, l3, t0, -⟩ := (unhide HT1 _ (unhide HBi)).row.str i hil
                have hds1 := unhide HF ss[i] (List.getElem_mem hil)
                generalize ss[i] = d at t0 hds1
                have HH1 := hide (unhide HOLD d hds1 _ (unhide HBi))
                have HH2 := hide (unhide HNEW d hds1)
                obtain ⟨hlo, hln⟩ := unhide HLO d
                have HED := hide (unhide HEND (by first | rfl | trivial) d)
                have hasx := e3
                subst e3
                have i0 : (0 : Int) ≤ (i : Int) := by omega
                have i1 : (i : Int) < (nd : Int) := by omega
                go_wp2_with fail
                refine (unhide HH1).mono ?_
                rintro e w9 ⟨vO, rfl, oO, hb9⟩
                generalize hldL d ds k = old at oO hlo HED
                obtain ⟨aO, cO, hvO⟩ := oO.form
                obtain ⟨lo, hlo2⟩ : ∃ lo, old.length = lo := ⟨_, rfl⟩
                rw [hlo2] at hvO hlo
                subst hvO
                have HB9 := hide (belOnD (unhide HBi) hb9)
                have HRO := hide oO.at
                have HLL := hide hlo2
                have t1 := bcl hb9 l3 t0
                have HH3 := hide (unhide HH2 _ (unhide HB9))
                clear hb9 oO HH1 HH2 t0 hlo2 l3
                go_wp2_with fail
                refine (unhide HH3).mono ?_
                rintro e w10 ⟨vN, rfl, oN, hb10⟩
                generalize hldL d (ds ++ [50]) k = now at oN hln HED
                obtain ⟨aN, cN, hvN⟩ := oN.form
                obtain ⟨ln, hln2⟩ : ∃ ln, now.length = ln := ⟨_, rfl⟩
                rw [hln2] at hvN hln
                subst hvN
                have HB10 := hide (belOnD (unhide HB9) hb10)
                have HRO2 := hide ((unhide HRO).below hb10)
                have HNA := hide (show IntsAt w10 aN ln now from ⟨oN.at, hln2, by omega⟩)
                clear hb10 oN HH3 t1 hln2 HRO HB9
                go_wp2_with fail
                go_loopw [18, 19] (fun s18 s19 wr3 => ∃ j : Nat, s19 = .int .i64 j ∧ s18 = .int .i64 (lostN old now j) ∧ j ≤ lo ∧ wr3 = w10) (fun _ s19 _ => lo - (intOf s19).toNat)
                case atStart => exact ⟨0, rfl, rfl, by omega, rfl⟩
                case round =>
                  obtain ⟨j2, rfl, rfl, hj2, rfl⟩ := hrel
                  by_cases hjo : j2 < lo
                  · have hjl2 : j2 < old.length := by rw [unhide HLL]; exact hjo
                    obtain ⟨g4, e4, l4, u0, -⟩ := (unhide HRO2).ix j2 hjl2
                    have hst := lostN_step old now j2 hjl2
                    have hle := lostN_le old now j2
                    generalize old[j2] = x at u0 hst
                    generalize lostN old now j2 = L at hst hle
                    have HHX := hide (hasIntR_calls aN ln cN now x _ (unhide HNA))
                    subst e4
                    have k0 : (0 : Int) ≤ (j2 : Int) := by omega
                    have k1 : (j2 : Int) < (lo : Int) := by omega
                    by_cases hm : x ∈ now
                    · rw [if_pos hm] at hst
                      rw [decide_eq_true hm] at HHX
                      have HST := hide hst
                      clear hst hm
                      go_wp2_with fail
                      refine (unhide HHX).mono ?_
                      rintro e w11 ⟨rfl, rfl⟩
                      go_wp2_with fail
                      go_roundw
                      case rel => exact ⟨j2 + 1, by go_num, by rw [unhide HST], by omega, by first | rfl | trivial⟩
                      case measure => simp [intOf]; omega
                    · rw [if_neg hm] at hst
                      rw [decide_eq_false hm] at HHX
                      have HST := hide hst
                      clear hst hm
                      go_wp2_with fail
                      refine (unhide HHX).mono ?_
                      rintro e w11 ⟨rfl, rfl⟩
                      go_wp2_with fail
                      go_roundw
                      case rel => exact ⟨j2 + 1, by go_num, by rw [unhide HST]; go_num, by omega, by first | rfl | trivial⟩
                      case measure => simp [intOf]; omega
                  · have HX := unhide HED j2 (by rw [unhide HLL]; omega)
                    have hjd2 : ¬ (j2 : Int) < (lo : Int) := by omega
                    generalize lostN old now j2 = L at HX
                    rcases HX with h1 | ⟨h1, h2⟩
                    · subst h1
                      go_wp2_with fail
                      go_roundw
                      case rel => exact ⟨i + 1, by go_num, by omega, HB10⟩
                      case measure => simp [intOf]; omega
                    · subst h1
                      have HHX := hide (hasIntR_calls aN ln cN now 50 _ (unhide HNA))
                      rw [decide_eq_true h2] at HHX
                      clear h2
                      go_wp2_with fail
                      refine (unhide HHX).mono ?_
                      rintro e w11 ⟨rfl, rfl⟩
                      go_wp2_with fail
                      go_roundw
                      case rel => exact ⟨i + 1, by go_num, by omega, HB10⟩
                      case measure => simp [intOf]; omega
              · have hid : ¬ (i : Int) < (nd : Int) := by omega
                go_wp2_with fail
                go_ret
                exact ⟨rfl, unhide HFIN _ (unhide HBi)⟩
  · have hd : decide (1048576 < (len0 : Int)) = true := by simp; omega
    clear hK hT H
    go_enter Tryz.func3, Tryz.ntmps3
    go_wp2_with fail
    refine (big_calls a0 len0 cap0 _ hlen).mono ?_
    rintro e w1 ⟨rfl, rfl⟩
    rw [hd]
    go_wp2_with fail
    go_ret
    exact ⟨rfl, Below.refl _ _⟩
end Go.Proofs.YtdmkephnpmglkaaGreatDoor.fnOneMore
