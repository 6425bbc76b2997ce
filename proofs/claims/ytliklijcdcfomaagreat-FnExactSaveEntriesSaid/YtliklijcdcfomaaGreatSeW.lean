/- The walk of the law FnExactSaveEntries. -/
import Derived.Test.YtliklijcdcfomaaGreatDskN
import Derived.Test.YtliklijcdcfomaaGreatTzE
import Derived.Test.YtliklijcdcfomaaGreatNzE
import Derived.Test.YtliklijcdcfomaaGreatNzG
import Derived.Test.YtliklijcdcfomaaGreatMrkE
import Derived.WalkKit
import Derived.Deep.DeepCutAuto
import Derived.Deep.RegionHeld3
import Derived.ProofKit
import Derived.Below
set_option linter.unusedVariables false
namespace Go.Proofs.YtliklijcdcfomaaGreat.fnExactSaveEntries
open Go.RowKit
open Plain

theorem dn_bound (live safe : List Fl) (ops : List Dop) (fm : Int) (es : List Ent) {nL nS nO : Nat} (h1 : live.length = nL) (h2 : safe.length = nS) (h3 : ops.length = nO) (hfo : ∀ o ∈ ops, SmO o) (b1 : nL ≤ 1048576) (b2 : nS ≤ 1048576) (b3 : nO ≤ 1048576) : (dnL live safe ops (seB live safe ops fm es) (seX live safe ops fm es)).length ≤ 10000000 ∧ (dnS live safe ops (seB live safe ops fm es) (seX live safe ops fm es)).length ≤ 10000000 ∧ (dnO live safe ops (seB live safe ops fm es) (seX live safe ops fm es)).length ≤ 10000000 := by
  unfold dnL dnS dnO
  by_cases hd : diskB live safe ops = true
  · simp only [if_pos hd]
    by_cases hb : seB live safe ops fm es = true
    · simp only [if_pos hb]
      obtain ⟨hx, hxl, -, -⟩ := seX_small hb
      obtain ⟨-, -, -, f4, f5, f6⟩ := dn_fit hd hfo hx hxl
      have hs := syn_bound (actL live safe ops (seX live safe ops fm es)) (actS live safe ops) (actO live safe ops (seX live safe ops fm es))
      unfold fnL fnS fnO
      refine ⟨?_, ?_, ?_⟩
      · split <;> omega
      · split <;> omega
      · split
        · exact Nat.zero_le _
        · omega
    · simp only [if_neg hb]
      omega
  · simp only [if_neg hd]
    exact ⟨Nat.zero_le _, Nat.zero_le _, Nat.zero_le _⟩
set_option maxRecDepth 10000 in
set_option maxHeartbeats 16000000 in
theorem walk (aL : Option Addr) (nL cL : Nat) (live : List Fl) (aS : Option Addr) (nS cS : Nat) (safe : List Fl) (aO : Option Addr) (nO cO : Nat) (ops : List Dop) (fm : Int) (ak : Option Addr) (nk ck : Nat) (ks : List Ent) (w : World) (hl : ArgRow 2 fileL goodF w aL nL cL live) (hs : ArgRow 2 fileL goodF w aS nS cS safe) (ho : ArgRow 4 dopL goodO w aO nO cO ops) (hfm : (Lit.int .i64 fm).wf = true) (hkk : ArgRow 3 entL goodE w ak nk ck ks) :
    Calls Tryz.prog 4 #[.agg #[.slice aL nL cL, .slice aS nS cS, .slice aO nO cO], .int .i64 fm, .slice ak nk ck] w fun e w' => e = .returned (.bool true) ∧ Below w.heap.size w w' := by
  have h : DskArg w aL nL cL live aS nS cS safe aO nO cO ops := ⟨hl, hs, ho⟩
  obtain ⟨W0, hW0⟩ : ∃ W0, W0 = w.alloc (.cells #[.slice aL nL cL, .slice aS nS cS, .slice aO nO cO] 25) := ⟨_, rfl⟩
  have hb0 : Below w.heap.size w W0 := by rw [hW0]; exact bel1 _ _
  have HSZ := hide (szDisk_calls aL nL cL live aS nS cS safe aO nO cO ops 1048576 W0 (h.below hb0) (by decide))
  have hs0 : W0.heap.size = w.heap.size + 1 := by rw [hW0]; simp
  have c0 : W0.cell? ⟨w.heap.size, 0, none⟩ = some (.slice aL nL cL) := by rw [hW0]; simp [go_sem]
  have c1 : W0.cell? ⟨w.heap.size, 1, none⟩ = some (.slice aS nS cS) := by rw [hW0]; simp [go_sem]
  have c2 : W0.cell? ⟨w.heap.size, 2, none⟩ = some (.slice aO nO cO) := by rw [hW0]; simp [go_sem]
  have HD := hide (fun (W : World) (hW : Below W0.heap.size W0 W) => (h.below hb0).below hW)
  have HC := hide (fun (W : World) (hW : Below W0.heap.size W0 W) => And.intro (bcl hW (show w.heap.size < W0.heap.size by omega) c0) (And.intro (bcl hW (show w.heap.size < W0.heap.size by omega) c1) (bcl hW (show w.heap.size < W0.heap.size by omega) c2)))
  have HFIN := hide (fun (W : World) (hW : Below W0.heap.size W0 W) => belOn hb0 hW)
  have HKA := hide (fun (W : World) (hW : Below W0.heap.size W0 W) => hkk.row.below (belOn hb0 hW))
  have HKN := hide hkk.len
  have HKS := hide (fun (r : Nat) (W : World) (hr : r ≤ 10000000) (hW : Below W0.heap.size W0 W) => szEntryS_calls ak nk ck ks r W hkk.len (Nat.le_trans hkk.le (by decide)) hkk.good hr (unhide HKA W hW))
  obtain ⟨AE, hAE⟩ : ∃ A, nk + totE ks = A := ⟨_, rfl⟩
  rw [hAE] at HKS
  have HW0 := hide hW0.symm
  by_cases hbig : 1048576 < totD live safe ops
  · rw [purse_no (show ((1048576 : Nat) : Int) < ((totD live safe ops : Nat) : Int) by omega)] at HSZ
    clear h hl hs ho hb0 hs0 hW0 c0 c1 c2 hkk hAE
    go_enter Tryz.func4, Tryz.ntmps4
    go_wp2_with fail
    rw [unhide HW0]
    refine (unhide HSZ).mono ?_
    rintro e w1 ⟨rfl, hb1⟩
    have HB1 := hide (unhide HFIN _ hb1)
    clear hb1
    go_wp2_with fail
    go_ret
    exact ⟨rfl, unhide HB1⟩
  · obtain ⟨r, hr⟩ : ∃ r : Nat, ((1048576 : Nat) : Int) - ((totD live safe ops : Nat) : Int) = (r : Int) := ⟨1048576 - totD live safe ops, by omega⟩
    rw [purse_yes (show ¬ ((1048576 : Nat) : Int) < ((totD live safe ops : Nat) : Int) by omega), hr] at HSZ
    have hr10 : r ≤ 10000000 := by omega
    by_cases hbig2 : r < AE
    · have HK1 := hide (fun (W : World) (hW : Below W0.heap.size W0 W) => unhide HKS r W hr10 hW)
      rw [purse_no (show ((r : Nat) : Int) < ((AE : Nat) : Int) by omega)] at HK1
      clear h hl hs ho hb0 hs0 hW0 c0 c1 c2 hkk hAE hr HKS
      go_enter Tryz.func4, Tryz.ntmps4
      go_wp2_with fail
      rw [unhide HW0]
      refine (unhide HSZ).mono ?_
      rintro e w1 ⟨rfl, hb1⟩
      have HB1 := hide hb1
      clear hb1
      go_wp2_with fail
      refine (unhide HK1 _ (unhide HB1)).mono ?_
      rintro e w2 ⟨rfl, hb2⟩
      have HB2 := hide (unhide HFIN _ (belOn (unhide HB1) hb2))
      clear hb2
      go_wp2_with fail
      go_ret
      exact ⟨rfl, unhide HB2⟩
    obtain ⟨r2, hr2⟩ : ∃ x : Nat, ((r : Nat) : Int) - ((AE : Nat) : Int) = (x : Int) := ⟨r - AE, by omega⟩
    have HK1 := hide (fun (W : World) (hW : Below W0.heap.size W0 W) => unhide HKS r W hr10 hW)
    rw [purse_yes (show ¬ ((r : Nat) : Int) < ((AE : Nat) : Int) by omega), hr2] at HK1
    have hbn : nk ≤ 1048576 := by omega
    have hbk9 : ∀ e ∈ ks, e.body.size ≤ 1000000000 := fun e he => by have := totE_mem ks e he; omega
    have HTK := hide (fun (W : World) (hW : Below W0.heap.size W0 W) => toEntryS_calls ak nk ck ks W hkk.len hbn (unhide HKA W hW))
    have HSM := hide (dsk_sm h (by omega))
    have HTO := hide (fun (W : World) (hW : Below W0.heap.size W0 W) => toDisk_calls aL nL cL live aS nS cS safe aO nO cO ops W (unhide HD _ hW) (unhide HSM).bl (unhide HSM).bs (unhide HSM).bo)
    have HSP := hide (fun (W : World) (p1 p2 p3 pk : Nat) (hA : DiskAt W (some ⟨p1, 0, none⟩) nL nL live (some ⟨p2, 0, none⟩) nS nS safe (some ⟨p3, 0, none⟩) nO nO ops) (hK : RowAt entE W (some ⟨pk, 0, none⟩) ks) => spec_SaveEntries (some ⟨p1, 0, none⟩) nL nL live (some ⟨p2, 0, none⟩) nS nS safe (some ⟨p3, 0, none⟩) nO nO ops fm (some ⟨pk, 0, none⟩) nk nk ks W hA hK (unhide HKN) hbn hbk9 (.inr ⟨pk, rfl⟩))
    have HIM := hide (fun (W : World) (p1 p2 p3 pk : Nat) (hA : DiskAt W (some ⟨p1, 0, none⟩) nL nL live (some ⟨p2, 0, none⟩) nS nS safe (some ⟨p3, 0, none⟩) nO nO ops) (hK : RowAt entE W (some ⟨pk, 0, none⟩) ks) => impl_SaveEntries p1 nL nL live p2 nS nS safe p3 nO nO ops fm (some ⟨pk, 0, none⟩) nk nk ks W hA hK (unhide HKN) hbn hbk9 (.inr ⟨pk, rfl⟩))
    obtain ⟨b1, b2, b3⟩ := dn_bound live safe ops fm ks (unhide HSM).ll (unhide HSM).ls (unhide HSM).lo (unhide HSM).fo (unhide HSM).bl (unhide HSM).bs (unhide HSM).bo
    generalize dnC live safe ops (seB live safe ops fm ks) 11 (seX live safe ops fm ks) = PC at HSP HIM
    generalize dnL live safe ops (seB live safe ops fm ks) (seX live safe ops fm ks) = L1 at HSP HIM b1
    generalize dnS live safe ops (seB live safe ops fm ks) (seX live safe ops fm ks) = S1 at HSP HIM b2
    generalize dnO live safe ops (seB live safe ops fm ks) (seX live safe ops fm ks) = O1 at HSP HIM b3
    unfold SpcPost at HSP
    unfold DskPost at HIM
    obtain ⟨m1, hm1⟩ : ∃ m, L1.length = m := ⟨_, rfl⟩
    obtain ⟨m2, hm2⟩ : ∃ m, S1.length = m := ⟨_, rfl⟩
    obtain ⟨m3, hm3⟩ : ∃ m, O1.length = m := ⟨_, rfl⟩
    rw [hm1] at b1 HSP HIM
    rw [hm2] at b2 HSP HIM
    rw [hm3] at b3 HSP HIM
    have HM1 := hide hm1
    have HM2 := hide hm2
    have HM3 := hide hm3
    have HS0 := hide hs0
    clear h hl hs ho hb0 hs0 hW0 hm1 hm2 hm3 c0 c1 c2 hbig hr hfm hkk hAE hr2 hbk9 HKS hbig2
    go_enter Tryz.func4, Tryz.ntmps4
    go_wp2_with fail
    rw [unhide HW0]
    refine (unhide HSZ).mono ?_
    rintro e w0x ⟨rfl, hb0x⟩
    have HB0x := hide hb0x
    clear hb0x
    go_wp2_with fail
    refine (unhide HK1 _ (unhide HB0x)).mono ?_
    rintro e w1 ⟨rfl, hb1x⟩
    have HB1 := hide (belOn (unhide HB0x) hb1x)
    obtain ⟨q0, q1, q2⟩ := unhide HC _ (unhide HB1)
    clear hb1x
    go_wp2_with fail
    refine (unhide HTO _ (unhide HB1)).mono ?_
    rintro e w2 ⟨g1, g2, g3, rfl, -, -, o1, o2, o3, hb2⟩
    have HB2 := hide (belOn (unhide HB1) hb2)
    have HA2 := hide (dsk_at (unhide HSM) o1 o2 o3)
    clear hb2 o1 o2 o3 q0 q1 q2
    go_wp2_with fail
    refine (unhide HTK _ (unhide HB2)).mono ?_
    rintro e wk ⟨gk, rfl, ok, hbk⟩
    have HBk := hide (belOn (unhide HB2) hbk)
    have HAk := hide ((unhide HA2).below hbk)
    have HKk := hide ok.at
    clear ok hbk
    go_wp2_with fail
    refine (unhide HSP wk _ _ _ _ (unhide HAk) (unhide HKk)).mono ?_
    rintro e s3 ⟨xL, kL, xS, kS, xO, kO, rfl, r1, r2, r3, hb3⟩
    obtain ⟨w3, hw3⟩ : ∃ V, V = s3.alloc (.cells #[.slice xL m1 kL, .slice xS m2 kS, .slice xO m3 kO] 30) := ⟨_, rfl⟩
    have HB3 := hide (show Below W0.heap.size W0 w3 from by rw [hw3]; exact belOn (belOn (unhide HBk) hb3) (bel1 _ _))
    have DW := hide (show DC s3.heap.size (.slice xL m1 kL) (.slice xS m2 kS) (.slice xO m3 kO) w3 from by rw [hw3]; exact DC.new _ _ _ _ _ _ _ _ _ _)
    have HX := hide (show RowAt fileE w3 xL L1 ∧ RowAt fileE w3 xS S1 ∧ RowAt dopE w3 xO O1 from by rw [hw3]; exact ⟨r1.below (bel1 _ _), r2.below (bel1 _ _), r3.below (bel1 _ _)⟩)
    obtain ⟨q0, q1, q2⟩ := unhide HC _ (unhide HB3)
    rw [hw3] at q0 q1 q2
    have HW3 := hide hw3.symm
    clear hb3 r1 r2 r3 hw3
    go_wp2_with fail
    rw [unhide HW3]
    clear q0 q1 q2
    refine (unhide HTO _ (unhide HB3)).mono ?_
    rintro e w4 ⟨g4, g5, g6, rfl, d1, d2, o1, o2, o3, hb4⟩
    obtain ⟨W5, hW5⟩ : ∃ W5, W5 = w4.alloc (.cells #[.slice (some ⟨g4, 0, none⟩) nL nL, .slice (some ⟨g5, 0, none⟩) nS nS, .slice (some ⟨g6, 0, none⟩) nO nO] 30) := ⟨_, rfl⟩
    have hb5 : Below w4.heap.size w4 W5 := by rw [hW5]; exact bel1 _ _
    have HT5 := hide (belOn hb4 hb5)
    have hlt5 : w4.heap.size < W5.heap.size := by rw [hW5]; simp
    have DX := hide (show DC w4.heap.size (.slice (some ⟨g4, 0, none⟩) nL nL) (.slice (some ⟨g5, 0, none⟩) nS nS) (.slice (some ⟨g6, 0, none⟩) nO nO) W5 from by rw [hW5]; exact DC.new _ _ _ _ _ _ _ _ _ _)
    have DW5 := hide ((unhide DW).below (belOn hb4 hb5))
    have hz4 := hb4.size
    have hbwl := (unhide DW).lt
    have HA5 := hide ((dsk_at (unhide HSM) o1 o2 o3).below hb5)
    have hg4 := o1.bl g4 ⟨0, rfl⟩
    have hg5 := o2.bl g5 ⟨0, rfl⟩
    have hg6 := o3.bl g6 ⟨0, rfl⟩
    have HAP := hide (show Apart (some ⟨g4, 0, none⟩) (some ⟨g5, 0, none⟩) (some ⟨g6, 0, none⟩) from apart3 (by omega) (by omega))
    have HWN := hide (show ¬ inD (some ⟨g4, 0, none⟩) (some ⟨g5, 0, none⟩) (some ⟨g6, 0, none⟩) s3.heap.size from fun hg => by rcases hg with ⟨o, e⟩ | ⟨o, e⟩ | ⟨o, e⟩ <;> cases e <;> omega)
    have HING := hide (show ∀ g, inD (some ⟨g4, 0, none⟩) (some ⟨g5, 0, none⟩) (some ⟨g6, 0, none⟩) g → w3.heap.size ≤ g ∧ g < W5.heap.size from fun g hg => by rcases hg with ⟨o, e⟩ | ⟨o, e⟩ | ⟨o, e⟩ <;> cases e <;> omega)
    have HB5 := hide (belOn (unhide HB3) (unhide HT5))
    have HW5 := hide hW5.symm
    clear hb4 hb5 o1 o2 o3 hW5 hg4 hg5 hg6 d1 d2
    go_wp2_with fail
    rw [unhide HW5]
    refine (unhide HTK _ (unhide HB5)).mono ?_
    rintro e w5 ⟨gx, rfl, ox, hbx⟩
    have hgx := ox.bl gx ⟨0, rfl⟩
    have hzx := hbx.size
    have HTx := hide (belOn (unhide HT5) hbx)
    have DXx := hide ((unhide DX).below hbx)
    have DWx := hide ((unhide DW5).below hbx)
    have HAx := hide ((unhide HA5).below hbx)
    have HKx := hide ox.at
    obtain ⟨-, e0, e1, e2⟩ := unhide DXx
    clear hbx ox
    go_wp2_with fail
    clear e0 e1 e2
    refine (unhide HIM w5 _ _ _ _ (unhide HAx) (unhide HKx)).mono ?_
    rintro e s6 ⟨yL, jL, yS, jS, yO, jO, rfl, o1, o2, o3, apy, hb6⟩
    obtain ⟨w6, hw6⟩ : ∃ V, V = s6.alloc (.cells #[.slice yL m1 jL, .slice yS m2 jS, .slice yO m3 jO] 30) := ⟨_, rfl⟩
    have HB6 := hide (show Below w5.heap.size w5 w6 from by rw [hw6]; exact belOn hb6 (bel1 _ _))
    have DG := hide (show DC s6.heap.size (.slice yL m1 jL) (.slice yS m2 jS) (.slice yO m3 jO) w6 from by rw [hw6]; exact DC.new _ _ _ _ _ _ _ _ _ _)
    have OW := own3 o1 o2 o3
    have HY := hide (show RowAt fileE w6 yL L1 ∧ RowAt fileE w6 yS S1 ∧ RowAt dopE w6 yO O1 from by rw [hw6]; exact ⟨o1.at.below (bel1 _ _), o2.at.below (bel1 _ _), o3.at.below (bel1 _ _)⟩)
    have hz66 : w6.heap.size = s6.heap.size + 1 := by rw [hw6]; simp
    have HAY := hide apy
    have HVY := hide (show ∀ g, inD yL yS yO g → w5.heap.size ≤ g ∧ g ≠ s6.heap.size ∧ g < w6.heap.size from fun g hg => by have := OW g hg; refine ⟨by omega, by omega, by omega⟩)
    have hbgW : w5.heap.size ≤ s6.heap.size := hb6.size
    have HZ66 := hide hz66
    have HT6 := hide (belOn (unhide HTx) (unhide HB6))
    have HK6 := hide ((unhide HKx).below (unhide HB6))
    have DW6 := hide ((unhide DWx).below (unhide HB6))
    have DX6 := hide ((unhide DXx).below (unhide HB6))
    have HA6 := hide ((unhide HAx).below (unhide HB6))
    have hz6 := (unhide HB6).size
    have HNX : Hid (¬ inD (some ⟨g4, 0, none⟩) (some ⟨g5, 0, none⟩) (some ⟨g6, 0, none⟩) s6.heap.size) := hide (fun h => by have := (unhide HING _ h).2; omega)
    obtain ⟨-, f0, f1, f2⟩ := unhide DW6
    rw [hw6] at f0 f1 f2
    have hpc : (PC != PC) = false := by simp
    have HW6 := hide hw6.symm
    clear o1 o2 o3 apy hb6 OW hw6 hz66
    go_wp2_with fail
    rw [unhide HW6]
    clear f0 f1 f2
    refine (eqDisk_calls yL yS yO xL xS xO m1 m2 m3 _ _ _ _ _ _ L1 S1 O1 _ (unhide HM1) (unhide HM2) (unhide HM3) b1 b2 b3 ⟨(unhide HY).1, (unhide HY).2.1, (unhide HY).2.2⟩ ⟨(unhide HX).1.below (unhide HT6), (unhide HX).2.1.below (unhide HT6), (unhide HX).2.2.below (unhide HT6)⟩).mono ?_
    rintro e w7 ⟨rfl, hb7⟩
    have HT7 := hide (belOn (unhide HT6) hb7)
    have DG7 := hide ((unhide DG).below hb7)
    have DX7 := hide ((unhide DX6).below hb7)
    have DW7 := hide ((unhide DW6).below hb7)
    have HA7 := hide ((unhide HA6).below hb7)
    have HK7 := hide ((unhide HK6).below hb7)
    have HY7 := hide (show RowAt fileE w7 yL L1 ∧ RowAt fileE w7 yS S1 ∧ RowAt dopE w7 yO O1 from ⟨(unhide HY).1.below hb7, (unhide HY).2.1.below hb7, (unhide HY).2.2.below hb7⟩)
    have hz7 := hb7.size
    have HB7 := hide (belOn (unhide HB3) (unhide HT7))
    clear hb7
    go_wp2_with fail
    go_cut [62] (fun s62 wx => s62 = .bool false ∧ Hid (Below w7.heap.size w7 wx))
    case first =>
      obtain ⟨q0, q1, q2⟩ := unhide HC _ (unhide HB7)
      obtain ⟨-, p0, p1, p2⟩ := unhide DX7
      have l1 : w.heap.size < w7.heap.size := lt_of_cell q0
      have l2 : w4.heap.size < w7.heap.size := lt_of_cell p0
      have HT8 := hide (unhide HTO w7.drew (belDrew (unhide HB7)))
      go_region_with (first
        | (go_at_call 7; refine (unhide HT8).mono ?_; rintro e w8 ⟨g7, g8, g9, rfl, -, -, o1, o2, o3, hb8⟩; have s0 := bcl (bOfDrew hb8) l1 q0; have s1 := bcl (bOfDrew hb8) l1 q1; have s2 := bcl (bOfDrew hb8) l1 q2; have t0 := bcl (bOfDrew hb8) l2 p0; have t1 := bcl (bOfDrew hb8) l2 p1; have t2 := bcl (bOfDrew hb8) l2 p2)
        | (go_at_call 9; refine (eqDisk_calls _ _ _ _ _ _ nL nS nO _ _ _ _ _ _ live safe ops _ (unhide HSM).ll (unhide HSM).ls (unhide HSM).lo (Nat.le_trans (unhide HSM).bl (by decide)) (Nat.le_trans (unhide HSM).bs (by decide)) (Nat.le_trans (unhide HSM).bo (by decide)) ⟨(unhide HA7).rl.below (bOfDrew hb8), (unhide HA7).rs.below (bOfDrew hb8), (unhide HA7).ro.below (bOfDrew hb8)⟩ ⟨o1.at, o2.at, o3.at⟩).mono ?_; rintro e w9 ⟨rfl, hb9⟩))
      all_goals (try go_wp2_with fail)
      all_goals go_meet
      all_goals exact ⟨rfl, hide (belOn (bOfDrew hb8) hb9)⟩
    case rest =>
    obtain ⟨w9, rfl⟩ : ∃ w9, w9 = wc := ⟨_, rfl⟩
    obtain ⟨rfl, HD9⟩ := hcut
    have HT9 := hide (belOn (unhide HT7) (unhide HD9))
    have DG9 := hide ((unhide DG7).below (unhide HD9))
    have DX9 := hide ((unhide DX7).below (unhide HD9))
    have DW9 := hide ((unhide DW7).below (unhide HD9))
    have HA9 := hide ((unhide HA7).below (unhide HD9))
    have HY9 := hide (show RowAt fileE w9 yL L1 ∧ RowAt fileE w9 yS S1 ∧ RowAt dopE w9 yO O1 from ⟨(unhide HY7).1.below (unhide HD9), (unhide HY7).2.1.below (unhide HD9), (unhide HY7).2.2.below (unhide HD9)⟩)
    have hz9 := (unhide HD9).size
    have HK9 := hide ((unhide HK7).below (unhide HD9))
    have HBK9 := hide (belOn (unhide HB3) (unhide HT9))
    go_wp2_with fail
    refine (unhide HTK _ (unhide HBK9)).mono ?_
    rintro e wm ⟨gm, rfl, om, hbm⟩
    have HTm := hide (belOn (unhide HT9) hbm)
    have HKm := hide ((unhide HK9).below hbm)
    have HOm := hide om.at
    have DGm := hide ((unhide DG9).below hbm)
    have DXm := hide ((unhide DX9).below hbm)
    have DWm := hide ((unhide DW9).below hbm)
    have HAm := hide ((unhide HA9).below hbm)
    have HYm := hide (show RowAt fileE wm yL L1 ∧ RowAt fileE wm yS S1 ∧ RowAt dopE wm yO O1 from ⟨(unhide HY9).1.below hbm, (unhide HY9).2.1.below hbm, (unhide HY9).2.2.below hbm⟩)
    have hzm := hbm.size
    clear hbm om HT9 HK9 DG9 DX9 DW9 HA9 HY9
    go_wp2_with fail
    refine (eqEntryS_calls _ _ _ _ nk ks wm (unhide HKN) (by omega) (unhide HKm) (unhide HOm)).mono ?_
    rintro e w9 ⟨rfl, hbn9⟩
    have HT9 := hide (belOn (unhide HTm) hbn9)
    have HK9 := hide ((unhide HKm).below hbn9)
    have DG9 := hide ((unhide DGm).below hbn9)
    have DX9 := hide ((unhide DXm).below hbn9)
    have DW9 := hide ((unhide DWm).below hbn9)
    have HA9 := hide ((unhide HAm).below hbn9)
    have HY9 := hide (show RowAt fileE w9 yL L1 ∧ RowAt fileE w9 yS S1 ∧ RowAt dopE w9 yO O1 from ⟨(unhide HYm).1.below hbn9, (unhide HYm).2.1.below hbn9, (unhide HYm).2.2.below hbn9⟩)
    have hz9 := hbn9.size
    clear hbn9 HTm HKm HOm DGm DXm DWm HAm HYm
    obtain ⟨-, p0, p1, p2⟩ := unhide DX9
    go_wp2_with fail
    clear p0 p1 p2
    refine (markDisk_calls _ nL nL live _ nS nS safe _ nO nO ops w9 (unhide HSM).ll (unhide HSM).ls (unhide HSM).lo (Nat.le_trans (unhide HSM).bl (by decide)) (Nat.le_trans (unhide HSM).bs (by decide)) (Nat.le_trans (unhide HSM).bo (by decide)) (unhide HA9).rl (unhide HA9).rs (unhide HA9).ro (unhide HAP) (fun g hg => by have := unhide HING g hg; omega)).mono ?_
    rintro e wa ⟨rfl, -, hoa⟩
    have HTa := hide ((unhide HT9).trans (hoa.below (B := w3.heap.size) (fun g hg => (unhide HING g hg).1) (unhide HT9).size))
    have HYa := hide (show RowAt fileE wa yL L1 ∧ RowAt fileE wa yS S1 ∧ RowAt dopE wa yO O1 from ⟨(unhide HY9).1.offP hoa (fun g h h2 => by have := (unhide HVY g (.inl h)).1; have := (unhide HING g h2).2; omega), (unhide HY9).2.1.offP hoa (fun g h h2 => by have := (unhide HVY g (.inr (.inl h))).1; have := (unhide HING g h2).2; omega), (unhide HY9).2.2.offP hoa (fun g h h2 => by have := (unhide HVY g (.inr (.inr h))).1; have := (unhide HING g h2).2; omega)⟩)
    have hza := hoa.size
    obtain ⟨M, hM⟩ : ∃ M, 1 + nL * 2 + nS * 2 + nO * 4 = M := ⟨_, rfl⟩
    rw [hM]
    have hM1b : 1 ≤ M := by omega
    have hMb : M ≤ 100000000 := by have := (unhide HSM).bl; have := (unhide HSM).bs; have := (unhide HSM).bo; omega
    have HKa := hide ((unhide HK9).offP hoa (fun g ⟨o, e⟩ h2 => by cases e; have := (unhide HING gx h2).2; omega))
    have DGa := hide ((unhide DG9).offP hoa (unhide HNX))
    have DWa := hide ((unhide DW9).offP hoa (unhide HWN))
    clear hoa hM HT9 HA9 HY9 DG9 DX9 DW9 DG7 DX7 DW7 HK9
    go_wp2_with fail
    refine (markEntryS_calls M _ _ nk ks wa hM1b hMb (unhide HKN) (by omega) (unhide HKa)).mono ?_
    rintro e wA ⟨rfl, -, hoA⟩
    have hpA : ∀ g, (fun g => g = gx) g → w3.heap.size ≤ g := fun g hg => by subst hg; omega
    have hoP := OnlyP.row (p := fun g => g = gx) hoA (fun g o e => by cases e; rfl)
    have HTA := hide ((unhide HTa).trans (hoP.below (B := w3.heap.size) hpA (unhide HTa).size))
    have HYA := hide (show RowAt fileE wA yL L1 ∧ RowAt fileE wA yS S1 ∧ RowAt dopE wA yO O1 from ⟨(unhide HYa).1.offP hoP (fun g h h2 => by have := (unhide HVY g (.inl h)).1; omega), (unhide HYa).2.1.offP hoP (fun g h h2 => by have := (unhide HVY g (.inr (.inl h))).1; omega), (unhide HYa).2.2.offP hoP (fun g h h2 => by have := (unhide HVY g (.inr (.inr h))).1; omega)⟩)
    have hzA := hoP.size
    have DGA := hide ((unhide DGa).offP hoP (by omega))
    have DWA := hide ((unhide DWa).offP hoP (by omega))
    obtain ⟨MM, hMM⟩ : ∃ x, M + nk * 3 = x := ⟨_, rfl⟩
    rw [hMM]
    have hMM0 : ¬ ((MM : Nat) : Int) < 0 := by omega
    obtain ⟨-, e0, e1, e2⟩ := unhide DGA
    obtain ⟨-, f0, f1, f2⟩ := unhide DWA
    clear hoA hoP hpA hMM HTa HYa DGa DWa HKa
    go_wp2_with fail
    clear e0 e1 e2 f0 f1 f2
    refine (eqDisk_calls yL yS yO xL xS xO m1 m2 m3 _ _ _ _ _ _ L1 S1 O1 _ (unhide HM1) (unhide HM2) (unhide HM3) b1 b2 b3 ⟨(unhide HYA).1, (unhide HYA).2.1, (unhide HYA).2.2⟩ ⟨(unhide HX).1.below (unhide HTA), (unhide HX).2.1.below (unhide HTA), (unhide HX).2.2.below (unhide HTA)⟩).mono ?_
    rintro e wb ⟨rfl, hbb⟩
    have HTb := hide (belOn (unhide HTA) hbb)
    have HYb := hide (show RowAt fileE wb yL L1 ∧ RowAt fileE wb yS S1 ∧ RowAt dopE wb yO O1 from ⟨(unhide HYA).1.below hbb, (unhide HYA).2.1.below hbb, (unhide HYA).2.2.below hbb⟩)
    have hzb := hbb.size
    have DGb := hide ((unhide DGA).below hbb)
    have DWb := hide ((unhide DWA).below hbb)
    obtain ⟨-, e0, e1, e2⟩ := unhide DGb
    clear hbb HTA HYA DGA DWA
    go_wp2_with fail
    clear e0 e1 e2
    refine (markDisk_calls yL m1 _ L1 yS m2 _ S1 yO m3 _ O1 wb (unhide HM1) (unhide HM2) (unhide HM3) b1 b2 b3 (unhide HYb).1 (unhide HYb).2.1 (unhide HYb).2.2 (unhide HAY) (fun g hg => by have := (unhide HVY g hg).2.2; omega)).mono ?_
    rintro e wz ⟨rfl, hMc, hoc⟩
    have hW53 : w3.heap.size ≤ W5.heap.size := by omega
    have HTc := hide ((unhide HTb).trans (hoc.below (B := w3.heap.size) (fun g hg => by have := (unhide HVY g hg).1; omega) (unhide HTb).size))
    have HKc := hide hMc
    have hzc := hoc.size
    have DGc := hide ((unhide DGb).offP hoc (fun h2 => (unhide HVY _ h2).2.1 rfl))
    have DWc := hide ((unhide DWb).offP hoc (fun h2 => by have := (unhide HVY _ h2).1; omega))
    obtain ⟨-, e0, e1, e2⟩ := unhide DGc
    clear hoc hMc HTb HYb DGb DWb
    obtain ⟨K, hK⟩ : ∃ K, 1 + m1 * 2 + m2 * 2 + m3 * 4 = K := ⟨_, rfl⟩
    rw [hK]
    have HK := hide hK
    clear hK
    go_wp2_with fail
    clear e0 e1 e2
    refine (heldDisk_calls yL m1 _ yS m2 _ yO m3 _ wz b1 b2 b3 (unhide HKc)).mono ?_
    rintro e wd ⟨rfl, hbd⟩
    rw [unhide HK]
    have HTd := hide (belOn (unhide HTc) hbd)
    have HKd := hide ((unhide HKc).below hbd)
    have DGd := hide ((unhide DGc).below hbd)
    have DWd := hide ((unhide DWc).below hbd)
    have HBd := hide (belOn (unhide HB3) (unhide HTd))
    clear hbd HTc HKc DGc DWc
    obtain ⟨q0, q1, q2⟩ := unhide HC _ (unhide HBd)
    go_wp2_with fail
    clear q0 q1 q2
    refine (unhide HTO _ (unhide HBd)).mono ?_
    rintro e wj ⟨g7, g8, g9, rfl, -, -, o1, o2, o3, hbj⟩
    have HBJ := hide hbj
    have HAJ := hide (dsk_at (unhide HSM) o1 o2 o3)
    clear hbj o1 o2 o3
    go_wp2_with fail
    refine (unhide HTK _ (belOn (unhide HBd) (unhide HBJ))).mono ?_
    rintro e wl ⟨gl, rfl, ol, hbl⟩
    have HBL := hide (belOn (unhide HBJ) hbl)
    have HAL := hide ((unhide HAJ).below hbl)
    have HKL := hide ol.at
    clear hbl ol
    go_wp2_with fail
    refine (unhide HIM wl _ _ _ _ (unhide HAL) (unhide HKL)).mono ?_
    rintro e sf ⟨uL, iL, uS, iS, uO, iO, rfl, o1, o2, o3, -, hbk⟩
    obtain ⟨wf, hwf⟩ : ∃ V, V = sf.alloc (.cells #[.slice uL m1 iL, .slice uS m2 iS, .slice uO m3 iO] 30) := ⟨_, rfl⟩
    have HBf := hide (show Below wd.heap.size wd wf from by rw [hwf]; exact belOn (belOn (unhide HBL) hbk) (bel1 _ _))
    have HU := hide (show RowAt fileE wf uL L1 ∧ RowAt fileE wf uS S1 ∧ RowAt dopE wf uO O1 from by rw [hwf]; exact ⟨o1.at.below (bel1 _ _), o2.at.below (bel1 _ _), o3.at.below (bel1 _ _)⟩)
    have HTf := hide (belOn (unhide HTd) (unhide HBf))
    have HKf := hide ((unhide HKd).below (unhide HBf))
    have DGf := hide ((unhide DGd).below (unhide HBf))
    have DWf := hide ((unhide DWd).below (unhide HBf))
    obtain ⟨-, f0, f1, f2⟩ := unhide DWf
    rw [hwf] at f0 f1 f2
    have HWf := hide hwf.symm
    clear o1 o2 o3 hbk hwf
    go_wp2_with fail
    rw [unhide HWf]
    clear f0 f1 f2
    refine (eqDisk_calls uL uS uO xL xS xO m1 m2 m3 _ _ _ _ _ _ L1 S1 O1 _ (unhide HM1) (unhide HM2) (unhide HM3) b1 b2 b3 ⟨(unhide HU).1, (unhide HU).2.1, (unhide HU).2.2⟩ ⟨(unhide HX).1.below (unhide HTf), (unhide HX).2.1.below (unhide HTf), (unhide HX).2.2.below (unhide HTf)⟩).mono ?_
    rintro e wg ⟨rfl, hbg⟩
    have HTg := hide (belOn (unhide HTf) hbg)
    have HKg := hide ((unhide HKf).below hbg)
    have DGg := hide ((unhide DGf).below hbg)
    obtain ⟨-, e0, e1, e2⟩ := unhide DGg
    clear hbg HTf HKf HU DGf DWf
    go_wp2_with fail
    clear e0 e1 e2
    refine (heldDisk_calls yL m1 _ yS m2 _ yO m3 _ wg b1 b2 b3 (unhide HKg)).mono ?_
    rintro e wh ⟨rfl, hbh⟩
    rw [unhide HK]
    have HTh := hide (belOn (unhide HTg) hbh)
    clear hbh HTg HKg
    go_wp2_with fail
    go_ret
    exact ⟨rfl, unhide HFIN _ (belOn (unhide HB3) (unhide HTh))⟩
end Go.Proofs.YtliklijcdcfomaaGreat.fnExactSaveEntries
