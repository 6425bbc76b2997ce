/- For every two configurations, Meet of the program answers what Meet of the specification answers, and writes into no argument; nothing that was there is changed. No condition. -/
import Derived.Test.YtmmibkbodcfkkaaRows
import Derived.Test.YtmmibkbodcfkkaaConR
import Derived.Test.YtmmibkbodcfkkaaConT
import Derived.Test.YtmmibkbodcfkkaaCuts
import Derived.WalkKit
import Derived.ProofKit
import Derived.OpenShut
import Derived.ShutString
import Derived.ChangeOld
import Derived.Below
import Derived.Lib.SmallJoins
namespace Go.Proofs.Ytmmibkbodcfkkaa.fnExactMeet
open Go.ChangeShapes Go.WideShapes Go.ChangeAt Go.RowKit Go.Joins
open Go.ChangeMaps (open_string shut_string)
open Plain
set_option linter.unusedVariables false

theorem own : ownKnob Try.prog.godebug = none := by kernel_rfl
theorem laidOut : laidOutB Try.prog = true := by kernel_rfl

set_option maxRecDepth 10000 in
set_option maxHeartbeats 8000000 in
theorem walk (av : Option Addr) (nv cv : Nat) (v : List Int) (al : Option Addr) (nl cl : Nat) (l : List Int) (au : Option Addr) (nu cu : Nat) (u : List Int) (ak : Option Addr) (nk ck : Nat) (k : List Int) (w : World) (hv : ArgRow 1 intL goodI w av nv cv v) (hl : ArgRow 1 intL goodI w al nl cl l) (hu : ArgRow 1 intL goodI w au nu cu u) (hk : ArgRow 1 intL goodI w ak nk ck k) :
    Calls Try.prog 5 #[.agg #[.slice av nv cv, .slice al nl cl], .agg #[.slice au nu cu, .slice ak nk ck]] w fun e w' => e = .returned (.bool true) ∧ Below w.heap.size w w' := by
  obtain ⟨W0, hW0⟩ : ∃ W0, W0 = (w.alloc (.cells #[.slice av nv cv, .slice al nl cl] 24)).alloc (.cells #[.slice au nu cu, .slice ak nk ck] 24) := ⟨_, rfl⟩
  have hb0 : Below w.heap.size w W0 := by rw [hW0]; exact belOn (bel1 _ _) (bel1 _ _)
  have hlt1 : w.heap.size + 1 < W0.heap.size := by rw [hW0]; simp
  have hlt : w.heap.size < W0.heap.size := by omega
  have c0 : W0.cell? ⟨w.heap.size, 0, none⟩ = some (.slice av nv cv) := by rw [hW0]; simp [go_sem]
  have c2 : W0.cell? ⟨w.heap.size, 1, none⟩ = some (.slice al nl cl) := by rw [hW0]; simp [go_sem]
  have c3 : W0.cell? ⟨w.heap.size + 1, 0, none⟩ = some (.slice au nu cu) := by rw [hW0, show w.heap.size + 1 = (w.alloc (.cells #[.slice av nv cv, .slice al nl cl] 24)).heap.size from by simp]; simp [go_sem]
  have c4 : W0.cell? ⟨w.heap.size + 1, 1, none⟩ = some (.slice ak nk ck) := by rw [hW0, show w.heap.size + 1 = (w.alloc (.cells #[.slice av nv cv, .slice al nl cl] 24)).heap.size from by simp]; simp [go_sem]
  have HD := hide (fun (W : World) (hW : Below W0.heap.size W0 W) => (show ConfArg w av nv cv v al nl cl l from ⟨hv, hl⟩).below (belOn hb0 hW))
  have HD2 := hide (fun (W : World) (hW : Below W0.heap.size W0 W) => (show ConfArg w au nu cu u ak nk ck k from ⟨hu, hk⟩).below (belOn hb0 hW))
  have HC := hide (fun (W : World) (hW : Below W0.heap.size W0 W) => And.intro (And.intro (bcl hW hlt c0) (bcl hW hlt c2)) (And.intro (bcl hW hlt1 c3) (bcl hW hlt1 c4)))
  have HFIN := hide (fun (W : World) (hW : Below W0.heap.size W0 W) => belOn hb0 hW)
  have HW0 := hide hW0.symm
  have lv := hv.le
  have ll := hl.le
  have lu := hu.le
  have lk := hk.le
  unfold maxLen at lv ll lu lk
  have HSZ := hide (szConf_calls av nv cv al nl cl 1048576 W0 (by omega) (by omega) (by decide))
  by_cases hbig : 1048576 < nv + nl
  · rw [purse_no (show ((1048576 : Nat) : Int) < ((nv + nl : Nat) : Int) by omega)] at HSZ
    clear hv hl hu hk hb0 hlt hlt1 hW0 lv ll lu lk
    go_enter Try.func5, Try.ntmps5
    go_wp2_with fail
    rw [unhide HW0]
    refine (unhide HSZ).mono ?_
    rintro e w1 ⟨rfl, hb1⟩
    have HB1 := hide (unhide HFIN _ hb1)
    clear hb1
    go_wp2_with fail
    go_ret
    exact ⟨rfl, unhide HB1⟩
  obtain ⟨r, hr⟩ : ∃ r : Nat, ((1048576 : Nat) : Int) - ((nv + nl : Nat) : Int) = (r : Int) := ⟨1048576 - (nv + nl), by omega⟩
  rw [purse_yes (show ¬ ((1048576 : Nat) : Int) < ((nv + nl : Nat) : Int) by omega), hr] at HSZ
  have HSY := hide (fun (W : World) => szConf_calls au nu cu ak nk ck r W (by omega) (by omega) (by omega))
  by_cases hbig2 : r < nu + nk
  · rw [purse_no (show (r : Int) < ((nu + nk : Nat) : Int) by omega)] at HSY
    clear hv hl hu hk hb0 hlt hlt1 hW0 lv ll lu lk
    go_enter Try.func5, Try.ntmps5
    go_wp2_with fail
    rw [unhide HW0]
    refine (unhide HSZ).mono ?_
    rintro e w1 ⟨rfl, hb1⟩
    have HB1 := hide hb1
    obtain ⟨-, q0, q2⟩ := unhide HC _ hb1
    clear hb1 c0 c2 c3 c4
    go_wp2_with fail
    refine (unhide HSY _).mono ?_
    rintro e w2 ⟨rfl, hb2⟩
    have HB2 := hide (unhide HFIN _ (belOn (unhide HB1) hb2))
    clear hb2
    go_wp2_with fail
    go_ret
    exact ⟨rfl, unhide HB2⟩
  obtain ⟨r2, hr2⟩ : ∃ r2 : Nat, (r : Int) - ((nu + nk : Nat) : Int) = (r2 : Int) := ⟨r - (nu + nk), by omega⟩
  rw [purse_yes (show ¬ (r : Int) < ((nu + nk : Nat) : Int) by omega), hr2] at HSY
  have bv : nv ≤ 1048576 := by omega
  have bl : nl ≤ 1048576 := by omega
  have bu : nu ≤ 1048576 := by omega
  have bk : nk ≤ 1048576 := by omega
  have HLV := hide hv.len
  have HLL := hide hl.len
  have HLU := hide hu.len
  have HLK := hide hk.len
  have HTO := hide (fun (W : World) (hW : Below W0.heap.size W0 W) => toConf_calls av nv cv v al nl cl l W (unhide HD _ hW) bv bl)
  have HTU := hide (fun (W : World) (hW : Below W0.heap.size W0 W) => toConf_calls au nu cu u ak nk ck k W (unhide HD2 _ hW) bu bk)
  have HCO := hide (fun (W : World) (B C g1 g2 : Nat) (h1 : OwnR i64E W B (.slice (some ⟨g1, 0, none⟩) nv nv) v) (h2 : OwnR i64E W C (.slice (some ⟨g2, 0, none⟩) nl nl) l) => (show ConfAt W (some ⟨g1, 0, none⟩) nv v (some ⟨g2, 0, none⟩) nl l from ⟨⟨h1.at, unhide HLV, bv⟩, ⟨h2.at, unhide HLL, bl⟩⟩))
  have HCU := hide (fun (W : World) (B C g1 g2 : Nat) (h1 : OwnR i64E W B (.slice (some ⟨g1, 0, none⟩) nu nu) u) (h2 : OwnR i64E W C (.slice (some ⟨g2, 0, none⟩) nk nk) k) => (show ConfAt W (some ⟨g1, 0, none⟩) nu u (some ⟨g2, 0, none⟩) nk k from ⟨⟨h1.at, unhide HLU, bu⟩, ⟨h2.at, unhide HLK, bk⟩⟩))
  have HSP := hide (fun (W : World) (a b c d : Option Addr) (h : ConfAt W a nv v b nl l) (h2 : ConfAt W c nu u d nk k) => spec_Meet a nv nv v b nl nl l c nu nu u d nk nk k W h h2)
  have HIM := hide (fun (W : World) (a b c d : Option Addr) (h : ConfAt W a nv v b nl l) (h2 : ConfAt W c nu u d nk k) => impl_Meet a nv nv v b nl nl l c nu nu u d nk nk k W h h2)
  generalize meetB v l u k = R at HSP HIM
  clear hv hl hu hk hb0 hlt hlt1 hW0 hbig hbig2 hr hr2 lv ll lu lk
  go_enter Try.func5, Try.ntmps5
  go_wp2_with fail
  rw [unhide HW0]
  refine (unhide HSZ).mono ?_
  rintro e w0 ⟨rfl, hb1⟩
  have HB0 := hide hb1
  obtain ⟨-, q0, q2⟩ := unhide HC _ hb1
  clear hb1 c0 c2 c3 c4
  go_wp2_with fail
  refine (unhide HSY _).mono ?_
  rintro e w1 ⟨rfl, hb1⟩
  have HB1 := hide (belOn (unhide HB0) hb1)
  clear hb1 q0 q2
  go_wp2_with fail
  go_cut [6] (fun s6 wx => s6 = .bool R ∧ Hid (Below W0.heap.size W0 wx))
  case first =>
    obtain ⟨⟨q0, q1⟩, q2, q3⟩ := unhide HC _ (unhide HB1)
    have l0 : w.heap.size < w1.heap.size := lt_of_cell q0
    have l1 : w.heap.size + 1 < w1.heap.size := lt_of_cell q2
    have HT2 := hide (unhide HTO w1.drew (belDrew (unhide HB1)))
    go_region_with (first
      | (go_at_call_of 9 av; refine (unhide HT2).mono ?_; rintro e w2 ⟨g1, g2, rfl, -, o1, o2, hb2⟩; have HB2 := hide (belOn (unhide HB1) (bOfDrew hb2)); have HA2 := hide (unhide HCO _ _ _ _ _ o1 o2); have s2 := bcl (bOfDrew hb2) l1 q2; have s3 := bcl (bOfDrew hb2) l1 q3; clear hb2 o1 o2)
      | (go_at_call 9; refine (unhide HTU _ (unhide HB2)).mono ?_; rintro e w3 ⟨g3, g4, rfl, -, o1, o2, hb3⟩; have HB3 := hide (belOn (unhide HB2) hb3); have HA3 := hide ((unhide HA2).below hb3); have HU3 := hide (unhide HCU _ _ _ _ _ o1 o2); clear hb3 o1 o2)
      | (go_at_call 16; refine (unhide HSP _ _ _ _ _ (unhide HA3) (unhide HU3)).mono ?_; rintro e w4 ⟨rfl, hb4⟩; have HB4 := hide (belOn (unhide HB3) hb4); clear hb4))
    all_goals (try go_wp2_with fail)
    all_goals go_meet
    all_goals exact ⟨rfl, HB4⟩
  case rest =>
  obtain ⟨w4, rfl⟩ : ∃ w4, w4 = wc := ⟨_, rfl⟩
  obtain ⟨rfl, HB4⟩ := hcut
  obtain ⟨⟨q0, q1⟩, q2, q3⟩ := unhide HC _ (unhide HB4)
  go_wp2_with fail
  refine (unhide HTO _ (unhide HB4)).mono ?_
  rintro e w5 ⟨g4, g5, rfl, -, o1, o2, hb5⟩
  obtain ⟨W6, hW6⟩ : ∃ W6, W6 = w5.alloc (.cells #[.slice (some ⟨g4, 0, none⟩) nv nv, .slice (some ⟨g5, 0, none⟩) nl nl] 27) := ⟨_, rfl⟩
  have hb6 : Below w5.heap.size w5 W6 := by rw [hW6]; exact bel1 _ _
  have HB6 := hide (belOn (belOn (unhide HB4) hb5) hb6)
  have hlt6 : w5.heap.size < W6.heap.size := by rw [hW6]; simp
  have d0 : W6.cell? ⟨w5.heap.size, 0, none⟩ = some (.slice (some ⟨g4, 0, none⟩) nv nv) := by rw [hW6]; simp [go_sem]
  have d2 : W6.cell? ⟨w5.heap.size, 1, none⟩ = some (.slice (some ⟨g5, 0, none⟩) nl nl) := by rw [hW6]; simp [go_sem]
  have HA6 := hide ((unhide HCO _ _ _ _ _ o1 o2).below hb6)
  have HE := hide (fun (W : World) (hW : Below W6.heap.size W6 W) => And.intro (bcl hW hlt6 d0) (bcl hW hlt6 d2))
  obtain ⟨-, t2, t3⟩ := unhide HC _ (unhide HB6)
  rw [hW6] at t2 t3
  have HW6 := hide hW6.symm
  clear hb5 hb6 o1 o2 q0 q1 q2 q3 d0 d2 hW6 hlt6
  go_wp2_with fail
  rw [unhide HW6]
  refine (unhide HTU _ (unhide HB6)).mono ?_
  rintro e w7 ⟨g6, g7, rfl, -, o1, o2, hb7⟩
  have HA7 := hide ((unhide HA6).below hb7)
  obtain ⟨W8, hW8⟩ : ∃ W8, W8 = w7.alloc (.cells #[.slice (some ⟨g6, 0, none⟩) nu nu, .slice (some ⟨g7, 0, none⟩) nk nk] 27) := ⟨_, rfl⟩
  have hb8 : Below w7.heap.size w7 W8 := by rw [hW8]; exact bel1 _ _
  have HB8 := hide (belOn (belOn (unhide HB6) hb7) hb8)
  have hlt8 : w7.heap.size < W8.heap.size := by rw [hW8]; simp
  have d0 : W8.cell? ⟨w7.heap.size, 0, none⟩ = some (.slice (some ⟨g6, 0, none⟩) nu nu) := by rw [hW8]; simp [go_sem]
  have d2 : W8.cell? ⟨w7.heap.size, 1, none⟩ = some (.slice (some ⟨g7, 0, none⟩) nk nk) := by rw [hW8]; simp [go_sem]
  have HA8 := hide ((unhide HA7).below hb8)
  have HU8 := hide ((unhide HCU _ _ _ _ _ o1 o2).below hb8)
  have HE8 := hide (fun (W : World) (hW : Below W8.heap.size W8 W) => And.intro (unhide HE W (belOn (belOn hb7 hb8) hW)) (And.intro (bcl hW hlt8 d0) (bcl hW hlt8 d2)))
  obtain ⟨e0, e2⟩ := unhide HE _ (belOn hb7 hb8)
  rw [hW8] at e0 e2
  have HW8 := hide hW8.symm
  clear hb7 hb8 o1 o2 d0 d2 hW8 hlt8 t2 t3 HA7 HA6 HE
  go_wp2_with fail
  rw [unhide HW8]
  clear e0 e2
  refine (unhide HIM W8 _ _ _ _ (unhide HA8) (unhide HU8)).mono ?_
  rintro e w9 ⟨rfl, hb9⟩
  have HB9 := hide (belOn (unhide HB8) hb9)
  have HA9 := hide ((unhide HA8).below hb9)
  have HU9 := hide ((unhide HU8).below hb9)
  have HE9 := hide (fun (W : World) (hW : Below w9.heap.size w9 W) => unhide HE8 W (belOn hb9 hW))
  clear hb9 HE8 HA8 HU8
  go_wp2_with fail
  go_cut [39] (fun s39 wx => s39 = .bool false ∧ Hid (Below w9.heap.size w9 wx))
  case first =>
    obtain ⟨⟨p0, p2⟩, -⟩ := unhide HE9 _ (Below.refl _ _)
    obtain ⟨⟨q0, q2⟩, -⟩ := unhide HC _ (unhide HB9)
    have l1 : w.heap.size < w9.heap.size := lt_of_cell q0
    have l2 : w5.heap.size < w9.heap.size := lt_of_cell p0
    have HT9 := hide (unhide HTO w9.drew (belDrew (unhide HB9)))
    go_region_with (first
      | (go_at_call 9; refine (unhide HT9).mono ?_; rintro e wa ⟨g8, g9, rfl, -, o1, o2, hba⟩; have s0 := bcl (bOfDrew hba) l1 q0; have s2 := bcl (bOfDrew hba) l1 q2; have t0 := bcl (bOfDrew hba) l2 p0; have t2 := bcl (bOfDrew hba) l2 p2)
      | (go_at_call 11; refine (eqConf_calls _ _ _ _ nv nl _ _ _ _ v l _ ((unhide HA9).below (bOfDrew hba)) (unhide HCO _ _ _ _ _ o1 o2)).mono ?_; rintro e wb ⟨rfl, hbb⟩))
    all_goals (try go_wp2_with fail)
    all_goals go_meet
    all_goals exact ⟨rfl, hide (belOn (bOfDrew hba) hbb)⟩
  case rest =>
  obtain ⟨wb, rfl⟩ : ∃ wb, wb = wc := ⟨_, rfl⟩
  obtain ⟨rfl, HDb⟩ := hcut
  have HBb := hide (belOn (unhide HB9) (unhide HDb))
  have HUb := hide ((unhide HU9).below (unhide HDb))
  obtain ⟨-, p0, p2⟩ := unhide HE9 _ (unhide HDb)
  obtain ⟨-, q0, q2⟩ := unhide HC _ (unhide HBb)
  have l1 : w.heap.size + 1 < wb.heap.size := lt_of_cell q0
  have l2 : w7.heap.size < wb.heap.size := lt_of_cell p0
  have HTb := hide (unhide HTU wb.drew (belDrew (unhide HBb)))
  go_wp2_with fail
  go_region_with (first
    | (go_at_call 9; refine (unhide HTb).mono ?_; rintro e wd ⟨g8, g9, rfl, -, o1, o2, hbd⟩; have s0 := bcl (bOfDrew hbd) l1 q0; have s2 := bcl (bOfDrew hbd) l1 q2; have t0 := bcl (bOfDrew hbd) l2 p0; have t2 := bcl (bOfDrew hbd) l2 p2)
    | (go_at_call 11; refine (eqConf_calls _ _ _ _ nu nk _ _ _ _ u k _ ((unhide HUb).below (bOfDrew hbd)) (unhide HCU _ _ _ _ _ o1 o2)).mono ?_; rintro e we ⟨rfl, hbe⟩))
  all_goals (try go_wp2_with fail)
  all_goals (try go_ret)
  all_goals exact ⟨rfl, unhide HFIN _ (belOn (belOn (unhide HBb) (bOfDrew hbd)) hbe)⟩

set_option maxRecDepth 100000 in
theorem lifted (os : Os) (started : os.Started) (H : Type) (enc : TypeId × Value → H) :
    ReturnsInHanded {} Try.checked os 5 .any (Rows.fnExactMeetSpec.pre6 enc Try.prog Try.f5 Rows.fnExactMeetRow.domain false) (Rows.fnExactMeetSpec.post enc Try.prog Try.f5 false true false false) := by
  refine returnsInHanded_of_change (C := Try.checked) own started (by kernel_rfl) Try.func5
    (ChangeSpec.witness6 (enc := enc) (C := Try.checked) false ⟨#[], #[.agg #[.slice none 0 0, .slice none 0 0], .agg #[.slice none 0 0, .slice none 0 0]], []⟩ 8 (by kernel_rfl) (by kernel_rfl) (by kernel_rfl) (by kernel_rfl)) ?_
  intro W base args ds gs before hval0 hW hcnd _
  have hval : ∀ (j : Nat) t v, Try.f5.params[j]? = some t → args[j]? = some v → Value.okWide Try.prog W .any base t v := hval0
  have hW' := hW
  obtain ⟨p, q, hA0, hV, rfl, hfz, hnd⟩ := hW
  have hA : DataW.TrodAll enc Try.prog W 0 (fun _ => true) true Try.f5.params.toList args.toList ds p := hA0
  rw [Try.params5] at hA hval
  obtain ⟨v0, vs0, d0, ds0, p0, q0, hargs, rfl, rfl, h0, r0⟩ := trodAll_cons hA
  obtain ⟨v1, vs1, d1, ds1, p1, q1, rfl, rfl, rfl, h1, r1⟩ := trodAll_cons r0
  obtain ⟨rfl, rfl, rfl⟩ := trodAll_nil r1
  obtain rfl : args = #[v0, v1] := by cases args; simp_all
  obtain ⟨rfl, rfl⟩ := trodVars_none hV
  have k0 := h0
  have lt0 : ∀ x ∈ p0, x.block < W.heap.size := by obtain ⟨m, hm⟩ := k0; exact DataW.trod_lt m _ _ _ hm
  obtain ⟨c0x0, c0x1, y0x0, y0x1, mm0, rfl, e0, f0, hy0x0, hy0x1⟩ := open_agg2 Try.underlying24 (by kernel_rfl) (by kernel_rfl) (hval 0 24 v0 rfl rfl) h0
  obtain ⟨a0x0, n0x0, l0x0, z0x0, g0x0, w0x0⟩ := openArg 1 intL goodI Try.underlying22 (by kernel_rfl) (by decide) rdInt hy0x0
  obtain ⟨a0x1, n0x1, l0x1, z0x1, g0x1, w0x1⟩ := openArg 1 intL goodI Try.underlying22 (by kernel_rfl) (by decide) rdInt hy0x1
  subst g0x0 g0x1
  have k1 := h1
  have lt1 : ∀ x ∈ p1, x.block < W.heap.size := by obtain ⟨m, hm⟩ := k1; exact DataW.trod_lt m _ _ _ hm
  obtain ⟨c1x0, c1x1, y1x0, y1x1, mm1, rfl, e1, f1, hy1x0, hy1x1⟩ := open_agg2 Try.underlying24 (by kernel_rfl) (by kernel_rfl) (hval 1 24 v1 rfl rfl) h1
  obtain ⟨a1x0, n1x0, l1x0, z1x0, g1x0, w1x0⟩ := openArg 1 intL goodI Try.underlying22 (by kernel_rfl) (by decide) rdInt hy1x0
  obtain ⟨a1x1, n1x1, l1x1, z1x1, g1x1, w1x1⟩ := openArg 1 intL goodI Try.underlying22 (by kernel_rfl) (by decide) rdInt hy1x1
  subst g1x0 g1x1
  clear hA0 hval0
  refine (walk a0x0 n0x0 l0x0 z0x0 a0x1 n0x1 l0x1 z0x1 a1x0 n1x0 l1x0 z1x0 a1x1 n1x1 l1x1 z1x1 W w0x0 w0x1 w1x0 w1x1).mono fun e W' ⟨he, bel⟩ => ?_
  subst he
  exact ⟨_, rfl, _, _, _, [], _, [], hW', trodAll_mk1 (shut_bool Try.underlying4 _), (trodAll_cons_mk (Below.trod laidOut (by kernel_rfl) (of_decide_eq_true (by kernel_rfl)) k0 bel lt0) (trodAll_cons_mk (Below.trod laidOut (by kernel_rfl) (of_decide_eq_true (by kernel_rfl)) k1 bel lt1) trodAll_mk0)), rfl, bel.frame _, fun h => by cases h⟩

theorem named : Try.pinned.checked.prog.funcNamed Rows.fnExactMeetRow.func = some 5 := by kernel_rfl
theorem closed : joinedFacts Try.pinned.checked.prog 5 Try.f5 Rows.fnExactMeetSpec Rows.fnExactMeetRow = true := by kernel_rfl
theorem over : Rows.fnExactMeetRow.holds Try.pinned (OpenSpec.ofChange Rows.fnExactMeetSpec) :=
  OpenClaim.holds_of_wide 5 Try.f5 rfl rfl rfl rfl rfl rfl rfl ⟨rfl, rfl, rfl, rfl, rfl⟩ rfl rfl rfl rfl rfl named Try.func5 closed
    (of_decide_eq_true (by kernel_rfl)) (by unfold Func.isWrapper; first | (rw [if_pos (by decide +kernel)]; kernel_rfl) | (rw [if_neg (by decide +kernel)]; exact ⟨rfl, rfl⟩))
    (fun os started H enc _ => lifted os started H enc)

end Go.Proofs.Ytmmibkbodcfkkaa.fnExactMeet
namespace Go.Proofs.Ytmmibkbodcfkkaa
theorem fnExactMeet_holds : Rows.FnExactMeetSaid := fnExactMeet.over
#print axioms fnExactMeet_holds
end Go.Proofs.Ytmmibkbodcfkkaa
