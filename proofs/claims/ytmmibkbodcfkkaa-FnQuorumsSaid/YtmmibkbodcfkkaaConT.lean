/- Members by the specification: quorums, and whether two sets of quorums meet. -/
import Derived.Test.YtmmibkbodcfkkaaConS
namespace Go.Proofs.Ytmmibkbodcfkkaa
open Go.RowKit Plain
set_option linter.unusedVariables false

namespace Plain
theorem among_take (v ids : List Int) (k : Nat) (h : k < v.length) : among (v.take (k + 1)) ids = among (v.take k) ids + (decide (v[k] ∈ ids)).toNat := by
  unfold among
  rw [List.take_succ_eq_append_getElem h, List.filter_append, List.length_append]
  cases hd : decide (v[k] ∈ ids) <;> simp [hd] <;> simpa using hd
theorem among_zero (ids : List Int) : among [] ids = 0 := rfl
end Plain

set_option maxRecDepth 10000 in
set_option maxHeartbeats 4000000 in
theorem spec_Quorum (av : Option Addr) (nv cv : Nat) (v : List Int) (al : Option Addr) (nl cl : Nat) (l : List Int) (ai : Option Addr) (ni ci : Nat) (ids : List Int) (w : World) (h : ConfAt w av nv v al nl l) (hi : IntsAt w ai ni ids) :
    Calls Try.prog 12 #[.agg #[.slice av nv cv, .slice al nl cl], .slice ai ni ci] w fun e w' => e = .returned (.bool (quoB v l ids)) ∧ Below w.heap.size w w' := by
  obtain ⟨W0, hW0⟩ : ∃ W0, W0 = w.alloc (.cells #[.slice av nv cv, .slice al nl cl] 27) := ⟨_, rfl⟩
  have hb0 : Below w.heap.size w W0 := by rw [hW0]; exact bel1 _ _
  have hlt : w.heap.size < W0.heap.size := by rw [hW0]; simp
  have c0 : W0.cell? ⟨w.heap.size, 0, none⟩ = some (.slice av nv cv) := by rw [hW0]; simp [go_sem]
  have c1 : W0.cell? ⟨w.heap.size, 1, none⟩ = some (.slice al nl cl) := by rw [hW0]; simp [go_sem]
  have HC := hide (fun (W : World) (hW : Below W0.heap.size W0 W) => bcl hW hlt c0)
  have HD := hide (fun (W : World) (hW : Below W0.heap.size W0 W) => (h.below (belOn hb0 hW)).v)
  have HI := hide (fun (W : World) (hW : Below W0.heap.size W0 W) (x : Int) => l1Ints_calls ai ni ci ids x W (hi.below (belOn hb0 hW)))
  have HFIN := hide (fun (W : World) (hW : Below W0.heap.size W0 W) => belOn hb0 hW)
  have HOK := hide (spec_ConfOk av nv cv v al nl cl l W0 (h.below hb0))
  have hvn := h.v.len
  have hbv := h.v.bn
  have HW0 := hide hW0.symm
  clear hb0 hW0 hlt h hi
  cases hc : confB v l with
  | false =>
    have HX := hide (show quoB v l ids = false from by unfold quoB; rw [hc]; rfl)
    rw [hc] at HOK
    clear hc hvn
    go_enter Try.func12, Try.ntmps12
    go_wp2_with fail
    rw [unhide HW0]
    refine (unhide HOK).mono ?_
    rintro e w1 ⟨rfl, hb1⟩
    have HB1 := hide (unhide HFIN _ hb1)
    clear hb1
    go_wp2_with fail
    go_ret
    exact ⟨by rw [unhide HX]; rfl, unhide HB1⟩
  | true =>
    obtain ⟨-, -, h7⟩ := confB_v hc
    rw [hvn] at h7
    have HX := hide (show quoB v l ids = decide (nv < 2 * among v ids) from by unfold quoB; rw [hc, hvn]; rfl)
    rw [hc] at HOK
    have HVN := hide hvn
    clear hc hvn
    go_enter Try.func12, Try.ntmps12
    go_wp2_with fail
    rw [unhide HW0]
    refine (unhide HOK).mono ?_
    rintro e w1 ⟨rfl, hb1⟩
    have HB1 := hide hb1
    clear hb1 c0 c1
    go_wp2_with fail
    go_loopw [5, 6] (fun m i wr => ∃ k s : Nat, m = .int .i64 s ∧ i = .int .i64 k ∧ k ≤ nv ∧ s ≤ k ∧ Hid (s = among (v.take k) ids) ∧ Hid (Below W0.heap.size W0 wr)) (fun _ i _ => nv - (intOf i).toNat)
    case atStart => exact ⟨0, 0, rfl, rfl, by omega, by omega, hide rfl, HB1⟩
    case round =>
      clear HB1
      obtain ⟨k, s, rfl, rfl, hk, hs, HO, HB⟩ := hrel
      have q0 := unhide HC _ (unhide HB)
      by_cases hkn : k < nv
      · have hkl : k < v.length := by rw [unhide HVN]; exact hkn
        obtain ⟨g, e1, l1, p0, -⟩ := (unhide HD _ (unhide HB)).row.ix k hkl
        have hst := among_take v ids k hkl
        rw [← unhide HO] at hst
        generalize v[k] = x at p0 hst
        have HI2 := hide (unhide HI _ (unhide HB) x)
        subst e1
        have i0 : (0 : Int) ≤ (k : Int) := by omega
        have i1 : (k : Int) < (nv : Int) := by omega
        clear HO
        cases hx : decide (x ∈ ids) with
        | true =>
          rw [hx] at HI2 hst
          have HST := hide (show s + 1 = among (v.take (k + 1)) ids from hst.symm)
          clear hst hx
          go_wp2_with fail
          refine (unhide HI2).mono ?_
          rintro e w2 ⟨rfl, rfl⟩
          go_wp2_with fail
          go_roundw
          case rel => exact ⟨k + 1, s + 1, by go_num, by go_num, by omega, by omega, HST, HB⟩
          case measure => simp [intOf]; omega
        | false =>
          rw [hx] at HI2 hst
          have HST := hide (show s = among (v.take (k + 1)) ids from hst.symm)
          clear hst hx
          go_wp2_with fail
          refine (unhide HI2).mono ?_
          rintro e w2 ⟨rfl, rfl⟩
          go_wp2_with fail
          go_roundw
          case rel => exact ⟨k + 1, s, rfl, by go_num, by omega, by omega, HST, HB⟩
          case measure => simp [intOf]; omega
      · obtain rfl : k = nv := by omega
        have hO := unhide HO
        rw [List.take_of_length_le (by rw [unhide HVN]; exact Nat.le_refl _)] at hO
        have HF := hide ((unhide HX).trans (by rw [← hO]))
        have hm1 : IntKind.i64.wrap (2 * (s : Int)) = ((2 * s : Nat) : Int) := by rw [IntKind.wrap_i64]; omega
        have hm2 : wrap64 (2 * (s : Int)) = ((2 * s : Nat) : Int) := by unfold wrap64; omega
        obtain ⟨T, hT⟩ : ∃ T, 2 * s = T := ⟨_, rfl⟩
        rw [hT] at hm1 hm2 HF
        have hd := dec_lt k T
        clear hO HO hT
        go_wp2_with fail
        go_ret
        exact ⟨by rw [unhide HF]; simp, unhide HFIN _ (unhide HB)⟩

namespace Plain
/-- The specification's way to tell whether quorums meet. -/
theorem meet_way (na nb s : Nat) (ha : 1 ≤ na) (hb : 1 ≤ nb) (hs : s ≤ na) (X Y : Int) (hX : X = max 0 (((na / 2 + 1 : Nat) : Int) - ((na : Int) - (s : Int)))) (hY : Y = max 0 (((nb / 2 + 1 : Nat) : Int) - ((nb : Int) - (s : Int)))) :
    decide ((s : Int) < X + Y) = decide (na + nb - s < (na / 2 + 1) + (nb / 2 + 1)) := decide_eq_decide.2 (by omega)
theorem half_go (n : Nat) (h : n ≤ 1000) : IntKind.i64.wrap ((n : Int).tdiv 2 + 1) = ((n / 2 + 1 : Nat) : Int) := by rw [IntKind.wrap_i64, Int.tdiv_eq_ediv_of_nonneg (by omega)]; omega
theorem half_go2 (n : Nat) (h : n ≤ 1000) : IntKind.i64.wrap ((n : Int) / 2 + 1) = ((n / 2 + 1 : Nat) : Int) := by rw [IntKind.wrap_i64]; omega
theorem sub_go (a b : Int) (ha : -1000 ≤ a) (ha2 : a ≤ 1000) (hb : -1000 ≤ b) (hb2 : b ≤ 1000) : IntKind.i64.wrap (a - b) = a - b := by rw [IntKind.wrap_i64]; omega
theorem add_go (a b : Int) (ha : -1000 ≤ a) (ha2 : a ≤ 1000) (hb : -1000 ≤ b) (hb2 : b ≤ 1000) : IntKind.i64.wrap (a + b) = a + b := by rw [IntKind.wrap_i64]; omega
end Plain

set_option maxRecDepth 10000 in
set_option maxHeartbeats 4000000 in
theorem spec_Meet (av : Option Addr) (nv cv : Nat) (v : List Int) (al : Option Addr) (nl cl : Nat) (l : List Int) (au : Option Addr) (nu cu : Nat) (u : List Int) (ak : Option Addr) (nk ck : Nat) (kk : List Int) (w : World) (h : ConfAt w av nv v al nl l) (hi : ConfAt w au nu u ak nk kk) :
    Calls Try.prog 16 #[.agg #[.slice av nv cv, .slice al nl cl], .agg #[.slice au nu cu, .slice ak nk ck]] w fun e w' => e = .returned (.bool (meetB v l u kk)) ∧ Below w.heap.size w w' := by
  obtain ⟨W0, hW0⟩ : ∃ W0, W0 = (w.alloc (.cells #[.slice av nv cv, .slice al nl cl] 27)).alloc (.cells #[.slice au nu cu, .slice ak nk ck] 27) := ⟨_, rfl⟩
  have hb0 : Below w.heap.size w W0 := by rw [hW0]; exact belOn (bel1 _ _) (bel1 _ _)
  have hs0 : w.heap.size + 1 < W0.heap.size := by rw [hW0]; simp
  have c0 : W0.cell? ⟨w.heap.size, 0, none⟩ = some (.slice av nv cv) := by rw [hW0]; simp [go_sem]
  have c1 : W0.cell? ⟨w.heap.size, 1, none⟩ = some (.slice al nl cl) := by rw [hW0]; simp [go_sem]
  have d0 : W0.cell? ⟨w.heap.size + 1, 0, none⟩ = some (.slice au nu cu) := by rw [hW0, show w.heap.size + 1 = (w.alloc (.cells #[.slice av nv cv, .slice al nl cl] 27)).heap.size from by simp]; simp [go_sem]
  have d1 : W0.cell? ⟨w.heap.size + 1, 1, none⟩ = some (.slice ak nk ck) := by rw [hW0, show w.heap.size + 1 = (w.alloc (.cells #[.slice av nv cv, .slice al nl cl] 27)).heap.size from by simp]; simp [go_sem]
  have HC := hide (fun (W : World) (hW : Below W0.heap.size W0 W) => And.intro (bcl hW (show w.heap.size < W0.heap.size by omega) c0) (And.intro (bcl hW hs0 d0) (bcl hW hs0 d1)))
  have HD := hide (fun (W : World) (hW : Below W0.heap.size W0 W) => And.intro (h.below (belOn hb0 hW)).v (hi.below (belOn hb0 hW)).v)
  have HFIN := hide (fun (W : World) (hW : Below W0.heap.size W0 W) => belOn hb0 hW)
  have HOK := hide (spec_ConfOk av nv cv v al nl cl l W0 (h.below hb0))
  have HOK2 := hide (fun (W : World) (hW : Below W0.heap.size W0 W) => spec_ConfOk au nu cu u ak nk ck kk W (hi.below (belOn hb0 hW)))
  have hvn := h.v.len
  have hun := hi.v.len
  have hbv := h.v.bn
  have hbu := hi.v.bn
  have HW0 := hide hW0.symm
  clear hb0 hW0 h hi hs0
  cases hc : confB v l with
  | false =>
    have HX := hide (show meetB v l u kk = false from by unfold meetB; rw [hc]; rfl)
    rw [hc] at HOK
    clear hc hvn hun d0 d1
    go_enter Try.func16, Try.ntmps16
    go_wp2_with fail
    rw [unhide HW0]
    refine (unhide HOK).mono ?_
    rintro e w1 ⟨rfl, hb1⟩
    have HB1 := hide (unhide HFIN _ hb1)
    clear hb1
    go_wp2_with fail
    go_ret
    exact ⟨by rw [unhide HX]; rfl, unhide HB1⟩
  | true =>
   rw [hc] at HOK
   cases hd : confB u kk with
   | false =>
    have HX := hide (show meetB v l u kk = false from by unfold meetB; rw [hc, hd]; rfl)
    rw [hd] at HOK2
    clear hc hvn hun hd d0 d1
    go_enter Try.func16, Try.ntmps16
    go_wp2_with fail
    rw [unhide HW0]
    refine (unhide HOK).mono ?_
    rintro e w1 ⟨rfl, hb1⟩
    obtain ⟨q0, q1, q2⟩ := unhide HC _ hb1
    have HB1 := hide hb1
    clear hb1 c0 c1
    go_wp2_with fail
    refine (unhide HOK2 _ (unhide HB1)).mono ?_
    rintro e w2 ⟨rfl, hb2⟩
    have HB2 := hide (unhide HFIN _ (belOn (unhide HB1) hb2))
    clear hb2
    go_wp2_with fail
    go_ret
    exact ⟨by rw [unhide HX]; rfl, unhide HB2⟩
   | true =>
    rw [hd] at HOK2
    obtain ⟨-, a1, a7⟩ := confB_v hc
    obtain ⟨-, b1, b7⟩ := confB_v hd
    have HX := hide (show meetB v l u kk = decide (nv + nu - among v u < (nv / 2 + 1) + (nu / 2 + 1)) from by unfold meetB; rw [hc, hd, hvn, hun]; rfl)
    rw [hvn] at a1 a7
    rw [hun] at b1 b7
    have HVN := hide hvn
    clear hc hvn hun hd d0 d1
    go_enter Try.func16, Try.ntmps16
    go_wp2_with fail
    rw [unhide HW0]
    refine (unhide HOK).mono ?_
    rintro e w1 ⟨rfl, hb1⟩
    obtain ⟨q0, q1, q2⟩ := unhide HC _ hb1
    have HB1 := hide hb1
    clear hb1 c0 c1
    go_wp2_with fail
    refine (unhide HOK2 _ (unhide HB1)).mono ?_
    rintro e w2 ⟨rfl, hb2⟩
    have HB2 := hide (belOn (unhide HB1) hb2)
    clear hb2 q0 q1 q2
    go_wp2_with fail
    go_loopw [5, 6] (fun m i wr => ∃ k s : Nat, m = .int .i64 s ∧ i = .int .i64 k ∧ k ≤ nv ∧ s ≤ k ∧ Hid (s = among (v.take k) u) ∧ Hid (Below W0.heap.size W0 wr)) (fun _ i _ => nv - (intOf i).toNat)
    case atStart => exact ⟨0, 0, rfl, rfl, by omega, by omega, hide rfl, HB2⟩
    case round =>
      clear HB1 HB2
      obtain ⟨k, s, rfl, rfl, hk, hs, HO, HB⟩ := hrel
      obtain ⟨q0, q1, q2⟩ := unhide HC _ (unhide HB)
      by_cases hkn : k < nv
      · have hkl : k < v.length := by rw [unhide HVN]; exact hkn
        obtain ⟨g, e1, l1, p0, -⟩ := (unhide HD _ (unhide HB)).1.row.ix k hkl
        have hst := among_take v u k hkl
        rw [← unhide HO] at hst
        generalize v[k] = x at p0 hst
        have HU := hide (unhide HD _ (unhide HB)).2
        subst e1
        have i0 : (0 : Int) ≤ (k : Int) := by omega
        have i1 : (k : Int) < (nv : Int) := by omega
        clear HO
        cases hx : decide (x ∈ u) with
        | true =>
          rw [hx] at hst
          have HI := hide hx
          have HST := hide (show s + 1 = among (v.take (k + 1)) u from hst.symm)
          clear hst hx
          go_wp2_with fail
          go_quiet (first | (go_at_call 23; exact ints_quiet _ _ _ _ _ _ _ _ (unhide HU) (unhide HI)))
          all_goals (try go_wp2_with fail)
          all_goals exact ⟨⟨k + 1, s + 1, by go_num, by go_num, by omega, by omega, HST, hide (belQ (unhide HB) _)⟩, by simp [intOf]; omega⟩
        | false =>
          rw [hx] at hst
          have HI := hide hx
          have HST := hide (show s = among (v.take (k + 1)) u from hst.symm)
          clear hst hx
          go_wp2_with fail
          go_quiet (first | (go_at_call 23; exact ints_quiet _ _ _ _ _ _ _ _ (unhide HU) (unhide HI)))
          all_goals (try go_wp2_with fail)
          all_goals exact ⟨⟨k + 1, s, rfl, by go_num, by omega, by omega, HST, hide (belQ (unhide HB) _)⟩, by simp [intOf]; omega⟩
      · obtain rfl : k = nv := by omega
        have hO := unhide HO
        rw [List.take_of_length_le (by rw [unhide HVN]; exact Nat.le_refl _)] at hO
        have HF := hide ((unhide HX).trans (by rw [← hO]))
        have g1 := half_go k (by omega)
        have g2 := half_go2 k (by omega)
        have g3 := half_go nu (by omega)
        have g4 := half_go2 nu (by omega)
        have m1 : k / 2 + 1 ≤ 1000 := by omega
        have m2 : nu / 2 + 1 ≤ 1000 := by omega
        have y1 := sub_go (k : Int) (s : Int) (by omega) (by omega) (by omega) (by omega)
        have y2 := sub_go (nu : Int) (s : Int) (by omega) (by omega) (by omega) (by omega)
        have y3 := sub_go ((k / 2 + 1 : Nat) : Int) ((k : Int) - (s : Int)) (by omega) (by omega) (by omega) (by omega)
        have y4 := sub_go ((nu / 2 + 1 : Nat) : Int) ((nu : Int) - (s : Int)) (by omega) (by omega) (by omega) (by omega)
        obtain ⟨X, hX⟩ : ∃ X, X = max 0 (((k / 2 + 1 : Nat) : Int) - ((k : Int) - (s : Int))) := ⟨_, rfl⟩
        obtain ⟨Y, hY⟩ : ∃ Y, Y = max 0 (((nu / 2 + 1 : Nat) : Int) - ((nu : Int) - (s : Int))) := ⟨_, rfl⟩
        have z1 := add_go X Y (by omega) (by omega) (by omega) (by omega)
        have hd := meet_way k nu s a1 b1 hs X Y hX hY
        have HF2 := hide ((unhide HF).trans hd.symm)
        have hX2 := hX.symm
        have hY2 := hY.symm
        clear hO HO HF hX hY hd
        generalize k / 2 + 1 = M1 at *
        generalize nu / 2 + 1 = M2 at *
        go_wp2_with fail
        all_goals go_ret
        all_goals exact ⟨by rw [unhide HF2]; simp; try omega, unhide HFIN _ (unhide HB)⟩
end Go.Proofs.Ytmmibkbodcfkkaa
