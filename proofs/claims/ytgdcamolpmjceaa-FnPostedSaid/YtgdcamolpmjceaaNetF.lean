/- A net that is drawn: the walk. -/
import Derived.Test.YtgdcamolpmjceaaNzA
namespace Go.Proofs.Ytgdcamolpmjceaa
open Go.RowKit Plain
set_option linter.unusedVariables false

set_option maxRecDepth 10000 in
set_option maxHeartbeats 8000000 in
theorem netD_calls (R : Nat) (a : Option Addr) (len cap : Nat) (zs : List Int) (w : World) (h : Rd w R a len cap zs) :
    Calls Try.prog 17 #[.pointer (some ⟨R, 0, none⟩)] w (NetDPost R a len cap zs w) := by
  have hR := h.lt
  obtain ⟨W0, hW0⟩ : ∃ W0, W0 = (w.alloc (.cells #[.int .i64 0, .slice none 0 0] 26)).alloc (.cells #[.int .i64 1, .slice none 0 0] 26) := ⟨_, rfl⟩
  have hz : W0.heap.size = w.heap.size + 2 := by rw [hW0]; simp
  have HD0 := hide (show DS w R a len cap zs W0 from by rw [hW0]; exact ((DS.start h).alloc _).alloc _)
  have HRB := hide (show RB w.heap.size W0 from ⟨by rw [hW0]; simp [go_sem], by rw [hW0]; simp [go_sem], by rw [hW0]; simp [go_sem], by rw [hW0]; simp [go_sem]⟩)
  have HDN := hide (show DN (w.heap.size + 1) (w.heap.size + 2) 1 none 0 0 [] W0 from ⟨by rw [hW0]; simp [go_sem], by rw [hW0]; simp [go_sem], by rw [hW0]; simp [go_sem], by rw [hW0]; simp [go_sem], ownR_nil _ _ _⟩)
  have HW0 := hide hW0.symm
  have HSZ := hide (sizeR_calls R a len cap zs W0 (unhide HD0).rd)
  clear h hW0
  go_enter Try.func17, Try.ntmps17
  go_wp2_with fail
  rw [unhide HW0]
  refine (unhide HSZ).mono ?_
  rintro e w1 ⟨k0, rfl, hk0, hk1, hR1, ho1⟩
  have HD1 := hide ((unhide HD0).call hR1 ho1)
  have HRB1 := hide (show RB w.heap.size w1 from ⟨ho1.c (unhide HRB).c0 (by omega), ho1.c (unhide HRB).c1 (by omega), ho1.z (by omega) (unhide HRB).z0, ho1.z (by omega) (unhide HRB).z1⟩)
  have HDN1 := hide ((unhide HDN).only ho1 (by omega) (by omega))
  have hz1 := ho1.size
  obtain ⟨K0, rfl⟩ := Int.eq_ofNat_of_zero_le (show 0 ≤ k0 by omega)
  clear hR1 ho1 HD0 HRB HDN HSZ
  go_wp2_with fail
  go_loopw [4] (fun s4 wr => ∃ (k m c : Nat) (nx : Int) (x : Option Addr) (es : List Pkt), s4 = .int .i64 k ∧ k ≤ 8 ∧ 0 ≤ nx ∧ nx + k ≤ 20 ∧ m + k ≤ 20 ∧ w.heap.size + 2 ≤ wr.heap.size ∧ Hid (Shrt es) ∧ Hid (DN (w.heap.size + 1) (w.heap.size + 2) nx x m c es wr) ∧ Hid (DS w R a len cap zs wr) ∧ Hid (RB w.heap.size wr)) (fun s4 _ => (intOf s4).toNat)
  case atStart => exact ⟨K0, 0, 0, 1, none, [], rfl, by omega, by omega, by omega, by omega, by omega, hide (fun e he => by cases he), HDN1, HD1, HRB1⟩
  case round =>
    clear HD1 HRB1 HDN1
    obtain ⟨k, m, c, nx, x, es, rfl, hk, hn0, hn1, hm1, hzr, HSH, HDN, HDS, HRB⟩ := hrel
    by_cases hkz : 0 < k
    · have A0 := fun (X : World) (hX : DS wr R a len cap zs X) => hX.only.c (unhide HDN).c0 (show w.heap.size + 1 ≠ R by omega)
      have A1 := fun (X : World) (hX : DS wr R a len cap zs X) => hX.only.c (unhide HDN).c1 (show w.heap.size + 1 ≠ R by omega)
      have HS0 := hide (show DS wr R a len cap zs wr.drew from (DS.start (unhide HDS).rd).drew)
      have HS1 := hide (show DS wr R a len cap zs (wr.alloc (.cells #[.int .i64 0, .slice none 0 0] 26)).drew from ((DS.start (unhide HDS).rd).alloc _).drew)
      have HN0 := hide (show NewN wr.heap.size wr.heap.size (wr.alloc (.cells #[.int .i64 0, .slice none 0 0] 26)).drew from ⟨Nat.le_refl _, by simp [go_sem], by simp [go_sem], by simp [go_sem], by simp [go_sem]⟩)
      have HBE := hide (fun (X : World) (hX : DS wr R a len cap zs X) => below_calls R a len cap zs 3 X hX.rd (by omega) (by omega))
      have HDA := hide (fun (X : World) (hX : DS wr R a len cap zs X) => data_calls R a len cap zs X hX.rd)
      have HPO := hide (fun (X : World) (hX : DS wr R a len cap zs X) (f t : Int) (b : ByteArray) (hb : b.size ≤ 6) => spec_Post nx x m c es f t b X (((unhide HDN).only hX.only (show w.heap.size + 1 ≠ R by omega) (by omega)).net (unhide HSH) (by omega)) (unhide HDN).cap (unhide HDN).own.adG (by omega))
      have i0 : (0 : Int) < (k : Int) := by omega
      have hRwr : R < wr.heap.size := by omega
      go_wp2_with fail
      go_cut [5, 6] (fun s5 s6 wx => NRel w R a len cap zs nx x m c es s5 s6 wx)
      case first =>
        go_region_held3 (fun w' => DS wr R a len cap zs w') (first | with_reducible exact unhide HS0 | with_reducible exact unhide HS1 | with_reducible assumption | with_reducible exact DS.alloc (by assumption) _ | with_reducible exact DS.set2 (by assumption) hRwr (by assumption)) (first | (go_at_call 18; refine (unhide HBE _ (by assumption)).mono ?_; rintro e w2 ⟨v, rfl, hv0, hv1, hR2, ho2⟩; have hD2 := DS.call (by assumption) hR2 ho2; (first | (have gz := NewN.only (by assumption) ho2 hRwr; obtain ⟨gl, gc0, gc1, gd0, gd1⟩ := gz; have gz := NewN.mk gl gc0 gc1 gd0 gd1) | (have gz := NewN.only (unhide HN0) ho2 hRwr; obtain ⟨gl, gc0, gc1, gd0, gd1⟩ := gz; have gz := NewN.mk gl gc0 gc1 gd0 gd1) | (have gz := NewN.only (NewN.new (by assumption)) ho2 hRwr; obtain ⟨gl, gc0, gc1, gd0, gd1⟩ := gz; have gz := NewN.mk gl gc0 gc1 gd0 gd1) | skip)) | (go_at_call 26; refine (unhide HDA _ (by assumption)).mono ?_; rintro e w3 ⟨s, rfl, hs6, hR3, ho3⟩; have hD3 := DS.call (by assumption) hR3 ho3; (first | (have gz := NewN.only (by assumption) ho3 hRwr; obtain ⟨gl, gc0, gc1, gd0, gd1⟩ := gz; have gz := NewN.mk gl gc0 gc1 gd0 gd1) | (have gz := NewN.only (NewN.new (by assumption)) ho3 hRwr; obtain ⟨gl, gc0, gc1, gd0, gd1⟩ := gz; have gz := NewN.mk gl gc0 gc1 gd0 gd1) | skip)) | (go_at_call 11; refine (unhide HPO _ (by assumption) _ _ s hs6).mono ?_; unfold NetPost; rintro e w5 ⟨x5, c5, rfl, ho5, hb5⟩; have hD5 := DS.below (by assumption) hb5; (first | (have gzz := NewN.belowL (by assumption) hb5; obtain ⟨gz, glt⟩ := gzz; obtain ⟨gl, gc0, gc1, gd0, gd1⟩ := gz; have gz := NewN.mk gl gc0 gc1 gd0 gd1) | (have gzz := NewN.belowL (NewN.new (by assumption)) hb5; obtain ⟨gz, glt⟩ := gzz; obtain ⟨gl, gc0, gc1, gd0, gd1⟩ := gz; have gz := NewN.mk gl gc0 gc1 gd0 gd1) | skip)))
        all_goals (try go_wp2_with fail)
        all_goals go_meet
        all_goals first
          | exact NRel.end1 (unhide HDS) (unhide HDN) (unhide HRB) hR hzr hD5 (unhide HSH) hn0 hs6 (by have h1 := hD3.only.size; omega) ho5
          | exact NRel.end2 (unhide HDS) (unhide HDN) (unhide HRB) hR hzr hD5 (unhide HSH) hn0 hs6 ho5 gz glt
      case rest =>
      obtain ⟨w6, rfl⟩ : ∃ w6, w6 = wc := ⟨_, rfl⟩
      obtain ⟨G, m', c', T, C, x', es', rfl, rfl, hG, hT0, hT1, hm', hz6, HSH', HDG, HDN6, HDS6, HRB6⟩ := hcut
      have g0 := (unhide HDG).c0
      have g1 := (unhide HDG).c1
      have n0 := (unhide HDN6).c0
      have n1 := (unhide HDN6).c1
      have y0 := (unhide HDN6).z0
      have y1 := (unhide HDN6).z1
      clear A0 A1 HS0 HS1 HN0 HBE HDA HPO HDN HDS HRB
      by_cases hC : C = 0
      · subst hC
        obtain ⟨W7, hW7⟩ : ∃ W7, W7 = (w6.setCell ⟨w.heap.size + 1, 0, none⟩ (.int .i64 T)).setCell ⟨w.heap.size + 1, 1, none⟩ (.slice x' m' c') := ⟨_, rfl⟩
        have HDN7 := hide (show DN (w.heap.size + 1) (w.heap.size + 2) T x' m' c' es' W7 from by rw [hW7]; exact (unhide HDN6).put (by omega) (Nat.le_refl _) (unhide HDG).own)
        have HDS7 := hide (show DS w R a len cap zs W7 from by rw [hW7]; exact DS.set2 (unhide HDS6) hR (by omega))
        have HRB7 := hide (show RB w.heap.size W7 from by rw [hW7]; exact (unhide HRB6).put2 (by omega))
        have hz7 : w.heap.size + 2 ≤ W7.heap.size := by rw [hW7]; simpa using hz6
        have HW7 := hide hW7.symm
        clear hW7 HDN6 HDS6 HRB6 HDG
        go_wp2_with fail
        rw [unhide HW7]
        clear g0 g1 n0 n1 y0 y1
        have hRB8 := (unhide HRB7)
        have HON := hide (once_calls R a len cap zs 5 W7 (unhide HDS7).rd (by omega) (by omega))
        clear hRB8
        go_wp2_with fail
        refine (unhide HON).mono ?_
        rintro e w8 ⟨v, rfl, hR8, ho8⟩
        have HDS8 := hide ((unhide HDS7).call hR8 ho8)
        have HDN8 := hide ((unhide HDN7).only ho8 (by omega) (by omega))
        have HRB8 := hide ((unhide HRB7).only ho8 (by omega))
        have hz8 := ho8.size
        have d0 := (unhide HDN8).c0
        have d1 := (unhide HDN8).c1
        clear hR8 ho8 HDS7 HDN7 HRB7 HON
        cases v with
        | false =>
          go_wp2_with fail
          go_roundw
          case rel => exact ⟨k - 1, m', c', T, x', es', by go_num, by omega, hT0, by omega, by omega, by omega, HSH', HDN8, HDS8, HRB8⟩
          case measure => simp [intOf]; omega
        | true =>
          by_cases hm0 : m' = 0
          · subst hm0
            go_wp2_with fail
            go_roundw
            case rel => exact ⟨k - 1, 0, c', T, x', es', by go_num, by omega, hT0, by omega, by omega, by omega, HSH', HDN8, HDS8, HRB8⟩
            case measure => simp [intOf]; omega
          · obtain ⟨gx, hgx⟩ : ∃ gx, x' = some ⟨gx, 0, none⟩ := by
              rcases (unhide HDN8).own.2 with ⟨q, q0⟩ | ⟨g', cap', cur, q, _⟩
              · have := (unhide HDN8).len; omega
              · injection q with q1; exact ⟨g', q1⟩
            subst hgx
            have HBE := hide (below_calls R a len cap zs (m' : Int) w8.drew ((unhide HDS8).drew.rd) (by omega) (by omega))
            have HTK := hide (fun (X : World) (id : Int) (hX : DN (w.heap.size + 1) (w.heap.size + 2) T (some ⟨gx, 0, none⟩) m' c' es' X) => spec_Take T (some ⟨gx, 0, none⟩) m' c' es' id false X (hX.net (unhide HSH') (by omega)) hX.cap hX.own.adG)
            have HD9 := hide (fun (X : World) (h1 : Rd X R a len cap zs) (h2 : OnlyAt ⟨R, 1, none⟩ w8.drew X) => And.intro ((unhide HDS8).drew.call h1 h2) (And.intro (show DN (w.heap.size + 1) (w.heap.size + 2) T (some ⟨gx, 0, none⟩) m' c' es' X from DN.only (W := w8.drew) ⟨d0, d1, (unhide HDN8).z0, (unhide HDN8).z1, (unhide HDN8).own⟩ h2 (by omega) (by omega)) (RB.only (W := w8.drew) ⟨(unhide HRB8).c0, (unhide HRB8).c1, (unhide HRB8).z0, (unhide HRB8).z1⟩ h2 (by omega))))
            have i5 : (0 : Int) < (m' : Int) := by omega
            have HLN := hide (unhide HDN8).len
            go_wp2_with fail
            go_region_with (first
              | (go_at_call 18; refine (unhide HBE).mono ?_; rintro e w9 ⟨v, rfl, hv0, hv1, hR9, ho9⟩; obtain ⟨V, rfl⟩ := Int.eq_ofNat_of_zero_le hv0; have h9 := unhide HD9 w9 hR9 ho9; have e0 := h9.2.1.c0; have e1 := h9.2.1.c1; have f0 := h9.2.1.z0; have f1 := h9.2.1.z1; have hVl : V < es'.length := (by rw [unhide HLN]; omega); obtain ⟨g9, eg9, lg9, pl, -, -, -⟩ := h9.2.1.own.at.px V hVl; cases eg9; have hs9 := ho9.size)
              | (go_at_call 38; refine (unhide HTK w9 _ h9.2.1).mono ?_; unfold TakPost; rintro e w10 ⟨x5, c5, rfl, ho5, hb5⟩; have hN9 := lt_of_cell e0; have k0 := bcl hb5 hN9 e0; have k1 := bcl hb5 hN9 e1; have l0 := (hb5.frozen (p := ⟨w.heap.size + 1, 0, none⟩) hN9).trans f0; have l1 := (hb5.frozen (p := ⟨w.heap.size + 1, 1, none⟩) hN9).trans f1))
            all_goals (try go_wp2_with fail)
            all_goals
              obtain ⟨m2, c2, T2, x2, es2, hT20, hT21, hm2, hz11, HSH2, HDN2, HDS2, HRB2⟩ := TRel.of h9.1 h9.2.1 h9.2.2 hR (by have h1 : w8.heap.size ≤ w9.heap.size := hs9; omega) hb5 (unhide HSH') hT0 _ ho5
              exact ⟨⟨k - 1, m2, c2, T2, x2, es2, by go_num, by omega, hT20, by omega, by omega, by omega, HSH2, HDN2, HDS2, HRB2⟩, by simp [intOf]; omega⟩
      · have HDN7 := HDN6
        have HDS7 := HDS6
        have HRB7 := HRB6
        clear HDN6 HDS6 HRB6 HDG g0 g1 n0 n1 y0 y1
        have hRB8 := (unhide HRB7)
        have HON := hide (once_calls R a len cap zs 5 w6 (unhide HDS7).rd (by omega) (by omega))
        clear hRB8
        go_wp2_with fail
        refine (unhide HON).mono ?_
        rintro e w8 ⟨v, rfl, hR8, ho8⟩
        have HDS8 := hide ((unhide HDS7).call hR8 ho8)
        have HDN8 := hide ((unhide HDN7).only ho8 (by omega) (by omega))
        have HRB8 := hide ((unhide HRB7).only ho8 (by omega))
        have hz8 := ho8.size
        have d0 := (unhide HDN8).c0
        have d1 := (unhide HDN8).c1
        clear hR8 ho8 HDS7 HDN7 HRB7 HON
        cases v with
        | false =>
          go_wp2_with fail
          go_roundw
          case rel => exact ⟨k - 1, m, c, nx, x, es, by go_num, by omega, hn0, by omega, by omega, by omega, HSH, HDN8, HDS8, HRB8⟩
          case measure => simp [intOf]; omega
        | true =>
          by_cases hm0 : m = 0
          · subst hm0
            go_wp2_with fail
            go_roundw
            case rel => exact ⟨k - 1, 0, c, nx, x, es, by go_num, by omega, hn0, by omega, by omega, by omega, HSH, HDN8, HDS8, HRB8⟩
            case measure => simp [intOf]; omega
          · obtain ⟨gx, hgx⟩ : ∃ gx, x = some ⟨gx, 0, none⟩ := by
              rcases (unhide HDN8).own.2 with ⟨q, q0⟩ | ⟨g', cap', cur, q, _⟩
              · have := (unhide HDN8).len; omega
              · injection q with q1; exact ⟨g', q1⟩
            subst hgx
            have HBE := hide (below_calls R a len cap zs (m : Int) w8.drew ((unhide HDS8).drew.rd) (by omega) (by omega))
            have HTK := hide (fun (X : World) (id : Int) (hX : DN (w.heap.size + 1) (w.heap.size + 2) nx (some ⟨gx, 0, none⟩) m c es X) => spec_Take nx (some ⟨gx, 0, none⟩) m c es id false X (hX.net (unhide HSH) (by omega)) hX.cap hX.own.adG)
            have HD9 := hide (fun (X : World) (h1 : Rd X R a len cap zs) (h2 : OnlyAt ⟨R, 1, none⟩ w8.drew X) => And.intro ((unhide HDS8).drew.call h1 h2) (And.intro (show DN (w.heap.size + 1) (w.heap.size + 2) nx (some ⟨gx, 0, none⟩) m c es X from DN.only (W := w8.drew) ⟨d0, d1, (unhide HDN8).z0, (unhide HDN8).z1, (unhide HDN8).own⟩ h2 (by omega) (by omega)) (RB.only (W := w8.drew) ⟨(unhide HRB8).c0, (unhide HRB8).c1, (unhide HRB8).z0, (unhide HRB8).z1⟩ h2 (by omega))))
            have i5 : (0 : Int) < (m : Int) := by omega
            have HLN := hide (unhide HDN8).len
            go_wp2_with fail
            go_region_with (first
              | (go_at_call 18; refine (unhide HBE).mono ?_; rintro e w9 ⟨v, rfl, hv0, hv1, hR9, ho9⟩; obtain ⟨V, rfl⟩ := Int.eq_ofNat_of_zero_le hv0; have h9 := unhide HD9 w9 hR9 ho9; have e0 := h9.2.1.c0; have e1 := h9.2.1.c1; have f0 := h9.2.1.z0; have f1 := h9.2.1.z1; have hVl : V < es.length := (by rw [unhide HLN]; omega); obtain ⟨g9, eg9, lg9, pl, -, -, -⟩ := h9.2.1.own.at.px V hVl; cases eg9; have hs9 := ho9.size)
              | (go_at_call 38; refine (unhide HTK w9 _ h9.2.1).mono ?_; unfold TakPost; rintro e w10 ⟨x5, c5, rfl, ho5, hb5⟩; have hN9 := lt_of_cell e0; have k0 := bcl hb5 hN9 e0; have k1 := bcl hb5 hN9 e1; have l0 := (hb5.frozen (p := ⟨w.heap.size + 1, 0, none⟩) hN9).trans f0; have l1 := (hb5.frozen (p := ⟨w.heap.size + 1, 1, none⟩) hN9).trans f1))
            all_goals (try go_wp2_with fail)
            all_goals
              obtain ⟨m2, c2, T2, x2, es2, hT20, hT21, hm2, hz11, HSH2, HDN2, HDS2, HRB2⟩ := TRel.of h9.1 h9.2.1 h9.2.2 hR (by have h1 : w8.heap.size ≤ w9.heap.size := hs9; omega) hb5 (unhide HSH) hn0 _ ho5
              exact ⟨⟨k - 1, m2, c2, T2, x2, es2, by go_num, by omega, hT20, by omega, by omega, by omega, HSH2, HDN2, HDS2, HRB2⟩, by simp [intOf]; omega⟩

    · obtain rfl : k = 0 := by omega
      have HBE := hide (below_calls R a len cap zs 40 wr (unhide HDS).rd (by omega) (by omega))
      go_wp2_with fail
      refine (unhide HBE).mono ?_
      rintro e w2 ⟨u, rfl, hu0, hu1, hR2, ho2⟩
      have HDS2 := hide ((unhide HDS).call hR2 ho2)
      have HDN2 := hide ((unhide HDN).only ho2 (by omega) (by omega))
      have HRB2 := hide ((unhide HRB).only ho2 (by omega))
      have hz2 := ho2.size
      clear hR2 ho2 HBE HDS HDN HRB
      have HEND := hide (fun (X : World) (nx' : Int) (x' : Option Addr) (m' c' : Nat) (es' : List Pkt) (h1 : DN (w.heap.size + 1) (w.heap.size + 2) nx' x' m' c' es' X) (h2 : DS w R a len cap zs X) => show OwnR pktE ((X.setCell ⟨w.heap.size, 0, none⟩ (.int .i64 nx')).setCell ⟨w.heap.size, 1, none⟩ (.slice x' m' c')) w.heap.size (.slice x' m' c') es' ∧ DS w R a len cap zs ((X.setCell ⟨w.heap.size, 0, none⟩ (.int .i64 nx')).setCell ⟨w.heap.size, 1, none⟩ (.slice x' m' c')) from ⟨(own_past h1.own (by omega)).le (by omega), DS.set2 h2 hR (Nat.le_refl _)⟩)
      by_cases c0 : u = 0
      · subst c0
        have HOF := hide (off_calls R a len cap zs 1 1000000000000 w2 (unhide HDS2).rd (by omega) (by omega) (by omega))
        go_wp2_with fail
        refine (unhide HOF).mono ?_
        rintro e w3 ⟨v, rfl, hv0, hv1, hR3, ho3⟩
        have HDS3 := hide ((unhide HDS2).call hR3 ho3)
        have HDN3 := hide ((unhide HDN2).only ho3 (by omega) (by omega))
        have HRB3 := hide ((unhide HRB2).only ho3 (by omega))
        clear hR3 ho3 HDS2 HDN2 HRB2 HOF
        obtain ⟨W4, hW4⟩ : ∃ W4, W4 = w3.setCell ⟨w.heap.size + 1, 0, none⟩ (.int .i64 v) := ⟨_, rfl⟩
        have hd := unhide HDN3
        have HDN4 := hide (show DN (w.heap.size + 1) (w.heap.size + 2) v x m c es W4 from by
          rw [hW4]
          exact ⟨cell_setN hd.c0, (cell_offN (.inr (by omega))).trans hd.c1, (World.frozen?_setCell _ _ _ _).trans hd.z0, (World.frozen?_setCell _ _ _ _).trans hd.z1, hd.own.otherN (fun g hg => heap_setN (by have := (World.ownsRow.lt hd.own g hg).1; omega))⟩)
        have HDS4 := hide (show DS w R a len cap zs W4 from by rw [hW4]; exact (unhide HDS3).set hR (by omega) _)
        have HRB4 := hide (show RB w.heap.size W4 from by
          rw [hW4]
          have hb := unhide HRB3
          exact ⟨(cell_offN (.inl (by omega))).trans hb.c0, (cell_offN (.inl (by omega))).trans hb.c1, (World.frozen?_setCell _ _ _ _).trans hb.z0, (World.frozen?_setCell _ _ _ _).trans hb.z1⟩)
        have HW4 := hide hW4.symm
        have q0 := hd.c0
        have q1 := hd.z0
        obtain ⟨t0, t1, t2, t3⟩ := unhide HRB4
        have s0 := (unhide HDN4).c0
        have s1 := (unhide HDN4).c1
        clear hW4 hd
        rw [← unhide HW4] at t0 t1 t2 t3 s0 s1
        go_wp2_with fail
        rw [unhide HW4]
        obtain ⟨r0, r1⟩ := (unhide HRB4).read (u := .int .i64 v) (v := .slice x m c)
        obtain ⟨z1, z2⟩ := unhide HEND W4 v x m c es (unhide HDN4) (unhide HDS4)
        exact bodyPost_ret (v := .agg #[.int .i64 v, .slice x m c]) (by simp [results, Try.results17, go_sem, r0, r1]) rfl ⟨v, x, m, c, es, rfl, hide z1, HSH, by omega, ⟨hv0, hv1⟩, z2.rd, z2.only⟩
      by_cases c1 : u = 1
      · subst c1
        obtain ⟨n0, n1, y0, y1, oo⟩ := unhide HDN2
        have hl := (unhide HDN2).len
        have hl9 : es.length < 100000000 := by omega
        have hz9 : w.heap.size + 2 ≤ w2.heap.size := by omega
        have OO := hide oo
        have HB4 := hide (fun (w6 : World) (x6 : Option Addr) (d6 : Nat) (ho : OwnR pktE w6 (w.heap.size + 2) (.slice x6 (m + 1) d6) (es ++ [⟨1, 1, 1, ⟨#[]⟩⟩])) (hb : Below (w.heap.size + 2) w2 w6) => And.intro ((unhide HDN2).put1 (by omega) hb ho) (And.intro (((unhide HDS2).belowB hb (by omega) (by omega)).set (b := w.heap.size + 1) (i := 1) hR (show w.heap.size ≤ w.heap.size + 1 by omega) (.slice x6 (m + 1) d6)) (((unhide HRB2).below hb (by omega)).put1 (N := w.heap.size + 1) (i := 1) (u := .slice x6 (m + 1) d6) (by omega))))
        have HSH4 := hide (show Shrt (es ++ [⟨1, 1, 1, ⟨#[]⟩⟩]) from fun e he => by
          rcases List.mem_append.1 he with he | he
          · exact unhide HSH e he
          · rw [List.mem_singleton.1 he]; exact Nat.zero_le _)
        clear oo
        go_wp2_with (at_builtin; go_must (refine appR (e := pktE) rfl _ _ rfl (unhide OO) rfl ⟨1, 1, 1, ⟨#[]⟩⟩ rfl _ rfl rfl hl9 hz9 ?_); intro v' w6 hown6 hb6 hg6; obtain ⟨x6, d6, hv'⟩ := hown6.form; subst hv'; rw [List.length_append, hl] at hown6 ⊢; have g0 := bcl hb6 (show w.heap.size + 1 < w.heap.size + 2 by omega) n0; have g1 := bcl hb6 (show w.heap.size + 1 < w.heap.size + 2 by omega) n1; have g2 := (hb6.frozen (p := ⟨w.heap.size + 1, 1, none⟩) (show w.heap.size + 1 < w.heap.size + 2 by omega)).trans y1; have hRBq := (unhide HRB2).below hb6 (show w.heap.size < w.heap.size + 2 by omega); obtain ⟨t0, t1, t2, t3⟩ := hRBq; clear n0 n1 y0 y1)
        obtain ⟨hd4, hs4, hb4⟩ := unhide HB4 w6 x6 d6 hown6 hb6
        obtain ⟨r0, r1⟩ := hb4.read (u := .int .i64 nx) (v := .slice x6 (m + 1) d6)
        obtain ⟨z1, z2⟩ := unhide HEND _ nx x6 (m + 1) d6 _ hd4 hs4
        exact bodyPost_ret (v := .agg #[.int .i64 nx, .slice x6 (m + 1) d6]) (by simp [results, Try.results17, go_sem, r0, r1]) rfl ⟨nx, x6, m + 1, d6, _, rfl, hide z1, HSH4, by omega, by omega, z2.rd, z2.only⟩
      by_cases c2 : u = 2
      · subst c2
        go_wp2_with fail
        go_loopw [71] (fun _ wq => ∃ (m' c' : Nat) (nx' : Int) (x' : Option Addr) (es' : List Pkt), m' ≤ 300 ∧ 0 ≤ nx' ∧ nx' ≤ 20 + m' ∧ w.heap.size + 2 ≤ wq.heap.size ∧ Hid (Shrt es') ∧ Hid (DN (w.heap.size + 1) (w.heap.size + 2) nx' x' m' c' es' wq) ∧ Hid (DS w R a len cap zs wq) ∧ Hid (RB w.heap.size wq)) (fun _ wq => 300 - lenAt wq (w.heap.size + 1))
        case atStart => exact ⟨m, c, nx, x, es, by omega, hn0, by omega, by omega, HSH, HDN2, HDS2, HRB2⟩
        case round =>
          clear HDN2 HDS2 HRB2 HSH
          obtain ⟨m', c', nx', x', es', hm3, hx0, hx1, hzq, HSH, HDN2, HDS2, HRB2⟩ := hrel
          obtain ⟨n0, n1, y0, y1, oo⟩ := unhide HDN2
          have hl := (unhide HDN2).len
          have HLA := hide (unhide HDN2).lenAt
          by_cases hlt : m' < 300
          · have hl9 : es'.length < 100000000 := by omega
            have OO := hide oo
            have i7 : (m' : Int) < 300 := by omega
            have HB4 := hide (fun (w6 : World) (x6 : Option Addr) (d6 : Nat) (ho : OwnR pktE w6 (w.heap.size + 2) (.slice x6 (m' + 1) d6) (es' ++ [⟨nx', 1, 2, ⟨#[]⟩⟩])) (hb : Below (w.heap.size + 2) wr w6) => And.intro (((unhide HDN2).put1 (by omega) hb ho).put0 (nx' := nx' + 1) (by omega)) (And.intro ((((unhide HDS2).belowB hb (by omega) (by omega)).set (b := w.heap.size + 1) (i := 1) hR (show w.heap.size ≤ w.heap.size + 1 by omega) (.slice x6 (m' + 1) d6)).set (b := w.heap.size + 1) (i := 0) hR (show w.heap.size ≤ w.heap.size + 1 by omega) (.int .i64 (nx' + 1))) ((((unhide HRB2).below hb (by omega)).put1 (N := w.heap.size + 1) (i := 1) (u := .slice x6 (m' + 1) d6) (by omega)).put1 (N := w.heap.size + 1) (i := 0) (u := .int .i64 (nx' + 1)) (by omega))))
            have HSH4 := hide (show Shrt (es' ++ [⟨nx', 1, 2, ⟨#[]⟩⟩]) from fun e he => by
              rcases List.mem_append.1 he with he | he
              · exact unhide HSH e he
              · rw [List.mem_singleton.1 he]; exact Nat.zero_le _)
            clear oo
            go_wp2_with (at_builtin; go_must (refine appR (e := pktE) rfl _ _ rfl (unhide OO) rfl ⟨nx', 1, 2, ⟨#[]⟩⟩ rfl _ rfl rfl hl9 hzq ?_); intro v' w6 hown6 hb6 hg6; obtain ⟨x6, d6, hv'⟩ := hown6.form; subst hv'; rw [List.length_append, hl] at hown6 ⊢; have g0 := bcl hb6 (show w.heap.size + 1 < w.heap.size + 2 by omega) n0; have g1 := bcl hb6 (show w.heap.size + 1 < w.heap.size + 2 by omega) n1; have g2 := (hb6.frozen (p := ⟨w.heap.size + 1, 1, none⟩) (show w.heap.size + 1 < w.heap.size + 2 by omega)).trans y1; have g3 := (hb6.frozen (p := ⟨w.heap.size + 1, 0, none⟩) (show w.heap.size + 1 < w.heap.size + 2 by omega)).trans y0; clear n0 n1 y0 y1)
            obtain ⟨hd4, hs4, hb4⟩ := unhide HB4 w6 x6 d6 hown6 hb6
            have hla := hd4.lenAt
            have hz6 := hb6.size
            exact ⟨⟨m' + 1, d6, nx' + 1, x6, _, by omega, by omega, by omega, by simp; omega, HSH4, hide hd4, hide hs4, hide hb4⟩, by have := unhide HLA; omega⟩
          · have n9 := n0
            clear oo n9
            obtain ⟨t0, t1, t2, t3⟩ := unhide HRB2
            have i8 : ¬ (m' : Int) < 300 := by omega
            go_wp2_with fail
            obtain ⟨r0, r1⟩ := (unhide HRB2).read (u := .int .i64 nx') (v := .slice x' m' c')
            obtain ⟨z1, z2⟩ := unhide HEND wr nx' x' m' c' es' (unhide HDN2) (unhide HDS2)
            exact bodyPost_ret (v := .agg #[.int .i64 nx', .slice x' m' c']) (by simp [results, Try.results17, go_sem, r0, r1]) rfl ⟨nx', x', m', c', es', rfl, hide z1, HSH, by omega, by omega, z2.rd, z2.only⟩
      · have n0 := (unhide HDN2).c0
        obtain ⟨t0, t1, t2, t3⟩ := unhide HRB2
        have s0 := (unhide HDN2).c0
        have s1 := (unhide HDN2).c1
        go_wp2_with fail
        obtain ⟨r0, r1⟩ := (unhide HRB2).read (u := .int .i64 nx) (v := .slice x m c)
        obtain ⟨z1, z2⟩ := unhide HEND w2 nx x m c es (unhide HDN2) (unhide HDS2)
        exact bodyPost_ret (v := .agg #[.int .i64 nx, .slice x m c]) (by simp [results, Try.results17, go_sem, r0, r1]) rfl ⟨nx, x, m, c, es, rfl, hide z1, HSH, by omega, by omega, z2.rd, z2.only⟩
end Go.Proofs.Ytgdcamolpmjceaa
