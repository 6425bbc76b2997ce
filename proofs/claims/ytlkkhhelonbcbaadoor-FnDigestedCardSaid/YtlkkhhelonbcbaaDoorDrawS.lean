/- The text that DrawSum draws is short. -/
import Derived.Test.YtlkkhhelonbcbaaDoorDrawB
namespace Go.Proofs.YtlkkhhelonbcbaaDoor
open Go.RowKit Plain
set_option linter.unusedVariables false

theorem own_only {w w' : World} {B R : Nat} {v : Value} {xs : List Int} (h : OwnB w B v xs) (ho : OnlyAt ⟨R, 1, none⟩ w w') (hR : R < B) : OwnB w' B v xs := by
  rcases h with ⟨hl, h1 | ⟨g, cap, cur, rfl, hg, hb, hr⟩⟩
  · exact ⟨hl, .inl h1⟩
  · refine ⟨hl, .inr ⟨g, cap, cur, rfl, hg, ?_, hr⟩⟩
    have hlt : g < w.heap.size := by
      rcases Nat.lt_or_ge g w.heap.size with h | h
      · exact h
      · rw [Array.getElem?_eq_none h] at hb; cases hb
    rw [ho.block g hlt (by simp; omega)]
    exact hb

theorem Plain.Rd.onlyB {w w' : World} {R B : Nat} {a : Option Addr} {len cap : Nat} {zs : List Int} (h : Rd w R a len cap zs) (hb : Below B w w') (hR : R < B) : Rd w' R a len cap zs := by
  obtain ⟨p, h⟩ := h
  refine ⟨p, ⟨(hb.cell (p := ⟨R, 0, none⟩) hR).trans h.c0, (hb.cell (p := ⟨R, 1, none⟩) hR).trans h.c1, (hb.frozen (p := ⟨R, 1, none⟩) hR).trans h.fz, h.le, h.small, ?_, h.apart⟩⟩
  rcases h.row with hr | ⟨x, hx, h1, h2, h3, h4, h5⟩
  · exact .inl hr
  · refine .inr ⟨x, hx, h1, h2, h3, fun i hi => ?_, h5⟩
    have hbk : (x.add i).block = x.block := by unfold Addr.add; split <;> rfl
    rw [hb.cell (p := x.add i) (by rw [hbk]; have := h.apart x hx (by omega); omega)]
    exact h4 i hi

set_option maxHeartbeats 1000000 in
theorem DrawSum_calls (a : Option Addr) (len cap : Nat) (zs : List Int) (w : World) (h : IsRow .u8 w a len cap zs) (hl : len ≤ 1048576) :
    Calls Tryd.prog 8 #[.slice a len cap] w fun e w' => ∃ s : ByteArray, e = .returned (.string s) ∧ s.size ≤ 200 ∧ Below w.heap.size w w' := by
  have H := hide h
  clear h
  go_enter Tryd.func8, Tryd.ntmps8
  go_wp2_with fail
  refine (open_calls a len cap zs _ (unhide H) hl).mono ?_
  rintro e w1 ⟨rfl, hR1, hb1⟩
  have HR1 := hide hR1
  have HB1 := hide hb1
  clear hR1 hb1
  have i0 : (len : Int) ≤ 1048576 := by omega
  obtain ⟨m, hm, hm1, hm2⟩ : ∃ m : Int, (if (1 : Int) + len < 140 then 1 + (len : Int) else 140) = m ∧ 1 ≤ m ∧ m ≤ 140 := ⟨_, rfl, by split <;> omega, by split <;> omega⟩
  go_wp2_with fail
  refine (below_calls w.heap.size a len cap zs m _ (unhide HR1) hm1 (by omega)).mono ?_
  rintro e w2 ⟨n, rfl, hn0, hn1, hR2, ho2⟩
  have HR2 := hide hR2
  have HB2 := hide ((unhide HB1).trans (ho2.below (Nat.le_refl _) (unhide HB1).size))
  clear hR2 ho2 HR1 HB1
  go_wp2_with fail
  refine (once_calls w.heap.size a len cap zs 6 _ (unhide HR2) (by omega) (by omega)).mono ?_
  rintro e w3 ⟨b, rfl, hR3, ho3⟩
  have HR3 := hide hR3
  have HB3 := hide ((unhide HB2).trans (ho3.below (Nat.le_refl _) (unhide HB2).size))
  clear hR3 ho3 HR2 HB2
  cases b with
  | false =>
    have hn200 : n ≤ 200 := by omega
    clear hm
    rename World => w4
    have hRz := (unhide HR3).lt
    have hz4 : w.heap.size < w4.heap.size := hRz
    clear hRz
    go_wp2_with fail
    go_loopw [5, 6] (fun v i wr => ∃ (k : Nat) (xs : List Int), i = .int .i64 k ∧ (k : Int) ≤ n ∧ xs.length = k ∧ Hid (OwnB wr w4.heap.size v xs) ∧ Hid (Rd wr w.heap.size a len cap zs) ∧ Hid (Below w.heap.size w wr) ∧ w4.heap.size ≤ wr.heap.size) (fun _ i _ => (n - intOf i).toNat)
    case atStart => exact ⟨0, [], rfl, by omega, rfl, ownB_empty w4 _ (Nat.le_refl _), hide ((unhide HR3).below ((Below.refl _ _).alloc (Nat.le_refl _) _)), hide ((unhide HB3).alloc (unhide HB3).size _), by simp⟩
    case round =>
      clear HR3 HB3
      obtain ⟨k, xs, rfl, hk, hxs, HO, HR, HB, hzr⟩ := hrel
      by_cases hlt : (k : Int) < n
      · go_wp2_with fail
        refine (below_calls w.heap.size a len cap zs 256 _ (unhide HR) (by omega) (by omega)).mono ?_
        rintro e w5 ⟨x, rfl, hx0, hx1, hR5, ho5⟩
        have HO5 := hide (own_only (unhide HO) ho5 hz4)
        have HR5 := hide hR5
        have HB5 := hide ((unhide HB).trans (ho5.below (Nat.le_refl _) (unhide HB).size))
        have hz5 : w4.heap.size ≤ w5.heap.size := Nat.le_trans hzr ho5.size
        clear hR5 ho5 HO HR HB
        go_wp2_with (at_builtin; go_must (refine app1 rfl _ _ rfl (unhide HO5) rfl rfl (by omega) hz5 ?_); intro v' w6 hown6 hg6 hb6)
        go_roundw
        case rel =>
          have hsz6 := hb6.size
          have hg0 : Below w5.heap.size w5 (w5.alloc (.cells #[.int .u8 x] 5)) := (Below.refl _ _).alloc (Nat.le_refl _) _
          exact ⟨k + 1, _, by go_num, by omega, by simp [hxs], hide hown6, hide ((unhide HR5).onlyB hb6 hz4), hide ((unhide HB5).trans (hb6.mono (by omega))), by omega⟩
        case measure => simp [intOf]; omega
      · have hcv := conv_ownB wr _ _ _ (unhide HO)
        go_wp2_with fail
        go_ret
        exact ⟨_, rfl, by rw [strOfNums_size]; omega, unhide HB⟩
  | true =>
    clear hn0 hn1 hm
    go_wp2_with fail
    refine (below_calls w.heap.size a len cap zs 12 _ (unhide HR3) (by omega) (by omega)).mono ?_
    rintro e w4 ⟨n2, rfl, hn0, hn1, hR4, ho4⟩
    have HR4 := hide hR4
    have HB4 := hide ((unhide HB3).trans (ho4.below (Nat.le_refl _) (unhide HB3).size))
    clear hR4 ho4 HR3 HB3
    have HR3 := HR4
    have HB3 := HB4
    clear HR4 HB4
    obtain ⟨n, hn⟩ : ∃ n, 54 + n2 = n := ⟨_, rfl⟩
    have hnn0 : 0 ≤ n := by omega
    have hn200 : n ≤ 200 := by omega
    have hRz := (unhide HR3).lt
    have hz4 : w.heap.size < w4.heap.size := hRz
    clear hRz
    go_wp2_with fail
    go_loopw [5, 6] (fun v i wr => ∃ (k : Nat) (xs : List Int), i = .int .i64 k ∧ (k : Int) ≤ n ∧ xs.length = k ∧ Hid (OwnB wr w4.heap.size v xs) ∧ Hid (Rd wr w.heap.size a len cap zs) ∧ Hid (Below w.heap.size w wr) ∧ w4.heap.size ≤ wr.heap.size) (fun _ i _ => (n - intOf i).toNat)
    case atStart => exact ⟨0, [], rfl, by omega, rfl, ownB_empty w4 _ (Nat.le_refl _), hide ((unhide HR3).below ((Below.refl _ _).alloc (Nat.le_refl _) _)), hide ((unhide HB3).alloc (unhide HB3).size _), by simp⟩
    case round =>
      clear HR3 HB3
      obtain ⟨k, xs, rfl, hk, hxs, HO, HR, HB, hzr⟩ := hrel
      by_cases hlt : (k : Int) < n
      · go_wp2_with fail
        refine (below_calls w.heap.size a len cap zs 256 _ (unhide HR) (by omega) (by omega)).mono ?_
        rintro e w5 ⟨x, rfl, hx0, hx1, hR5, ho5⟩
        have HO5 := hide (own_only (unhide HO) ho5 hz4)
        have HR5 := hide hR5
        have HB5 := hide ((unhide HB).trans (ho5.below (Nat.le_refl _) (unhide HB).size))
        have hz5 : w4.heap.size ≤ w5.heap.size := Nat.le_trans hzr ho5.size
        clear hR5 ho5 HO HR HB
        go_wp2_with (at_builtin; go_must (refine app1 rfl _ _ rfl (unhide HO5) rfl rfl (by omega) hz5 ?_); intro v' w6 hown6 hg6 hb6)
        go_roundw
        case rel =>
          have hsz6 := hb6.size
          have hg0 : Below w5.heap.size w5 (w5.alloc (.cells #[.int .u8 x] 5)) := (Below.refl _ _).alloc (Nat.le_refl _) _
          exact ⟨k + 1, _, by go_num, by omega, by simp [hxs], hide hown6, hide ((unhide HR5).onlyB hb6 hz4), hide ((unhide HB5).trans (hb6.mono (by omega))), by omega⟩
        case measure => simp [intOf]; omega
      · have hcv := conv_ownB wr _ _ _ (unhide HO)
        go_wp2_with fail
        go_ret
        exact ⟨_, rfl, by rw [strOfNums_size]; omega, unhide HB⟩
end Go.Proofs.YtlkkhhelonbcbaaDoor
