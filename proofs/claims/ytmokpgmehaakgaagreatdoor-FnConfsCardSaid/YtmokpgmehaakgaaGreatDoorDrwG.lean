/- What is drawn for a change of members, and for members that are read. -/
import Derived.Test.YtmokpgmehaakgaaGreatDoorDrwD
import Derived.Test.YtmokpgmehaakgaaGreatDoorRzD
import Derived.Deep.RegionHeld3
namespace Go.Proofs.YtmokpgmehaakgaaGreatDoor
open Go.RowKit Plain
set_option linter.unusedVariables false

/-- What DrawChanged leaves. -/
def DrgPost (w : World) (e : Ending) (w' : World) : Prop := ∃ (av : Option Addr) (nv cv : Nat) (v : List Int) (al : Option Addr) (nl cl : Nat) (l : List Int) (kind id : Int), e = .returned (.tuple #[.agg #[.slice av nv cv, .slice al nl cl], .int .i64 kind, .int .i64 id]) ∧ (-9223372036854775808 ≤ kind ∧ kind ≤ 9223372036854775807) ∧ (-9223372036854775808 ≤ id ∧ id ≤ 9223372036854775807) ∧ Hid (OwnR i64E w' w.heap.size (.slice av nv cv) v ∧ OwnR i64E w' w.heap.size (.slice al nl cl) l ∧ ConfAt w' av nv v al nl l) ∧ Below w.heap.size w w'

/-- What holds while the last line of DrawChanged is worked on. -/
structure Plain.GS (w : World) (M B : Nat) (pv pl : Value) (v l : List Int) (W : World) : Prop where
  bel : Below w.heap.size w W
  z : ∃ u0 u1, CB w.heap.size u0 u1 W
  s : CB M pv pl W
  ov : OwnR i64E W B pv v
  ol : OwnR i64E W B pl l
theorem Plain.GS.call {w : World} {M B : Nat} {pv pl : Value} {v l : List Int} {W W' : World} (h : GS w M B pv pl v l W) (ho : OnlyAt ⟨w.heap.size + 1, 1, none⟩ W W') (hM : M ≠ w.heap.size + 1) (hr : w.heap.size + 1 < B) : GS w M B pv pl v l W' := by
  obtain ⟨u0, u1, hz⟩ := h.z
  exact ⟨h.bel.trans (ho.below (B := w.heap.size) (by simp) h.bel.size), ⟨u0, u1, hz.only ho (by omega)⟩, h.s.only ho hM, h.ov.onl ho hr, h.ol.onl ho hr⟩
theorem Plain.GS.drew {w : World} {M B : Nat} {pv pl : Value} {v l : List Int} {W : World} (h : GS w M B pv pl v l W) : GS w M B pv pl v l W.drew := ⟨belDrew h.bel, h.z, h.s, h.ov, h.ol⟩
theorem Plain.GS.set {w : World} {M B : Nat} {pv pl : Value} {v l : List Int} {W : World} {x y : Value} (h : GS w M B pv pl v l W) (hM : w.heap.size < M) (hB : w.heap.size < B) : GS w M B pv pl v l ((W.setCell ⟨w.heap.size, 0, none⟩ x).setCell ⟨w.heap.size, 1, none⟩ y) := by
  obtain ⟨u0, u1, hz⟩ := h.z
  exact ⟨(h.bel.setCell (Nat.le_refl _) _).setCell (Nat.le_refl _) _, ⟨x, y, (hz.set0 x).set1 y⟩, (h.s.far (by omega) x).far (by omega) y, h.ov.set2s fun g hg => by have := (h.ov.geB g hg).1; omega, h.ol.set2s fun g hg => by have := (h.ol.geB g hg).1; omega⟩

set_option maxRecDepth 10000 in
set_option maxHeartbeats 8000000 in
theorem DrawChanged_calls (a : Option Addr) (len cap : Nat) (zs : List Int) (w : World) (h : IsRow .u8 w a len cap zs) (hl : len ≤ 1048576) :
    Calls Tryz.prog 5 #[.slice a len cap] w (DrgPost w) := by
  obtain ⟨W1, hW1⟩ : ∃ W1, W1 = w.alloc (.cells #[.slice none 0 0, .slice none 0 0] 26) := ⟨_, rfl⟩
  have hb1 : Below w.heap.size w W1 := by rw [hW1]; exact bel1 _ _
  have hs1 : W1.heap.size = w.heap.size + 1 := by rw [hW1]; simp
  have HZ := hide (show CB w.heap.size (.slice none 0 0) (.slice none 0 0) W1 from by rw [hW1]; exact CB.new w _ _)
  have hrow : IsRow .u8 W1 a len cap zs := by
    rcases h with h | ⟨x, hx, h1, h2, h3, h4, h5⟩
    · exact .inl h
    · refine .inr ⟨x, hx, h1, h2, h3, fun i hi => ?_, h5⟩
      have hc := h4 i hi
      exact (hb1.cell (p := x.add i) (lt_of_cell hc)).trans hc
  have HOP := hide (open_calls a len cap zs W1 hrow hl)
  have HB1 := hide hb1
  have HW1 := hide hW1.symm
  clear hW1 hb1 hrow h
  go_enter Tryz.func5, Tryz.ntmps5
  go_wp2_with fail
  rw [unhide HW1]
  refine (unhide HOP).mono ?_
  rintro e w2 ⟨rfl, hR2, hb2⟩
  have HZ2 := hide ((unhide HZ).below hb2 (by omega))
  have HB2 := hide (belOn (unhide HB1) hb2)
  have hR := hR2.lt
  have HD2 := hide (DS.start hR2)
  rw [hs1] at *
  clear hb2 hR2 HOP HZ
  go_wp2_with fail
  refine (oddConf_calls (w.heap.size + 1) a len cap zs w2 (unhide HD2).rd).mono ?_
  rintro e w3 ⟨av, cv, v, al, cl, l, rfl, hOw, hv20, hl20, hR3, ho3⟩
  obtain ⟨hV, hL⟩ := unhide hOw
  have hz3 : w2.heap.size ≤ w3.heap.size := ho3.size
  obtain ⟨n, hn⟩ : ∃ n, v.length = n := ⟨_, rfl⟩
  obtain ⟨m, hm⟩ : ∃ m, l.length = m := ⟨_, rfl⟩
  rw [hn] at hV hv20 ⊢
  rw [hm] at hL hl20 ⊢
  obtain ⟨W4, hW4⟩ : ∃ W4, W4 = w3.alloc (.cells #[.slice av n cv, .slice al m cl] 26) := ⟨_, rfl⟩
  have hb4 : Below w3.heap.size w3 W4 := by rw [hW4]; exact bel1 _ _
  have HV4 := hide (hV.keep hb4)
  have HL4 := hide (hL.keep hb4)
  have HD4 := hide (((unhide HD2).call hR3 ho3).below hb4)
  have HZ4 := hide (((unhide HZ2).only ho3 (by omega)).below hb4 (by omega))
  have HS4 := hide (show CB w3.heap.size (.slice av n cv) (.slice al m cl) W4 from by rw [hW4]; exact CB.new w3 _ _)
  have HN := hide hn
  have HM := hide hm
  have HW4 := hide hW4.symm
  have G4 : GS w w3.heap.size w2.heap.size (.slice av n cv) (.slice al m cl) v l W4.drew := GS.drew ⟨(unhide HB2).trans ((unhide HD4).only.below (B := w.heap.size) (by simp) (unhide HB2).size), ⟨_, _, unhide HZ4⟩, unhide HS4, (unhide HV4), (unhide HL4)⟩
  have X0 := fun (W : World) (hW : GS w w3.heap.size w2.heap.size (.slice av n cv) (.slice al m cl) v l W) => hW.s.c0
  have X1 := fun (W : World) (hW : GS w w3.heap.size w2.heap.size (.slice av n cv) (.slice al m cl) v l W) => hW.s.c1
  have hn2 : w3.heap.size ≠ w.heap.size + 1 := by omega
  have hn3 : w.heap.size < w3.heap.size := by omega
  have hn4 : w.heap.size < w2.heap.size := by omega
  have HO4 := hide (off_calls (w.heap.size + 1) a len cap zs 1 3 W4.drew (unhide HD4).drew.rd (by omega) (by omega) (by omega))
  clear hOw hV hL hn hm hb4 hW4 hR3 ho3 HZ2 HD2 HV4 HL4 HD4 HZ4 HS4
  go_wp2_with fail
  rw [unhide HW4]
  go_region_held3 (fun w' => GS w w3.heap.size w2.heap.size (.slice av n cv) (.slice al m cl) v l w') (first | exact GS.set G6 hn3 hn4 | exact G6 | exact G5 | exact G4 | assumption) (first
    | (go_at_call_of 18 (3 : Int); refine (unhide HO4).mono ?_; rintro e w5 ⟨kind, rfl, k0, k1, hR5, ho5⟩; have G5 : GS w w3.heap.size w2.heap.size (.slice av n cv) (.slice al m cl) v l w5 := GS.call G4 ho5 hn2 hR)
    | (go_at_call_of 18 (8 : Int); refine (off_calls (w.heap.size + 1) a len cap zs 1 8 w5 hR5 (by omega) (by omega) (by omega)).mono ?_; rintro e w6 ⟨id, rfl, i0, i1, hR6, ho6⟩; have G6 : GS w w3.heap.size w2.heap.size (.slice av n cv) (.slice al m cl) v l w6 := GS.call G5 ho6 hn2 hR; obtain ⟨u0, u1, hz6⟩ := G6.z; have q0 := hz6.c0; have q1 := hz6.c1; have g0 := hz6.f0; have g1 := hz6.f1; have qlt := hz6.lt))
  all_goals (try go_wp2_with fail)
  all_goals
    refine bodyPost_ret (v := .tuple #[.agg #[.slice av n cv, .slice al m cl], .int .i64 kind, .int .i64 id]) (by simp [results, Tryz.results5, go_sem, q0, q1]) rfl ?_
    have G7 := GS.set (x := .slice av n cv) (y := .slice al m cl) G6 hn3 hn4
    have hV := G7.ov.le (B' := w.heap.size) (by omega)
    have hL := G7.ol.le (B' := w.heap.size) (by omega)
    exact ⟨av, n, cv, v, al, m, cl, l, kind, id, rfl, ⟨k0, k1⟩, ⟨i0, i1⟩, hide ⟨hV, hL, ⟨⟨hV.at, unhide HN, by omega⟩, ⟨hL.at, unhide HM, by omega⟩⟩⟩, G7.bel⟩
end Go.Proofs.YtmokpgmehaakgaaGreatDoor
