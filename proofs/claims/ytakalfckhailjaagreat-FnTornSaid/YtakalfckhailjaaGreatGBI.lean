/- Texts of one kind, put together. -/
import Derived.Test.YtakalfckhailjaaGreatOddD
import Derived.Test.YtakalfckhailjaaGreatGAH
import Derived.Test.YtakalfckhailjaaGreatGAI
import Derived.Test.YtakalfckhailjaaGreatGBC

/- The arguments of SaveVote, drawn. -/
namespace Go.Proofs.YtakalfckhailjaaGreat
open Go.RowKit Plain
set_option linter.unusedVariables false

theorem isRow_belV {w w' : World} {a : Option Addr} {len cap : Nat} {zs : List Int} (h : IsRow .u8 w a len cap zs) (hb : Below w.heap.size w w') : IsRow .u8 w' a len cap zs := by
  rcases h with h | ⟨x, hx, h1, h2, h3, h4, h5⟩
  · exact .inl h
  · refine .inr ⟨x, hx, h1, h2, h3, fun i hi => ?_, h5⟩
    have hc := h4 i hi
    exact (hb.cell (p := x.add i) (lt_of_cell hc)).trans hc

/-- A disk, a term and a vote that are drawn. -/
def Plain.DsvPost (w : World) (e : Ending) (w' : World) : Prop :=
  ∃ aL cL live aS cS safe aO cO t v, e = .returned (.tuple #[.agg #[.slice aL (live : List Fl).length cL, .slice aS (safe : List Fl).length cS, .slice aO 0 cO], .int .i64 t, .int .i64 v]) ∧ (RowAt fileE w' aL live ∧ RowAt fileE w' aS safe) ∧ (AdOk aL cL ∧ AdOk aS cS ∧ AdOk aO cO) ∧ OdF live safe ∧ ((∀ g, inB aL g → w.heap.size ≤ g) ∧ ∀ g, inB aS g → w.heap.size ≤ g) ∧ Below w.heap.size w w'

set_option maxRecDepth 10000 in
set_option maxHeartbeats 8000000 in
theorem DrawSaveVote_calls (a : Option Addr) (len cap : Nat) (zs : List Int) (w : World) (h : IsRow .u8 w a len cap zs) (hl : len ≤ 1048576) :
    Calls Tryz.prog 13 #[.slice a len cap] w (DsvPost w) := by
  obtain ⟨W0, hW0⟩ : ∃ W0, W0 = w.alloc (.cells #[.slice none 0 0, .slice none 0 0, .slice none 0 0] 27) := ⟨_, rfl⟩
  have hb0 : Below w.heap.size w W0 := by rw [hW0]; exact bel1 _ _
  have H0 := hide (isRow_belV h hb0)
  have HN0 := hide (show NwB w.heap.size (.slice none 0 0) (.slice none 0 0) (.slice none 0 0) W0 from by rw [hW0]; exact NwB.new w _ _ _)
  have HB0 := hide hb0
  have HW0 := hide hW0.symm
  clear h hW0 hb0
  go_enter Tryz.func13, Tryz.ntmps13
  go_wp2_with fail
  rw [unhide HW0]
  refine (open_calls a len cap zs _ (unhide H0) hl).mono ?_
  rintro e w1 ⟨rfl, hR1, hb1⟩
  have HR1 := hide hR1
  have HN1 := hide ((unhide HN0).below hb1)
  have HB1 := hide (belOn (unhide HB0) hb1)
  have hz0 := (unhide HN0).lt
  have hl1 : W0.heap.size < w1.heap.size := hR1.lt
  clear hR1 hb1 H0 HN0 HB0
  go_wp2_with fail
  refine (oddSaved_calls W0.heap.size a len cap zs _ (unhide HR1)).mono ?_
  rintro e w2 ⟨aL, cL, L, aS, cS, S, aO, cO, rfl, ⟨r1, r2⟩, ad, hF, ⟨n1, n2⟩, hR2, ho2⟩
  have HN2 := hide ((unhide HN1).only ho2 (by omega))
  have HB2 := hide ((unhide HB1).trans (ho2.below (Nat.le_of_lt hz0) (unhide HB1).size))
  have hz2 : w1.heap.size ≤ w2.heap.size := ho2.size
  obtain ⟨W3, hW3⟩ : ∃ W3, W3 = w2.alloc (.cells #[.slice aL L.length cL, .slice aS S.length cS, .slice aO 0 cO] 27) := ⟨_, rfl⟩
  have hb3 : Below w2.heap.size w2 W3 := by rw [hW3]; exact bel1 _ _
  have HK := hide (show SvK w1.heap.size w2.heap.size L S aL cL aS cS aO cO W3 from by rw [hW3]; exact SvK.new r1 r2 ad (fun g hg => by have := n1 g hg; omega) (fun g hg => by have := n2 g hg; omega))
  have HR3 := hide (hR2.below hb3)
  have HN3 := hide ((unhide HN2).below hb3)
  have HB3 := hide (belOn (unhide HB2) hb3)
  have HF := hide hF
  have HW3 := hide hW3.symm
  clear r1 r2 ad hF n1 n2 hR2 ho2 hW3 hb3 HN1 HN2 HB1 HB2 HR1
  go_wp2_with fail
  rw [unhide HW3]
  have hRD : W0.heap.size < w2.heap.size := by omega
  have hwR : w.heap.size < W0.heap.size := hz0
  have HKd := hide ((unhide HK).below (belDrew (Below.refl _ _)))
  have HNd := hide ((unhide HN3).below (belDrew (Below.refl _ _)))
  have HRd := hide ((unhide HR3).below (belDrew (Below.refl _ _)))
  have HBd := hide (belOn (unhide HB3) (belDrew (Below.refl W3.heap.size W3)))
  obtain ⟨c0, c1, c2, -, -, -, -, -, -, -, -, -, -⟩ := unhide HKd
  clear HK HN3 HR3 HB3
  go_region_law (first
    | (go_simp; (with_reducible refine (off_calls W0.heap.size a len cap zs 0 5 W3.drew (unhide HRd) (by omega) (by omega) (by omega)).mono ?_); rintro e w4 ⟨v4, rfl, -, -, hR4, ho4⟩; have HK4 := hide ((unhide HKd).only ho4 hl1 hRD); have HN4 := hide ((unhide HNd).only ho4 (by omega)); have HB4 := hide ((unhide HBd).trans (ho4.below (Nat.le_of_lt hwR) (unhide HBd).size)); have HR4 := hide hR4; obtain ⟨p0, p1, p2, -, -, -, -, -, -, -, -, -, -⟩ := unhide HK4; clear hR4 ho4)
    | (go_simp; (with_reducible refine (off_calls W0.heap.size a len cap zs 0 3 w4 (unhide HR4) (by omega) (by omega) (by omega)).mono ?_); rintro e w5 ⟨v5, rfl, -, -, hR5, ho5⟩; have HK5 := hide ((unhide HK4).only ho5 hl1 hRD); have HN5 := hide ((unhide HN4).only ho5 (by omega)); have HB5 := hide ((unhide HB4).trans (ho5.below (Nat.le_of_lt hwR) (unhide HB4).size)); obtain ⟨q0, q1, q2, -, -, -, -, -, -, -, -, -, -⟩ := unhide HK5; obtain ⟨-, d0, d1, d2, f0, f1, f2⟩ := unhide HN5; clear hR5 ho5))
  all_goals (try go_wp2_with fail)
  all_goals (refine bodyPost_ret (v := .tuple #[.agg #[.slice aL L.length cL, .slice aS S.length cS, .slice aO 0 cO], .int .i64 v4, .int .i64 v5]) (by simp [results, Tryz.results13, go_sem, d0, d1, d2]) rfl ?_)
  all_goals (have hK := unhide HK5)
  all_goals exact ⟨aL, cL, L, aS, cS, S, aO, cO, v4, v5, rfl, ⟨hK.rl.set3 (fun k hk => by have := hK.ll k hk; omega), hK.rs.set3 (fun k hk => by have := hK.ls k hk; omega)⟩, hK.ad, unhide HF, ⟨fun g hg => by have := hK.ll g hg; omega, fun g hg => by have := hK.ls g hg; omega⟩, (((unhide HB5).setCell (p := ⟨w.heap.size, 0, none⟩) (Nat.le_refl _) _).setCell (p := ⟨w.heap.size, 1, none⟩) (Nat.le_refl _) _).setCell (p := ⟨w.heap.size, 2, none⟩) (Nat.le_refl _) _⟩
end Go.Proofs.YtakalfckhailjaaGreat


/- The arguments of SaveEntries, drawn. -/
namespace Go.Proofs.YtakalfckhailjaaGreat
open Go.RowKit Plain
set_option linter.unusedVariables false

/-- A disk, a place and entries that are drawn. -/
def Plain.DsnPost (w : World) (e : Ending) (w' : World) : Prop :=
  ∃ aL cL live aS cS safe aO cO f ae ce es, e = .returned (.tuple #[.agg #[.slice aL (live : List Fl).length cL, .slice aS (safe : List Fl).length cS, .slice aO 0 cO], .int .i64 f, .slice ae (es : List Ent).length ce]) ∧ (RowAt fileE w' aL live ∧ RowAt fileE w' aS safe ∧ RowAt entE w' ae es) ∧ (AdOk aL cL ∧ AdOk aS cS ∧ AdOk aO cO ∧ AdG ae ce) ∧ OdF live safe ∧ (es.length ≤ 4 ∧ ∀ x ∈ es, x.body.size ≤ 6) ∧ ((∀ g, inB aL g → w.heap.size ≤ g) ∧ (∀ g, inB aS g → w.heap.size ≤ g) ∧ ∀ g, inB ae g → w.heap.size ≤ g) ∧ Below w.heap.size w w'

set_option maxRecDepth 10000 in
set_option maxHeartbeats 8000000 in
theorem DrawSaveEntries_calls (a : Option Addr) (len cap : Nat) (zs : List Int) (w : World) (h : IsRow .u8 w a len cap zs) (hl : len ≤ 1048576) :
    Calls Tryz.prog 6 #[.slice a len cap] w (DsnPost w) := by
  obtain ⟨W0, hW0⟩ : ∃ W0, W0 = w.alloc (.cells #[.slice none 0 0, .slice none 0 0, .slice none 0 0] 27) := ⟨_, rfl⟩
  have hb0 : Below w.heap.size w W0 := by rw [hW0]; exact bel1 _ _
  have H0 := hide (isRow_belV h hb0)
  have HN0 := hide (show NwB w.heap.size (.slice none 0 0) (.slice none 0 0) (.slice none 0 0) W0 from by rw [hW0]; exact NwB.new w _ _ _)
  have HB0 := hide hb0
  have HW0 := hide hW0.symm
  clear h hW0 hb0
  go_enter Tryz.func6, Tryz.ntmps6
  go_wp2_with fail
  rw [unhide HW0]
  refine (open_calls a len cap zs _ (unhide H0) hl).mono ?_
  rintro e w1 ⟨rfl, hR1, hb1⟩
  have HR1 := hide hR1
  have HN1 := hide ((unhide HN0).below hb1)
  have HB1 := hide (belOn (unhide HB0) hb1)
  have hz0 := (unhide HN0).lt
  have hl1 : W0.heap.size < w1.heap.size := hR1.lt
  clear hR1 hb1 H0 HN0 HB0
  go_wp2_with fail
  refine (oddSaved_calls W0.heap.size a len cap zs _ (unhide HR1)).mono ?_
  rintro e w2 ⟨aL, cL, L, aS, cS, S, aO, cO, rfl, ⟨r1, r2⟩, ad, hF, ⟨n1, n2⟩, hR2, ho2⟩
  have HN2 := hide ((unhide HN1).only ho2 (by omega))
  have HB2 := hide ((unhide HB1).trans (ho2.below (Nat.le_of_lt hz0) (unhide HB1).size))
  have hz2 : w1.heap.size ≤ w2.heap.size := ho2.size
  obtain ⟨W3, hW3⟩ : ∃ W3, W3 = w2.alloc (.cells #[.slice aL L.length cL, .slice aS S.length cS, .slice aO 0 cO] 27) := ⟨_, rfl⟩
  have hb3 : Below w2.heap.size w2 W3 := by rw [hW3]; exact bel1 _ _
  have HK := hide (show SvK w1.heap.size w2.heap.size L S aL cL aS cS aO cO W3 from by rw [hW3]; exact SvK.new r1 r2 ad (fun g hg => by have := n1 g hg; omega) (fun g hg => by have := n2 g hg; omega))
  have HR3 := hide (hR2.below hb3)
  have HN3 := hide ((unhide HN2).below hb3)
  have HB3 := hide (belOn (unhide HB2) hb3)
  have HF := hide hF
  have HW3 := hide hW3.symm
  clear r1 r2 ad hF n1 n2 hR2 ho2 hW3 hb3 HN1 HN2 HB1 HB2 HR1
  go_wp2_with fail
  rw [unhide HW3]
  have hRD : W0.heap.size < w2.heap.size := by omega
  have hwR : w.heap.size < W0.heap.size := hz0
  have hz3 : w2.heap.size < W3.heap.size := lt_of_cell (unhide HK).c0
  obtain ⟨B, hB⟩ : ∃ B, W3.heap.size = B := ⟨_, rfl⟩
  have hfL := row_lt (unhide HK).rl
  have hfS := row_lt (unhide HK).rs
  have hEN := entries_calls W0.heap.size a len cap zs 3 W3 (unhide HR3)
  unfold EntsPost at hEN
  rw [hB] at hEN hz3 hfL hfS
  have HEN := hide hEN
  clear hEN hB
  refine (unhide HEN).mono ?_
  rintro e w4 ⟨ve, es, rfl, HO4, HF4, hl4, hR4, ho4⟩
  obtain ⟨ae, ce, rfl⟩ := (unhide HO4).form
  have HK4 := hide ((unhide HK).only ho4 hl1 hRD)
  have HN4 := hide ((unhide HN3).only ho4 (by omega))
  have HB4 := hide ((unhide HB3).trans (ho4.below (Nat.le_of_lt hwR) (unhide HB3).size))
  have HR4 := hide hR4
  clear hR4 ho4 HK HN3 HB3 HR3 HEN
  obtain ⟨n, hn⟩ : ∃ n, es.length = n := ⟨_, rfl⟩
  rw [hn] at HO4 hl4 ⊢
  have HLE := hide hn
  clear hn
  go_upto_region 4 with fail
  go_cut [20] (fun s20 wx => ∃ b : Bool, s20 = .bool b ∧ Hid (b = true → 0 < n) ∧ Hid (Rd wx W0.heap.size a len cap zs) ∧ Hid (SvK w1.heap.size w2.heap.size L S aL cL aS cS aO cO wx) ∧ Hid (NwB w.heap.size (.slice none 0 0) (.slice none 0 0) (.slice none 0 0) wx) ∧ Hid (Below w.heap.size w wx) ∧ Hid (OwnR entE wx B (.slice ae n ce) es))
  case first =>
    by_cases hn0 : 0 < n
    · go_wp2_with fail
      refine (once_calls W0.heap.size a len cap zs 12 _ (unhide HR4) (by omega) (by omega)).mono ?_
      rintro e w5 ⟨b, rfl, hR5, ho5⟩
      have HK5 := hide ((unhide HK4).only ho5 hl1 hRD)
      have HN5 := hide ((unhide HN4).only ho5 (by omega))
      have HB5 := hide ((unhide HB4).trans (ho5.below (Nat.le_of_lt hwR) (unhide HB4).size))
      have HO5 := hide ((unhide HO4).onlN ho5 (by show W0.heap.size < _; omega))
      go_wp2_with fail
      go_meet
      exact ⟨b, rfl, hide (fun _ => hn0), hide hR5, HK5, HN5, HB5, HO5⟩
    · go_wp2_with fail
      go_meet
      exact ⟨false, rfl, hide (fun h => by cases h), HR4, HK4, HN4, HB4, HO4⟩
  case rest =>
  obtain ⟨w5, rfl⟩ : ∃ w5, w5 = wc := ⟨_, rfl⟩
  obtain ⟨b, rfl, HP, HR5, HK5, HN5, HB5, HO5⟩ := hcut
  clear HR4 HK4 HN4 HB4 HO4
  go_upto_if 20 with fail
  go_cut [] (fun wx => ∃ es' : List Ent, Hid (es'.length = n) ∧ Hid (∀ x ∈ es', x.body.size ≤ 6) ∧ Hid (Rd wx W0.heap.size a len cap zs) ∧ Hid (SvK w1.heap.size w2.heap.size L S aL cL aS cS aO cO wx) ∧ Hid (NwB w.heap.size (.slice none 0 0) (.slice none 0 0) (.slice none 0 0) wx) ∧ Hid (Below w.heap.size w wx) ∧ Hid (OwnR entE wx B (.slice ae n ce) es'))
  case first =>
    cases b with
    | false =>
      go_wp2_with fail
      go_meet
      exact ⟨es, HLE, HF4, HR5, HK5, HN5, HB5, HO5⟩
    | true =>
      have hn0 := unhide HP rfl
      have h0 : 0 < es.length := by rw [unhide HLE]; exact hn0
      obtain ⟨ge, eg, -, -⟩ := (unhide HO5).at 0 h0
      subst eg
      have hBg : B ≤ ge := ((unhide HO5).bl ge ⟨0, rfl⟩).1
      have n0 : (0 : Int) < (n : Int) := by omega
      go_wp2_with fail
      refine (off_calls W0.heap.size a len cap zs 0 9 _ (unhide HR5) (by omega) (by omega) (by omega)).mono ?_
      rintro e w6 ⟨v6, rfl, -, -, hR6, ho6⟩
      have HK6 := hide ((unhide HK5).only ho6 hl1 hRD)
      have HN6 := hide ((unhide HN5).only ho6 (by omega))
      have HB6 := hide ((unhide HB5).trans (ho6.below (Nat.le_of_lt hwR) (unhide HB5).size))
      have HO6 := hide ((unhide HO5).onlN ho6 (by show W0.heap.size < _; omega))
      have HR6 := hide hR6
      obtain ⟨g2, eg2, -, gp⟩ := (unhide HO6).at 0 h0
      cases eg2
      have hc : w6.cell? ⟨ge, 1, none⟩ = some (.int .i64 es[0].kind) := (gp 1 (by decide)).1
      have hf : w6.frozen? ⟨ge, 1, none⟩ = false := (gp 1 (by decide)).2
      have HO7 := hide (show OwnR entE (w6.setCell ⟨ge, 1, none⟩ (.int .i64 v6)) B (.slice (some ⟨ge, 0, none⟩) n ce) (es.set 0 ⟨es[0].term, v6, es[0].body⟩) from (unhide HO6).setJ (unhide HLE) 0 h0 1 (by decide) (.int .i64 v6) ⟨es[0].term, v6, es[0].body⟩ rfl)
      clear gp hR6 ho6 HO5 HR5 HK5 HN5 HB5 HO6
      go_wp2_with fail
      go_meet
      exact ⟨es.set 0 ⟨es[0].term, v6, es[0].body⟩, hide (by rw [List.length_set]; exact unhide HLE), hide (fun x hx => (List.mem_or_eq_of_mem_set hx).elim (unhide HF4 x) (fun q => by rw [q]; exact unhide HF4 es[0] (List.getElem_mem h0))), hide ((unhide HR6).onlyB (B := B) ((Below.refl B _).setCell (p := ⟨ge, 1, none⟩) hBg _) (by omega)), hide ((unhide HK6).set1 (by omega) (hfL.imp id fun q k hk => by have := q k hk; omega) (hfS.imp id fun q k hk => by have := q k hk; omega)), hide (set1B (unhide HN6) (by omega)), hide ((unhide HB6).setCell (p := ⟨ge, 1, none⟩) (by show w.heap.size ≤ ge; omega) _), HO7⟩
  case rest =>
  obtain ⟨w6, rfl⟩ : ∃ w6, w6 = wc := ⟨_, rfl⟩
  obtain ⟨es', HL6, HF6, HR6, HK6, HN6, HB6, HO6⟩ := hcut
  clear HR5 HK5 HN5 HB5 HO5 HF4 HLE
  have HKd := hide ((unhide HK6).below (belDrew (Below.refl _ _)))
  have HNd := hide ((unhide HN6).below (belDrew (Below.refl _ _)))
  have HRd := hide ((unhide HR6).below (belDrew (Below.refl _ _)))
  have HBd := hide (belOn (unhide HB6) (belDrew (Below.refl w6.heap.size w6)))
  have HOd := hide (show OwnR entE w6.drew B (.slice ae n ce) es' from unhide HO6)
  obtain ⟨c0, c1, c2, -, -, -, -, -, -, -, -, -, -⟩ := unhide HKd
  clear HK6 HN6 HR6 HB6 HO6
  go_upto_region 6 with fail
  go_region_law (first
    | (go_simp; (with_reducible refine (off_calls W0.heap.size a len cap zs 0 4 w6.drew (unhide HRd) (by omega) (by omega) (by omega)).mono ?_); rintro e w7 ⟨v7, rfl, -, -, hR7, ho7⟩; have HK7 := hide ((unhide HKd).only ho7 hl1 hRD); have HN7 := hide ((unhide HNd).only ho7 (by omega)); have HB7 := hide ((unhide HBd).trans (ho7.below (Nat.le_of_lt hwR) (unhide HBd).size)); have HO7 := hide ((unhide HOd).onlN ho7 (by show W0.heap.size < _; omega)); obtain ⟨q0, q1, q2, -, -, -, -, -, -, -, -, -, -⟩ := unhide HK7; obtain ⟨-, d0, d1, d2, f0, f1, f2⟩ := unhide HN7; clear hR7 ho7))
  all_goals (try go_wp2_with fail)
  all_goals (refine bodyPost_ret (v := .tuple #[.agg #[.slice aL L.length cL, .slice aS S.length cS, .slice aO 0 cO], .int .i64 v7, .slice ae n ce]) (by simp [results, Tryz.results6, go_sem, d0, d1, d2]) rfl ?_)
  all_goals (have hK := unhide HK7)
  all_goals (have hbl := (unhide HO7).bl)
  all_goals exact ⟨aL, cL, L, aS, cS, S, aO, cO, v7, ae, ce, es', by rw [unhide HL6], ⟨hK.rl.set3 (fun k hk => by have := hK.ll k hk; omega), hK.rs.set3 (fun k hk => by have := hK.ls k hk; omega), (unhide HO7).at.set3 (fun k hk => by have := hbl k hk; omega)⟩, ⟨hK.ad.1, hK.ad.2.1, hK.ad.2.2, (unhide HO7).adG⟩, unhide HF, ⟨by rw [unhide HL6]; exact hl4, unhide HF6⟩, ⟨fun g hg => by have := hK.ll g hg; omega, fun g hg => by have := hK.ls g hg; omega, fun g hg => by have := hbl g hg; omega⟩, (((unhide HB7).setCell (p := ⟨w.heap.size, 0, none⟩) (Nat.le_refl _) _).setCell (p := ⟨w.heap.size, 1, none⟩) (Nat.le_refl _) _).setCell (p := ⟨w.heap.size, 2, none⟩) (Nat.le_refl _) _⟩
end Go.Proofs.YtakalfckhailjaaGreat

