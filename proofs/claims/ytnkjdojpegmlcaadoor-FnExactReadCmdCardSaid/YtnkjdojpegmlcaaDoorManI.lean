/- ReadManifest of the program by its contract. -/
import Derived.Test.YtnkjdojpegmlcaaDoorManR
import Derived.Test.YtnkjdojpegmlcaaDoorManL
namespace Go.Proofs.YtnkjdojpegmlcaaDoor
open Go.RowKit Plain
set_option linter.unusedVariables false

namespace Plain
structure Scn (b : Nat) (s : ByteArray) (p : Nat) (w : World) : Prop where
  text : w.cell? ⟨b, 0, none⟩ = some (.string s)
  at_ : w.cell? ⟨b, 1, none⟩ = some (.int .i64 p)
  free : w.frozen? ⟨b, 1, none⟩ = false
  lt : b < w.heap.size
theorem Scn.only {b : Nat} {s : ByteArray} {p : Nat} {w w' : World} (h : Scn b s p w) (ho : OnlyAt ⟨b, 1, none⟩ w w') {q : Nat} (hq : w'.cell? ⟨b, 1, none⟩ = some (.int .i64 q)) : Scn b s q w' :=
  ⟨(ho.cell ⟨_, 0, none⟩ h.lt (by simp)).trans h.text, hq, (ho.frozen ⟨_, 1, none⟩ h.lt).trans h.free, Nat.lt_of_lt_of_le h.lt ho.size⟩
theorem Scn.keep {b : Nat} {s : ByteArray} {p B : Nat} {w w' : World} (h : Scn b s p w) (hb : Below B w w') (hB : b < B) : Scn b s p w' :=
  ⟨(hb.cell (p := ⟨b, 0, none⟩) hB).trans h.text, (hb.cell (p := ⟨b, 1, none⟩) hB).trans h.at_, (hb.frozen (p := ⟨b, 1, none⟩) hB).trans h.free, Nat.lt_of_lt_of_le h.lt hb.size⟩
theorem belowDrewN {B : Nat} {w w' : World} (h : Below B w w') (k : Nat) : Below B w (w'.drewN k) := ⟨h.os, h.tape, h.output, h.size, h.block⟩
theorem Scn.drewN {b : Nat} {s : ByteArray} {p : Nat} {w : World} (h : Scn b s p w) (k : Nat) : Scn b s p (w.drewN k) := ⟨h.text, h.at_, h.free, h.lt⟩
/-- A manifest's two cells, nought. -/
structure Mz (R : Nat) (w : World) : Prop where
  c0 : w.cell? ⟨R, 0, none⟩ = some (.string ⟨#[]⟩)
  c1 : w.cell? ⟨R, 1, none⟩ = some (.slice none 0 0)
  f0 : w.frozen? ⟨R, 0, none⟩ = false
  f1 : w.frozen? ⟨R, 1, none⟩ = false
  lt : R < w.heap.size
theorem Mz.below {R B : Nat} {w w' : World} (h : Mz R w) (hb : Below B w w') (hB : R < B) : Mz R w' :=
  ⟨(hb.cell (p := ⟨R, 0, none⟩) hB).trans h.c0, (hb.cell (p := ⟨R, 1, none⟩) hB).trans h.c1, (hb.frozen (p := ⟨R, 0, none⟩) hB).trans h.f0, (hb.frozen (p := ⟨R, 1, none⟩) hB).trans h.f1, Nat.lt_of_lt_of_le h.lt hb.size⟩
theorem Mz.only {R b : Nat} {w w' : World} (h : Mz R w) (ho : OnlyAt ⟨b, 1, none⟩ w w') (hne : R ≠ b) : Mz R w' :=
  ⟨(ho.cell ⟨R, 0, none⟩ h.lt (fun e => hne (congrArg Addr.block e))).trans h.c0, (ho.cell ⟨R, 1, none⟩ h.lt (fun e => hne (congrArg Addr.block e))).trans h.c1, (ho.frozen ⟨R, 0, none⟩ h.lt).trans h.f0, (ho.frozen ⟨R, 1, none⟩ h.lt).trans h.f1, Nat.lt_of_lt_of_le h.lt ho.size⟩
theorem Mz.new (w : World) (T : TypeId) : Mz w.heap.size (w.alloc (.cells #[.string ⟨#[]⟩, .slice none 0 0] T)) := ⟨by simp [go_sem], by simp [go_sem], by simp [go_sem], by simp [go_sem], by simp⟩
theorem rm_bad (p : ByteArray) (qs : List ByteArray) (h : okL cfgH p = false ∨ laysOk qs = false) : rmV (p :: qs) = (⟨#[]⟩, [], 1) := by
  rw [rmV, if_neg (by rcases h with h | h <;> rw [h] <;> simp)]
theorem rm_many (p : ByteArray) (qs : List ByteArray) (h : okL cfgH p = true) (h2 : laysOk qs = true) (h3 : ¬ (1 ≤ (laysOf qs).length ∧ (laysOf qs).length ≤ 40)) : rmV (p :: qs) = (⟨#[]⟩, [], 2) := by
  rw [rmV, if_pos (by rw [h, h2]; rfl), if_neg h3]
theorem rm_good (p : ByteArray) (qs : List ByteArray) (h : okL cfgH p = true) (h2 : laysOk qs = true) (h3 : 1 ≤ (laysOf qs).length ∧ (laysOf qs).length ≤ 40) : rmV (p :: qs) = (p.extract 7 p.size, laysOf qs, 0) := by
  rw [rmV, if_pos (by rw [h, h2]; rfl), if_pos h3]
theorem ext_tail (s : ByteArray) (p j : Nat) (hp : p ≤ s.size) : (s.extract p s.size).extract (j + 1) (s.extract p s.size).size = s.extract (p + (j + 1)) s.size := by
  rw [ByteArray.extract_extract, ByteArray.size_extract]
  congr 1
  omega
end Plain

/-- What ReadManifest leaves. -/
def RmPost (s : ByteArray) (w : World) (e : Ending) (w' : World) : Prop := ∃ v, e = .returned (.tuple #[.agg #[.string (rmV (cutB 10 s)).1, v], .int .i64 (rmV (cutB 10 s)).2.2]) ∧ OwnR strE w' w.heap.size v (rmV (cutB 10 s)).2.1 ∧ Below w.heap.size w w'
theorem RmPost.mk {s : ByteArray} {w w' : World} {c : ByteArray} {v : Value} {ls : List ByteArray} {k : Int} (h : rmV (cutB 10 s) = (c, ls, k)) (ho : OwnR strE w' w.heap.size v ls) (hb : Below w.heap.size w w') : RmPost s w (.returned (.tuple #[.agg #[.string c, v], .int .i64 k])) w' := by
  unfold RmPost
  rw [h]
  exact ⟨v, rfl, ho, hb⟩

set_option maxRecDepth 10000 in
set_option maxHeartbeats 4000000 in
theorem impl_ReadManifest (s : ByteArray) (w : World) (hs : s.size ≤ 10000000) :
    Calls Tryd.prog 46 #[.string s] w (RmPost s w) := by
  have hb0 := belOn (bel1 w (.cells #[.string ⟨#[]⟩, .slice none 0 0] 51)) (bel1 _ (.cells #[.string s, .int .i64 0] 77))
  have hM : Mz w.heap.size ((w.alloc (.cells #[.string ⟨#[]⟩, .slice none 0 0] 51)).alloc (.cells #[.string s, .int .i64 0] 77)) := (Mz.new w _).below (bel1 _ _) (by simp)
  have hS : Scn (w.heap.size + 1) s 0 ((w.alloc (.cells #[.string ⟨#[]⟩, .slice none 0 0] 51)).alloc (.cells #[.string s, .int .i64 0] 77)) := ⟨by simp [go_sem], by simp [go_sem], by simp [go_sem], by simp⟩
  have HB0 := hide hb0
  have HM0 := hide hM
  have HS0 := hide hS
  obtain ⟨j, hj⟩ : ∃ j, fd 10 10 s.data.toList = j := ⟨_, rfl⟩
  have hext : s.extract 0 s.size = s := by simp
  by_cases hbad : s.size ≤ j ∨ j < s.size ∧ okL cfgH (s.extract 0 j) = false
  · have hv : rmV (cutB 10 s) = (⟨#[]⟩, [], 1) := by
      rcases hbad with h | ⟨h, h2⟩
      · rw [cutB_end s (by omega)]; exact rm_bad _ _ (.inr rfl)
      · rw [cutB_at s j hj h]; exact rm_bad _ _ (.inl h2)
    have HV := hide hv
    have HL := hide (line_no (w.heap.size + 1) s cfgH s 0 _ hS.text hS.at_ (by decide) (by omega) (by omega) hext j hj hbad)
    clear hb0 hM hS hv hbad hext hj
    go_enter Tryd.func46, Tryd.ntmps46
    go_wp2_with fail
    refine (unhide HL).mono ?_
    rintro e w1 ⟨rfl, k, rfl⟩
    obtain ⟨c0, c1, f0, f1, lt⟩ := (unhide HM0)
    go_wp2_with fail
    exact bodyPost_ret (v := .tuple #[.agg #[.string ⟨#[]⟩, .slice none 0 0], .int .i64 1]) (by simp [results, Tryd.results46, go_sem, c0, c1]) rfl
      (RmPost.mk (unhide HV) (ownR_nil _ _ _) ((belowDrewN (unhide HB0) k).setCell (p := ⟨w.heap.size, 0, none⟩) (Nat.le_refl _) _ |>.setCell (p := ⟨w.heap.size, 1, none⟩) (Nat.le_refl _) _))
  · have hlt : j < s.size := by omega
    have hok : okL cfgH (s.extract 0 j) = true := by
      cases h : okL cfgH (s.extract 0 j) with
      | true => rfl
      | false => exact absurd (.inr ⟨hlt, h⟩) hbad
    have hcut := cutB_at s j hj hlt
    have HL := hide (line_ok (w.heap.size + 1) s cfgH s 0 _ hS.text hS.at_ hS.free (by omega) (by omega) hext j hj hlt hok)
    have e7 : cfgH.size = 7 := rfl
    rw [e7] at HL
    have gB := fun (h : laysOk (cutB 10 (s.extract (j + 1) s.size)) = false) => rm_bad (s.extract 0 j) _ (.inr h)
    have gM := rm_many (s.extract 0 j) (cutB 10 (s.extract (j + 1) s.size)) hok
    have gG := rm_good (s.extract 0 j) (cutB 10 (s.extract (j + 1) s.size)) hok
    rw [← hcut] at gB gM gG
    obtain ⟨cf, hcf⟩ : ∃ cf, (s.extract 0 j).extract 7 (s.extract 0 j).size = cf := ⟨_, rfl⟩
    rw [hcf] at HL gG
    obtain ⟨qs, hqs⟩ : ∃ qs, cutB 10 (s.extract (j + 1) s.size) = qs := ⟨_, rfl⟩
    rw [hqs] at gB gM gG
    have HQS := hide hqs
    have GB := hide gB
    have GM := hide gM
    have GG := hide gG
    have hj1 : j + 1 ≤ s.size := hlt
    clear hb0 hM hS hbad hext hj hok hcut e7 gB gM gG hcf hqs hlt
    go_enter Tryd.func46, Tryd.ntmps46
    go_wp2_with fail
    refine (unhide HL).mono ?_
    rintro e w1 ⟨rfl, ho1, hq1⟩
    rw [Nat.zero_add] at hq1
    have HS1 := hide ((unhide HS0).only ho1 hq1)
    have HM1 := hide ((unhide HM0).only ho1 (by omega))
    have HB1 := hide ((unhide HB0).trans (ho1.below (by simp) (unhide HB0).size))
    clear ho1 hq1 HL HS0 HM0 HB0
    go_wp2_with fail
    go_loopw [7] (fun v wr => ∃ (p : Nat) (ds : List ByteArray), p ≤ s.size ∧ ds.length ≤ p ∧ Hid (Scn (w.heap.size + 1) s p wr) ∧ Hid (Mz w.heap.size wr) ∧ Hid (Below w.heap.size w wr) ∧ Hid (OwnR strE wr (w.heap.size + 2) v ds) ∧
      Hid (laysOk (cutB 10 (s.extract p s.size)) = laysOk qs ∧ ds ++ laysOf (cutB 10 (s.extract p s.size)) = laysOf qs)) (fun _ wr => s.size - posAt (w.heap.size + 1) wr)
    case atStart => exact ⟨j + 1, [], hj1, by simp, HS1, HM1, HB1, hide (ownR_nil _ _ _), hide ⟨by rw [unhide HQS], by rw [unhide HQS]; rfl⟩⟩
    case round =>
      obtain ⟨p, ds, hp, hds, HS, HM, HB, HO, HR⟩ := hrel
      obtain ⟨r, hr⟩ : ∃ r, s.extract p s.size = r := ⟨_, rfl⟩
      have hrz : r.size = s.size - p := by rw [← hr, ByteArray.size_extract]; omega
      have hcur := posAt_of (unhide HS).at_
      have HREST := hide (rest_ok (w.heap.size + 1) 0 s p wr (unhide HS).text (unhide HS).at_ (by omega) hp)
      rw [hr] at HREST HR
      cases hE : emp r with
      | true =>
        have h1 := unhide HR
        rw [cutB_emp r hE, show laysOk [(⟨#[]⟩ : ByteArray)] = true from by rw [laysOk, emp_size]; rfl, show laysOf [(⟨#[]⟩ : ByteArray)] = [] from rfl, List.append_nil] at h1
        obtain ⟨ha, cap, hv⟩ := (unhide HO).form
        subst hv
        have HH := hide h1
        unfold emp at hE
        clear HR h1 hcur
        go_wp2_with fail
        refine (unhide HREST).mono ?_
        rintro e w2 ⟨rfl, k, rfl⟩
        have HB2 := hide (belowDrewN (unhide HB) k)
        have HO2 := hide ((unhide HO).drewN k)
        have HZ := hide (Mz.mk (w := wr.drewN k) (unhide HM).c0 (unhide HM).c1 (unhide HM).f0 (unhide HM).f1 (unhide HM).lt)
        clear HREST HB HO HM HS
        go_wp2_with fail
        refine (impl_layers _ ds.length _ _ (by omega)).mono ?_
        rintro e w3 ⟨rfl, rfl⟩
        obtain ⟨c0, c1, f0, f1, lt⟩ := unhide HZ
        by_cases hc : 1 ≤ ds.length ∧ ds.length ≤ 40
        · rw [decide_eq_true hc.1, decide_eq_true hc.2]
          have hG := unhide GG (unhide HH).1.symm (by rw [← (unhide HH).2]; exact hc)
          rw [← (unhide HH).2] at hG
          have HG := hide hG
          clear hG hc
          go_wp2_with fail
          exact bodyPost_ret (v := .tuple #[.agg #[.string cf, .slice ha ds.length cap], .int .i64 0]) (by simp [results, Tryd.results46, go_sem, c0, c1]) rfl
            (RmPost.mk (unhide HG) (((unhide HO2).setLow (p := ⟨w.heap.size, 0, none⟩) (by simp) _ |>.setLow (p := ⟨w.heap.size, 1, none⟩) (by simp) _).le (by omega)) ((unhide HB2).setCell (p := ⟨w.heap.size, 0, none⟩) (Nat.le_refl _) _ |>.setCell (p := ⟨w.heap.size, 1, none⟩) (Nat.le_refl _) _))
        · have hd : (decide (1 ≤ ds.length) && decide (ds.length ≤ 40)) = false := by
            by_cases h1 : 1 ≤ ds.length
            · rw [decide_eq_true h1, decide_eq_false (by omega)]; rfl
            · rw [decide_eq_false h1]; rfl
          rw [hd]
          have HG := hide (unhide GM (unhide HH).1.symm (by rw [← (unhide HH).2]; exact hc))
          clear hd hc
          go_wp2_with fail
          exact bodyPost_ret (v := .tuple #[.agg #[.string ⟨#[]⟩, .slice none 0 0], .int .i64 2]) (by simp [results, Tryd.results46, go_sem, c0, c1]) rfl
            (RmPost.mk (unhide HG) (ownR_nil _ _ _) ((unhide HB2).setCell (p := ⟨w.heap.size, 0, none⟩) (Nat.le_refl _) _ |>.setCell (p := ⟨w.heap.size, 1, none⟩) (Nat.le_refl _) _))
      | false =>
        obtain ⟨i, hi⟩ : ∃ i, fd 10 10 r.data.toList = i := ⟨_, rfl⟩
        have hE2 := hE
        unfold emp at hE
        by_cases hbad : r.size ≤ i ∨ i < r.size ∧ okL layH (r.extract 0 i) = false
        · have hno : laysOk qs = false := by
            rw [← (unhide HR).1]
            rcases hbad with h | ⟨h, h2⟩
            · rw [cutB_end r (by omega)]; exact hE2
            · rw [cutB_at r i hi h, laysOk_cons _ _ (cutB_ne _), h2]; rfl
          have HG := hide (unhide GB hno)
          have HL := hide (fun k => line_no (w.heap.size + 1) s layH r p (wr.drewN k) (unhide HS).text (unhide HS).at_ (by decide) (by omega) hp hr i hi hbad)
          clear hno hbad HR hE2 hi hr hcur
          go_wp2_with fail
          refine (unhide HREST).mono ?_
          rintro e w2 ⟨rfl, k, rfl⟩
          go_wp2_with fail
          refine (unhide HL k).mono ?_
          rintro e w3 ⟨rfl, k3, rfl⟩
          obtain ⟨c0, c1, f0, f1, lt⟩ := unhide HM
          have HB2 := hide (belowDrewN (belowDrewN (unhide HB) k) k3)
          clear HREST HL HB HO HS
          go_wp2_with fail
          exact bodyPost_ret (v := .tuple #[.agg #[.string ⟨#[]⟩, .slice none 0 0], .int .i64 1]) (by simp [results, Tryd.results46, go_sem, c0, c1]) rfl
            (RmPost.mk (unhide HG) (ownR_nil _ _ _) (by simpa using ((unhide HB2).setCell (p := ⟨w.heap.size, 0, none⟩) (Nat.le_refl _) (.string ⟨#[]⟩) |>.setCell (p := ⟨w.heap.size, 1, none⟩) (Nat.le_refl _) (.slice none 0 0))))
        · have hlt : i < r.size := by omega
          have hok : okL layH (r.extract 0 i) = true := by
            cases h : okL layH (r.extract 0 i) with
            | true => rfl
            | false => exact absurd (.inr ⟨hlt, h⟩) hbad
          have hcut := cutB_at r i hi hlt
          have e6 : layH.size = 6 := rfl
          have HL := hide (fun k => line_ok (w.heap.size + 1) s layH r p (wr.drewN k) (unhide HS).text (unhide HS).at_ (unhide HS).free (by omega) hp hr i hi hlt hok)
          rw [e6] at HL
          have htl : r.extract (i + 1) r.size = s.extract (p + (i + 1)) s.size := by rw [← hr]; exact ext_tail s p i hp
          have hnx := unhide HR
          rw [hcut, laysOk_cons _ _ (cutB_ne _), laysOf_cons _ _ (cutB_ne _), hok, Bool.true_and, htl] at hnx
          generalize (r.extract 0 i).extract 6 (r.extract 0 i).size = x at HL hnx
          have HNX := hide (show laysOk (cutB 10 (s.extract (p + (i + 1)) s.size)) = laysOk qs ∧ (ds ++ [x]) ++ laysOf (cutB 10 (s.extract (p + (i + 1)) s.size)) = laysOf qs from ⟨hnx.1, by rw [← hnx.2]; simp⟩)
          have hpn : p + (i + 1) ≤ s.size := by omega
          clear hbad hok hcut e6 htl hnx hi hr HR hE2 hlt
          go_wp2_with fail
          refine (unhide HREST).mono ?_
          rintro e w2 ⟨rfl, k, rfl⟩
          go_wp2_with fail
          refine (unhide HL k).mono ?_
          rintro e w3 ⟨rfl, ho3, hq3⟩
          have HS3 := hide (((unhide HS).drewN k).only ho3 hq3)
          have HM3 := hide ((Mz.mk (w := wr.drewN k) (unhide HM).c0 (unhide HM).c1 (unhide HM).f0 (unhide HM).f1 (unhide HM).lt).only ho3 (by omega))
          have hb3 := belowDrewN (unhide HB) k
          have HB3 := hide (hb3.trans (ho3.below (by simp) hb3.size))
          have HO3 := hide (((unhide HO).drewN k).only ho3 (by simp))
          have hz3 : w.heap.size + 2 ≤ w3.heap.size := (unhide HS3).lt
          clear ho3 hq3 hb3 HREST HL HS HM HB HO
          go_wp2_with (at_builtin; go_must (refine appR (e := strE) rfl _ _ rfl (unhide HO3) rfl x rfl _ rfl rfl (by omega) hz3 ?_); intro v' w6 hown6 hb6 hg6)
          go_roundw
          case rel => exact ⟨p + (i + 1), ds ++ [x], hpn, by simp; omega, hide ((unhide HS3).keep hb6 (by omega)), hide ((unhide HM3).below hb6 (by omega)), hide ((unhide HB3).trans (hb6.mono (by omega))), hide hown6, HNX⟩
          case measure =>
            have := posAt_of ((unhide HS3).keep hb6 (by omega)).at_
            rw [this, hcur]
            omega
end Go.Proofs.YtnkjdojpegmlcaaDoor
