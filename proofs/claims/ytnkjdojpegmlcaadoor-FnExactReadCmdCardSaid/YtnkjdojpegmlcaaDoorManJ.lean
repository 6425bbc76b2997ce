/- ReadManifest of the specification by its contract. -/
import Derived.Test.YtnkjdojpegmlcaaDoorManI
namespace Go.Proofs.YtnkjdojpegmlcaaDoor
open Go.RowKit Plain
set_option linter.unusedVariables false

namespace Plain
theorem splt_small (m : Nat) (l : List UInt8) : ∀ x ∈ splt m l, x.length ≤ l.length := by
  induction l with
  | nil => intro x hx; simp [splt] at hx; simp [hx]
  | cons c l ih =>
    obtain ⟨h, t, e⟩ := splt_ne m l
    rw [e] at ih
    intro x hx
    rw [splt, e] at hx
    split at hx
    · rcases List.mem_cons.1 hx with rfl | hx
      · simp
      · have := ih x hx; simp; omega
    · rcases List.mem_cons.1 hx with rfl | hx
      · have := ih h (by simp); simp; omega
      · have := ih x (by simp [hx]); simp; omega
theorem cutB_small (s : ByteArray) : ∀ x ∈ cutB 10 s, x.size ≤ s.size := by
  intro x hx
  obtain ⟨l, hl, rfl⟩ := List.mem_map.1 hx
  have := splt_small 10 _ l hl
  rw [len_data] at this
  exact this
theorem cfg_list : cfgH.toList = [99, 111, 110, 102, 105, 103, 32] := by rw [ByteArray.toList_eq]; rfl
theorem lay_list : layH.toList = [108, 97, 121, 101, 114, 32] := by rw [ByteArray.toList_eq]; rfl
theorem okC (p : ByteArray) : (p.size < 7 ∧ okL cfgH p = false) ∨ (7 ≤ p.size ∧ ((p.extract 0 7).toList == [99, 111, 110, 102, 105, 103, 32]) = false ∧ okL cfgH p = false) ∨ (7 ≤ p.size ∧ ((p.extract 0 7).toList == [99, 111, 110, 102, 105, 103, 32]) = true ∧ okL cfgH p = digB (p.extract 7 p.size)) := by
  unfold okL
  rw [cfg_list, show cfgH.size = 7 from rfl]
  by_cases h : 7 ≤ p.size
  · cases h2 : ((p.extract 0 7).toList == [99, 111, 110, 102, 105, 103, 32]) with
    | false => exact .inr (.inl ⟨h, rfl, by simp⟩)
    | true => exact .inr (.inr ⟨h, rfl, by simp [h]⟩)
  · exact .inl ⟨by omega, by simp; omega⟩
theorem okY (p : ByteArray) : (p.size < 6 ∧ okL layH p = false) ∨ (6 ≤ p.size ∧ ((p.extract 0 6).toList == [108, 97, 121, 101, 114, 32]) = false ∧ okL layH p = false) ∨ (6 ≤ p.size ∧ ((p.extract 0 6).toList == [108, 97, 121, 101, 114, 32]) = true ∧ okL layH p = digB (p.extract 6 p.size)) := by
  unfold okL
  rw [lay_list, show layH.size = 6 from rfl]
  by_cases h : 6 ≤ p.size
  · cases h2 : ((p.extract 0 6).toList == [108, 97, 121, 101, 114, 32]) with
    | false => exact .inr (.inl ⟨h, rfl, by simp⟩)
    | true => exact .inr (.inr ⟨h, rfl, by simp [h]⟩)
  · exact .inl ⟨by omega, by simp; omega⟩
/-- A manifest's two cells. -/
structure Mc (M : Nat) (c : ByteArray) (v : Value) (w : World) : Prop where
  c0 : w.cell? ⟨M, 0, none⟩ = some (.string c)
  c1 : w.cell? ⟨M, 1, none⟩ = some v
  f0 : w.frozen? ⟨M, 0, none⟩ = false
  f1 : w.frozen? ⟨M, 1, none⟩ = false
  lt : M < w.heap.size
theorem Mc.below {M B : Nat} {c : ByteArray} {v : Value} {w w' : World} (h : Mc M c v w) (hb : Below B w w') (hB : M < B) : Mc M c v w' :=
  ⟨(hb.cell (p := ⟨M, 0, none⟩) hB).trans h.c0, (hb.cell (p := ⟨M, 1, none⟩) hB).trans h.c1, (hb.frozen (p := ⟨M, 0, none⟩) hB).trans h.f0, (hb.frozen (p := ⟨M, 1, none⟩) hB).trans h.f1, Nat.lt_of_lt_of_le h.lt hb.size⟩
theorem Mc.new (w : World) (c : ByteArray) (v : Value) (T : TypeId) : Mc w.heap.size c v (w.alloc (.cells #[.string c, v] T)) := ⟨by simp [go_sem], by simp [go_sem], by simp [go_sem], by simp [go_sem], by simp⟩
theorem Mc.set0 {M : Nat} {c : ByteArray} {v : Value} {w : World} (h : Mc M c v w) (x : ByteArray) : Mc M x v (w.setCell ⟨M, 0, none⟩ (.string x)) :=
  ⟨World.cell?_setCell_same _ _ _ h.c0, (World.cell?_setCell_other _ ⟨M, 0, none⟩ ⟨M, 1, none⟩ _ (by simp)).trans h.c1, by simpa using h.f0, by simpa using h.f1, by simpa using h.lt⟩
theorem Mc.set1 {M : Nat} {c : ByteArray} {v : Value} {w : World} (h : Mc M c v w) (x : Value) : Mc M c x (w.setCell ⟨M, 1, none⟩ x) :=
  ⟨(World.cell?_setCell_other _ ⟨M, 1, none⟩ ⟨M, 0, none⟩ _ (by simp)).trans h.c0, World.cell?_setCell_same _ _ _ h.c1, by simpa using h.f0, by simpa using h.f1, by simpa using h.lt⟩
theorem laysOk_drop (ps : List ByteArray) (k : Nat) (h : k + 1 < ps.length) : laysOk (ps.drop k) = (okL layH (ps[k]'(by omega)) && laysOk (ps.drop (k + 1))) := by
  rw [List.drop_eq_getElem_cons (by omega), laysOk_cons _ _ (by intro e; have := congrArg List.length e; simp at this; omega)]
theorem laysOf_drop (ps : List ByteArray) (k : Nat) (h : k + 1 < ps.length) : laysOf (ps.drop k) = (ps[k]'(by omega)).extract 6 (ps[k]'(by omega)).size :: laysOf (ps.drop (k + 1)) := by
  rw [List.drop_eq_getElem_cons (by omega), laysOf_cons _ _ (by intro e; have := congrArg List.length e; simp at this; omega)]
theorem drop_last (ps : List ByteArray) (m : Nat) (h : ps.length = m + 1) : ps.drop m = [ps[m]'(by omega)] := by
  rw [List.drop_eq_getElem_cons (by omega), List.drop_of_length_le (by omega)]
end Plain

/-- What the reader has of the lines ahead of line k. -/
def RmRel (ps : List ByteArray) (k : Nat) (cf : ByteArray) (v : Value) (ds : List ByteArray) : Prop :=
  (k = 0 ∧ cf = ⟨#[]⟩ ∧ v = .slice none 0 0 ∧ ds = []) ∨ (1 ≤ k ∧ ∃ p0 qs, ps = p0 :: qs ∧ okL cfgH p0 = true ∧ cf = p0.extract 7 p0.size ∧ laysOk (ps.drop k) = laysOk qs ∧ ds ++ laysOf (ps.drop k) = laysOf qs)
theorem rmRel_bad0 {ps : List ByteArray} (h : 0 < ps.length) (hb : okL cfgH ps[0] = false) : rmV ps = (⟨#[]⟩, [], 1) := by
  cases ps with
  | nil => simp at h
  | cons p qs => exact rm_bad p qs (.inl hb)
theorem rmRel_one {ps : List ByteArray} (h : ps.length = 1) : rmV ps = (⟨#[]⟩, [], 1) := by
  cases ps with
  | nil => simp at h
  | cons p qs =>
    have : qs = [] := by cases qs with
      | nil => rfl
      | cons a b => simp at h
    subst this
    exact rm_bad p [] (.inr rfl)
theorem rmRel_last {ps : List ByteArray} {m : Nat} (h : ps.length = m + 1) (hm : 1 ≤ m) (hb : emp (ps[m]'(by omega)) = false) : rmV ps = (⟨#[]⟩, [], 1) := by
  cases ps with
  | nil => simp at h
  | cons p qs =>
    refine rm_bad p qs (.inr ?_)
    cases hq : laysOk qs with
    | false => rfl
    | true =>
      obtain ⟨hk, he⟩ := laysOk_last qs hq
      simp at h
      obtain ⟨m', rfl⟩ : ∃ m', m = m' + 1 := ⟨m - 1, by omega⟩
      simp only [List.getElem_cons_succ] at hb
      have e : qs.length - 1 = m' := by omega
      simp only [e] at he
      rw [he] at hb
      exact absurd hb (by simp)
theorem RmRel.bad {ps : List ByteArray} {k : Nat} {cf : ByteArray} {v : Value} {ds : List ByteArray} (h : RmRel ps k cf v ds) (hk : 1 ≤ k) (hk2 : k + 1 < ps.length) (hb : okL layH (ps[k]'(by omega)) = false) : rmV ps = (⟨#[]⟩, [], 1) := by
  rcases h with ⟨e, _⟩ | ⟨_, p0, qs, e, h1, h2, h3, h4⟩
  · omega
  · have : laysOk qs = false := by rw [← h3, laysOk_drop ps k hk2, hb]; rfl
    rw [e]
    exact rm_bad p0 qs (.inr this)
theorem RmRel.next {ps : List ByteArray} {k : Nat} {cf : ByteArray} {v v' : Value} {ds : List ByteArray} (h : RmRel ps k cf v ds) (hk : 1 ≤ k) (hk2 : k + 1 < ps.length) (hb : okL layH (ps[k]'(by omega)) = true) : RmRel ps (k + 1) cf v' (ds ++ [(ps[k]'(by omega)).extract 6 (ps[k]'(by omega)).size]) := by
  rcases h with ⟨e, _⟩ | ⟨_, p0, qs, e, h1, h2, h3, h4⟩
  · omega
  · refine .inr ⟨by omega, p0, qs, e, h1, h2, ?_, ?_⟩
    · rw [← h3, laysOk_drop ps k hk2, hb]; rfl
    · rw [← h4, laysOf_drop ps k hk2]; simp
theorem RmRel.first {ps : List ByteArray} {v : Value} (h : 0 < ps.length) (hb : okL cfgH ps[0] = true) : RmRel ps 1 (ps[0].extract 7 ps[0].size) v [] := by
  cases ps with
  | nil => simp at h
  | cons p qs => exact .inr ⟨by omega, p, qs, rfl, hb, rfl, rfl, rfl⟩
theorem RmRel.fin {ps : List ByteArray} {m : Nat} {cf : ByteArray} {v : Value} {ds : List ByteArray} (h : RmRel ps m cf v ds) (hm : 1 ≤ m) (hl : ps.length = m + 1) (hb : emp (ps[m]'(by omega)) = true) :
    digB cf = true ∧ (∀ l ∈ ds, digB l = true) ∧ (1 ≤ ds.length ∧ ds.length ≤ 40 → rmV ps = (cf, ds, 0)) ∧ (¬ (1 ≤ ds.length ∧ ds.length ≤ 40) → rmV ps = (⟨#[]⟩, [], 2)) := by
  rcases h with ⟨e, _⟩ | ⟨_, p0, qs, e, h1, h2, h3, h4⟩
  · omega
  · rw [drop_last ps m hl] at h3 h4
    have hq : laysOk qs = true := by rw [← h3]; exact hb
    have hd : ds = laysOf qs := by rw [← h4]; simp [laysOf]
    refine ⟨?_, ?_, ?_, ?_⟩
    · rw [h2]; exact (okL_parts h1).2.2
    · rw [hd]; exact laysOf_dig qs hq
    · intro hc; rw [e, h2, hd]; rw [hd] at hc; exact rm_good p0 qs h1 hq hc
    · intro hc; rw [e]; rw [hd] at hc; exact rm_many p0 qs h1 hq hc

/-- What ReadManifest leaves, by the text's lines. -/
def RmQ (ps : List ByteArray) (w : World) (e : Ending) (w' : World) : Prop := ∃ c ls k v, rmV ps = (c, ls, k) ∧ e = .returned (.tuple #[.agg #[.string c, v], .int .i64 k]) ∧ OwnR strE w' w.heap.size v ls ∧ Below w.heap.size w w'
theorem RmQ.mk {ps : List ByteArray} {w w' : World} {c : ByteArray} {v : Value} {ls : List ByteArray} {k : Int} (h : rmV ps = (c, ls, k)) (ho : OwnR strE w' w.heap.size v ls) (hb : Below w.heap.size w w') : RmQ ps w (.returned (.tuple #[.agg #[.string c, v], .int .i64 k])) w' := ⟨c, ls, k, v, h, rfl, ho, hb⟩

set_option maxRecDepth 10000 in
set_option maxHeartbeats 8000000 in
theorem spec_ReadManifest (s : ByteArray) (w : World) (hs : s.size ≤ 10000000) :
    Calls Tryd.prog 26 #[.string s] w (RmPost s w) := by
  have hb0 := belOn (bel1 w (.cells #[.string ⟨#[]⟩, .slice none 0 0] 51)) (bel1 _ (.cells #[.string ⟨#[]⟩, .slice none 0 0] 51))
  have hM : Mz w.heap.size ((w.alloc (.cells #[.string ⟨#[]⟩, .slice none 0 0] 51)).alloc (.cells #[.string ⟨#[]⟩, .slice none 0 0] 51)) := (Mz.new w _).below (bel1 _ _) (by simp)
  have hN : Mz (w.heap.size + 1) ((w.alloc (.cells #[.string ⟨#[]⟩, .slice none 0 0] 51)).alloc (.cells #[.string ⟨#[]⟩, .slice none 0 0] 51)) := by
    have := Mz.new (w.alloc (.cells #[.string ⟨#[]⟩, .slice none 0 0] 51)) 51
    simpa using this
  have HB0 := hide hb0
  have HM0 := hide hM
  have HN0 := hide hN
  have HC := hide (l3Cut_calls s 10 ((w.alloc (.cells #[.string ⟨#[]⟩, .slice none 0 0] 51)).alloc (.cells #[.string ⟨#[]⟩, .slice none 0 0] 51)) hs (by decide))
  have hmem : ∀ x ∈ cutB 10 s, x.size ≤ s.size := fun x hx => cutB_small s x hx
  have hne := cutB_ne s
  have hlen : (cutB 10 s).length ≤ s.size + 1 := by unfold cutB; rw [List.length_map, ← len_data]; exact splt_len 10 _
  have HPOST : ∀ e w', (∃ ps, ps = cutB 10 s ∧ ∃ c ls k v, rmV ps = (c, ls, k) ∧ e = .returned (.tuple #[.agg #[.string c, v], .int .i64 k]) ∧ OwnR strE w' w.heap.size v ls ∧ Below w.heap.size w w') → RmPost s w e w' := by
    rintro e w' ⟨ps, rfl, c, ls, k, v, h1, rfl, h2, h3⟩
    exact RmPost.mk h1 h2 h3
  generalize cutB 10 s = ps at HC hmem hne hlen HPOST
  obtain ⟨m, hm⟩ : ∃ m, ps.length = m + 1 := ⟨ps.length - 1, by have := List.length_pos_iff.2 hne; omega⟩
  have hmz : m ≤ 10000000 := by omega
  have HME := hide hmem
  have HPO := hide HPOST
  have HLE := hide hm
  clear hb0 hM hN hmem hne hlen HPOST
  refine Calls.mono (R := RmQ ps w) ?_ (fun e w' ⟨c, ls, k, v, h⟩ => unhide HPO e w' ⟨ps, rfl, c, ls, k, v, h⟩)
  go_enter Tryd.func26, Tryd.ntmps26
  go_wp2_with fail
  refine (unhide HC).mono ?_
  rintro e w3 ⟨v, rfl, hown, hb3⟩
  obtain ⟨al, cap, hv⟩ := hown.form
  subst hv
  have HB3 := hide (belOn (unhide HB0) hb3)
  have HM3 := hide ((unhide HM0).below hb3 (by simp; omega))
  have HN3 := hide ((unhide HN0).below hb3 (by simp))
  have HP3 := hide hown.at.strs
  have hz3 : w.heap.size + 2 ≤ w3.heap.size := by have := hb3.size; simp at this; omega
  rw [unhide HLE]
  clear hb3 hown HB0 HM0 HN0 HC
  have e1 : ((m + 1 : Nat) : Int) - 1 = (m : Int) := by omega
  by_cases hm1 : 1 ≤ m
  · obtain ⟨g, o, eg, lg, pg⟩ := unhide HP3 m (by rw [unhide HLE]; omega)
    have i0 : (0 : Int) ≤ (m : Int) := by omega
    have i1 : (m : Int) < (m : Int) + 1 := by omega
    cases hE : emp (ps[m]'(by rw [unhide HLE]; omega)) with
    | false =>
      have HV := hide (rmRel_last (unhide HLE) hm1 hE)
      obtain ⟨c0, c1, f0, f1, lt⟩ := unhide HM3
      obtain ⟨n0, n1, g0, g1, ltn⟩ := unhide HN3
      unfold emp at hE
      generalize ps[m]'(by rw [unhide HLE]; omega) = x at pg hE
      subst eg
      go_wp2_with fail
      exact bodyPost_ret (v := .tuple #[.agg #[.string ⟨#[]⟩, .slice none 0 0], .int .i64 1]) (by simp [results, Tryd.results26, go_sem, c0, c1]) rfl
        (RmQ.mk (unhide HV) (ownR_nil _ _ _) ((unhide HB3).setCell (p := ⟨w.heap.size, 0, none⟩) (Nat.le_refl _) _ |>.setCell (p := ⟨w.heap.size, 1, none⟩) (Nat.le_refl _) _))
    | true =>
      have HE := hide hE
      unfold emp at hE
      generalize hxx : ps[m]'(by rw [unhide HLE]; omega) = x at pg hE
      clear hxx
      subst eg
      have HB4 := hide (bel1 w3 (.cells #[.string ⟨#[]⟩, .slice none 0 0] 51))
      have HC4 := hide (Mc.new w3 ⟨#[]⟩ (.slice none 0 0) 51)
      go_wp2_with fail
      clear pg lg hE
      go_loopw [8] (fun i wr => ∃ (k : Nat) (cf : ByteArray) (v : Value) (ds : List ByteArray), i = .int .i64 k ∧ k ≤ m ∧ ds.length ≤ k ∧ Hid (Mc w3.heap.size cf v wr) ∧ Hid (OwnR strE wr (w3.heap.size + 1) v ds) ∧ Hid (Below w3.heap.size w3 wr) ∧ Hid (RmRel ps k cf v ds)) (fun i _ => m - (intOf i).toNat)
      case atStart => exact ⟨0, ⟨#[]⟩, .slice none 0 0, [], rfl, by omega, by simp, HC4, hide (ownR_nil _ _ _), HB4, hide (.inl ⟨rfl, rfl, rfl, rfl⟩)⟩
      case round =>
        obtain ⟨k, cf, v, ds, rfl, hk, hds, HMC, HO, HB, HR⟩ := hrel
        have HM5 := hide ((unhide HM3).below (unhide HB) (by omega))
        have HN5 := hide ((unhide HN3).below (unhide HB) (by omega))
        have HBW := hide (belOn (unhide HB3) (unhide HB))
        by_cases hkm : k < m
        · obtain ⟨g5, o5, e5, l5, p5⟩ := (unhide HP3).below (unhide HB) k (by rw [unhide HLE]; omega)
          have hx5 : (ps[k]'(by rw [unhide HLE]; omega)).size ≤ 10000000 := by have := unhide HME (ps[k]'(by rw [unhide HLE]; omega)) (by simp); omega
          obtain ⟨rfl, rfl⟩ : g = g5 ∧ o = o5 := by simpa using e5
          have j0 : (0 : Int) ≤ (k : Int) := by omega
          have j1 : (k : Int) < (m : Int) + 1 := by omega
          by_cases hk0 : k = 0
          · subst hk0
            have hl0 : 0 < ps.length := by rw [unhide HLE]; omega
            have hbad := rmRel_bad0 (ps := ps) hl0
            have hfst := RmRel.first (ps := ps) (v := v) hl0
            have hcase := okC (ps[0]'(by rw [unhide HLE]; omega))
            have hds0 : ds = [] := by rcases unhide HR with ⟨_, _, _, h⟩ | ⟨h, _⟩; exact h; omega
            subst hds0
            generalize ps[0]'(by rw [unhide HLE]; omega) = x at p5 hx5 hbad hfst hcase
            have HBAD := hide hbad
            have HFST := hide hfst
            rw [Nat.add_zero] at p5
            clear hbad hfst HR
            rcases hcase with ⟨q1, q2⟩ | ⟨q1, q2, q3⟩ | ⟨q1, q2, q3⟩
            · have HBB := hide (unhide HBAD q2)
              obtain ⟨c0, c1, f0, f1, lt⟩ := unhide HM5
              obtain ⟨n0, n1, g0, g1, ltn⟩ := unhide HN5
              clear q2 HBAD
              go_wp2_with fail
              exact bodyPost_ret (v := .tuple #[.agg #[.string ⟨#[]⟩, .slice none 0 0], .int .i64 1]) (by simp [results, Tryd.results26, go_sem, c0, c1]) rfl
                (RmQ.mk (unhide HBB) (ownR_nil _ _ _) ((unhide HBW).setCell (p := ⟨w.heap.size, 0, none⟩) (Nat.le_refl _) _ |>.setCell (p := ⟨w.heap.size, 1, none⟩) (Nat.le_refl _) _))
            · have HBB := hide (unhide HBAD q3)
              obtain ⟨c0, c1, f0, f1, lt⟩ := unhide HM5
              obtain ⟨n0, n1, g0, g1, ltn⟩ := unhide HN5
              have q4 : (7 : Int) ≤ (x.size : Int) := by omega
              clear q3 HBAD
              go_wp2_with fail
              exact bodyPost_ret (v := .tuple #[.agg #[.string ⟨#[]⟩, .slice none 0 0], .int .i64 1]) (by simp [results, Tryd.results26, go_sem, c0, c1]) rfl
                (RmQ.mk (unhide HBB) (ownR_nil _ _ _) ((unhide HBW).setCell (p := ⟨w.heap.size, 0, none⟩) (Nat.le_refl _) _ |>.setCell (p := ⟨w.heap.size, 1, none⟩) (Nat.le_refl _) _))
            · have q4 : (7 : Int) ≤ (x.size : Int) := by omega
              obtain ⟨y, hy⟩ : ∃ y, x.extract 7 x.size = y := ⟨_, rfl⟩
              have hyz : y.size ≤ 10000000 := by rw [← hy, ByteArray.size_extract]; omega
              cases hD : digB (x.extract 7 x.size) with
              | false =>
                have HBB := hide (unhide HBAD (q3.trans hD))
                obtain ⟨c0, c1, f0, f1, lt⟩ := unhide HM5
                obtain ⟨n0, n1, g0, g1, ltn⟩ := unhide HN5
                rw [hy] at hD
                have HDD := hide hD
                have HY := hide hy
                clear q3 HBAD hD hy
                go_wp2_with fail
                rw [unhide HY]
                refine (spec_DigestOk y _ (by omega)).mono ?_
                rintro e w5 ⟨rfl, rfl⟩
                rw [unhide HDD]
                go_wp2_with fail
                exact bodyPost_ret (v := .tuple #[.agg #[.string ⟨#[]⟩, .slice none 0 0], .int .i64 1]) (by simp [results, Tryd.results26, go_sem, c0, c1]) rfl
                  (RmQ.mk (unhide HBB) (ownR_nil _ _ _) ((unhide HBW).setCell (p := ⟨w.heap.size, 0, none⟩) (Nat.le_refl _) _ |>.setCell (p := ⟨w.heap.size, 1, none⟩) (Nat.le_refl _) _))
              | true =>
                have HOK := hide (q3.trans hD)
                rw [hy] at hD
                have HDD := hide hD
                have HY := hide hy
                clear q3 HBAD hD hy
                go_wp2_with fail
                rw [unhide HY]
                refine (spec_DigestOk y _ (by omega)).mono ?_
                rintro e w5 ⟨rfl, rfl⟩
                rw [unhide HDD]
                obtain ⟨m0, m1, y0, y1, mlt⟩ := unhide HMC
                have HR2 := hide (unhide HFST (unhide HOK))
                go_wp2_with fail
                go_roundw
                case rel => exact ⟨1, _, v, [], by go_num, by omega, by simp, hide ((unhide HMC).set0 _), hide ((unhide HO).setLow (p := ⟨w3.heap.size, 0, none⟩) (by simp) _), hide ((unhide HB).setCell (p := ⟨w3.heap.size, 0, none⟩) (Nat.le_refl _) _), HR2⟩
                case measure => simp [intOf]; omega
          · have hb0 : ((k : Int) == 0) = false := by simpa using hk0
            have hk1 : 1 ≤ k := by omega
            have hkl : k + 1 < ps.length := by rw [unhide HLE]; omega
            have hbad := (unhide HR).bad hk1 hkl
            have hnxt := fun v' => (unhide HR).next (v' := v') hk1 hkl
            have hcase := okY (ps[k]'(by rw [unhide HLE]; omega))
            generalize ps[k]'(by rw [unhide HLE]; omega) = x at p5 hx5 hbad hnxt hcase
            have HBAD := hide hbad
            have HNXT := hide hnxt
            clear hbad hnxt HR
            rcases hcase with ⟨q1, q2⟩ | ⟨q1, q2, q3⟩ | ⟨q1, q2, q3⟩
            · have HBB := hide (unhide HBAD q2)
              obtain ⟨c0, c1, f0, f1, lt⟩ := unhide HM5
              obtain ⟨n0, n1, g0, g1, ltn⟩ := unhide HN5
              clear q2 HBAD
              go_wp2_with fail
              exact bodyPost_ret (v := .tuple #[.agg #[.string ⟨#[]⟩, .slice none 0 0], .int .i64 1]) (by simp [results, Tryd.results26, go_sem, c0, c1]) rfl
                (RmQ.mk (unhide HBB) (ownR_nil _ _ _) ((unhide HBW).setCell (p := ⟨w.heap.size, 0, none⟩) (Nat.le_refl _) _ |>.setCell (p := ⟨w.heap.size, 1, none⟩) (Nat.le_refl _) _))
            · have HBB := hide (unhide HBAD q3)
              obtain ⟨c0, c1, f0, f1, lt⟩ := unhide HM5
              obtain ⟨n0, n1, g0, g1, ltn⟩ := unhide HN5
              have q4 : (6 : Int) ≤ (x.size : Int) := by omega
              clear q3 HBAD
              go_wp2_with fail
              exact bodyPost_ret (v := .tuple #[.agg #[.string ⟨#[]⟩, .slice none 0 0], .int .i64 1]) (by simp [results, Tryd.results26, go_sem, c0, c1]) rfl
                (RmQ.mk (unhide HBB) (ownR_nil _ _ _) ((unhide HBW).setCell (p := ⟨w.heap.size, 0, none⟩) (Nat.le_refl _) _ |>.setCell (p := ⟨w.heap.size, 1, none⟩) (Nat.le_refl _) _))
            · have q4 : (6 : Int) ≤ (x.size : Int) := by omega
              obtain ⟨y, hy⟩ : ∃ y, x.extract 6 x.size = y := ⟨_, rfl⟩
              have hyz : y.size ≤ 10000000 := by rw [← hy, ByteArray.size_extract]; omega
              cases hD : digB (x.extract 6 x.size) with
              | false =>
                have HBB := hide (unhide HBAD (q3.trans hD))
                obtain ⟨c0, c1, f0, f1, lt⟩ := unhide HM5
                obtain ⟨n0, n1, g0, g1, ltn⟩ := unhide HN5
                rw [hy] at hD
                have HDD := hide hD
                have HY := hide hy
                clear q3 HBAD hD hy
                go_wp2_with fail
                rw [unhide HY]
                refine (spec_DigestOk y _ (by omega)).mono ?_
                rintro e w5 ⟨rfl, rfl⟩
                rw [unhide HDD]
                go_wp2_with fail
                exact bodyPost_ret (v := .tuple #[.agg #[.string ⟨#[]⟩, .slice none 0 0], .int .i64 1]) (by simp [results, Tryd.results26, go_sem, c0, c1]) rfl
                  (RmQ.mk (unhide HBB) (ownR_nil _ _ _) ((unhide HBW).setCell (p := ⟨w.heap.size, 0, none⟩) (Nat.le_refl _) _ |>.setCell (p := ⟨w.heap.size, 1, none⟩) (Nat.le_refl _) _))
              | true =>
                have HOK := hide (q3.trans hD)
                rw [hy] at hD
                have HDD := hide hD
                have HY := hide hy
                clear q3 HBAD hD hy
                go_wp2_with fail
                rw [unhide HY]
                refine (spec_DigestOk y _ (by omega)).mono ?_
                rintro e w5 ⟨rfl, rfl⟩
                rw [unhide HDD]
                obtain ⟨m0, m1, y0, y1, mlt⟩ := unhide HMC
                have hL2 := hide (show w3.heap.size + 1 ≤ wr.drew.heap.size from mlt)
                go_wp2_with fail
                go_region_law (refine stepR (e := strE) rfl _ _ rfl (w := wr.drew) (OwnR.drewN (unhide HO) 1) (by simp [Act.eval]) (x.extract 6 x.size) rfl _ (by simp [Act.eval]) rfl (by omega) (unhide hL2) ?_; intro v' w6 hown6 hb6; obtain ⟨av, cv, hv⟩ := hown6.form; subst hv; rw [show (ds ++ [x.extract 6 x.size]).length = ds.length + 1 from by simp] at hown6; obtain ⟨z0, z1, x0, x1, zlt⟩ := (Mc.below (w := wr.drew) ⟨m0, m1, y0, y1, mlt⟩ hb6 (by omega)))
                all_goals (try go_wp2_with fail)
                all_goals exact ⟨⟨k + 1, cf, .slice av (ds.length + 1) cv, ds ++ [x.extract 6 x.size], by go_num, by omega, by simp; omega, hide (Mc.set1 ⟨z0, z1, x0, x1, zlt⟩ _), hide (hown6.setLow (p := ⟨w3.heap.size, 1, none⟩) (by simp) _), hide (((belDrew (unhide HB)).trans (hb6.mono (by omega))).setCell (p := ⟨w3.heap.size, 1, none⟩) (Nat.le_refl _) _), hide (unhide HNXT _ (unhide HOK))⟩, by simp [intOf]; omega⟩
        · obtain rfl : k = m := by omega
          obtain ⟨hd1, hd2, hG, hMn⟩ := (unhide HR).fin hm1 (unhide HLE) (unhide HE)
          obtain ⟨av, cv, hv⟩ := (unhide HO).form
          subst hv
          obtain ⟨m0, m1, y0, y1, mlt⟩ := unhide HMC
          have HD1 := hide hd1
          have HD2 := hide hd2
          have hz1 := digB_71 hd1
          have hcfz : cf.size ≤ 71 := by omega
          by_cases hc : 1 ≤ ds.length ∧ ds.length ≤ 40
          · have HG := hide (hG hc)
            have HBT := hide (manB_mk hd1 hc.1 hc.2 hd2)
            clear hG hMn hd1 hd2 hz1 HR
            go_wp2_with fail
            refine (spec_manifestOk cf av ds.length cv ds _ (by omega) rfl (by omega) (fun l hl => by have := digB_71 (unhide HD2 l hl); omega) (unhide HO).at.strs).mono ?_
            rintro e w6 ⟨rfl, hb6⟩
            rw [unhide HBT]
            obtain ⟨c0, c1, f0, f1, lt⟩ := (unhide HM5).below hb6 (unhide HM5).lt
            obtain ⟨q0, q1, u0, u1, qlt⟩ := (unhide HMC).below hb6 (unhide HMC).lt
            have hne : w.heap.size ≠ w3.heap.size := by omega
            have HB6 := hide (belOn (unhide HBW) hb6)
            have HO6 := hide ((unhide HO).keep hb6)
            clear m0 m1 y0 y1 mlt hb6 HMC HM5 HN5
            go_wp2_with fail
            exact bodyPost_ret (v := .tuple #[.agg #[.string cf, .slice av ds.length cv], .int .i64 0]) (by simp [results, Tryd.results26, go_sem, c0, c1]) rfl
              (RmQ.mk (unhide HG) (((unhide HO6).setLow (p := ⟨w.heap.size, 0, none⟩) (by simp; omega) _ |>.setLow (p := ⟨w.heap.size, 1, none⟩) (by simp; omega) _).le (by omega)) ((unhide HB6).setCell (p := ⟨w.heap.size, 0, none⟩) (Nat.le_refl _) _ |>.setCell (p := ⟨w.heap.size, 1, none⟩) (Nat.le_refl _) _))
          · have HG := hide (hMn hc)
            have hBF : manB cf ds = false := by
              unfold manB
              by_cases h1 : 1 ≤ ds.length
              · rw [decide_eq_false (show ¬ ds.length ≤ 40 by omega)]; simp
              · rw [decide_eq_false h1]; simp
            have HBT := hide hBF
            clear hG hMn hd1 hd2 hz1 HR hBF
            go_wp2_with fail
            refine (spec_manifestOk cf av ds.length cv ds _ (by omega) rfl (by omega) (fun l hl => by have := digB_71 (unhide HD2 l hl); omega) (unhide HO).at.strs).mono ?_
            rintro e w6 ⟨rfl, hb6⟩
            rw [unhide HBT]
            obtain ⟨c0, c1, f0, f1, lt⟩ := (unhide HM5).below hb6 (unhide HM5).lt
            obtain ⟨n0, n1, g0, g1, ltn⟩ := (unhide HN5).below hb6 (unhide HN5).lt
            have HB6 := hide (belOn (unhide HBW) hb6)
            clear m0 m1 y0 y1 mlt hb6 HMC HM5 HN5
            go_wp2_with fail
            exact bodyPost_ret (v := .tuple #[.agg #[.string ⟨#[]⟩, .slice none 0 0], .int .i64 2]) (by simp [results, Tryd.results26, go_sem, c0, c1]) rfl
              (RmQ.mk (unhide HG) (ownR_nil _ _ _) ((unhide HB6).setCell (p := ⟨w.heap.size, 0, none⟩) (Nat.le_refl _) _ |>.setCell (p := ⟨w.heap.size, 1, none⟩) (Nat.le_refl _) _))
  · obtain rfl : m = 0 := by omega
    have HV := hide (rmRel_one (unhide HLE))
    obtain ⟨c0, c1, f0, f1, lt⟩ := unhide HM3
    obtain ⟨n0, n1, g0, g1, ltn⟩ := unhide HN3
    go_wp2_with fail
    exact bodyPost_ret (v := .tuple #[.agg #[.string ⟨#[]⟩, .slice none 0 0], .int .i64 1]) (by simp [results, Tryd.results26, go_sem, c0, c1]) rfl
      (RmQ.mk (unhide HV) (ownR_nil _ _ _) ((unhide HB3).setCell (p := ⟨w.heap.size, 0, none⟩) (Nat.le_refl _) _ |>.setCell (p := ⟨w.heap.size, 1, none⟩) (Nat.le_refl _) _))
end Go.Proofs.YtnkjdojpegmlcaaDoor
