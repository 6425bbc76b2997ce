/- Whole of the specification. -/
import Derived.Test.YtnkjdojpegmlcaaWhJ
namespace Go.Proofs.Ytnkjdojpegmlcaa
open Go.RowKit Go.Maps Plain
set_option linter.unusedVariables false

/-- Numbers as elements. -/
def i64W : Elem Int where
  E := 2
  S := 44
  n := 1
  bytes := 8
  zero := .int .i64 0
  enc := fun x => [.int .i64 x]
  hund := Try.underlying44
  hinfo := by kernel_rfl
  hz := rfl
  hn := by decide
  hb := by decide
  hlen := fun _ => rfl
  hone := fun x u hu => by simp at hu; subst hu; rfl
namespace Plain
theorem RowAt.intW {W : World} {a : Option Addr} {xs : List Int} (h : RowAt i64W W a xs) (i : Nat) (hi : i < xs.length) : ∃ g, a = some ⟨g, 0, none⟩ ∧ g < W.heap.size ∧ W.cell? ⟨g, i, none⟩ = some (.int .i64 xs[i]) := by
  obtain ⟨g, e1, hl, h1⟩ := h i hi
  have := (h1 0 (by decide)).1
  rw [show i * i64W.n + 0 = i from Nat.mul_one i] at this
  exact ⟨g, e1, hl, this⟩
/-- A row stays while another one, of other elements, grows. -/
theorem OwnR.besides {α β : Type} {e : Elem α} {e' : Elem β} {W w' : World} {B B' : Nat} {v v' : Value} {xs : List α} {ys : List β} {o : Obj} (h : OwnR e W B v xs) (ho : OwnR e' W B' v' ys) (hne : e.E ≠ e'.E) (hg : (W.alloc o).grownBy w' v'.ownBlock) : OwnR e w' B v xs := by
  refine ⟨h.1, ?_⟩
  rcases h.2 with ⟨a, c⟩ | ⟨g, cap, cur, a, c, d, r⟩
  · exact .inl ⟨a, c⟩
  · have hl : g < W.heap.size := by
      rcases Nat.lt_or_ge g W.heap.size with q | q
      · exact q
      · rw [Array.getElem?_eq_none q] at d; cases d
    refine .inr ⟨g, cap, cur, a, c, ?_, r⟩
    rw [hg.block g (by simp; omega) ?_, Below.heap_alloc W o g hl]
    · exact d
    · intro q
      rcases ho.2 with ⟨e1, _⟩ | ⟨g2, cap2, cur2, e1, _, d2, _⟩
      · rw [e1] at q; cases q
      · rw [e1] at q
        have : g = g2 := Option.some.inj q
        subst this
        rw [d] at d2
        have := Option.some.inj d2
        injection this with _ e2
        exact hne e2
/-- The two lists of what is known. -/
structure Two (W : World) (B : Nat) (va vt : Value) (L : List (Int × ByteArray)) : Prop where
  a : OwnR i64W W B va (L.map (·.1))
  t : OwnR strE W B vt (L.map (·.2))
theorem Two.keep {W W' : World} {B : Nat} {va vt : Value} {L : List (Int × ByteArray)} (h : Two W B va vt L) (hb : Below W.heap.size W W') : Two W' B va vt L := ⟨h.a.keep hb, h.t.keep hb⟩
theorem Two.form {W : World} {B : Nat} {va vt : Value} {L : List (Int × ByteArray)} (h : Two W B va vt L) : ∃ a c a' c', va = .slice a L.length c ∧ vt = .slice a' L.length c' := by
  obtain ⟨a, c, e⟩ := h.a.form
  obtain ⟨a', c', e'⟩ := h.t.form
  rw [List.length_map] at e e'
  exact ⟨a, c, a', c', e, e'⟩
theorem scn_step (a : Int) (x : ByteArray) (L : List (Int × ByteArray)) (q : Nat) (h : q < L.length) (t : Bool) : scn a x (L.drop q) t = if (L[q]).1 = a then (if (L[q]).2 = x then scn a x (L.drop (q + 1)) true else none) else scn a x (L.drop (q + 1)) t := by
  rw [List.drop_eq_getElem_cons h, scn]
theorem cat_step (a : Int) (L : List (Int × ByteArray)) (q : Nat) (h : q < L.length) (s : ByteArray) : cat a (L.drop q) s = if (L[q]).1 = a then cat a (L.drop (q + 1)) (s ++ (L[q]).2) else cat a (L.drop (q + 1)) s := by
  rw [List.drop_eq_getElem_cons h, cat]
theorem ShortL.mem {L : List (Int × ByteArray)} (h : ShortL L) (hn : (L.map (·.1)).Nodup) {y : Int × ByteArray} (hy : y ∈ L) : y.2.size ≤ 20000 := by
  have : lk L y.1 = some y.2 := by
    clear h
    induction L with
    | nil => cases hy
    | cons z L ih =>
      rw [List.map_cons, List.nodup_cons] at hn
      rw [lk_cons]
      rcases List.mem_cons.1 hy with rfl | hy
      · rw [if_pos rfl]
      · rw [if_neg (fun e => hn.1 (by rw [e]; exact List.mem_map.2 ⟨y, hy, rfl⟩)), ih hn.2 hy]
  exact h _ _ this
theorem strW_add {a b : ByteArray} (W : World) (h : a.size + b.size ≤ 1000000000000) : (Op.stringOp .add a b).run Try.prog W = .ok (.string (a ++ b)) W := by
  have h1 : ¬ ((a.size + b.size : Nat) : Int) > IntKind.i64.max := by rw [show IntKind.i64.max = 9223372036854775807 from rfl]; omega
  unfold Op.stringOp
  simp only [if_neg h1]
  rfl
end Plain

set_option maxRecDepth 10000 in
set_option maxHeartbeats 8000000 in
theorem spec_Whole (ad : Option Addr) (n c0 : Nat) (ps : List ByteArray) (w : World) (hn : ps.length = n) (hn2 : n ≤ 1048576) (hz : ∀ s ∈ ps, s.size ≤ 1048576) (h : StrsAt w ad ps) :
    Calls Try.prog 13 #[.slice ad n c0] w (WhPost ps w) := by
  by_cases hbig : 2000 < n
  · have hr : wholeR ps = (⟨#[]⟩, false) := by unfold wholeR; rw [if_neg (by omega)]
    unfold WhPost
    rw [hr]
    clear hr h hz
    go_enter Try.func13, Try.ntmps13
    go_wp2_with fail
    go_ret2
    exact ⟨rfl, Below.refl _ _⟩
  · have HT0 := hide (show Two ((w.alloc (.cells #[] 2)).alloc (.cells #[] 9)) w.heap.size (.slice (some ⟨w.heap.size, 0, none⟩) 0 0) (.slice (some ⟨w.heap.size + 1, 0, none⟩) 0 0) [] from
      ⟨(ownR_empty i64W w w.heap.size (Nat.le_refl _)).keep (bel1 _ _), by have q := ownR_empty strE (w.alloc (.cells #[] 2)) w.heap.size (by simp); rw [show (w.alloc (.cells #[] 2)).heap.size = w.heap.size + 1 from by simp] at q; exact q⟩)
    have HB0 := hide (belOn (bel1 w (.cells #[] 2)) (bel1 _ (.cells #[] 9)))
    have HN := hide hn
    have HZ := hide hz
    have HA := hide h
    have HST0 := hide (WhSt.start ps)
    obtain ⟨R, hR⟩ : ∃ R, wholeR ps = R := ⟨_, rfl⟩
    have HR := hide hR
    have HFAIL := hide (fun (k : Nat) (c : Int) (L : List (Int × ByteArray)) (s : ByteArray) (hh : WhSt ps k c L) (hk : k < ps.length) (hs : ps[k] = s) (hf : whS k c L s = none) => hR.symm.trans (hh.fail hk hs hf (by omega)))
    unfold WhPost
    rw [hR]
    clear hR hn hz h
    go_enter Try.func13, Try.ntmps13
    go_wp2_with fail
    go_loopw [4, 5, 6, 7] (fun co va vt i wr => ∃ (k : Nat) (c : Int) (L : List (Int × ByteArray)), co = .int .i64 c ∧ i = .int .i64 k ∧ k ≤ n ∧ Hid (WhSt ps k c L) ∧ Hid (Two wr w.heap.size va vt L) ∧ Hid (Below w.heap.size w wr)) (fun _ _ _ i _ => n - (intOf i).toNat)
    case atStart => exact ⟨0, 0, [], rfl, rfl, by omega, HST0, HT0, HB0⟩
    case round =>
      clear HT0 HB0 HST0
      obtain ⟨k, c, L, rfl, rfl, hk, HST, HT, HB⟩ := hrel
      obtain ⟨a1, c1, a2, c2, e1, e2⟩ := (unhide HT).form
      subst e1 e2
      obtain ⟨l, hl⟩ : ∃ l, L.length = l := ⟨_, rfl⟩
      have HLL := hide hl
      have hlk : l ≤ k := by have := (unhide HST).len; omega
      rw [hl] at HT ⊢
      clear hl
      by_cases hkn : k < n
      · have hkl : k < ps.length := by rw [unhide HN]; exact hkn
        obtain ⟨g, o, eg, lg, pg⟩ := (unhide HA) k hkl
        have pg2 : wr.cell? ⟨g, o + k, none⟩ = some (.string ps[k]) := ((unhide HB).cell (p := ⟨g, o + k, none⟩) lg).trans pg
        have hsz := unhide HZ ps[k] (List.getElem_mem hkl)
        have HF := hide (fun s (hs : ps[k] = s) hf => unhide HFAIL k c L s (unhide HST) hkl hs hf)
        have HNEW := hide (fun s a m x (hs : ps[k] = s) hp h2 hl => (unhide HST).new (a := a) (n := m) (x := x) hkl hs hp h2 hl)
        have HOLD := hide (fun s a m x (hs : ps[k] = s) hp h2 hl => (unhide HST).old (a := a) (n := m) (x := x) hkl hs hp h2 hl)
        generalize ps[k] = s at pg2 hsz HF HNEW HOLD
        have HRP := hide (l11Piece_calls s wr (by omega) (fun kk b hb => by have := readF_small s kk b hb; omega))
        subst eg
        have i0 : (0 : Int) ≤ (k : Int) := by omega
        have i1 : (k : Int) < (n : Int) := by omega
        clear pg lg hkl
        go_wp2_with fail
        refine (unhide HRP).mono ?_
        rintro e w2 ⟨a, m, x, g, rfl, hpc, hx, hb2⟩
        have HT2 := hide ((unhide HT).keep hb2)
        have HB2 := hide (belOn (unhide HB) hb2)
        clear hb2
        rcases hpc with ⟨rfl, hpc⟩ | ⟨rfl, hpc⟩
        · have HX := hide (unhide HF s rfl (whS_none hpc))
          clear pg2 hpc
          go_wp2_with fail
          go_ret2
          exact ⟨by rw [unhide HX]; rfl, unhide HB2⟩
        · by_cases h2 : 0 < k ∧ m ≠ c
          · have HX := hide (unhide HF s rfl (whS_count hpc h2))
            obtain ⟨hk0, hmc⟩ := h2
            have hk0' : (0 : Int) < (k : Int) := by omega
            clear pg2 hpc
            go_wp2_with fail
            go_ret2
            exact ⟨by rw [unhide HX]; rfl, unhide HB2⟩
          · have hsl := scn_lk a x L (unhide HST).nod
            have HSL := hide hsl
            have HXN := hide (fun (q : scn a x L false = none) => unhide HF s rfl (show whS k c L s = none from by
              rw [hsl] at q
              cases hl : lk L a with
              | none => rw [hl] at q; cases q
              | some y =>
                rw [hl] at q
                rw [whS_old hpc h2 hl]
                by_cases e : y = x
                · simp [e] at q
                · rw [if_neg e]))
            have HN2 := hide (fun (q : scn a x L false = some false) => unhide HNEW s a m x rfl hpc h2 (by
              rw [hsl] at q
              cases hl : lk L a with
              | none => rfl
              | some y =>
                rw [hl] at q
                by_cases e : y = x <;> simp [e] at q))
            have HO2 := hide (fun (q : scn a x L false = some true) => unhide HOLD s a m x rfl hpc h2 (by
              rw [hsl] at q
              cases hl : lk L a with
              | none => rw [hl] at q; simp at q
              | some y =>
                rw [hl] at q
                by_cases e : y = x
                · rw [e]
                · simp [e] at q))
            have hgd : (k = 0) ∨ (0 < k ∧ m = c) := by omega
            have HPA := hide (unhide HT2).a.at
            have HPT := hide (unhide HT2).t.at
            clear hsl hpc h2 pg2 HRP HF HNEW HOLD
            rcases hgd with hk0 | ⟨hk0, rfl⟩
            all_goals
              go_wp2_with fail
              go_loop [12, 13] (fun th kk => ∃ (q : Nat) (t : Bool), th = .bool t ∧ kk = .int .i64 q ∧ q ≤ l ∧ Hid (scn a x (L.drop q) t = scn a x L false)) (fun _ kk => l - (intOf kk).toNat)
              case atStart => exact ⟨0, false, rfl, rfl, by omega, hide (by rw [List.drop_zero])⟩
              case round =>
                obtain ⟨q, t, rfl, rfl, hq, HQ⟩ := hrel
                by_cases hql : q < l
                · first
                    | (exfalso; omega)
                    | (have hqL : q < L.length := by rw [unhide HLL]; exact hql
                       have hst := (scn_step a x L q hqL t).symm.trans (unhide HQ)
                       obtain ⟨gg, eg1, lg1, r1⟩ := Plain.RowAt.intW (unhide HPA) q (by rw [List.length_map]; exact hqL)
                       obtain ⟨gt, eg2, lg2, r2, -⟩ := (unhide HPT).str q (by rw [List.length_map]; exact hqL)
                       rw [List.getElem_map] at r1 r2
                       generalize L[q] = y at r1 r2 hst
                       obtain ⟨y1, y2⟩ := y
                       simp only at r1 r2 hst
                       subst eg1 eg2
                       have j0 : (0 : Int) ≤ (q : Int) := by omega
                       have j1 : (q : Int) < (l : Int) := by omega
                       clear HQ hqL
                       by_cases hya : y1 = a
                       · rw [if_pos hya] at hst
                         subst hya
                         by_cases hyx : y2 = x
                         · rw [if_pos hyx] at hst
                           subst hyx
                           have HST2 := hide hst
                           clear hst
                           go_wp2_with fail
                           go_round
                           case rel => exact ⟨q + 1, true, rfl, by go_num, by omega, HST2⟩
                           case measure => simp [intOf]; omega
                         · rw [if_neg hyx] at hst
                           have HX := hide (unhide HXN hst.symm)
                           have hne : (y2.toList == x.toList) = false := by rw [beq_eq_false_iff_ne]; exact fun q => hyx (by rw [ByteArray.toList_eq, ByteArray.toList_eq] at q; exact ByteArray.ext (Array.toList_inj.1 q))
                           clear hst hyx
                           go_wp2_with fail
                           go_ret2
                           exact ⟨by rw [unhide HX]; rfl, unhide HB2⟩
                       · rw [if_neg hya] at hst
                         have HST2 := hide hst
                         clear hst
                         go_wp2_with fail
                         go_round
                         case rel => exact ⟨q + 1, t, rfl, by go_num, by omega, HST2⟩
                         case measure => simp [intOf]; omega)
                · obtain rfl : q = l := by omega
                  have hst := unhide HQ
                  rw [List.drop_of_length_le (by rw [unhide HLL]; exact Nat.le_refl _), scn] at hst
                  cases t with
                  | true =>
                    have HX := hide (unhide HO2 hst.symm)
                    clear hst HQ
                    go_wp2_with fail
                    exact ⟨⟨k + 1, m, L, rfl, by first | go_num | (rw [hk0]; rfl), by omega, HX, HT2, HB2⟩, by simp [intOf]; omega⟩
                  | false =>
                    have HX := hide (unhide HN2 hst.symm)
                    have hla : (L.map (·.1)).length < 100000000 := by rw [List.length_map, unhide HLL]; omega
                    have hlt : (L.map (·.2)).length < 100000000 := by rw [List.length_map, unhide HLL]; omega
                    have HLA := hide hla
                    have HLT := hide hlt
                    have hBs : w.heap.size ≤ w2.heap.size := (unhide HB2).size
                    clear hst HQ hla hlt
                    go_wp2_with (at_builtin; refine appR (e := i64W) (cs := #[.int .i64 a]) ?_ (.tmp 70) (.tmp 72) ?_ (unhide HT2).a ?_ a rfl w2.heap.size ?_ rfl (unhide HLA) hBs ?_)
                    all_goals first | rfl | skip
                    intro v6 w6 hown6 hb6 hg6
                    have HO6 := hide hown6
                    have HT6 := hide (Plain.OwnR.besides (unhide HT2).t (unhide HT2).a (by decide) hg6)
                    have HB6 := hide ((unhide HB2).trans hb6)
                    have hBs6 : w.heap.size ≤ w6.heap.size := (unhide HB6).size
                    clear hown6 hb6 hg6
                    go_wp2_with (at_builtin; refine appR (e := strE) (cs := #[.string x]) ?_ (.tmp 74) (.tmp 76) ?_ (unhide HT6) ?_ x rfl w6.heap.size ?_ rfl (unhide HLT) hBs6 ?_)
                    all_goals first | rfl | skip
                    intro v7 w7 hown7 hb7 hg7
                    go_wp2_with fail
                    exact ⟨⟨k + 1, m, L ++ [(a, x)], rfl, by first | go_num | (rw [hk0]; rfl), by omega, HX, hide ⟨by rw [List.map_append]; exact Plain.OwnR.besides (unhide HO6) (unhide HT6) (by decide) hg7, by rw [List.map_append]; exact hown7⟩, hide ((unhide HB6).trans hb7)⟩, by simp [intOf]; omega⟩
      · obtain rfl : k = n := by omega
        have hfin := (unhide HST).fin (by rw [unhide HN]; exact Nat.le_refl _) (by rw [unhide HN]; omega)
        rw [unhide HR, unhide HLL] at hfin
        have HSH := hide (unhide HST).sh
        have HND := hide (unhide HST).nod
        have HPA := hide (unhide HT).a.at
        have HPT := hide (unhide HT).t.at
        by_cases hc : (l : Int) = c
        · rw [if_pos hc] at hfin
          have HX := hide hfin
          subst hc
          clear hfin HST HFAIL
          go_wp2_with fail
          go_loop [14, 15] (fun s i => ∃ q : Nat, i = .int .i64 q ∧ q ≤ l ∧ s = .string (joinL L q)) (fun _ i => l - (intOf i).toNat)
          case atStart => exact ⟨0, rfl, by omega, rfl⟩
          case round =>
            obtain ⟨q, rfl, hq, rfl⟩ := hrel
            by_cases hql : q < l
            · have hjs := joinL_size (unhide HSH) q
              have HJN := hide (show cat (q : Int) L (joinL L q) = joinL L (q + 1) from by rw [cat_lk _ _ _ (unhide HND)]; rfl)
              have j1 : (q : Int) < (l : Int) := by omega
              generalize joinL L q = s0 at hjs HJN
              go_wp2_with fail
              go_loop [14, 16] (fun s kk => ∃ (r : Nat) (t : ByteArray), kk = .int .i64 r ∧ r ≤ l ∧ s = .string t ∧ t.size ≤ (q + r) * 20000 ∧ Hid (cat (q : Int) (L.drop r) t = joinL L (q + 1))) (fun _ kk => l - (intOf kk).toNat)
              case atStart => exact ⟨0, s0, rfl, by omega, rfl, by omega, hide (by rw [List.drop_zero]; exact unhide HJN)⟩
              case round =>
                obtain ⟨r, t, rfl, hr, rfl, hts, HQ⟩ := hrel
                by_cases hrl : r < l
                · have hrL : r < L.length := by rw [unhide HLL]; exact hrl
                  have hst := (cat_step (q : Int) L r hrL t).symm.trans (unhide HQ)
                  obtain ⟨gg, eg1, lg1, r1⟩ := Plain.RowAt.intW (unhide HPA) r (by rw [List.length_map]; exact hrL)
                  obtain ⟨gt, eg2, lg2, r2, -⟩ := (unhide HPT).str r (by rw [List.length_map]; exact hrL)
                  have hy2 := (unhide HSH).mem (unhide HND) (List.getElem_mem hrL)
                  rw [List.getElem_map] at r1 r2
                  generalize L[r] = y at r1 r2 hst hy2
                  obtain ⟨y1, y2⟩ := y
                  simp only at r1 r2 hst hy2
                  subst eg1 eg2
                  have m0 : (0 : Int) ≤ (r : Int) := by omega
                  have m1 : (r : Int) < (l : Int) := by omega
                  clear HQ hrL
                  by_cases hya : y1 = (q : Int)
                  · rw [if_pos hya] at hst
                    subst hya
                    have HST2 := hide hst
                    have hadd := fun W => strW_add (a := t) (b := y2) W (by omega)
                    have hsz2 : (t ++ y2).size ≤ (q + (r + 1)) * 20000 := by rw [ByteArray.size_append]; omega
                    have HSZ2 := hide hsz2
                    clear hst hsz2
                    go_wp2_with fail
                    go_round
                    case rel => exact ⟨r + 1, t ++ y2, by go_num, by omega, rfl, unhide HSZ2, HST2⟩
                    case measure => simp [intOf]; omega
                  · rw [if_neg hya] at hst
                    have HST2 := hide hst
                    have HSZ2 := hide (show t.size ≤ (q + (r + 1)) * 20000 from Nat.le_trans hts (Nat.mul_le_mul_right _ (by omega)))
                    clear hst
                    go_wp2_with fail
                    go_round
                    case rel => exact ⟨r + 1, t, by go_num, by omega, rfl, unhide HSZ2, HST2⟩
                    case measure => simp [intOf]; omega
                · obtain rfl : r = l := by omega
                  have hst := unhide HQ
                  rw [List.drop_of_length_le (by rw [unhide HLL]; exact Nat.le_refl _), cat] at hst
                  subst hst
                  go_wp2_with fail
                  exact ⟨⟨q + 1, by go_num, by omega, rfl⟩, by simp [intOf]; omega⟩
            · obtain rfl : q = l := by omega
              go_wp2_with fail
              go_ret2
              exact ⟨by rw [unhide HX]; rfl, unhide HB⟩
        · rw [if_neg hc] at hfin
          have HX := hide hfin
          clear hfin HST HFAIL
          go_wp2_with fail
          go_ret2
          exact ⟨by rw [unhide HX]; rfl, unhide HB⟩
end Go.Proofs.Ytnkjdojpegmlcaa
