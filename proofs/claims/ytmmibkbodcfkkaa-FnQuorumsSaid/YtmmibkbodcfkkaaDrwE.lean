/- What is drawn for quorums, whole; whether a number is in a list, by the law. -/
import Derived.Test.YtmmibkbodcfkkaaDrwD
import Derived.Test.YtmmibkbodcfkkaaConT
namespace Go.Proofs.Ytmmibkbodcfkkaa
open Go.RowKit Plain
set_option linter.unusedVariables false

/-- What DrawQuorum leaves. -/
def DrqPost (w : World) (e : Ending) (w' : World) : Prop := ∃ (av : Option Addr) (nv cv : Nat) (v : List Int) (al : Option Addr) (nl cl : Nat) (l : List Int) (ai : Option Addr) (ni ci : Nat) (ids : List Int), e = .returned (.tuple #[.agg #[.slice av nv cv, .slice al nl cl], .slice ai ni ci]) ∧ Hid (ConfAt w' av nv v al nl l ∧ IntsAt w' ai ni ids) ∧ Below w.heap.size w w'

set_option maxRecDepth 10000 in
set_option maxHeartbeats 8000000 in
theorem DrawQuorum_calls (a : Option Addr) (len cap : Nat) (zs : List Int) (w : World) (h : IsRow .u8 w a len cap zs) (hl : len ≤ 1048576) :
    Calls Try.prog 19 #[.slice a len cap] w (DrqPost w) := by
  obtain ⟨W1, hW1⟩ : ∃ W1, W1 = w.alloc (.cells #[.slice none 0 0, .slice none 0 0] 27) := ⟨_, rfl⟩
  have hb1 : Below w.heap.size w W1 := by rw [hW1]; exact bel1 _ _
  have hs1 : W1.heap.size = w.heap.size + 1 := by rw [hW1]; simp
  have HZ := hide (show CB w.heap.size (.slice none 0 0) (.slice none 0 0) W1 from by rw [hW1]; exact CB.new w _ _)
  have hrow : IsRow .u8 W1 a len cap zs := by
    rcases h with h | ⟨x, hx, h1, h2, h3, h4, h5⟩
    · exact .inl h
    · refine .inr ⟨x, hx, h1, h2, h3, fun i hi => ?_, h5⟩
      have hc := h4 i hi
      exact (hb1.cell (p := x.add i) (lt_of_cell hc)).trans hc
  have HOP := hide (open_calls a len cap zs W1 hrow hl)
  have HB1 := hide hb1
  have HW1 := hide hW1.symm
  clear hW1 hb1 hrow h
  go_enter Try.func19, Try.ntmps19
  go_wp2_with fail
  rw [unhide HW1]
  refine (unhide HOP).mono ?_
  rintro e w2 ⟨rfl, hR2, hb2⟩
  have HZ2 := hide ((unhide HZ).below hb2 (by omega))
  have HB2 := hide (belOn (unhide HB1) hb2)
  have hR := hR2.lt
  have HD2 := hide (DS.start hR2)
  rw [hs1] at *
  clear hb2 hR2 HOP HZ
  go_wp2_with fail
  refine (oddConf_calls (w.heap.size + 1) a len cap zs w2 (unhide HD2).rd).mono ?_
  rintro e w3 ⟨av, cv, v, al, cl, l, rfl, hOw, hv20, hl20, hR3, ho3⟩
  obtain ⟨hV, hL⟩ := unhide hOw
  have hz3 : w2.heap.size ≤ w3.heap.size := ho3.size
  obtain ⟨n, hn⟩ : ∃ n, v.length = n := ⟨_, rfl⟩
  obtain ⟨m, hm⟩ : ∃ m, l.length = m := ⟨_, rfl⟩
  rw [hn] at hV hv20 ⊢
  rw [hm] at hL hl20 ⊢
  obtain ⟨W4, hW4⟩ : ∃ W4, W4 = (w3.alloc (.cells #[.slice av n cv, .slice al m cl] 27)).alloc (.cells #[] 2) := ⟨_, rfl⟩
  have hb4 : Below w3.heap.size w3 W4 := by rw [hW4]; exact belOn (bel1 _ _) (bel1 _ _)
  have hs4 : W4.heap.size = w3.heap.size + 2 := by rw [hW4]; simp
  have HV4 := hide (hV.keep hb4)
  have HL4 := hide (hL.keep hb4)
  have HD4 := hide (((unhide HD2).call hR3 ho3).below hb4)
  have HZ4 := hide (((unhide HZ2).only ho3 (by omega)).below hb4 (by have := hb4.size; omega))
  have HS4 := hide (show CB w3.heap.size (.slice av n cv) (.slice al m cl) W4 from by rw [hW4]; exact (CB.new w3 _ _).alloc _)
  have HI4 := hide (show OwnR i64E W4 (w3.heap.size + 1) (.slice (some ⟨w3.heap.size + 1, 0, none⟩) 0 0) [] from by
    rw [hW4, show w3.heap.size + 1 = (w3.alloc (.cells #[.slice av n cv, .slice al m cl] 27)).heap.size from by simp]
    exact ownR_empty i64E _ _ (Nat.le_refl _))
  have HVL := hide (fun g (hg : (Value.slice av n cv).ownBlock = some g) => (hV.geB g hg))
  have HLL := hide (fun g (hg : (Value.slice al m cl).ownBlock = some g) => (hL.geB g hg))
  have HN := hide hn
  have HM := hide hm
  have HW4 := hide hW4.symm
  clear hOw hV hL hn hm hb4 hW4 hR3 ho3 HZ2 HD2
  go_wp2_with fail
  rw [unhide HW4]
  go_loopw [6, 7] (fun s6 s7 wr => ∃ (k : Nat) (vi : Value) (is : List Int), s6 = vi ∧ s7 = .int .i64 k ∧ k ≤ n ∧ is.length ≤ k ∧ w3.heap.size + 2 ≤ wr.heap.size ∧ Hid (DS w2 (w.heap.size + 1) a len cap zs wr) ∧ Hid (CB w.heap.size (.slice none 0 0) (.slice none 0 0) wr) ∧ Hid (CB w3.heap.size (.slice av n cv) (.slice al m cl) wr) ∧ Hid (OwnR i64E wr w2.heap.size (.slice av n cv) v) ∧ Hid (OwnR i64E wr w2.heap.size (.slice al m cl) l) ∧ Hid (OwnR i64E wr (w3.heap.size + 1) vi is)) (fun _ s7 _ => n - (intOf s7).toNat)
  case atStart => exact ⟨0, _, [], rfl, rfl, by omega, by simp, by omega, HD4, HZ4, HS4, HV4, HL4, HI4⟩
  case round =>
    clear HD4 HZ4 HS4 HV4 HL4 HI4
    obtain ⟨k, vi, is, rfl, rfl, hk, his, hzr, HDr, HZr, HSr, HVr, HLr, HIr⟩ := hrel
    obtain ⟨ai, ci, hvi⟩ := (unhide HIr).form
    subst hvi
    obtain ⟨q, hq⟩ : ∃ q, is.length = q := ⟨_, rfl⟩
    rw [hq] at HIr his ⊢
    have s0 := (unhide HSr).c0
    by_cases hkn : k < n
    · have hkl : k < v.length := by rw [unhide HN]; exact hkn
      have i0 : (0 : Int) ≤ (k : Int) := by omega
      have i1 : (k : Int) < (n : Int) := by omega
      go_wp2_with fail
      refine (once_calls (w.heap.size + 1) a len cap zs 3 _ (unhide HDr).rd (by omega) (by omega)).mono ?_
      rintro e w5 ⟨b, rfl, hR5, ho5⟩
      have HD5 := hide ((unhide HDr).call hR5 ho5)
      have HZ5 := hide ((unhide HZr).only ho5 (by omega))
      have HS5 := hide ((unhide HSr).only ho5 (by omega))
      have HV5 := hide ((unhide HVr).onl ho5 (by simp; omega))
      have HL5 := hide ((unhide HLr).onl ho5 (by simp; omega))
      have HI5 := hide ((unhide HIr).onl ho5 (by simp; omega))
      have hz5 : w3.heap.size + 2 ≤ w5.heap.size := Nat.le_trans hzr ho5.size
      clear hR5 ho5 HDr HZr HSr HVr HLr HIr s0
      cases b with
      | true =>
        go_wp2_with fail
        go_roundw
        case rel => exact ⟨k + 1, _, is, rfl, by go_num, by omega, by omega, hz5, HD5, HZ5, HS5, HV5, HL5, HI5⟩
        case measure => simp [intOf]; omega
      | false =>
        obtain ⟨g, e1, l1, p0, -⟩ := (unhide HV5).at.ix k hkl
        generalize v[k] = x at p0
        have t0 := (unhide HS5).c0
        have hlen : is.length < 100000000 := by omega
        have hzz : w3.heap.size + 1 ≤ w5.heap.size := by omega
        subst e1
        go_wp2_with (at_builtin; go_must (refine appR (e := i64E) rfl _ _ rfl (unhide HI5) rfl x rfl _ rfl rfl hlen hzz ?_); intro v' w6 hown6 hb6 hg6; obtain ⟨ai', ci', hv'⟩ := hown6.form; subst hv')
        go_roundw
        case rel => exact ⟨k + 1, _, is ++ [x], rfl, by go_num, by omega, by simp; omega, by have := hb6.size; omega, hide ((unhide HD5).belowB hb6 (by omega) (by omega)), hide ((unhide HZ5).below hb6 (by omega)), hide ((unhide HS5).below hb6 (by omega)), hide ((unhide HV5).below hb6 (fun g hg => by have := unhide HVL g hg; omega)), hide ((unhide HL5).below hb6 (fun g hg => by have := unhide HLL g hg; omega)), hide (by rw [show q + 1 = (is ++ [x]).length from by simp [hq]]; exact hown6)⟩
        case measure => simp [intOf]; omega
    · obtain rfl : k = n := by omega
      go_wp2_with fail
      refine (below_calls (w.heap.size + 1) a len cap zs 3 _ (unhide HDr).rd (by omega) (by omega)).mono ?_
      rintro e w5 ⟨b, rfl, hb0, hb1, hR5, ho5⟩
      obtain ⟨b, rfl⟩ := Int.eq_ofNat_of_zero_le hb0
      have HD5 := hide ((unhide HDr).call hR5 ho5)
      have HZ5 := hide ((unhide HZr).only ho5 (by omega))
      have HS5 := hide ((unhide HSr).only ho5 (by omega))
      have HV5 := hide ((unhide HVr).onl ho5 (by simp; omega))
      have HL5 := hide ((unhide HLr).onl ho5 (by simp; omega))
      have HI5 := hide ((unhide HIr).onl ho5 (by simp; omega))
      have hz5 : w3.heap.size + 2 ≤ w5.heap.size := Nat.le_trans hzr ho5.size
      clear hR5 ho5 HDr HZr HSr HVr HLr HIr s0
      go_wp2_with fail
      go_loopw [6, 8] (fun s6 s8 wr => ∃ (j : Nat) (vi : Value) (is : List Int), s6 = vi ∧ s8 = .int .i64 j ∧ j ≤ 2 ∧ is.length + j ≤ 30 ∧ w3.heap.size + 2 ≤ wr.heap.size ∧ Hid (DS w2 (w.heap.size + 1) a len cap zs wr) ∧ Hid (CB w.heap.size (.slice none 0 0) (.slice none 0 0) wr) ∧ Hid (CB w3.heap.size (.slice av k cv) (.slice al m cl) wr) ∧ Hid (OwnR i64E wr w2.heap.size (.slice av k cv) v) ∧ Hid (OwnR i64E wr w2.heap.size (.slice al m cl) l) ∧ Hid (OwnR i64E wr (w3.heap.size + 1) vi is)) (fun _ s8 _ => (intOf s8).toNat)
      case atStart => exact ⟨b, _, is, rfl, rfl, by omega, by omega, hz5, HD5, HZ5, HS5, HV5, HL5, HI5⟩
      case round =>
        clear HD5 HZ5 HS5 HV5 HL5 HI5 hq his
        obtain ⟨j, vi, js, rfl, rfl, hj, hjs, hzr, HDr, HZr, HSr, HVr, HLr, HIr⟩ := hrel
        obtain ⟨aj, cj, hvi⟩ := (unhide HIr).form
        subst hvi
        obtain ⟨q, hq⟩ : ∃ q, js.length = q := ⟨_, rfl⟩
        rw [hq] at HIr hjs ⊢
        by_cases hj0 : 0 < j
        · obtain ⟨j, rfl⟩ : ∃ j', j = j' + 1 := ⟨j - 1, by omega⟩
          have hj1 : (0 : Int) < ((j + 1 : Nat) : Int) := by omega
          go_wp2_with fail
          refine (below_calls (w.heap.size + 1) a len cap zs 6 _ (unhide HDr).rd (by omega) (by omega)).mono ?_
          rintro e w6 ⟨y, rfl, hy0, hy1, hR6, ho6⟩
          have HD6 := hide ((unhide HDr).call hR6 ho6)
          have HZ6 := hide ((unhide HZr).only ho6 (by omega))
          have HS6 := hide ((unhide HSr).only ho6 (by omega))
          have HV6 := hide ((unhide HVr).onl ho6 (by simp; omega))
          have HL6 := hide ((unhide HLr).onl ho6 (by simp; omega))
          have HI6 := hide ((unhide HIr).onl ho6 (by simp; omega))
          have hz6 : w3.heap.size + 2 ≤ w6.heap.size := Nat.le_trans hzr ho6.size
          have hlen : js.length < 100000000 := by omega
          have hzz : w3.heap.size + 1 ≤ w6.heap.size := by omega
          clear hR6 ho6 HDr HZr HSr HVr HLr HIr
          go_wp2_with (at_builtin; go_must (refine appR (e := i64E) rfl _ _ rfl (unhide HI6) rfl (1 + y) rfl _ rfl rfl hlen hzz ?_); intro v' w7 hown7 hb7 hg7; obtain ⟨ai', ci', hv'⟩ := hown7.form; subst hv')
          go_roundw
          case rel => exact ⟨j, _, js ++ [1 + y], rfl, by go_num, by omega, by simp; omega, by have := hb7.size; omega, hide ((unhide HD6).belowB hb7 (by omega) (by omega)), hide ((unhide HZ6).below hb7 (by omega)), hide ((unhide HS6).below hb7 (by omega)), hide ((unhide HV6).below hb7 (fun g hg => by have := unhide HVL g hg; omega)), hide ((unhide HL6).below hb7 (fun g hg => by have := unhide HLL g hg; omega)), hide (by rw [show q + 1 = (js ++ [1 + y]).length from by simp [hq]]; exact hown7)⟩
          case measure => simp [intOf]
        · obtain rfl : j = 0 := by omega
          have s0 := (unhide HSr).c0
          have s1 := (unhide HSr).c1
          have q0 := (unhide HZr).c0
          have q1 := (unhide HZr).c1
          have g0 := (unhide HZr).f0
          have g1 := (unhide HZr).f1
          have qlt := (unhide HZr).lt
          have hne : w.heap.size ≠ w3.heap.size := by omega
          go_wp2_with fail
          refine bodyPost_ret (v := .tuple #[.agg #[.slice av k cv, .slice al m cl], .slice aj q cj]) (by simp [results, Try.results19, go_sem, q0, q1]) rfl ?_
          have hV := (unhide HVr).set2s (Z := w.heap.size) (u1 := .slice av k cv) (u2 := .slice al m cl) (fun g hg => by have := ((unhide HVr).geB g hg).1; omega)
          have hL := (unhide HLr).set2s (Z := w.heap.size) (u1 := .slice av k cv) (u2 := .slice al m cl) (fun g hg => by have := ((unhide HLr).geB g hg).1; omega)
          have hI := (unhide HIr).set2s (Z := w.heap.size) (u1 := .slice av k cv) (u2 := .slice al m cl) (fun g hg => by have := ((unhide HIr).geB g hg).1; omega)
          refine ⟨av, k, cv, v, al, m, cl, l, aj, q, cj, js, rfl, hide ⟨⟨⟨hV.at, unhide HN, by omega⟩, ⟨hL.at, unhide HM, by omega⟩⟩, ⟨hI.at, hq, by omega⟩⟩, ?_⟩
          have hfin := ((unhide HB2).trans ((unhide HDr).only.below (B := w.heap.size) (by simp) (by have := (unhide HB2).size; omega)))
          exact (hfin.setCell (Nat.le_refl _) _).setCell (Nat.le_refl _) _

set_option maxRecDepth 10000 in
set_option maxHeartbeats 1000000 in
theorem hasInt_calls (a : Option Addr) (n c : Nat) (ls : List Int) (x : Int) (w : World) (h : IntsAt w a n ls) :
    Calls Try.prog 20 #[.slice a n c, .int .i64 x] w fun e w' => e = .returned (.bool (decide (x ∈ ls))) ∧ w = w' := by
  have HH := hide h
  have hbn := h.bn
  clear h
  obtain ⟨R, hR⟩ : ∃ R, decide (x ∈ ls) = R := ⟨_, rfl⟩
  rw [hR]
  have HR := hide hR
  clear hR
  obtain ⟨w0, rfl⟩ : ∃ w0, w0 = w := ⟨_, rfl⟩
  go_enter Try.func20, Try.ntmps20
  go_wp2_with fail
  go_loopw [5] (fun i wr => ∃ k : Nat, i = .int .i64 k ∧ k ≤ n ∧ Hid (decide (x ∈ ls.drop k) = R) ∧ wr = w0) (fun i _ => n - (intOf i).toNat)
  case atStart => exact ⟨0, rfl, by omega, hide (unhide HR), rfl⟩
  case round =>
    obtain ⟨k, rfl, hk, HO, rfl⟩ := hrel
    by_cases hkn : k < n
    · have hkl : k < ls.length := by rw [(unhide HH).len]; exact hkn
      obtain ⟨g, e1, l1, p0, -⟩ := (unhide HH).row.ix k hkl
      have hst := unhide HO
      rw [List.drop_eq_getElem_cons hkl] at hst
      generalize ls[k] = y at p0 hst
      subst e1
      have i0 : (0 : Int) ≤ (k : Int) := by omega
      have i1 : (k : Int) < (n : Int) := by omega
      clear HO
      by_cases hxy : y = x
      · subst hxy
        have HX := hide (show R = true from by rw [← hst]; simp)
        clear hst
        go_wp2_with fail
        go_ret
        exact ⟨by rw [unhide HX]; rfl, rfl⟩
      · have HX := hide (show decide (x ∈ ls.drop (k + 1)) = R from by rw [← hst]; exact decide_eq_decide.2 (by rw [List.mem_cons]; exact ⟨fun q => .inr q, fun q => q.resolve_left (fun q2 => hxy q2.symm)⟩))
        have hne : (y == x) = false := by rw [beq_eq_false_iff_ne]; exact hxy
        clear hst
        go_wp2_with fail
        go_roundw
        case rel => exact ⟨k + 1, by go_num, by omega, HX, trivial⟩
        case measure => simp [intOf]; omega
    · obtain rfl : k = n := by omega
      have hO := unhide HO
      rw [List.drop_of_length_le (by rw [(unhide HH).len]; exact Nat.le_refl _)] at hO
      have HX := hide (show R = false from by rw [← hO]; rfl)
      clear hO HO
      go_wp2_with fail
      go_ret
      exact ⟨by rw [unhide HX]; rfl, rfl⟩

namespace Plain
theorem among_disj (ids os : List Int) (h : ∀ x ∈ os, x ∉ ids) : ∀ v : List Int, among v ids + among v os ≤ v.length := by
  intro v
  induction v with
  | nil => simp [among]
  | cons x v ih =>
    unfold among at ih ⊢
    rw [List.filter_cons, List.filter_cons, List.length_cons]
    by_cases h1 : x ∈ ids
    · have h2 : ¬ x ∈ os := fun q => h x q h1
      simp [h1, h2]
      omega
    · by_cases h2 : x ∈ os
      · simp [h1, h2]
        omega
      · simp [h1, h2]
        omega
theorem quo_once {v l ids os : List Int} (h : ∀ x ∈ os, x ∉ ids) (hq : quoB v l ids = true) : quoB v l os = false := by
  have ha := among_disj ids os h v
  unfold quoB at hq ⊢
  rw [Bool.and_eq_true, decide_eq_true_iff] at hq
  rw [hq.1, Bool.true_and]
  exact decide_eq_false (by omega)
end Plain
end Go.Proofs.Ytmmibkbodcfkkaa
