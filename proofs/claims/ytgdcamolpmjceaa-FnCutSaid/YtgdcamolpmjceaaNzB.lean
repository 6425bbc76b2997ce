/- Texts of one kind, put together. -/
import Derived.Test.YtgdcamolpmjceaaNzA
import Derived.Test.YtgdcamolpmjceaaCutS
import Derived.Test.YtgdcamolpmjceaaTakS
import Derived.Test.YtgdcamolpmjceaaBig
import Derived.Deep.QuietTactic
import Derived.BigQuiet

/- What is drawn for a cut. -/
namespace Go.Proofs.Ytgdcamolpmjceaa
open Go.RowKit Plain
set_option linter.unusedVariables false

theorem isRow_belC {w w' : World} {a : Option Addr} {len cap : Nat} {zs : List Int} (h : IsRow .u8 w a len cap zs) (hb : Below w.heap.size w w') : IsRow .u8 w' a len cap zs := by
  rcases h with h | ⟨x, hx, h1, h2, h3, h4, h5⟩
  · exact .inl h
  · refine .inr ⟨x, hx, h1, h2, h3, fun i hi => ?_, h5⟩
    have hc := h4 i hi
    exact (hb.cell (p := x.add i) (lt_of_cell hc)).trans hc

theorem Plain.DN.belowB {N B m c K : Nat} {nx : Int} {x : Option Addr} {es : List Pkt} {W W' : World} (h : DN N B nx x m c es W) (hb : Below K W W') (hN : N < K) (hx : ∀ g, (Value.slice x m c).ownBlock = some g → g < K) : DN N B nx x m c es W' :=
  ⟨bcl hb hN h.c0, bcl hb hN h.c1, (hb.frozen (p := ⟨N, 0, none⟩) hN).trans h.z0, (hb.frozen (p := ⟨N, 1, none⟩) hN).trans h.z1, h.own.below hb hx⟩

/-- What is drawn for a cut. -/
def Plain.CutDPost (w : World) (e : Ending) (w' : World) : Prop := ∃ (nx : Int) (x : Option Addr) (m c : Nat) (es : List Pkt) (sv : Value) (side : List Int), e = .returned (.tuple #[.agg #[.int .i64 nx, .slice x m c], sv]) ∧ Hid (OwnR pktE w' w.heap.size (.slice x m c) es) ∧ Hid (OwnR i64E w' w.heap.size sv side) ∧ Hid (Shrt es) ∧ m ≤ 400 ∧ side.length ≤ 3 ∧ Below w.heap.size w w'

set_option maxRecDepth 10000 in
set_option maxHeartbeats 4000000 in
theorem DrawCutting_of (HND : ∀ (R : Nat) (a : Option Addr) (len cap : Nat) (zs : List Int) (w : World), Rd w R a len cap zs → Calls Try.prog 17 #[.pointer (some ⟨R, 0, none⟩)] w (NetDPost R a len cap zs w)) (a : Option Addr) (len cap : Nat) (zs : List Int) (w : World) (h : IsRow .u8 w a len cap zs) (hl : len ≤ 1048576) :
    Calls Try.prog 6 #[.slice a len cap] w (CutDPost w) := by
  obtain ⟨W0, hW0⟩ : ∃ W0, W0 = w.alloc (.cells #[.int .i64 0, .slice none 0 0] 26) := ⟨_, rfl⟩
  have hb0 : Below w.heap.size w W0 := by rw [hW0]; exact bel1 _ _
  have hz0 : W0.heap.size = w.heap.size + 1 := by rw [hW0]; simp
  have HRB0 := hide (show RB w.heap.size W0 from ⟨by rw [hW0]; simp [go_sem], by rw [hW0]; simp [go_sem], by rw [hW0]; simp [go_sem], by rw [hW0]; simp [go_sem]⟩)
  have HOP := hide (open_calls a len cap zs W0 (isRow_belC h hb0) hl)
  have HB0 := hide hb0
  have HW0 := hide hW0.symm
  have HN := hide HND
  clear h hW0 hb0 HND
  go_enter Try.func6, Try.ntmps6
  go_wp2_with fail
  rw [unhide HW0]
  refine (unhide HOP).mono ?_
  rintro e w1 ⟨rfl, hR1, hb1⟩
  rw [hz0] at hR1
  have HRB1 := hide ((unhide HRB0).below hb1 (by omega))
  have HB1 := hide (belOn (unhide HB0) hb1)
  have HNE := hide (unhide HN _ a len cap zs w1 hR1)
  have hRl := hR1.lt
  clear hR1 hb1 HRB0 HOP HN
  go_wp2_with fail
  refine (unhide HNE).mono ?_
  unfold NetDPost
  rintro e w2 ⟨nx, x, m, c, es, rfl, HO2, HSH, hm4, hnx, hR2, ho2⟩
  obtain ⟨W3, hW3⟩ : ∃ W3, W3 = w2.alloc (.cells #[.int .i64 nx, .slice x m c] 26) := ⟨_, rfl⟩
  have hb3 : Below w2.heap.size w2 W3 := by rw [hW3]; exact bel1 _ _
  have hz3 : W3.heap.size = w2.heap.size + 1 := by rw [hW3]; simp
  have hs2 := ho2.size
  have HDN3 := hide (show DN w2.heap.size w1.heap.size nx x m c es W3 from ⟨by rw [hW3]; simp [go_sem], by rw [hW3]; simp [go_sem], by rw [hW3]; simp [go_sem], by rw [hW3]; simp [go_sem], (unhide HO2).keep hb3⟩)
  obtain ⟨W4, hW4⟩ : ∃ W4, W4 = W3.alloc (.cells #[] 2) := ⟨_, rfl⟩
  have hb4 : Below W3.heap.size W3 W4 := by rw [hW4]; exact bel1 _ _
  have hz4 : W4.heap.size = w2.heap.size + 2 := by rw [hW4]; simp; omega
  have HO4 := hide (show OwnR i64E W4 (w2.heap.size + 1) (.slice (some ⟨w2.heap.size + 1, 0, none⟩) 0 0) [] from by rw [hW4, ← hz3]; exact ownR_empty i64E W3 W3.heap.size (Nat.le_refl _))
  have HDN4 := hide ((unhide HDN3).below hb4)
  have HRB4 := hide (((unhide HRB1).only ho2 (by omega)).below (belOn hb3 hb4) (by omega))
  have HR4 := hide (hR2.below (belOn hb3 hb4))
  have HF4 := hide (show Below w.heap.size w W4 from ((unhide HB1).trans (ho2.below (show w.heap.size ≤ w.heap.size + 1 by omega) (by have := (unhide HB1).size; exact this))).trans ((belOn hb3 hb4).mono (by have := (unhide HB1).size; omega)))
  have HW4 := hide (show (w2.alloc (.cells #[.int .i64 nx, .slice x m c] 26)).alloc (.cells #[] 2) = W4 from by rw [hW4, hW3])
  have HBE := hide (below_calls _ a len cap zs 3 W4 (unhide HR4) (by omega) (by omega))
  have HX := hide ((unhide HO2).lt)
  clear hW3 hb3 HO2 HNE hR2 ho2 HRB1 HB1 HDN3 hW4 hb4
  go_wp2_with fail
  rw [unhide HW4]
  refine (unhide HBE).mono ?_
  rintro e w5 ⟨v5, rfl, hv50, hv51, hR5, ho5⟩
  obtain ⟨V5, rfl⟩ := Int.eq_ofNat_of_zero_le hv50
  have hs5 := ho5.size
  have HDN5 := hide ((unhide HDN4).only ho5 (by omega) (by omega))
  have HRB5 := hide ((unhide HRB4).only ho5 (by omega))
  have HO5 := hide ((unhide HO4).onlN ho5 (by simp; omega))
  have HR5 := hide hR5
  have HF5 := hide ((unhide HF4).trans (ho5.below (show w.heap.size ≤ w.heap.size + 1 by omega) (unhide HF4).size))
  clear HDN4 HRB4 HO4 HR4 HF4 HBE hR5 ho5
  obtain ⟨B, hB⟩ : ∃ B, w2.heap.size = B := ⟨_, rfl⟩
  rw [hB] at HDN5 HO5 hz3 hz4 hs2 HX
  go_wp2_with fail
  go_loopw [6, 7] (fun s6 s7 wr => ∃ (k : Nat) (side : List Int), s7 = .int .i64 k ∧ k ≤ 2 ∧ side.length + k ≤ 3 ∧ B + 1 ≤ wr.heap.size ∧ Hid (OwnR i64E wr (B + 1) s6 side) ∧ Hid (DN B w1.heap.size nx x m c es wr) ∧ Hid (RB w.heap.size wr) ∧ Hid (Rd wr (w.heap.size + 1) a len cap zs) ∧ Hid (Below w.heap.size w wr)) (fun _ s7 _ => (intOf s7).toNat)
  case atStart => exact ⟨V5, [], rfl, by omega, by simp; omega, by omega, HO5, HDN5, HRB5, HR5, HF5⟩
  case round =>
    clear HO5 HDN5 HRB5 HR5 HF5
    obtain ⟨k, side, rfl, hk, hsd, hzr, HO, HDN, HRB, HR, HF⟩ := hrel
    obtain ⟨av, cv, hv⟩ := (unhide HO).form
    subst hv
    obtain ⟨q, hq⟩ : ∃ q, side.length = q := ⟨_, rfl⟩
    rw [hq] at HO hsd ⊢
    by_cases hkz : 0 < k
    · have HBE := hide (below_calls _ a len cap zs 3 wr (unhide HR) (by omega) (by omega))
      have i0 : (0 : Int) < (k : Int) := by omega
      go_wp2_with fail
      refine (unhide HBE).mono ?_
      rintro e w6 ⟨v6, rfl, hv60, hv61, hR6, ho6⟩
      have hs6 := ho6.size
      have HDN6 := hide ((unhide HDN).only ho6 (by omega) (by omega))
      have HRB6 := hide ((unhide HRB).only ho6 (by omega))
      have HO6 := hide ((unhide HO).onlN ho6 (by simp; omega))
      have HR6 := hide hR6
      have HF6 := hide ((unhide HF).trans (ho6.below (show w.heap.size ≤ w.heap.size + 1 by omega) (unhide HF).size))
      have hlen : side.length < 100000000 := by omega
      have hz6 : B + 1 ≤ w6.heap.size := by omega
      clear HDN HRB HO HR HF HBE hR6 ho6
      go_wp2_with (at_builtin; go_must (refine appR (e := i64E) rfl _ _ rfl (unhide HO6) rfl (1 + v6) rfl _ rfl rfl hlen hz6 ?_); intro v' w7 hown7 hb7 hg7; obtain ⟨av', cv', hv'⟩ := hown7.form; rw [show (side ++ [1 + v6]).length = q + 1 from by rw [List.length_append, hq]; rfl] at hv'; subst hv')
      have hs7 := hb7.size
      go_roundw
      case rel => exact ⟨k - 1, side ++ [1 + v6], by go_num, by omega, by rw [List.length_append, hq]; simp; omega, by omega, hide hown7, hide ((unhide HDN6).belowB hb7 (by omega) (fun g hg => by have := unhide HX g hg; omega)), hide ((unhide HRB6).below hb7 (by omega)), hide ((unhide HR6).onlyB hb7 (by omega)), hide ((unhide HF6).trans (hb7.mono (by omega)))⟩
      case measure => simp [intOf]; omega
    · obtain rfl : k = 0 := by omega
      have d0 := (unhide HDN).c0
      have d1 := (unhide HDN).c1
      have r0 := (unhide HRB).c0
      have r1 := (unhide HRB).c1
      have y0 := (unhide HRB).z0
      have y1 := (unhide HRB).z1
      go_wp2_with fail
      refine bodyPost_ret (v := .tuple #[.agg #[.int .i64 nx, .slice x m c], .slice av q cv]) ?_ rfl ⟨nx, x, m, c, es, _, side, rfl, ?_, ?_, HSH, hm4, by omega, ?_⟩
      · obtain ⟨p0, p1⟩ := (unhide HRB).read (u := .int .i64 nx) (v := .slice x m c)
        simp [results, Try.results6, go_sem, p0, p1]
      · exact hide ((own_past (unhide HDN).own (by omega)).le (by omega))
      · exact hide (((unhide HO).otherN (fun g hg => by have := (World.ownsRow.lt (unhide HO) g hg).1; exact (heap_setN (by omega)).trans (heap_setN (by omega)))).le (by omega))
      · exact ((unhide HF).setCell (p := ⟨w.heap.size, 0, none⟩) (Nat.le_refl _) _).setCell (p := ⟨w.heap.size, 1, none⟩) (Nat.le_refl _) _
end Go.Proofs.Ytgdcamolpmjceaa


/- Whether a number is in a row, as the laws ask it. -/
namespace Go.Proofs.Ytgdcamolpmjceaa
open Go.RowKit Plain
set_option linter.unusedVariables false

set_option maxRecDepth 10000 in
set_option maxHeartbeats 1000000 in
theorem hasInt_calls (a : Option Addr) (n c : Nat) (ls : List Int) (x : Int) (w : World) (h : RowAt i64E w a ls) (hlen : ls.length = n) (hbn : n ≤ 1048576) :
    Calls Try.prog 9 #[.slice a n c, .int .i64 x] w fun e w' => e = .returned (.bool (decide (x ∈ ls))) ∧ w = w' := by
  have HH := hide h
  clear h
  obtain ⟨R, hR⟩ : ∃ R, decide (x ∈ ls) = R := ⟨_, rfl⟩
  rw [hR]
  have HR := hide hR
  clear hR
  obtain ⟨w0, rfl⟩ : ∃ w0, w0 = w := ⟨_, rfl⟩
  go_enter Try.func9, Try.ntmps9
  go_wp2_with fail
  go_loopw [5] (fun i wr => ∃ k : Nat, i = .int .i64 k ∧ k ≤ n ∧ Hid (decide (x ∈ ls.drop k) = R) ∧ wr = w0) (fun i _ => n - (intOf i).toNat)
  case atStart => exact ⟨0, rfl, by omega, hide (unhide HR), rfl⟩
  case round =>
    obtain ⟨k, rfl, hk, HO, rfl⟩ := hrel
    by_cases hkn : k < n
    · have hkl : k < ls.length := by rw [hlen]; exact hkn
      obtain ⟨g, e1, l1, p0, -⟩ := (unhide HH).ix k hkl
      have hst := unhide HO
      rw [List.drop_eq_getElem_cons hkl] at hst
      generalize ls[k] = y at p0 hst
      subst e1
      have i0 : (0 : Int) ≤ (k : Int) := by omega
      have i1 : (k : Int) < (n : Int) := by omega
      clear HO
      by_cases hxy : y = x
      · subst hxy
        have HX := hide (show R = true from by rw [← hst]; simp)
        clear hst
        go_wp2_with fail
        go_ret
        exact ⟨by rw [unhide HX]; rfl, rfl⟩
      · have HX := hide (show decide (x ∈ ls.drop (k + 1)) = R from by rw [← hst]; exact decide_eq_decide.2 (by rw [List.mem_cons]; exact ⟨fun q => .inr q, fun q => q.resolve_left (fun q2 => hxy q2.symm)⟩))
        have hne : (y == x) = false := by rw [beq_eq_false_iff_ne]; exact hxy
        clear hst
        go_wp2_with fail
        go_roundw
        case rel => exact ⟨k + 1, by go_num, by omega, HX, trivial⟩
        case measure => simp [intOf]; omega
    · obtain rfl : k = n := by omega
      have hO := unhide HO
      rw [List.drop_of_length_le (by rw [hlen]; exact Nat.le_refl _)] at hO
      have HX := hide (show R = false from by rw [← hO]; rfl)
      clear hO HO
      go_wp2_with fail
      go_ret
      exact ⟨by rw [unhide HX]; rfl, rfl⟩
end Go.Proofs.Ytgdcamolpmjceaa


/- What the laws of drawn nets ask, as plain mathematics. -/
namespace Go.Proofs.Ytgdcamolpmjceaa
open Go.RowKit Plain
set_option linter.unusedVariables false

namespace Plain
theorem okP_less {nx p q : Int} (hpq : q ≤ p) : ∀ l, okP nx p l = true → okP nx q l = true
  | [], _ => rfl
  | e :: l, h => by
    rw [okP, Bool.and_eq_true] at h ⊢
    refine ⟨?_, h.2⟩
    have h1 := h.1
    unfold pktB at h1 ⊢
    simp only [Bool.and_eq_true, decide_eq_true_eq] at h1 ⊢
    exact ⟨⟨by omega, h1.1.2⟩, h1.2⟩
theorem okP_filter {nx : Int} (f : Pkt → Bool) : ∀ (l : List Pkt) (p : Int), okP nx p l = true → okP nx p (l.filter f) = true
  | [], _, _ => rfl
  | e :: l, p, h => by
    rw [okP, Bool.and_eq_true] at h
    have ih := okP_filter f l e.id h.2
    rw [List.filter_cons]
    split
    · rw [okP, Bool.and_eq_true]; exact ⟨h.1, ih⟩
    · have h1 := h.1
      unfold pktB at h1
      simp only [Bool.and_eq_true, decide_eq_true_eq] at h1
      exact okP_less (by omega) _ ih
theorem netB_filter {nx : Int} {es : List Pkt} (f : Pkt → Bool) (h : netB nx es = true) : netB nx (es.filter f) = true := by
  unfold netB at h ⊢
  simp only [Bool.and_eq_true, decide_eq_true_eq] at h ⊢
  have := List.length_filter_le f es
  exact ⟨h.1, by omega, okP_filter f es 0 h.2.2⟩
theorem keep_keep (ins : Nat → Bool) (es : List Pkt) : keepP ins (keepP ins es) = keepP ins es := by
  unfold keepP; rw [List.filter_filter]; congr 1; funext p; exact Bool.and_self _
theorem ctg_again {nx : Int} {es : List Pkt} (side : List Int) (h : netB nx es = true) : ctgF nx (keepP (insL side) es) side = (nx, keepP (insL side) es, 0) := by
  have h2 : netB nx (keepP (insL side) es) = true := netB_filter _ h
  unfold ctgF
  rw [h2, if_neg (by simp), keep_keep]
  simp
/-- How many of the first packets cross. -/
def crosN (side : List Int) (es : List Pkt) (k : Nat) : Nat := k - ((es.take k).filter (ctK side)).length
theorem crosN_le (side : List Int) (es : List Pkt) (k : Nat) : crosN side es k ≤ k := Nat.sub_le _ _
theorem ctK_len (side : List Int) (es : List Pkt) (k : Nat) : ((es.take k).filter (ctK side)).length ≤ k := Nat.le_trans (List.length_filter_le _ _) (List.length_take_le _ _)
theorem crosN_stay (side : List Int) (es : List Pkt) (k : Nat) (h : k < es.length) (e : (decide (es[k].src ∈ side) == decide (es[k].dst ∈ side)) = true) : crosN side es (k + 1) = crosN side es k := by
  unfold crosN
  rw [ctK_take side es k h, if_pos (show ctK side es[k] = true from e), List.length_append]
  have := ctK_len side es k
  simp only [List.length_cons, List.length_nil]; omega
theorem crosN_more (side : List Int) (es : List Pkt) (k : Nat) (h : k < es.length) (e : (decide (es[k].src ∈ side) == decide (es[k].dst ∈ side)) = false) : crosN side es (k + 1) = crosN side es k + 1 := by
  unfold crosN
  rw [ctK_take side es k h, if_neg (show ¬ ctK side es[k] = true from by unfold ctK; rw [e]; simp)]
  have := ctK_len side es k
  omega
theorem crosN_all {nx : Int} {es : List Pkt} (side : List Int) (h : netB nx es = true) : (crosN side es es.length : Int) = (es.length : Int) - ((keepP (insL side) es).length : Int) := by
  unfold crosN
  rw [List.take_length, ctK_keep side es (netB_pos h)]
  have : (keepP (insL side) es).length ≤ es.length := List.length_filter_le _ _
  omega
theorem ctg_yes {nx : Int} {es : List Pkt} (side : List Int) (h : netB nx es = true) : ctgF nx es side = (nx, keepP (insL side) es, (es.length : Int) - (keepP (insL side) es).length) := by
  unfold ctgF; rw [h, if_neg (by simp)]
theorem ctg_no {nx : Int} {es : List Pkt} (side : List Int) (h : netB nx es = false) : ctgF nx es side = (0, [], -1) := by
  unfold ctgF; rw [h, if_pos rfl]
/-- Ids of a right net are below Next. -/
theorem okP_ids {nx : Int} : ∀ (l : List Pkt) (p : Int), okP nx p l = true → ∀ e ∈ l, e.id < nx
  | [], _, _, e, he => by cases he
  | x :: l, p, h, e, he => by
    rw [okP, Bool.and_eq_true] at h
    rcases List.mem_cons.1 he with rfl | he
    · have h1 := h.1
      unfold pktB at h1
      simp only [Bool.and_eq_true, decide_eq_true_eq] at h1
      exact h1.1.2
    · exact okP_ids l x.id h.2 e he
theorem okP_more {nx : Int} {x : Pkt} (hx : x.id = nx) (he : endsB x.src x.dst x.body = true) : ∀ (l : List Pkt) (p : Int), p < nx → okP nx p l = true → okP (nx + 1) p (l ++ [x]) = true
  | [], p, hp, _ => by
    rw [List.nil_append, okP, okP, Bool.and_true]
    unfold pktB
    rw [he, hx]; simp; omega
  | e :: l, p, hp, h => by
    rw [okP, Bool.and_eq_true] at h
    rw [List.cons_append, okP, Bool.and_eq_true]
    have h1 := h.1
    unfold pktB at h1 ⊢
    simp only [Bool.and_eq_true, decide_eq_true_eq] at h1 ⊢
    exact ⟨⟨⟨h1.1.1, by omega⟩, h1.2⟩, okP_more hx he l e.id h1.1.2 h.2⟩
theorem okP_wide {nx : Int} : ∀ (l : List Pkt) (p : Int), okP nx p l = true → okP (nx + 1) p l = true
  | [], _, _ => rfl
  | e :: l, p, h => by
    rw [okP, Bool.and_eq_true] at h ⊢
    have h1 := h.1
    unfold pktB at h1 ⊢
    simp only [Bool.and_eq_true, decide_eq_true_eq] at h1 ⊢
    exact ⟨⟨⟨h1.1.1, by omega⟩, h1.2⟩, okP_wide l e.id h.2⟩
/-- A packet that is posted: what the laws ask of it. -/
structure Posted (nx : Int) (es : List Pkt) (f t : Int) (b : ByteArray) : Prop where
  net : netB (nx + 1) (es ++ [⟨nx, f, t, b⟩]) = true
  left : netB (nx + 1) es = true
  ends : nodeB f = true ∧ nodeB t = true
  has : nx ∈ btwL (nx + 1) (es ++ [⟨nx, f, t, b⟩]) f t
  kept : takF (nx + 1) (es ++ [⟨nx, f, t, b⟩]) nx true = ⟨nx + 1, es ++ [⟨nx, f, t, b⟩], ⟨nx, f, t, b⟩, true⟩
  gone : takF (nx + 1) (es ++ [⟨nx, f, t, b⟩]) nx false = ⟨nx + 1, es, ⟨nx, f, t, b⟩, true⟩
  no : (takF (nx + 1) es nx false).ok = false
theorem posted {nx : Int} {es : List Pkt} {f t : Int} {b : ByteArray} (h : netB nx es = true) (he : endsB f t b = true) (hl : ¬ (300 ≤ es.length ∨ 1000000000000 ≤ nx)) : Posted nx es f t b := by
  have hn := h
  unfold netB at hn
  simp only [Bool.and_eq_true, decide_eq_true_eq] at hn
  have hid := okP_ids es 0 hn.2.2
  have hne : ∀ e ∈ es, decide (e.id = nx) = false := fun e he => by have := hid e he; simp; omega
  have hnet : netB (nx + 1) (es ++ [⟨nx, f, t, b⟩]) = true := by
    unfold netB
    simp only [Bool.and_eq_true, decide_eq_true_eq, List.length_append, List.length_cons, List.length_nil]
    exact ⟨⟨by omega, by omega⟩, by omega, okP_more (x := ⟨nx, f, t, b⟩) rfl he es 0 (show (0 : Int) < nx by omega) hn.2.2⟩
  have hleft : netB (nx + 1) es = true := by
    unfold netB
    simp only [Bool.and_eq_true, decide_eq_true_eq]
    exact ⟨⟨by omega, by omega⟩, by omega, okP_wide es 0 hn.2.2⟩
  have hfn : (es.find? fun q => decide (q.id = nx)) = none := List.find?_eq_none.2 fun e he => by rw [hne e he]; simp
  have hff : ((es ++ [(⟨nx, f, t, b⟩ : Pkt)]).find? fun q => decide (q.id = nx)) = some ⟨nx, f, t, b⟩ := by
    rw [List.find?_append, hfn]; simp
  have hdr : dropI (es ++ [⟨nx, f, t, b⟩]) nx = es := by
    unfold dropI
    rw [List.filter_append, List.filter_eq_self.2 (fun e he => by have := hne e he; simpa using this)]
    simp
  refine ⟨hnet, hleft, ?_, ?_, ?_, ?_, ?_⟩
  · unfold endsB at he; simp only [Bool.and_eq_true] at he; exact he.1
  · unfold btwL
    rw [if_pos hnet, List.mem_map]
    refine ⟨⟨nx, f, t, b⟩, ?_, rfl⟩
    unfold wayF
    rw [List.mem_filter]
    exact ⟨by simp, by simp⟩
  · unfold takF; rw [hnet, if_neg (by simp), hff]; simp
  · unfold takF; rw [hnet, if_neg (by simp), hff]; simp [hdr]
  · unfold takF; rw [hleft, if_neg (by simp), hfn]
theorem pst_ok {nx : Int} {es : List Pkt} {f t : Int} {b : ByteArray} (h : (pstF nx es f t b).2.2 = 0) : pstF nx es f t b = (nx + 1, es ++ [⟨nx, f, t, b⟩], 0) ∧ Posted nx es f t b := by
  unfold pstF at h ⊢
  split at h
  · simp at h
  · rename_i h1
    split at h
    · simp at h
    · rename_i h2
      split at h
      · simp at h
      · rename_i h3
        rw [if_neg h1, if_neg h2, if_neg h3]
        exact ⟨rfl, posted (by simpa using h1) (by simpa using h2) h3⟩
theorem pst_not {nx : Int} {es : List Pkt} {f t : Int} {b : ByteArray} (h : (pstF nx es f t b).2.2 ≠ 0) : (pstF nx es f t b).2.2 = 1 ∨ ((pstF nx es f t b).2.2 ≠ 1 ∧ (pstF nx es f t b).1 = nx ∧ (pstF nx es f t b).2.1 = es) := by
  unfold pstF at h ⊢
  split
  · exact .inl rfl
  · split
    · exact .inr ⟨by simp, rfl, rfl⟩
    · split
      · exact .inr ⟨by simp, rfl, rfl⟩
      · rename_i h1 h2 h3
        rw [if_neg h1, if_neg h2, if_neg h3] at h
        exact absurd rfl h
end Plain
end Go.Proofs.Ytgdcamolpmjceaa


/- The walk of the law FnCut, over what is drawn. -/
namespace Go.Proofs.Ytgdcamolpmjceaa
open Go.RowKit Plain
set_option linter.unusedVariables false

theorem hasQ (a : Option Addr) (n c : Nat) (ls : List Int) (x : Int) (w : World) (k : Nat) (b : Bool) (h : RowAt i64E w a ls) (hlen : ls.length = n) (hbn : n ≤ 1048576) (hb : decide (x ∈ ls) = b) :
    Calls Try.prog 9 #[.slice a n c, .int .i64 x] (w.drewN k) fun e w'' => e = .returned (.bool b) ∧ ∃ m, w'' = w.drewN m := by
  subst hb
  refine (hasInt_calls a n c ls x (w.drewN k) h hlen hbn).mono ?_
  rintro e w2 ⟨rfl, rfl⟩
  exact ⟨rfl, k, rfl⟩

theorem own_capN {W : World} {B m c : Nat} {x : Option Addr} {es : List Pkt} (h : OwnR pktE W B (.slice x m c) es) : es.length = m ∧ m ≤ c := by
  obtain ⟨_, _, hf⟩ := h.form
  injection hf with _ q1 _
  refine ⟨q1.symm, ?_⟩
  rcases h.2 with ⟨q, q0⟩ | ⟨g', cap', cur, q, _, _, q2, _⟩
  · injection q with _ q1 _; omega
  · injection q with _ q1 q3; omega

theorem Plain.hg_eq {es : List Pkt} {side : List Int} {g kl : Nat} (hg : (es.length : Int) - (kl : Int) = (g : Int)) (hk : (keepP (insL side) es).length = kl) : (es.length : Int) - ((keepP (insL side) es).length : Int) = (g : Int) := by rw [hk]; exact hg

set_option maxRecDepth 10000 in
set_option maxHeartbeats 8000000 in
theorem cut_walk (a0 : Option Addr) (len0 cap0 : Nat) (w : World) (hbig : len0 ≤ 1048576) (HDR : Calls Try.prog 6 #[.slice a0 len0 cap0] w (CutDPost w)) :
    Calls Try.prog 3 #[.slice a0 len0 cap0] w fun e w' => e = .returned (.bool true) ∧ Below w.heap.size w w' := by
  have hd : decide (1048576 < (len0 : Int)) = false := by simp; omega
  have hlen : len0 ≤ maxLen := by unfold maxLen; omega
  have HB := hide (big_calls a0 len0 cap0 w hlen)
  have HDR2 := hide HDR
  clear HDR
  rw [hd] at HB
  go_enter Try.func3, Try.ntmps3
  go_wp2_with fail
  refine (unhide HB).mono ?_
  rintro e w1 ⟨rfl, rfl⟩
  go_wp2_with fail
  refine (unhide HDR2).mono ?_
  unfold CutDPost
  rintro e w1 ⟨nx, x, m, c, es, sv, side, rfl, HO1, HS1, HSH, hm4, hsl, hb1⟩
  obtain ⟨ai, ci, hv⟩ := (unhide HS1).form
  subst hv
  obtain ⟨ni, hni⟩ : ∃ n, side.length = n := ⟨_, rfl⟩
  rw [hni] at HS1 hsl ⊢
  obtain ⟨hml, hmc⟩ := own_capN (unhide HO1)
  obtain ⟨W2, hW2⟩ : ∃ W2, W2 = w1.alloc (.cells #[.int .i64 nx, .slice x m c] 26) := ⟨_, rfl⟩
  have hb2 : Below w1.heap.size w1 W2 := by rw [hW2]; exact bel1 _ _
  have hz2 : W2.heap.size = w1.heap.size + 1 := by rw [hW2]; simp
  have c0 : W2.cell? ⟨w1.heap.size, 0, none⟩ = some (.int .i64 nx) := by rw [hW2]; simp [go_sem]
  have c1 : W2.cell? ⟨w1.heap.size, 1, none⟩ = some (.slice x m c) := by rw [hW2]; simp [go_sem]
  have HC := hide (fun (W : World) (hW : Below W2.heap.size W2 W) => And.intro (bcl hW (by omega) c0) (bcl hW (by omega) c1))
  have HN := hide (fun (W : World) (hW : Below W2.heap.size W2 W) => show NetAt W x m c es from ⟨((unhide HO1).keep (belOn hb2 hW)).at, hml, by omega, fun e he => by have := unhide HSH e he; omega⟩)
  have HS := hide (fun (W : World) (hW : Below W2.heap.size W2 W) => ((unhide HS1).keep (belOn hb2 hW)).at)
  have HSC := hide (spec_Cutting nx x m c es ai ni ci side W2 (unhide HN _ (Below.refl _ _)) hmc (unhide HS _ (Below.refl _ _)) hni (by omega))
  have HB2 := hide (belOn hb1 hb2)
  have HW2 := hide hW2.symm
  have HML := hide hml
  have HNI := hide hni
  clear hW2 hb2 hb1 HO1 HS1 HDR2 HB hml hni
  go_wp2_with fail
  rw [unhide HW2]
  refine (unhide HSC).mono ?_
  unfold NetPost
  rintro e w3 ⟨a3, c3, rfl, ho3, hb3⟩
  cases hnb : netB nx es with
  | false =>
    rw [ctg_no side hnb]
    obtain ⟨W4, hW4⟩ : ∃ W4, W4 = w3.alloc (.cells #[.int .i64 0, .slice a3 0 c3] 26) := ⟨_, rfl⟩
    have hb4 : Below W2.heap.size W2 W4 := by rw [hW4]; exact belOn hb3 (bel1 _ _)
    obtain ⟨q0, q1⟩ := unhide HC _ hb4
    obtain ⟨q2, q3⟩ := unhide HC _ hb3
    have HIM := hide (impl_Cutting nx x m c es ai ni ci side W4 (unhide HN _ hb4) hmc (unhide HS _ hb4) (unhide HNI) (by omega))
    rw [ctg_no side hnb] at HIM
    have HB4 := hide (belOn (unhide HB2) hb4)
    have HW4 := hide hW4.symm
    rw [hW4] at q0 q1
    clear hW4 hb4 hb3 ho3 c0 c1 q2 q3
    go_wp2_with fail
    rw [unhide HW4]
    refine (unhide HIM).mono ?_
    unfold NetPost
    rintro e w5 ⟨a5, c5, rfl, ho5, hb5⟩
    have HB5 := hide (belOn (unhide HB4) hb5)
    clear hb5 ho5 q0 q1
    go_wp2_with fail
    go_ret
    exact ⟨rfl, belOn (unhide HB5) (bel1 _ _)⟩
  | true =>
    rw [ctg_yes side hnb]
    have hkl : (keepP (insL side) es).length ≤ es.length := List.length_filter_le _ _
    obtain ⟨g, hg⟩ : ∃ g : Nat, (es.length : Int) - (keepP (insL side) es).length = (g : Int) := ⟨es.length - (keepP (insL side) es).length, by omega⟩
    obtain ⟨kl, hkle⟩ : ∃ k, (keepP (insL side) es).length = k := ⟨_, rfl⟩
    have hml := unhide HML
    rw [hg]
    simp only []
    simp only [hkle] at hg hkl ⊢
    have hgm : g + kl = m := by omega
    obtain ⟨W4, hW4⟩ : ∃ W4, W4 = w3.alloc (.cells #[.int .i64 nx, .slice a3 kl c3] 26) := ⟨_, rfl⟩
    have hb4 : Below W2.heap.size W2 W4 := by rw [hW4]; exact belOn hb3 (bel1 _ _)
    obtain ⟨q0, q1⟩ := unhide HC _ hb4
    obtain ⟨q2, q3⟩ := unhide HC _ hb3
    have HIM := hide (impl_Cutting nx x m c es ai ni ci side W4 (unhide HN _ hb4) hmc (unhide HS _ hb4) (unhide HNI) (by omega))
    rw [ctg_yes side hnb, hg_eq hg hkle] at HIM
    have HB4 := hide hb4
    have HW4 := hide hW4.symm
    rw [hW4] at q0 q1
    clear hW4 hb4 hb3 ho3 c0 c1 q2 q3
    go_wp2_with fail
    rw [unhide HW4]
    refine (unhide HIM).mono ?_
    unfold NetPost
    rintro e w5 ⟨a5, c5, rfl, ho5, hb5⟩
    simp only [hkle] at ho5 ⊢
    obtain ⟨W6, hW6⟩ : ∃ W6, W6 = w5.alloc (.cells #[.int .i64 nx, .slice a5 kl c5] 26) := ⟨_, rfl⟩
    have hb6 : Below w5.heap.size w5 W6 := by rw [hW6]; exact bel1 _ _
    have h6 : Below W2.heap.size W2 W6 := belOn (belOn (unhide HB4) hb5) hb6
    have hz6 : W6.heap.size = w5.heap.size + 1 := by rw [hW6]; simp
    have d0 : W6.cell? ⟨w5.heap.size, 0, none⟩ = some (.int .i64 nx) := by rw [hW6]; simp [go_sem]
    have d1 : W6.cell? ⟨w5.heap.size, 1, none⟩ = some (.slice a5 kl c5) := by rw [hW6]; simp [go_sem]
    have HC6 := hide (fun (W : World) (hW : Below W6.heap.size W6 W) => And.intro (unhide HC W (belOn h6 hW)).2 (And.intro (bcl hW (by omega) d0) (bcl hW (by omega) d1)))
    obtain ⟨hkl5, hkc5⟩ := own_capN ho5
    have HNK := hide (fun (W : World) (hW : Below W6.heap.size W6 W) => show NetAt W a5 kl c5 (keepP (insL side) es) from ⟨(ho5.keep (belOn hb6 hW)).at, hkl5, by omega, fun e he => by have := unhide HSH e (List.mem_filter.1 he).1; omega⟩)
    have HN6 := hide (fun (W : World) (hW : Below W6.heap.size W6 W) => (unhide HN W (belOn h6 hW)).1)
    have HS6 := hide (fun (W : World) (hW : Below W6.heap.size W6 W) => unhide HS W (belOn h6 hW))
    have HF6 := hide (belOn (unhide HB2) h6)
    have HW6 := hide hW6.symm
    have HG := hide (show (g : Int) = (crosN side es m : Nat) from by rw [← hml]; rw [crosN_all side hnb]; rw [hkle]; exact hg.symm)
    have HAG := hide (ctg_again side hnb)
    have HNB := hide hnb
    have HKLE := hide hkle
    clear hW6 hb6 h6 d0 d1 ho5 hb5 HB4 q0 q1 HC HN HS HSC HIM hkle hml hg hkl hkl5 hnb HB2
    go_wp2_with fail
    rw [unhide HW6]
    go_loopw [9, 10] (fun s9 s10 wr => ∃ k C : Nat, s10 = .int .i64 k ∧ s9 = .int .i64 C ∧ C ≤ k ∧ Hid (C = crosN side es k) ∧ k ≤ m ∧ Hid (Below W6.heap.size W6 wr)) (fun _ s10 _ => m - (intOf s10).toNat)
    case atStart => exact ⟨0, 0, rfl, rfl, by omega, hide rfl, by omega, hide (Below.refl _ _)⟩
    case round =>
      obtain ⟨k, C, rfl, rfl, hCk, HCR, hk, HBr⟩ := hrel
      obtain ⟨r1, r2, r3⟩ := unhide HC6 _ (unhide HBr)
      by_cases hkm : k < m
      · have hkl2 : k < es.length := by rw [unhide HML]; exact hkm
        obtain ⟨gx, ex, lx, p0, p1, p2, p3⟩ := (unhide HN6 _ (unhide HBr)).px k hkl2
        have hmore := crosN_more side es k hkl2
        have hstay := crosN_stay side es k hkl2
        generalize es[k] = pk at p0 p1 p2 p3 hmore hstay
        obtain ⟨pi, fr, ds, bd⟩ := pk
        simp only [] at p0 p1 p2 p3 hmore hstay
        subst ex
        have HSI := hide (unhide HS6 _ (unhide HBr))
        obtain ⟨A, hA⟩ : ∃ A, decide (fr ∈ side) = A := ⟨_, rfl⟩
        obtain ⟨D, hD⟩ : ∃ D, decide (ds ∈ side) = D := ⟨_, rfl⟩
        rw [hA, hD] at hmore hstay
        have HA := hide hA
        have HD := hide hD
        have HMO := hide hmore
        have HST := hide hstay
        have i0 : (0 : Int) ≤ (k : Int) := by omega
        have i1 : (k : Int) < (m : Int) := by omega
        have hC0 : (C : Int) ≤ 400 := by omega
        clear hA hD hmore hstay
        cases A <;> cases D <;> (
          go_wp2_with fail
          go_quiet (first | (go_at_call_of 9 fr; exact hasQ _ _ _ side _ _ _ _ (unhide HSI) (unhide HNI) (by omega) (unhide HA)) | (go_at_call 9; exact hasQ _ _ _ side _ _ _ _ (unhide HSI) (unhide HNI) (by omega) (unhide HD)))
          go_wp2_with fail
          go_roundw
          case rel => first
            | exact ⟨k + 1, C + 1, by go_num, by go_num, by omega, hide (by rw [unhide HMO rfl, ← unhide HCR]), by omega, hide ⟨(unhide HBr).os, (unhide HBr).tape, (unhide HBr).output, (unhide HBr).size, (unhide HBr).block⟩⟩
            | exact ⟨k + 1, C, by go_num, by go_num, by omega, hide (by rw [unhide HST rfl, ← unhide HCR]), by omega, hide ⟨(unhide HBr).os, (unhide HBr).tape, (unhide HBr).output, (unhide HBr).size, (unhide HBr).block⟩⟩
          case measure => simp [intOf]; omega)
      · obtain rfl : k = m := by omega
        have hgC : (C : Int) = g := by rw [unhide HCR, unhide HG]
        obtain rfl : C = g := by omega
        have HAI := hide (impl_Cutting nx a5 kl c5 (keepP (insL side) es) ai ni ci side wr (unhide HNK _ (unhide HBr)) hkc5 (unhide HS6 _ (unhide HBr)) (unhide HNI) (by omega))
        rw [unhide HAG] at HAI
        go_wp2_with fail
        refine (unhide HAI).mono ?_
        unfold NetPost
        rintro e w8 ⟨a8, c8, rfl, ho8, hb8⟩
        simp only [unhide HKLE] at ho8 ⊢
        obtain ⟨t1, t2, t3⟩ := unhide HC6 _ (belOn (unhide HBr) hb8)
        have hb9 : Below w8.heap.size w8 (w8.alloc (.cells #[.int .i64 nx, .slice a8 kl c8] 26)) := bel1 _ _
        obtain ⟨v1, v2, v3⟩ := unhide HC6 _ (belOn (belOn (unhide HBr) hb8) hb9)
        have e1 : ((kl : Int) == (k : Int) - (C : Int)) = true := by rw [beq_iff_eq]; omega
        have HF9 := hide (belOn (unhide HF6) (belOn (belOn (unhide HBr) hb8) hb9))
        clear hb9 hb8 ho8 r1 r2 r3 t1 t2 t3 hgm hmc hkc5
        go_wp2_with fail
        go_ret
        exact ⟨rfl, unhide HF9⟩
end Go.Proofs.Ytgdcamolpmjceaa

