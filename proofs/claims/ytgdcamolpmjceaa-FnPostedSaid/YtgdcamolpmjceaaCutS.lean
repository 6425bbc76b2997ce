/- A net that is cut, by the specification. -/
import Derived.Test.YtgdcamolpmjceaaCutJ
import Derived.Test.YtgdcamolpmjceaaPstS
namespace Go.Proofs.Ytgdcamolpmjceaa
open Go.RowKit Go.Maps Plain
set_option linter.unusedVariables false

set_option maxRecDepth 10000 in
set_option maxHeartbeats 1000000 in
theorem l1IntsN_calls (a : Option Addr) (n c : Nat) (ls : List Int) (x : Int) (w : World) (h : RowAt i64E w a ls) (hlen : ls.length = n) (hbn : n ≤ 1048576) :
    Calls Try.prog 20 #[.slice a n c, .int .i64 x] w fun e w' => e = .returned (.bool (decide (x ∈ ls))) ∧ w = w' := by
  have HH := hide h
  clear h
  obtain ⟨R, hR⟩ : ∃ R, decide (x ∈ ls) = R := ⟨_, rfl⟩
  rw [hR]
  have HR := hide hR
  clear hR
  obtain ⟨w0, rfl⟩ : ∃ w0, w0 = w := ⟨_, rfl⟩
  go_enter Try.func20, Try.ntmps20
  go_wp2_with fail
  go_loopw [5] (fun i wr => ∃ k : Nat, i = .int .i64 k ∧ k ≤ n ∧ Hid (decide (x ∈ ls.drop k) = R) ∧ wr = w0) (fun i _ => n - (intOf i).toNat)
  case atStart => exact ⟨0, rfl, by omega, hide (unhide HR), rfl⟩
  case round =>
    obtain ⟨k, rfl, hk, HO, rfl⟩ := hrel
    by_cases hkn : k < n
    · have hkl : k < ls.length := by rw [hlen]; exact hkn
      obtain ⟨g, e1, l1, p0, -⟩ := (unhide HH).ix k hkl
      have hst := unhide HO
      rw [List.drop_eq_getElem_cons hkl] at hst
      generalize ls[k] = y at p0 hst
      subst e1
      have i0 : (0 : Int) ≤ (k : Int) := by omega
      have i1 : (k : Int) < (n : Int) := by omega
      clear HO
      by_cases hxy : y = x
      · subst hxy
        have HX := hide (show R = true from by rw [← hst]; simp)
        clear hst
        go_wp2_with fail
        go_ret
        exact ⟨by rw [unhide HX]; rfl, rfl⟩
      · have HX := hide (show decide (x ∈ ls.drop (k + 1)) = R from by rw [← hst]; exact decide_eq_decide.2 (by rw [List.mem_cons]; exact ⟨fun q => .inr q, fun q => q.resolve_left (fun q2 => hxy q2.symm)⟩))
        have hne : (y == x) = false := by rw [beq_eq_false_iff_ne]; exact hxy
        clear hst
        go_wp2_with fail
        go_roundw
        case rel => exact ⟨k + 1, by go_num, by omega, HX, trivial⟩
        case measure => simp [intOf]; omega
    · obtain rfl : k = n := by omega
      have hO := unhide HO
      rw [List.drop_of_length_le (by rw [hlen]; exact Nat.le_refl _)] at hO
      have HX := hide (show R = false from by rw [← hO]; rfl)
      clear hO HO
      go_wp2_with fail
      go_ret
      exact ⟨by rw [unhide HX]; rfl, rfl⟩

theorem ints_quiet (a : Option Addr) (n c : Nat) (ls : List Int) (x : Int) (w : World) (k : Nat) (b : Bool) (h : RowAt i64E w a ls) (hlen : ls.length = n) (hbn : n ≤ 1048576) (hb : decide (x ∈ ls) = b) :
    Calls Try.prog 20 #[.slice a n c, .int .i64 x] (w.drewN k) fun e w'' => e = .returned (.bool b) ∧ ∃ m, w'' = w.drewN m := by
  subst hb
  refine (l1IntsN_calls a n c ls x (w.drewN k) h hlen hbn).mono ?_
  rintro e w2 ⟨rfl, rfl⟩
  exact ⟨rfl, k, rfl⟩

namespace Plain
def ctK (side : List Int) (p : Pkt) : Bool := decide (p.src ∈ side) == decide (p.dst ∈ side)
theorem ctK_keep (side : List Int) (es : List Pkt) (h : ∀ e ∈ es, 1 ≤ e.src ∧ 1 ≤ e.dst) : es.filter (ctK side) = keepP (insL side) es := by
  refine List.filter_congr fun p hp => ?_
  have h1 := h p hp
  have e : ∀ x : Int, 1 ≤ x → insL side x.toNat = decide (x ∈ side) := fun x hx => by
    unfold insL
    rw [decide_eq_true (show 1 ≤ x.toNat by omega), Bool.true_and, Int.toNat_of_nonneg (by omega), Bool.eq_iff_iff, List.contains_iff_mem, decide_eq_true_iff]
  unfold ctK crsB
  rw [e _ h1.1, e _ h1.2]
  cases decide (p.src ∈ side) <;> cases decide (p.dst ∈ side) <;> rfl
theorem ctK_take (side : List Int) (es : List Pkt) (k : Nat) (h : k < es.length) : (es.take (k + 1)).filter (ctK side) = if ctK side es[k] = true then (es.take k).filter (ctK side) ++ [es[k]] else (es.take k).filter (ctK side) := by
  rw [List.take_succ_eq_append_getElem h, List.filter_append]
  split
  · rename_i hc; rw [List.filter_cons_of_pos hc]; rfl
  · rename_i hc; rw [List.filter_cons_of_neg hc]; simp
theorem netB_pos {t : Int} {es : List Pkt} (h : netB t es = true) : ∀ e ∈ es, 1 ≤ e.src ∧ 1 ≤ e.dst := by
  unfold netB at h
  simp only [Bool.and_eq_true, decide_eq_true_eq] at h
  have hk : ∀ (l : List Pkt) (p : Int), okP t p l = true → ∀ e ∈ l, 1 ≤ e.src ∧ 1 ≤ e.dst := by
    intro l
    induction l with
    | nil => intro p _ e he; simp at he
    | cons x l ih =>
      intro p hp e he
      rw [okP, Bool.and_eq_true] at hp
      rcases List.mem_cons.1 he with rfl | he
      · have h1 := hp.1
        unfold pktB endsB nodeB at h1
        simp only [Bool.and_eq_true, decide_eq_true_eq] at h1
        omega
      · exact ih _ hp.2 e he
  exact hk es 0 h.2.2
/-- The net that is being made. -/
structure OutN (G : Nat) (nx : Int) (x : Option Addr) (m d : Nat) (l : List Pkt) (W : World) : Prop where
  c0 : W.cell? ⟨G, 0, none⟩ = some (.int .i64 nx)
  c1 : W.cell? ⟨G, 1, none⟩ = some (.slice x m d)
  z1 : W.frozen? ⟨G, 1, none⟩ = false
  own : OwnR pktE W (G + 1) (.slice x m d) l
theorem OutN.below {G m d : Nat} {nx : Int} {x : Option Addr} {l : List Pkt} {W W' : World} (h : OutN G nx x m d l W) (hb : Below W.heap.size W W') (hG : G < W.heap.size) : OutN G nx x m d l W' := ⟨bcl hb hG h.c0, bcl hb hG h.c1, (hb.frozen (p := ⟨G, 1, none⟩) hG).trans h.z1, h.own.keep hb⟩
end Plain

set_option maxRecDepth 10000 in
set_option maxHeartbeats 4000000 in
theorem spec_Cutting (nx : Int) (a : Option Addr) (n c : Nat) (es : List Pkt) (b : Option Addr) (m d : Nat) (side : List Int) (w : World) (h : NetAt w a n c es) (hnc : n ≤ c) (hs : RowAt i64E w b side) (hm : side.length = m) (hm2 : m ≤ 1048576) :
    Calls Try.prog 7 #[.agg #[.int .i64 nx, .slice a n c], .slice b m d] w (NetPost (ctgF nx es side) w) := by
  obtain ⟨W0, hW0⟩ : ∃ W0, W0 = (w.alloc (.cells #[.int .i64 nx, .slice a n c] 26)).alloc (.cells #[.int .i64 0, .slice none 0 0] 26) := ⟨_, rfl⟩
  have hb0 : Below w.heap.size w W0 := by rw [hW0]; exact belOn (bel1 _ _) (bel1 _ _)
  have hz : W0.heap.size = w.heap.size + 2 := by rw [hW0]; simp
  have hlt : w.heap.size < W0.heap.size := by omega
  have hlt1 : w.heap.size + 1 < W0.heap.size := by omega
  have c0 : W0.cell? ⟨w.heap.size, 0, none⟩ = some (.int .i64 nx) := by rw [hW0]; simp [go_sem]
  have c1 : W0.cell? ⟨w.heap.size, 1, none⟩ = some (.slice a n c) := by rw [hW0]; simp [go_sem]
  have hRB : RB (w.heap.size + 1) W0 := ⟨by rw [hW0]; simp [go_sem], by rw [hW0]; simp [go_sem], by rw [hW0]; simp [go_sem], by rw [hW0]; simp [go_sem]⟩
  have HN := hide (spec_NetOk nx a n c es W0 (h.below hb0) hnc)
  have HC := hide (fun (W : World) (hW : Below W0.heap.size W0 W) => And.intro (bcl hW hlt c0) (bcl hW hlt c1))
  have HRB := hide (fun (W : World) (hW : Below W0.heap.size W0 W) => hRB.below hW hlt1)
  have HFIN := hide (fun (X : World) (u v : Value) (hX : Below W0.heap.size W0 X) => show Below w.heap.size w ((X.setCell ⟨w.heap.size + 1, 0, none⟩ u).setCell ⟨w.heap.size + 1, 1, none⟩ v) from ((hb0.trans (hX.mono (by omega))).setCell (p := ⟨w.heap.size + 1, 0, none⟩) (Nat.le_succ _) _).setCell (p := ⟨w.heap.size + 1, 1, none⟩) (Nat.le_succ _) _)
  have HOWN := hide (fun (X : World) (u v : Value) (k : Nat) (x : Option Addr) (m d : Nat) (l : List Pkt) (hk : W0.heap.size ≤ k) (ho : OwnR pktE X k (.slice x m d) l) => show OwnR pktE ((X.setCell ⟨w.heap.size + 1, 0, none⟩ u).setCell ⟨w.heap.size + 1, 1, none⟩ v) w.heap.size (.slice x m d) l from (own_past ho (by omega)).le (by omega))
  have HW0 := hide hW0.symm
  have HD := hide (fun (W : World) (hW : Below W0.heap.size W0 W) => (h.below hb0).below hW)
  have HSD := hide (fun (W : World) (hW : Below W0.heap.size W0 W) => (hs.below hb0).below hW)
  have hlen := h.len
  unfold NetPost ctgF
  cases hnet : netB nx es with
  | false =>
    rw [if_pos rfl]
    rw [hnet] at HN
    clear h hb0 hW0 hnet hRB hs
    go_enter Try.func7, Try.ntmps7
    go_wp2_with fail
    rw [unhide HW0]
    go_wp2_with fail
    refine (unhide HN).mono ?_
    rintro e w1 ⟨rfl, hb1⟩
    obtain ⟨e0, e1, f0, f1⟩ := unhide HRB _ hb1
    have HR := hide (unhide HRB _ hb1)
    have HB1 := hide hb1
    clear hb1 c0 c1
    go_wp2_with fail
    obtain ⟨r0, r1⟩ := (unhide HR).read (u := .int .i64 0) (v := .slice none 0 0)
    exact bodyPost_ret (v := .tuple #[.agg #[.int .i64 0, .slice none 0 0], .int .i64 (-1)]) (by simp [results, Try.results7, go_sem, r0, r1]) rfl ⟨none, 0, rfl, ownR_nil _ _ _, unhide HFIN _ _ _ (unhide HB1)⟩
  | true =>
    rw [if_neg (by decide)]
    rw [hnet] at HN
    obtain ⟨f1, f2⟩ := netB_facts hnet
    have hkp := ctK_keep side es (netB_pos hnet)
    rw [← hkp]
    have hbn := h.bn
    clear h hb0 hW0 hRB hs hkp f2 hnet
    go_enter Try.func7, Try.ntmps7
    go_wp2_with fail
    rw [unhide HW0]
    go_wp2_with fail
    refine (unhide HN).mono ?_
    rintro e w1 ⟨rfl, hb1⟩
    have HB1 := hide hb1
    obtain ⟨q0, q1⟩ := unhide HC _ hb1
    obtain ⟨W2, hW2⟩ : ∃ W2, W2 = w1.alloc (.cells #[.int .i64 nx, .slice none 0 0] 26) := ⟨_, rfl⟩
    have HO2 := hide (show OutN w1.heap.size nx none 0 0 [] W2 from ⟨by rw [hW2]; simp [go_sem], by rw [hW2]; simp [go_sem], by rw [hW2]; simp [go_sem], ownR_nil _ _ _⟩)
    have HB2 := hide (show Below w1.heap.size w1 W2 from by rw [hW2]; exact bel1 _ _)
    have hz2 : W2.heap.size = w1.heap.size + 1 := by rw [hW2]; simp
    have hz1 := hb1.size
    have HW2 := hide hW2.symm
    clear hb1 c0 c1 hW2
    go_wp2_with fail
    rw [unhide HW2]
    clear q0 q1
    go_loopw [7] (fun i wr => ∃ (k mm dd : Nat) (x : Option Addr), i = .int .i64 k ∧ k ≤ n ∧ mm ≤ k ∧ Hid (OutN w1.heap.size nx x mm dd ((es.take k).filter (ctK side)) wr) ∧ Hid (Below w1.heap.size w1 wr) ∧ w1.heap.size + 1 ≤ wr.heap.size) (fun i _ => n - (intOf i).toNat)
    case atStart => exact ⟨0, 0, 0, none, rfl, by omega, by omega, HO2, HB2, by omega⟩
    case round =>
      clear HO2 HB2
      obtain ⟨k, mm, dd, x, rfl, hk, hmk, HO, HB, hzr⟩ := hrel
      have hBr := belOn (unhide HB1) (unhide HB)
      obtain ⟨q0, q1⟩ := unhide HC _ hBr
      have HBr := hide hBr
      by_cases hkn : k < n
      · have hkl : k < es.length := by omega
        obtain ⟨g, e1, l1, p0, p1, p2, p3⟩ := (unhide HD _ hBr).row.px k hkl
        have htk := ctK_take side es k hkl
        have hml := (unhide HO).own.form
        generalize es[k] = y at p0 p1 p2 p3 htk
        obtain ⟨pi, fr, ds, bd⟩ := y
        simp only at p0 p1 p2 p3
        subst e1
        have i0 : (0 : Int) ≤ (k : Int) := by omega
        have i1 : (k : Int) < (n : Int) := by omega
        obtain ⟨W3, hW3⟩ : ∃ W3, W3 = wr.alloc (.cells #[.int .i64 pi, .int .i64 fr, .int .i64 ds, .string bd] 34) := ⟨_, rfl⟩
        have hb3 : Below wr.heap.size wr W3 := by rw [hW3]; exact bel1 _ _
        have s0 : W3.cell? ⟨wr.heap.size, 0, none⟩ = some (.int .i64 pi) := by rw [hW3]; simp [go_sem]
        have s1 : W3.cell? ⟨wr.heap.size, 1, none⟩ = some (.int .i64 fr) := by rw [hW3]; simp [go_sem]
        have s2 : W3.cell? ⟨wr.heap.size, 2, none⟩ = some (.int .i64 ds) := by rw [hW3]; simp [go_sem]
        have s3 : W3.cell? ⟨wr.heap.size, 3, none⟩ = some (.string bd) := by rw [hW3]; simp [go_sem]
        have HO3 := hide ((unhide HO).below hb3 (by omega))
        have HB3 := hide (show Below w1.heap.size w1 W3 from belOn (unhide HB) hb3)
        have hz3 : W3.heap.size = wr.heap.size + 1 := by rw [hW3]; simp
        have HSI := hide (unhide HSD _ (belOn hBr hb3))
        obtain ⟨A, hA⟩ : ∃ A, decide (fr ∈ side) = A := ⟨_, rfl⟩
        obtain ⟨C, hC⟩ : ∃ C, decide (ds ∈ side) = C := ⟨_, rfl⟩
        have HA := hide hA
        have HCC := hide hC
        have hct : ctK side ⟨pi, fr, ds, bd⟩ = (A == C) := by unfold ctK; rw [hA, hC]
        rw [hct] at htk
        have HTK := hide htk
        have HW3 := hide hW3.symm
        clear hW3 hb3 hA hC hct htk hml hBr
        go_wp2_with fail
        rw [unhide HW3]
        go_quiet (first | (go_at_call_of 20 fr; exact ints_quiet _ _ _ side _ _ _ _ (unhide HSI) hm hm2 (unhide HA)) | (go_at_call 20; exact ints_quiet _ _ _ side _ _ _ _ (unhide HSI) hm hm2 (unhide HCC)))
        obtain ⟨o0, o1, oz, oo⟩ := unhide HO3
        obtain ⟨_, _, hfm⟩ := oo.form
        have hmm : ((es.take k).filter (ctK side)).length = mm := by injection hfm with _ q _; exact q.symm
        clear hfm
        obtain ⟨W4, hW4⟩ : ∃ W4, W4 = W3.drewN nq := ⟨_, rfl⟩
        have o0 : W4.cell? ⟨w1.heap.size, 0, none⟩ = some (.int .i64 nx) := by rw [hW4]; exact o0
        have o1 : W4.cell? ⟨w1.heap.size, 1, none⟩ = some (.slice x mm dd) := by rw [hW4]; exact o1
        have oz : W4.frozen? ⟨w1.heap.size, 1, none⟩ = false := by rw [hW4]; exact oz
        have OO := hide (show OwnR pktE W4 (w1.heap.size + 1) (.slice x mm dd) ((es.take k).filter (ctK side)) from by rw [hW4]; exact oo)
        have hB4 : Below w1.heap.size w1 W4 := by rw [hW4]; exact ⟨(unhide HB3).os, (unhide HB3).tape, (unhide HB3).output, (unhide HB3).size, (unhide HB3).block⟩
        have HB4 := hide hB4
        have hz4 : W4.heap.size = wr.heap.size + 1 := by rw [hW4, ← hz3]; rfl
        have s0 : W4.cell? ⟨wr.heap.size, 0, none⟩ = some (.int .i64 pi) := by rw [hW4]; exact s0
        have s1 : W4.cell? ⟨wr.heap.size, 1, none⟩ = some (.int .i64 fr) := by rw [hW4]; exact s1
        have s2 : W4.cell? ⟨wr.heap.size, 2, none⟩ = some (.int .i64 ds) := by rw [hW4]; exact s2
        have s3 : W4.cell? ⟨wr.heap.size, 3, none⟩ = some (.string bd) := by rw [hW4]; exact s3
        rw [← hW4]
        clear hW4 oo hB4
        cases hac : (A == C) with
        | false =>
          rw [hac, if_neg (by decide)] at HTK
          go_wp2_with fail
          go_roundw
          case rel => exact ⟨k + 1, mm, dd, x, by go_num, by omega, by omega, hide (by rw [unhide HTK]; exact ⟨o0, o1, oz, unhide OO⟩), HB4, by omega⟩
          case measure => simp [intOf]; omega
        | true =>
          rw [hac, if_pos rfl] at HTK
          have hl9 : ((es.take k).filter (ctK side)).length < 100000000 := by omega
          have hz9 : w1.heap.size + 1 ≤ W4.heap.size := by omega
          go_wp2_with (at_builtin; go_must (refine appR (e := pktE) rfl _ _ rfl (unhide OO) rfl ⟨pi, fr, ds, bd⟩ rfl (wr.heap.size + 1) rfl hz4.symm hl9 hz9 ?_); intro v' w6 hown6 hb6 hg6; obtain ⟨x6, d6, hv'⟩ := hown6.form; subst hv'; have m0 := bcl hb6 (show w1.heap.size < w1.heap.size + 1 by omega) o0; have m1 := bcl hb6 (show w1.heap.size < w1.heap.size + 1 by omega) o1; have mz := (hb6.frozen (p := ⟨w1.heap.size, 1, none⟩) (show w1.heap.size < w1.heap.size + 1 by omega)).trans oz)
          rw [List.length_append, hmm] at hown6
          have hown7 : OwnR pktE (w6.setCell ⟨w1.heap.size, 1, none⟩ (.slice x6 (mm + 1) d6)) (w1.heap.size + 1) (.slice x6 (mm + 1) d6) ((es.take k).filter (ctK side) ++ [⟨pi, fr, ds, bd⟩]) := hown6.otherN (fun j hj => heap_setN (by have := (World.ownsRow.lt hown6 j hj).1; omega))
          have hb7 : Below w1.heap.size w1 (w6.setCell ⟨w1.heap.size, 1, none⟩ (.slice x6 (mm + 1) d6)) := ((unhide HB4).trans (hb6.mono (by omega))).setCell (p := ⟨w1.heap.size, 1, none⟩) (Nat.le_refl _) _
          have hz6 := hb6.size
          refine ⟨⟨k + 1, mm + 1, d6, x6, by go_num, by omega, by omega, hide ?_, hide hb7, by simp; omega⟩, by simp [intOf]; omega⟩
          rw [unhide HTK]
          exact ⟨(cell_offN (.inr (by omega))).trans m0, cell_setN m1, (World.frozen?_setCell _ _ _ _).trans mz, hown7⟩
      · obtain rfl : k = n := by omega
        rw [List.take_of_length_le (by omega)] at HO
        obtain ⟨o0, o1, oz, oo⟩ := unhide HO
        obtain ⟨_, _, hfm⟩ := oo.form
        have hmm : (es.filter (ctK side)).length = mm := by injection hfm with _ q _; exact q.symm
        have HMM := hide hmm
        have HOO := hide oo
        obtain ⟨e0, e1, z0, z1⟩ := unhide HRB _ hBr
        have HR5 := hide (unhide HRB _ hBr)
        have hwr : IntKind.i64.wrap ((k : Int) - (mm : Int)) = (k : Int) - (mm : Int) := by rw [IntKind.wrap_i64]; omega
        have ne1 : ¬ w1.heap.size = w.heap.size + 1 := by omega
        have ne2 : ¬ w.heap.size + 1 = w1.heap.size := by omega
        clear hfm oo hmm hBr
        go_wp2_with fail
        go_region_held3 (fun w' => w'.cell? ⟨w.heap.size, 1, none⟩ = some (.slice a k c) ∧ w'.cell? ⟨w1.heap.size, 0, none⟩ = some (.int .i64 nx) ∧ w'.cell? ⟨w1.heap.size, 1, none⟩ = some (.slice x mm dd)) (go_keep) (fail)
        all_goals (try go_wp2_with fail)
        all_goals
          obtain ⟨r0, r1⟩ := (unhide HR5).read (u := .int .i64 nx) (v := .slice x mm dd)
          exact bodyPost_ret (v := .tuple #[.agg #[.int .i64 nx, .slice x mm dd], .int .i64 ((k : Int) - (mm : Int))]) (by simp [results, Try.results7, go_sem, r0, r1]) rfl ⟨x, dd, by rw [hlen, unhide HMM], by rw [unhide HMM]; exact unhide HOWN _ _ _ (w1.heap.size + 1) _ _ _ _ (by omega) (unhide HOO), belDrw (unhide HFIN wr _ _ (unhide HBr))⟩
end Go.Proofs.Ytgdcamolpmjceaa
