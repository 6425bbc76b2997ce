/- A packet posted, by the program. -/
import Derived.Test.YtgdcamolpmjceaaMshN
namespace Go.Proofs.Ytgdcamolpmjceaa
open Go.RowKit Go.Maps Plain
set_option linter.unusedVariables false

namespace Plain
theorem okP_ris {t : Int} : ∀ (l : List Pkt) (p : Int), okP t p l = true → RisP l ∧ (∀ e ∈ l, p < e.id) ∧ ∀ e ∈ l, e.id < t
  | [], _, _ => ⟨List.Pairwise.nil, fun e h => (by cases h), fun e h => (by cases h)⟩
  | x :: l, p, h => by
    rw [okP, Bool.and_eq_true] at h
    obtain ⟨h1, h2⟩ := h
    unfold pktB at h1
    simp only [Bool.and_eq_true, decide_eq_true_eq] at h1
    obtain ⟨i1, i2, i3⟩ := okP_ris l x.id h2
    refine ⟨List.pairwise_cons.2 ⟨i2, i1⟩, fun e he => ?_, fun e he => ?_⟩
    · rcases List.mem_cons.1 he with rfl | he
      · exact h1.1.1
      · have := i2 e he; omega
    · rcases List.mem_cons.1 he with rfl | he
      · exact h1.1.2
      · exact i3 e he
theorem netB_ris {t : Int} {es : List Pkt} (h : netB t es = true) : RisP es ∧ (∀ e ∈ es, e.id < t) ∧ 1 ≤ t ∧ t ≤ 1000000000000 := by
  unfold netB at h
  simp only [Bool.and_eq_true, decide_eq_true_eq] at h
  obtain ⟨i1, i2, i3⟩ := okP_ris es 0 h.2.2
  exact ⟨i1, i3, h.1⟩
theorem ris_snoc {es : List Pkt} {p : Pkt} (h : RisP es) (hp : ∀ e ∈ es, e.id < p.id) : RisP (es ++ [p]) := by
  unfold RisP
  rw [List.pairwise_append]
  exact ⟨h, List.pairwise_singleton _ _, fun a ha b hb => by rw [List.mem_singleton.1 hb]; exact hp a ha⟩
theorem ends_wf {f t : Int} {b : ByteArray} (h : endsB f t b = true) : (wfP f t ∧ rgP f t) ∧ b.size ≤ 20000 := by
  unfold endsB nodeB at h
  simp only [Bool.and_eq_true, decide_eq_true_eq] at h
  exact ⟨⟨⟨Go.WalkArith.wf_i64 ⟨by omega, by omega⟩, Go.WalkArith.wf_i64 ⟨by omega, by omega⟩⟩, by unfold rgP; omega⟩, h.2⟩
/-- What Post leaves: Next, the packets, the code. -/
def pstF (nx : Int) (es : List Pkt) (f t : Int) (b : ByteArray) : Int × List Pkt × Int :=
  if netB nx es = false then (0, [], 1) else if endsB f t b = false then (nx, es, 2) else if 300 ≤ es.length ∨ 1000000000000 ≤ nx then (nx, es, 3) else (nx + 1, es ++ [⟨nx, f, t, b⟩], 0)
/-- A net that is answered. -/
def NetPost (R : Int × List Pkt × Int) (w : World) (e : Ending) (w' : World) : Prop := ∃ a c, e = .returned (.tuple #[.agg #[.int .i64 R.1, .slice a R.2.1.length c], .int .i64 R.2.2]) ∧ OwnR pktE w' w.heap.size (.slice a R.2.1.length c) R.2.1 ∧ Below w.heap.size w w'
/-- The block of a result that is a net. -/
structure RB (g : Nat) (w : World) : Prop where
  c0 : w.cell? ⟨g, 0, none⟩ = some (.int .i64 0)
  c1 : w.cell? ⟨g, 1, none⟩ = some (.slice none 0 0)
  z0 : w.frozen? ⟨g, 0, none⟩ = false
  z1 : w.frozen? ⟨g, 1, none⟩ = false
theorem RB.below {g B : Nat} {w w' : World} (h : RB g w) (hb : Below B w w') (hg : g < B) : RB g w' := ⟨bcl hb hg h.c0, bcl hb hg h.c1, (hb.frozen (p := ⟨g, 0, none⟩) hg).trans h.z0, (hb.frozen (p := ⟨g, 1, none⟩) hg).trans h.z1⟩
theorem RB.read {g : Nat} {w : World} {u v : Value} (h : RB g w) : ((w.setCell ⟨g, 0, none⟩ u).setCell ⟨g, 1, none⟩ v).cell? ⟨g, 0, none⟩ = some u ∧ ((w.setCell ⟨g, 0, none⟩ u).setCell ⟨g, 1, none⟩ v).cell? ⟨g, 1, none⟩ = some v :=
  ⟨(cell_offN (.inr (by omega))).trans (cell_setN h.c0), cell_setN (v := .slice none 0 0) ((cell_offN (.inr (by omega))).trans h.c1)⟩
theorem own_past {w : World} {B g : Nat} {a : Option Addr} {m c : Nat} {es : List Pkt} {u v : Value} (ho : OwnR pktE w B (.slice a m c) es) (hg : g < B) : OwnR pktE ((w.setCell ⟨g, 0, none⟩ u).setCell ⟨g, 1, none⟩ v) B (.slice a m c) es :=
  ho.otherN (fun k hk => by
    have := (World.ownsRow.lt ho k hk).1
    have hne : g ≠ k := by omega
    exact (heap_setN hne).trans (heap_setN hne))
end Plain

theorem Plain.MshAt.setNext {W : World} {B M b n : Nat} {nx : Int} {F : Int → Int → List Pkt} {H : Int → Int → Option (Nat × Nat)} (h : MshAt W B M b n nx F H) (ny : Int) : MshAt (W.setCell ⟨M, 0, none⟩ (.int .i64 ny)) B M b n ny F H := by
  obtain ⟨D, hD, hK⟩ := h.map
  have hb := h.Mb
  refine ⟨⟨D, ?_, hK⟩, h.nil, h.wf, fun f t y hy => (h.row f t y hy).otherN (fun k hk => heap_setN (fun e => (h.off f t y hy).2 (by have := own_blkN hk; omega))), h.apart, h.off, h.Mb, h.BM, h.Bb, cell_setN h.c0, (cell_offN (.inr (by omega))).trans h.c1, ?_, ?_⟩
  · obtain ⟨es, clock, q1, q2⟩ := hD
    exact ⟨es, clock, (heap_setN hb).trans q1, q2⟩
  · rw [World.frozen?_setCell]; exact h.z0
  · exact h.rng

set_option maxRecDepth 10000 in
set_option maxHeartbeats 4000000 in
theorem impl_Post (nx : Int) (a : Option Addr) (n c : Nat) (es : List Pkt) (fr ds : Int) (bd : ByteArray) (w : World) (h : NetAt w a n c es) (hnc : n ≤ c) (hbd : bd.size ≤ 1048576) :
    Calls Try.prog 12 #[.agg #[.int .i64 nx, .slice a n c], .int .i64 fr, .int .i64 ds, .string bd] w (NetPost (pstF nx es fr ds bd) w) := by
  obtain ⟨W0, hW0⟩ : ∃ W0, W0 = (w.alloc (.cells #[.int .i64 nx, .slice a n c] 26)).alloc (.cells #[.int .i64 0, .slice none 0 0] 26) := ⟨_, rfl⟩
  have hb0 : Below w.heap.size w W0 := by rw [hW0]; exact belOn (bel1 _ _) (bel1 _ _)
  have hz : W0.heap.size = w.heap.size + 2 := by rw [hW0]; simp
  have hlt : w.heap.size < W0.heap.size := by omega
  have hlt1 : w.heap.size + 1 < W0.heap.size := by omega
  have c0 : W0.cell? ⟨w.heap.size, 0, none⟩ = some (.int .i64 nx) := by rw [hW0]; simp [go_sem]
  have c1 : W0.cell? ⟨w.heap.size, 1, none⟩ = some (.slice a n c) := by rw [hW0]; simp [go_sem]
  have hRB : RB (w.heap.size + 1) W0 := ⟨by rw [hW0]; simp [go_sem], by rw [hW0]; simp [go_sem], by rw [hW0]; simp [go_sem], by rw [hW0]; simp [go_sem]⟩
  have HN := hide (impl_NetOk nx a n c es W0 (h.below hb0) hnc)
  have HC := hide (fun (W : World) (hW : Below W0.heap.size W0 W) => And.intro (bcl hW hlt c0) (bcl hW hlt c1))
  have HRB := hide (fun (W : World) (hW : Below W0.heap.size W0 W) => hRB.below hW hlt1)
  have HFIN := hide (fun (X : World) (u v : Value) (hX : Below W0.heap.size W0 X) => show Below w.heap.size w ((X.setCell ⟨w.heap.size + 1, 0, none⟩ u).setCell ⟨w.heap.size + 1, 1, none⟩ v) from ((hb0.trans (hX.mono (by omega))).setCell (p := ⟨w.heap.size + 1, 0, none⟩) (Nat.le_succ _) _).setCell (p := ⟨w.heap.size + 1, 1, none⟩) (Nat.le_succ _) _)
  have HOWN := hide (fun (X : World) (u v : Value) (k : Nat) (x : Option Addr) (m d : Nat) (l : List Pkt) (hk : W0.heap.size ≤ k) (ho : OwnR pktE X k (.slice x m d) l) => show OwnR pktE ((X.setCell ⟨w.heap.size + 1, 0, none⟩ u).setCell ⟨w.heap.size + 1, 1, none⟩ v) w.heap.size (.slice x m d) l from (own_past ho (by omega)).le (by omega))
  have HW0 := hide hW0.symm
  have HM := hide (fun (W : World) (hW : Below W0.heap.size W0 W) (h1 : n ≤ 1000) (h2 : ∀ e ∈ es, wfP e.src e.dst ∧ rgP e.src e.dst) => meshOf_calls nx a n c es W ((h.below hb0).below hW) h1 h2)
  have hlen := h.len
  have hFO := formOk_calls fr ds bd
  unfold NetPost pstF
  cases hnet : netB nx es with
  | false =>
    rw [if_pos rfl]
    rw [hnet] at HN
    clear h hb0 hW0 hnet hRB
    go_enter Try.func12, Try.ntmps12
    go_wp2_with fail
    rw [unhide HW0]
    go_wp2_with fail
    refine (unhide HN).mono ?_
    rintro e w1 ⟨rfl, hb1⟩
    obtain ⟨e0, e1, f0, f1⟩ := unhide HRB _ hb1
    have HR := hide (unhide HRB _ hb1)
    have HB1 := hide hb1
    clear hb1 c0 c1
    go_wp2_with fail
    obtain ⟨r0, r1⟩ := (unhide HR).read (u := .int .i64 0) (v := .slice none 0 0)
    exact bodyPost_ret (v := .tuple #[.agg #[.int .i64 0, .slice none 0 0], .int .i64 1]) (by simp [results, Try.results12, go_sem, r0, r1]) rfl ⟨none, 0, rfl, ownR_nil _ _ _, unhide HFIN _ _ _ (unhide HB1)⟩
  | true =>
    rw [if_neg (by decide)]
    rw [hnet] at HN
    obtain ⟨f1, f2⟩ := netB_facts hnet
    obtain ⟨g1, g2, g3, g4⟩ := netB_ris hnet
    cases hen : endsB fr ds bd with
    | false =>
      rw [if_pos rfl]
      have HNT := hide (fun (W : World) (B M b n' : Nat) (H : Int → Int → Option (Nat × Nat)) (hm : MshAt W B M b n' nx (wayF es) H) => net_calls hm g1 (fun e he => (f2 e he).1) (by omega))
      have HF := hide (fun W => formOk_calls fr ds bd W (by omega))
      rw [hen] at HF
      generalize hL : es.length = L at HNT ⊢
      clear h hb0 hW0 hnet hRB hen hFO
      go_enter Try.func12, Try.ntmps12
      go_wp2_with fail
      rw [unhide HW0]
      go_wp2_with fail
      refine (unhide HN).mono ?_
      rintro e w1 ⟨rfl, hb1⟩
      obtain ⟨q0, q1⟩ := unhide HC _ hb1
      have HB1 := hide hb1
      clear hb1 c0 c1
      go_wp2_with fail
      refine (unhide HM _ (unhide HB1) (by omega) f2).mono ?_
      rintro e w2 ⟨M, b, H, rfl, hm, hb2⟩
      have HB2 := hide (belOn (unhide HB1) hb2)
      have HMM := hide hm
      clear hm hb2 q0 q1
      go_wp2_with fail
      refine (unhide HF _).mono ?_
      rintro e w9 ⟨rfl, rfl⟩
      go_wp2_with fail
      refine (unhide HNT _ _ _ _ _ _ (unhide HMM)).mono ?_
      rintro e w3 ⟨x, d, rfl, ho, hb3⟩
      have HB3 := hide (belOn (unhide HB2) hb3)
      have HO3 := hide ho
      have hs2 := (unhide HB2).size
      obtain ⟨e0, e1, f0, f1⟩ := unhide HRB _ (unhide HB3)
      clear hb3 ho
      go_wp2_with fail
      obtain ⟨r0, r1⟩ := (unhide HRB _ (unhide HB3)).read (u := .int .i64 nx) (v := .slice x L d)
      exact bodyPost_ret (v := .tuple #[.agg #[.int .i64 nx, .slice x L d], .int .i64 2]) (by simp [results, Try.results12, go_sem, r0, r1]) rfl ⟨x, d, rfl, unhide HOWN _ _ _ _ _ _ _ _ hs2 (unhide HO3), unhide HFIN _ _ _ (unhide HB3)⟩
    | true =>
      rw [if_neg (by decide)]
      have HF := hide (fun W => formOk_calls fr ds bd W (by omega))
      rw [hen] at HF
      by_cases hfull : 300 ≤ es.length ∨ 1000000000000 ≤ nx
      · rw [if_pos hfull]
        have HNT := hide (fun (W : World) (B M b n' : Nat) (H : Int → Int → Option (Nat × Nat)) (hm : MshAt W B M b n' nx (wayF es) H) => net_calls hm g1 (fun e he => (f2 e he).1) (by omega))
        generalize hL : es.length = L at HNT ⊢
        by_cases h300 : 300 ≤ n
        · have i3 : (300 : Int) ≤ (n : Int) := by omega
          clear h hb0 hW0 hnet hRB hen hFO
          go_enter Try.func12, Try.ntmps12
          go_wp2_with fail
          rw [unhide HW0]
          go_wp2_with fail
          refine (unhide HN).mono ?_
          rintro e w1 ⟨rfl, hb1⟩
          obtain ⟨q0, q1⟩ := unhide HC _ hb1
          have HB1 := hide hb1
          clear hb1 c0 c1
          go_wp2_with fail
          refine (unhide HM _ (unhide HB1) (by omega) f2).mono ?_
          rintro e w2 ⟨M, b, H, rfl, hm, hb2⟩
          have HB2 := hide (belOn (unhide HB1) hb2)
          have HMM := hide hm
          clear hm hb2 q0 q1
          go_wp2_with fail
          refine (unhide HF _).mono ?_
          rintro e w9 ⟨rfl, rfl⟩
          obtain ⟨q0, q1⟩ := unhide HC _ (unhide HB2)
          go_wp2_with fail
          refine (unhide HNT _ _ _ _ _ _ (unhide HMM)).mono ?_
          rintro e w3 ⟨x, d, rfl, ho, hb3⟩
          have HB3 := hide (belOn (unhide HB2) hb3)
          have HO3 := hide ho
          have hs2 := (unhide HB2).size
          obtain ⟨e0, e1, f0, f1⟩ := unhide HRB _ (unhide HB3)
          clear hb3 ho q0 q1
          go_wp2_with fail
          obtain ⟨r0, r1⟩ := (unhide HRB _ (unhide HB3)).read (u := .int .i64 nx) (v := .slice x L d)
          exact bodyPost_ret (v := .tuple #[.agg #[.int .i64 nx, .slice x L d], .int .i64 3]) (by simp [results, Try.results12, go_sem, r0, r1]) rfl ⟨x, d, rfl, unhide HOWN _ _ _ _ _ _ _ _ hs2 (unhide HO3), unhide HFIN _ _ _ (unhide HB3)⟩
        · have i3 : ¬ (300 : Int) ≤ (n : Int) := by omega
          have i4 : (1000000000000 : Int) ≤ nx := by omega
          clear h hb0 hW0 hnet hRB hen hFO
          go_enter Try.func12, Try.ntmps12
          go_wp2_with fail
          rw [unhide HW0]
          go_wp2_with fail
          refine (unhide HN).mono ?_
          rintro e w1 ⟨rfl, hb1⟩
          obtain ⟨q0, q1⟩ := unhide HC _ hb1
          have HB1 := hide hb1
          clear hb1 c0 c1
          go_wp2_with fail
          refine (unhide HM _ (unhide HB1) (by omega) f2).mono ?_
          rintro e w2 ⟨M, b, H, rfl, hm, hb2⟩
          have HB2 := hide (belOn (unhide HB1) hb2)
          have HMM := hide hm
          clear hm hb2 q0 q1
          go_wp2_with fail
          refine (unhide HF _).mono ?_
          rintro e w9 ⟨rfl, rfl⟩
          obtain ⟨q0, q1⟩ := unhide HC _ (unhide HB2)
          go_wp2_with fail
          refine (unhide HNT _ _ _ _ _ _ (unhide HMM)).mono ?_
          rintro e w3 ⟨x, d, rfl, ho, hb3⟩
          have HB3 := hide (belOn (unhide HB2) hb3)
          have HO3 := hide ho
          have hs2 := (unhide HB2).size
          obtain ⟨e0, e1, f0, f1⟩ := unhide HRB _ (unhide HB3)
          clear hb3 ho q0 q1
          go_wp2_with fail
          obtain ⟨r0, r1⟩ := (unhide HRB _ (unhide HB3)).read (u := .int .i64 nx) (v := .slice x L d)
          exact bodyPost_ret (v := .tuple #[.agg #[.int .i64 nx, .slice x L d], .int .i64 3]) (by simp [results, Try.results12, go_sem, r0, r1]) rfl ⟨x, d, rfl, unhide HOWN _ _ _ _ _ _ _ _ hs2 (unhide HO3), unhide HFIN _ _ _ (unhide HB3)⟩
      · rw [if_neg hfull]
        have i3 : ¬ (300 : Int) ≤ (n : Int) := by omega
        have i4 : ¬ (1000000000000 : Int) ≤ nx := by omega
        obtain ⟨hwp, _⟩ := ends_wf hen
        have hrs : RisP (es ++ [⟨nx, fr, ds, bd⟩]) := ris_snoc g1 (fun e he => g2 e he)
        have hws : ∀ e ∈ es ++ [(⟨nx, fr, ds, bd⟩ : Pkt)], wfP e.src e.dst := fun e he => by
          rcases List.mem_append.1 he with he | he
          · exact (f2 e he).1
          · rw [List.mem_singleton.1 he]; exact hwp.1
        have hsl : (es ++ [(⟨nx, fr, ds, bd⟩ : Pkt)]).length ≤ 1000 := by rw [List.length_append]; simp; omega
        have HNT := hide (fun (W : World) (B M b n' : Nat) (H : Int → Int → Option (Nat × Nat)) (hm : MshAt W B M b n' (nx + 1) (wayF (es ++ [⟨nx, fr, ds, bd⟩])) H) => net_calls hm hrs hws hsl)
        have HPUT := hide (fun (W : World) (B M b : Nat) (H : Int → Int → Option (Nat × Nat)) (hm : MshAt W B M b n nx (wayF es) H) => put_calls hm nx fr ds bd hwp.1 hwp.2 (by omega) (by have := wayF_len es fr ds; omega))
        rw [← wayF_snoc] at HPUT
        simp only
        generalize hL : (es ++ [(⟨nx, fr, ds, bd⟩ : Pkt)]) = L at HNT HPUT ⊢
        generalize L.length = l at HNT ⊢
        clear hrs hws hsl hL
        clear h hb0 hW0 hnet hRB hen hFO
        go_enter Try.func12, Try.ntmps12
        go_wp2_with fail
        rw [unhide HW0]
        go_wp2_with fail
        refine (unhide HN).mono ?_
        rintro e w1 ⟨rfl, hb1⟩
        obtain ⟨q0, q1⟩ := unhide HC _ hb1
        have HB1 := hide hb1
        clear hb1 c0 c1
        go_wp2_with fail
        refine (unhide HM _ (unhide HB1) (by omega) f2).mono ?_
        rintro e w2 ⟨M, b, H, rfl, hm, hb2⟩
        have HB2 := hide (belOn (unhide HB1) hb2)
        have HMM := hide hm
        clear hm hb2 q0 q1
        go_wp2_with fail
        refine (unhide HF _).mono ?_
        rintro e w9 ⟨rfl, rfl⟩
        obtain ⟨q0, q1⟩ := unhide HC _ (unhide HB2)
        go_wp2_with fail
        refine (unhide HPUT _ _ _ _ _ (unhide HMM)).mono ?_
        rintro e w3 ⟨rfl, ⟨H3, hm3⟩, hb3⟩
        have hs1 := (unhide HB1).size
        have HB3 := hide ((unhide HB2).trans (hb3.mono hs1))
        have m0 := hm3.c0
        have z0 := hm3.z0
        have HM3 := hide hm3
        have hbm := hm3.BM
        clear hb3 hm3 q0 q1
        go_wp2_with fail
        have HM4 := hide ((unhide HM3).setNext (nx + 1))
        have HB4 := hide ((unhide HB3).setCell (p := ⟨M, 0, none⟩) (Nat.le_trans hs1 hbm) (.int .i64 (nx + 1)))
        refine (unhide HNT _ _ _ _ _ _ (unhide HM4)).mono ?_
        rintro e w4 ⟨x, d, rfl, ho, hb4⟩
        have HB5 := hide (belOn (unhide HB4) hb4)
        have HO5 := hide ho
        have hs4 := (unhide HB4).size
        obtain ⟨e0, e1, f0, f1⟩ := unhide HRB _ (unhide HB5)
        clear hb4 ho
        go_wp2_with fail
        obtain ⟨r0, r1⟩ := (unhide HRB _ (unhide HB5)).read (u := .int .i64 (nx + 1)) (v := .slice x l d)
        exact bodyPost_ret (v := .tuple #[.agg #[.int .i64 (nx + 1), .slice x l d], .int .i64 0]) (by simp [results, Try.results12, go_sem, r0, r1]) rfl ⟨x, d, rfl, unhide HOWN _ _ _ _ _ _ _ _ hs4 (unhide HO5), unhide HFIN _ _ _ (unhide HB5)⟩
end Go.Proofs.Ytgdcamolpmjceaa
