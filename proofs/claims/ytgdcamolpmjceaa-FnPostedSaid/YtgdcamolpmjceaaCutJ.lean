/- A net that is cut, by the program. -/
import Derived.Test.YtgdcamolpmjceaaCutI
namespace Go.Proofs.Ytgdcamolpmjceaa
open Go.RowKit Go.Maps Plain
set_option linter.unusedVariables false

namespace Plain
theorem InsAt.congr {W : World} {I : Nat} {ins ins' : Nat → Bool} (h : InsAt W I ins) (e : ∀ i, i < 51 → ins i = ins' i) : InsAt W I ins' := fun i hi => by rw [← e i hi]; exact h i hi
theorem InsAt.set {W : World} {I j : Nat} {ins : Nat → Bool} (h : InsAt W I ins) (hj : j < 51) (x : Bool) : InsAt (W.setCell ⟨I, j, none⟩ (.bool x)) I (fun i => if i = j then x else ins i) := fun i hi => by
  refine ⟨?_, (World.frozen?_setCell _ _ _ _).trans (h i hi).2⟩
  by_cases e : i = j
  · subst e; simp only [if_true]; exact cell_setN (h i hi).1
  · simp only [if_neg e]; exact (cell_offN (.inr (fun q => e q.symm))).trans (h i hi).1
theorem InsAt.new (w : World) (ty : TypeId) : InsAt (w.alloc (.cells (Array.replicate 51 (.bool false)) ty)) w.heap.size (fun _ => false) := fun i hi => by
  have hn := heap_alloc_new w (.cells (Array.replicate 51 (.bool false)) ty)
  exact ⟨cell_of_row _ w.heap.size i _ _ _ hn |>.trans (by simp [hi]), frozen_of_row _ w.heap.size i _ _ hn⟩
def insL (side : List Int) (i : Nat) : Bool := decide (1 ≤ i) && side.contains (i : Int)
theorem insL_next (side : List Int) (k : Nat) (hk : k < side.length) (i : Nat) (hi : i < 51) (hn : nodeB side[k] = false) : insL (side.take k) i = insL (side.take (k + 1)) i := by
  unfold insL
  rw [List.take_succ_eq_append_getElem hk]
  unfold nodeB at hn
  by_cases h1 : 1 ≤ i
  · have hne : side[k] ≠ (i : Int) := fun e => by rw [e] at hn; simp at hn; omega
    rw [decide_eq_true h1, Bool.true_and, Bool.true_and, Bool.eq_iff_iff, List.contains_iff_mem, List.contains_iff_mem, List.mem_append, List.mem_singleton]
    exact ⟨.inl, fun h => h.resolve_right (fun e => hne e.symm)⟩
  · rw [decide_eq_false h1, Bool.false_and, Bool.false_and]
theorem insL_put (side : List Int) (k N : Nat) (hk : k < side.length) (hN : side[k] = (N : Int)) (h1 : 1 ≤ N) (i : Nat) (hi : i < 51) : (if i = N then true else insL (side.take k) i) = insL (side.take (k + 1)) i := by
  unfold insL
  rw [List.take_succ_eq_append_getElem hk]
  by_cases e : i = N
  · subst e
    rw [if_pos rfl, decide_eq_true h1, Bool.true_and, eq_comm, List.contains_iff_mem, List.mem_append, List.mem_singleton]
    exact .inr hN.symm
  · rw [if_neg e]
    congr 1
    rw [Bool.eq_iff_iff, List.contains_iff_mem, List.contains_iff_mem, List.mem_append, List.mem_singleton]
    exact ⟨.inl, fun h => h.resolve_right (fun q => e (by omega))⟩
/-- What a cut leaves: Next, the packets, how many are gone. -/
def ctgF (nx : Int) (es : List Pkt) (side : List Int) : Int × List Pkt × Int := if netB nx es = false then (0, [], -1) else (nx, keepP (insL side) es, (es.length : Int) - (keepP (insL side) es).length)
end Plain

set_option maxRecDepth 10000 in
set_option maxHeartbeats 4000000 in
theorem impl_Cutting (nx : Int) (a : Option Addr) (n c : Nat) (es : List Pkt) (b : Option Addr) (m d : Nat) (side : List Int) (w : World) (h : NetAt w a n c es) (hnc : n ≤ c) (hs : RowAt i64E w b side) (hm : side.length = m) (hm2 : m ≤ 1048576) :
    Calls Try.prog 8 #[.agg #[.int .i64 nx, .slice a n c], .slice b m d] w (NetPost (ctgF nx es side) w) := by
  obtain ⟨W0, hW0⟩ : ∃ W0, W0 = (w.alloc (.cells #[.int .i64 nx, .slice a n c] 26)).alloc (.cells #[.int .i64 0, .slice none 0 0] 26) := ⟨_, rfl⟩
  have hb0 : Below w.heap.size w W0 := by rw [hW0]; exact belOn (bel1 _ _) (bel1 _ _)
  have hz : W0.heap.size = w.heap.size + 2 := by rw [hW0]; simp
  have hlt : w.heap.size < W0.heap.size := by omega
  have hlt1 : w.heap.size + 1 < W0.heap.size := by omega
  have c0 : W0.cell? ⟨w.heap.size, 0, none⟩ = some (.int .i64 nx) := by rw [hW0]; simp [go_sem]
  have c1 : W0.cell? ⟨w.heap.size, 1, none⟩ = some (.slice a n c) := by rw [hW0]; simp [go_sem]
  have hRB : RB (w.heap.size + 1) W0 := ⟨by rw [hW0]; simp [go_sem], by rw [hW0]; simp [go_sem], by rw [hW0]; simp [go_sem], by rw [hW0]; simp [go_sem]⟩
  have HN := hide (impl_NetOk nx a n c es W0 (h.below hb0) hnc)
  have HC := hide (fun (W : World) (hW : Below W0.heap.size W0 W) => And.intro (bcl hW hlt c0) (bcl hW hlt c1))
  have HRB := hide (fun (W : World) (hW : Below W0.heap.size W0 W) => hRB.below hW hlt1)
  have HFIN := hide (fun (X : World) (u v : Value) (hX : Below W0.heap.size W0 X) => show Below w.heap.size w ((X.setCell ⟨w.heap.size + 1, 0, none⟩ u).setCell ⟨w.heap.size + 1, 1, none⟩ v) from ((hb0.trans (hX.mono (by omega))).setCell (p := ⟨w.heap.size + 1, 0, none⟩) (Nat.le_succ _) _).setCell (p := ⟨w.heap.size + 1, 1, none⟩) (Nat.le_succ _) _)
  have HOWN := hide (fun (X : World) (u v : Value) (k : Nat) (x : Option Addr) (m d : Nat) (l : List Pkt) (hk : W0.heap.size ≤ k) (ho : OwnR pktE X k (.slice x m d) l) => show OwnR pktE ((X.setCell ⟨w.heap.size + 1, 0, none⟩ u).setCell ⟨w.heap.size + 1, 1, none⟩ v) w.heap.size (.slice x m d) l from (own_past ho (by omega)).le (by omega))
  have HW0 := hide hW0.symm
  have HM := hide (fun (W : World) (hW : Below W0.heap.size W0 W) (h1 : n ≤ 1000) (h2 : ∀ e ∈ es, wfP e.src e.dst ∧ rgP e.src e.dst) => meshOf_calls nx a n c es W ((h.below hb0).below hW) h1 h2)
  have HSD := hide (fun (W : World) (hW : Below W0.heap.size W0 W) => (hs.below hb0).below hW)
  have hlen := h.len
  unfold NetPost ctgF
  cases hnet : netB nx es with
  | false =>
    rw [if_pos rfl]
    rw [hnet] at HN
    clear h hb0 hW0 hnet hRB hs
    go_enter Try.func8, Try.ntmps8
    go_wp2_with fail
    rw [unhide HW0]
    go_wp2_with fail
    refine (unhide HN).mono ?_
    rintro e w1 ⟨rfl, hb1⟩
    obtain ⟨e0, e1, f0, f1⟩ := unhide HRB _ hb1
    have HR := hide (unhide HRB _ hb1)
    have HB1 := hide hb1
    clear hb1 c0 c1
    go_wp2_with fail
    obtain ⟨r0, r1⟩ := (unhide HR).read (u := .int .i64 0) (v := .slice none 0 0)
    exact bodyPost_ret (v := .tuple #[.agg #[.int .i64 0, .slice none 0 0], .int .i64 (-1)]) (by simp [results, Try.results8, go_sem, r0, r1]) rfl ⟨none, 0, rfl, ownR_nil _ _ _, unhide HFIN _ _ _ (unhide HB1)⟩
  | true =>
    rw [if_neg (by decide)]
    rw [hnet] at HN
    obtain ⟨f1, f2⟩ := netB_facts hnet
    obtain ⟨g1, g2, g3, g4⟩ := netB_ris hnet
    clear h hb0 hW0 hRB hs
    go_enter Try.func8, Try.ntmps8
    go_wp2_with fail
    rw [unhide HW0]
    go_wp2_with fail
    refine (unhide HN).mono ?_
    rintro e w1 ⟨rfl, hb1⟩
    have HB1 := hide hb1
    clear hb1 c0 c1
    obtain ⟨W2, hW2⟩ : ∃ W2, W2 = w1.alloc (.cells (Array.replicate 51 (.bool false)) 46) := ⟨_, rfl⟩
    have HW2 := hide (show w1.alloc (.cells #[.bool false, .bool false, .bool false, .bool false, .bool false, .bool false, .bool false, .bool false, .bool false, .bool false, .bool false, .bool false, .bool false, .bool false, .bool false, .bool false, .bool false, .bool false, .bool false, .bool false, .bool false, .bool false, .bool false, .bool false, .bool false, .bool false, .bool false, .bool false, .bool false, .bool false, .bool false, .bool false, .bool false, .bool false, .bool false, .bool false, .bool false, .bool false, .bool false, .bool false, .bool false, .bool false, .bool false, .bool false, .bool false, .bool false, .bool false, .bool false, .bool false, .bool false, .bool false] 46) = W2 from hW2.symm)
    have HI2 := hide (show InsAt W2 w1.heap.size (fun _ => false) from by rw [hW2]; exact InsAt.new _ _)
    have HB2 := hide (show Below w1.heap.size w1 W2 from by rw [hW2]; exact bel1 _ _)
    have hz2 : W2.heap.size = w1.heap.size + 1 := by rw [hW2]; simp
    clear hW2
    go_wp2_with fail
    rw [unhide HW2]
    go_loopw [17] (fun i wr => ∃ k : Nat, i = .int .i64 k ∧ k ≤ m ∧ Hid (InsAt wr w1.heap.size (insL (side.take k))) ∧ Hid (Below w1.heap.size w1 wr) ∧ w1.heap.size + 1 ≤ wr.heap.size) (fun i _ => m - (intOf i).toNat)
    case atStart => exact ⟨0, rfl, by omega, hide ((unhide HI2).congr (fun i _ => by unfold insL; simp)), HB2, by omega⟩
    case round =>
      clear HI2 HB2
      obtain ⟨k, rfl, hk, HI, HB, hzr⟩ := hrel
      by_cases hkm : k < m
      · have hks : k < side.length := by omega
        have hBr := belOn (unhide HB1) (unhide HB)
        obtain ⟨g, e1, l1, hc⟩ := unhide HSD _ hBr k hks
        have p0 := (hc 0 (by decide)).1
        have hin : nodeB side[k] = false → InsAt wr w1.heap.size (insL (side.take (k + 1))) := fun hn => (unhide HI).congr (fun i hi => insL_next side k hks i hi hn)
        have hip : ∀ N : Nat, side[k] = (N : Int) → 1 ≤ N → N < 51 → InsAt (wr.setCell ⟨w1.heap.size, N, none⟩ (.bool true)) w1.heap.size (insL (side.take (k + 1))) := fun N h1 h2 h3 => ((unhide HI).set h3 true).congr (fun i hi => insL_put side k N hks h1 h2 i hi)
        have p1 : wr.cell? ⟨g, k, none⟩ = some (.int .i64 side[k]) := by simpa [i64E, intL] using p0
        have HIN := hide hin
        have HIP := hide hip
        generalize side[k] = x at p1 HIN HIP
        subst e1
        have i0 : (0 : Int) ≤ (k : Int) := by omega
        have i1 : (k : Int) < (m : Int) := by omega
        have HNO := hide (fun W => nodeIdOk_calls x W)
        clear p0 hc hin hip hBr
        cases hx : nodeB x with
        | false =>
          rw [hx] at HNO
          go_wp2_with fail
          refine (unhide HNO _).mono ?_
          rintro e w9 ⟨rfl, rfl⟩
          go_wp2_with fail
          go_roundw
          case rel => exact ⟨k + 1, by go_num, by omega, hide (unhide HIN hx), HB, hzr⟩
          case measure => simp [intOf]; omega
        | true =>
          rw [hx] at HNO
          have hx2 : 1 ≤ x ∧ x ≤ 50 := by unfold nodeB at hx; simpa using hx
          obtain ⟨N, rfl⟩ := Int.eq_ofNat_of_zero_le (show 0 ≤ x by omega)
          have j0 : (0 : Int) ≤ (N : Int) := by omega
          have j1 : (N : Int) < 51 := by omega
          have v0 := (unhide HI N (by omega)).1
          have v1 := (unhide HI N (by omega)).2
          go_wp2_with fail
          refine (unhide HNO _).mono ?_
          rintro e w9 ⟨rfl, rfl⟩
          go_wp2_with fail
          go_roundw
          case rel => exact ⟨k + 1, by go_num, by omega, hide (unhide HIP N rfl (by omega) (by omega)), hide ((unhide HB).setCell (p := ⟨w1.heap.size, N, none⟩) (Nat.le_refl _) _), by simp; omega⟩
          case measure => simp [intOf]; omega
      · obtain rfl : k = m := by omega
        rw [List.take_of_length_le (by omega)] at HI
        have hBr := belOn (unhide HB1) (unhide HB)
        obtain ⟨q0, q1⟩ := unhide HC _ hBr
        have HMM := hide (unhide HM _ hBr (by omega) f2)
        have HBr := hide hBr
        have hzl := hBr.size
        clear hBr
        go_wp2_with fail
        refine (unhide HMM).mono ?_
        rintro e w2 ⟨M, b1, H, rfl, hmm, hb2⟩
        have hI2 := (unhide HI).below hb2 (by omega)
        have hbB := hmm.Bb
        have HDEL := hide (delWays_calls (insL side) hmm hI2 (by omega))
        have m1 := hmm.c1
        have HB2 := hide (belOn (unhide HBr) hb2)
        have hz2b := hb2.size
        clear hmm hb2 hI2 q0 q1
        go_wp2_with fail
        refine (unhide HDEL).mono ?_
        rintro e w3 ⟨rfl, ⟨H3, hm3⟩, hb3⟩
        have hkl : (keepP (insL side) es).length ≤ es.length := List.length_filter_le _ _
        have HNT := hide (net_calls hm3 (g1.sublist List.filter_sublist) (fun e he => (f2 e (List.mem_filter.1 he).1).1) (by omega))
        have hBr0 : W0.heap.size ≤ wr.heap.size := hzl
        have HB3 := hide ((unhide HB2).trans (hb3.mono hBr0))
        have hz3 := hb3.size
        clear hm3 hb3 m1
        generalize hL : (keepP (insL side) es).length = L at HNT hkl
        have HL := hide hL
        clear hL
        go_wp2_with fail
        refine (unhide HNT).mono ?_
        rintro e w4 ⟨x, d4, rfl, ho4, hb4⟩
        obtain ⟨W5, hW5⟩ : ∃ W5, W5 = w4.alloc (.cells #[.int .i64 nx, .slice x L d4] 26) := ⟨_, rfl⟩
        have hb5 : Below w4.heap.size w4 W5 := by rw [hW5]; exact bel1 _ _
        have s0 : W5.cell? ⟨w4.heap.size, 0, none⟩ = some (.int .i64 nx) := by rw [hW5]; simp [go_sem]
        have s1 : W5.cell? ⟨w4.heap.size, 1, none⟩ = some (.slice x L d4) := by rw [hW5]; simp [go_sem]
        have HO5 := hide (ho4.keep hb5)
        have hB5 := belOn (unhide HB3) (belOn hb4 hb5)
        have HB5 := hide hB5
        obtain ⟨q0, q1⟩ := unhide HC _ hB5
        obtain ⟨e0, e1, z0, z1⟩ := unhide HRB _ hB5
        have hR5 := unhide HRB _ hB5
        have HR5 := hide hR5
        have hz4 := hb4.size
        have HW5 := hide hW5.symm
        clear hb4 hb5 hW5 hB5 ho4 hR5
        have hwr : IntKind.i64.wrap ((n : Int) - (L : Int)) = (n : Int) - (L : Int) := by rw [IntKind.wrap_i64]; omega
        have ne1 : ¬ w4.heap.size = w.heap.size + 1 := by omega
        have ne2 : ¬ w.heap.size + 1 = w4.heap.size := by omega
        go_wp2_with fail
        rw [unhide HW5]
        go_region_held3 (fun w' => w'.cell? ⟨w.heap.size, 1, none⟩ = some (.slice a n c) ∧ w'.cell? ⟨w4.heap.size, 0, none⟩ = some (.int .i64 nx) ∧ w'.cell? ⟨w4.heap.size, 1, none⟩ = some (.slice x L d4)) (go_keep) (fail)
        all_goals (try go_wp2_with fail)
        all_goals
          obtain ⟨r0, r1⟩ := (unhide HR5).read (u := .int .i64 nx) (v := .slice x L d4)
          exact bodyPost_ret (v := .tuple #[.agg #[.int .i64 nx, .slice x L d4], .int .i64 ((n : Int) - (L : Int))]) (by simp [results, Try.results8, go_sem, r0, r1]) rfl ⟨x, d4, by rw [hlen, unhide HL], by rw [unhide HL]; exact unhide HOWN _ _ _ w3.heap.size _ _ _ _ (by omega) (unhide HO5), belDrw (unhide HFIN W5 _ _ (unhide HB5))⟩
end Go.Proofs.Ytgdcamolpmjceaa
