/- What goes from one node to another, by the specification. -/
import Derived.Test.YtkpnnchgngcppaaMshK
import Derived.Test.YtkpnnchgngcppaaNetS
namespace Go.Proofs.Ytkpnnchgngcppaa
open Go.RowKit Plain
set_option linter.unusedVariables false

namespace Plain
theorem wayF_take (es : List Pkt) (f t : Int) (k : Nat) (h : k < es.length) : (wayF (es.take (k + 1)) f t).map (·.id) = if es[k].src = f ∧ es[k].dst = t then (wayF (es.take k) f t).map (·.id) ++ [es[k].id] else (wayF (es.take k) f t).map (·.id) := by
  rw [List.take_succ_eq_append_getElem h, wayF_snoc]
  unfold addF
  split <;> simp
end Plain

set_option maxRecDepth 10000 in
set_option maxHeartbeats 8000000 in
theorem spec_Between (nx : Int) (a : Option Addr) (n c : Nat) (es : List Pkt) (fr ds : Int) (w : World) (h : NetAt w a n c es) (hnc : n ≤ c) :
    Calls Try.prog 17 #[.agg #[.int .i64 nx, .slice a n c], .int .i64 fr, .int .i64 ds] w fun e w' => ∃ v, e = .returned v ∧ OwnR i64E w' w.heap.size v (btwL nx es fr ds) ∧ Below w.heap.size w w' := by
  obtain ⟨W0, hW0⟩ : ∃ W0, W0 = w.alloc (.cells #[.int .i64 nx, .slice a n c] 28) := ⟨_, rfl⟩
  have hb0 : Below w.heap.size w W0 := by rw [hW0]; exact bel1 _ _
  have hlt : w.heap.size < W0.heap.size := by rw [hW0]; simp
  have c0 : W0.cell? ⟨w.heap.size, 0, none⟩ = some (.int .i64 nx) := by rw [hW0]; simp [go_sem]
  have c1 : W0.cell? ⟨w.heap.size, 1, none⟩ = some (.slice a n c) := by rw [hW0]; simp [go_sem]
  have HN := hide (fun (W : World) (hW : Below W0.heap.size W0 W) => spec_NetOk nx a n c es W ((h.below hb0).below hW) hnc)
  have HD := hide (fun (W : World) (hW : Below W0.heap.size W0 W) => (h.below hb0).below hW)
  have HC := hide (fun (W : World) (hW : Below W0.heap.size W0 W) => And.intro (bcl hW hlt c0) (bcl hW hlt c1))
  have HFIN := hide (fun (W : World) (hW : Below W0.heap.size W0 W) => belOn hb0 hW)
  have hle := Nat.le_of_lt hlt
  have HW0 := hide hW0.symm
  have hown0 : OwnR i64E (W0.alloc (.cells #[] i64E.E)) W0.heap.size (.slice (some ⟨W0.heap.size, 0, none⟩) 0 0) [] := ownR_empty i64E W0 W0.heap.size (Nat.le_refl _)
  have hb1 : Below W0.heap.size W0 (W0.alloc (.cells #[] i64E.E)) := bel1 _ _
  obtain ⟨W1, hW1⟩ : ∃ W1, W1 = W0.alloc (.cells #[] i64E.E) := ⟨_, rfl⟩
  rw [← hW1] at hown0 hb1
  have HO0 := hide hown0
  have HB1 := hide hb1
  have HW1 := hide (show W0.alloc (.cells #[] 2) = W1 from hW1.symm)
  have hlen := h.len
  have hbn := h.bn
  have hz0 : W0.heap.size = w.heap.size + 1 := by rw [hW0]; simp
  cases hnet : netB nx es with
  | false =>
    have hbl : btwL nx es fr ds = [] := by unfold btwL; rw [if_neg (by rw [hnet]; decide)]
    rw [hbl]
    rw [hnet] at HN
    clear h hb0 hW0 hW1 hnet hbl hown0 hb1 c0 c1
    go_enter Try.func17, Try.ntmps17
    go_wp2_with fail
    rw [unhide HW0, unhide HW1]
    rw [hz0] at HO0
    go_loopw [7, 8] (fun s i wr => s = .slice (some ⟨w.heap.size + 1, 0, none⟩) 0 0 ∧ i = .int .i64 0 ∧ wr = W1) (fun _ _ _ => 0)
    case atStart => exact ⟨rfl, rfl, rfl⟩
    case round =>
      obtain ⟨rfl, rfl, rfl⟩ := hrel
      obtain ⟨q0, q1⟩ := unhide HC _ (unhide HB1)
      go_wp2_with fail
      refine (unhide HN _ (unhide HB1)).mono ?_
      rintro e w1 ⟨rfl, hb1⟩
      have HB2 := hide (belOn (unhide HB1) hb1)
      have HO2 := hide ((unhide HO0).keep hb1)
      clear hb1
      go_wp2_with fail
      go_ret
      exact ⟨_, rfl, (unhide HO2).le (by omega), unhide HFIN _ (unhide HB2)⟩
  | true =>
    have hbl : btwL nx es fr ds = (wayF es fr ds).map (·.id) := by unfold btwL; rw [if_pos hnet]
    rw [hbl]
    rw [hnet] at HN
    clear h hb0 hW0 hW1 hnet hbl hown0 hb1 c0 c1
    go_enter Try.func17, Try.ntmps17
    go_wp2_with fail
    rw [unhide HW0, unhide HW1]
    go_loopw [7, 8] (fun s i wr => ∃ k : Nat, i = .int .i64 k ∧ k ≤ n ∧ W0.heap.size ≤ wr.heap.size ∧ Hid (OwnR i64E wr W0.heap.size s ((wayF (es.take k) fr ds).map (·.id))) ∧ Hid (Below W0.heap.size W0 wr)) (fun _ i _ => n - (intOf i).toNat)
    case atStart => exact ⟨0, rfl, by omega, (unhide HB1).size, hide (by rw [← hz0]; exact unhide HO0), HB1⟩
    case round =>
      clear HB1 HO0
      obtain ⟨k, rfl, hk, hz, HS, HB⟩ := hrel
      obtain ⟨sa, sc, hv⟩ := (unhide HS).form
      subst hv
      have hml : ((wayF (es.take k) fr ds).map (·.id)).length ≤ k := by rw [List.length_map]; exact Nat.le_trans (wayF_len _ _ _) (List.length_take_le _ _)
      obtain ⟨q0, q1⟩ := unhide HC _ (unhide HB)
      by_cases hkn : k < n
      · have hkl : k < es.length := by omega
        have htk := wayF_take es fr ds k hkl
        generalize hX : (wayF (es.take k) fr ds).map (·.id) = xs at HS htk hml ⊢
        go_wp2_with fail
        refine (unhide HN _ (unhide HB)).mono ?_
        rintro e w1 ⟨rfl, hb1⟩
        have HB2 := hide (belOn (unhide HB) hb1)
        have HS2 := hide ((unhide HS).keep hb1)
        obtain ⟨g, e1, l1, p0, p1, p2, p3⟩ := (unhide HD _ (unhide HB2)).row.px k hkl
        obtain ⟨r0, r1⟩ := unhide HC _ (unhide HB2)
        have hz1 : W0.heap.size ≤ w1.heap.size := Nat.le_trans hz hb1.size
        generalize es[k] = x at p0 p1 p2 p3 htk
        obtain ⟨pi, pf, pt, bd⟩ := x
        simp only at p0 p1 p2 p3 htk
        subst e1
        have i0 : (0 : Int) ≤ (k : Int) := by omega
        have i1 : (k : Int) < (n : Int) := by omega
        have hlen2 : xs.length < 100000000 := by omega
        by_cases g1 : pf = fr
        · by_cases g2 : pt = ds
          · rw [if_pos ⟨g1, g2⟩] at htk
            have HTK := hide htk
            clear htk hb1 q0 q1 HS HB
            go_wp2_with (at_builtin; go_must (refine appR (e := i64E) rfl _ _ rfl (unhide HS2) rfl pi rfl _ rfl rfl hlen2 hz1 ?_); intro v' w6 hown6 hb6 hg6; obtain ⟨a', c', hv'⟩ := hown6.form; subst hv')
            go_roundw
            case rel => exact ⟨k + 1, by go_num, by omega, by have := hb6.size; omega, hide (by rw [unhide HTK]; rw [List.length_append] at hown6; exact hown6), hide ((unhide HB2).trans hb6)⟩
            case measure => simp [intOf]; omega
          · rw [if_neg (by omega)] at htk
            have HTK := hide htk
            clear htk hb1 q0 q1 HS HB
            go_wp2_with fail
            go_roundw
            case rel => exact ⟨k + 1, by go_num, by omega, hz1, hide (by rw [unhide HTK]; exact unhide HS2), HB2⟩
            case measure => simp [intOf]; omega
        · rw [if_neg (by omega)] at htk
          have HTK := hide htk
          clear htk hb1 q0 q1 HS HB
          go_wp2_with fail
          go_roundw
          case rel => exact ⟨k + 1, by go_num, by omega, hz1, hide (by rw [unhide HTK]; exact unhide HS2), HB2⟩
          case measure => simp [intOf]; omega
      · obtain rfl : k = n := by omega
        rw [List.take_of_length_le (by omega)] at HS hml ⊢
        generalize hxs : (wayF es fr ds).map (·.id) = xs at HS hml ⊢
        have HXS := hide hxs
        clear hxs
        go_wp2_with fail
        refine (unhide HN _ (unhide HB)).mono ?_
        rintro e w1 ⟨rfl, hb1⟩
        have HB2 := hide (belOn (unhide HB) hb1)
        have HS2 := hide ((unhide HS).keep hb1)
        obtain ⟨r0, r1⟩ := unhide HC _ (unhide HB2)
        clear hb1
        go_wp2_with fail
        go_ret
        exact ⟨_, rfl, by rw [unhide HXS]; exact (unhide HS2).le hle, unhide HFIN _ (unhide HB2)⟩
end Go.Proofs.Ytkpnnchgngcppaa
