/- Which nets are right, by the program. -/
import Derived.Test.YtgdcamolpmjceaaNetM
namespace Go.Proofs.Ytgdcamolpmjceaa
open Go.RowKit Plain
set_option linter.unusedVariables false

/-- A net in memory. -/
structure Plain.NetAt (W : World) (a : Option Addr) (n c : Nat) (es : List Pkt) : Prop where
  row : RowAt pktE W a es
  len : es.length = n
  bn : n ≤ 1048576
  fit : ∀ e ∈ es, e.body.size ≤ 1000000000
theorem Plain.NetAt.below {W W' : World} {a : Option Addr} {n c : Nat} {es : List Pkt} (h : NetAt W a n c es) (hb : Below W.heap.size W W') : NetAt W' a n c es := ⟨h.row.below hb, h.len, h.bn, h.fit⟩

set_option maxRecDepth 10000 in
set_option maxHeartbeats 4000000 in
theorem impl_NetOk (t : Int) (a : Option Addr) (n c : Nat) (es : List Pkt) (w : World) (h : NetAt w a n c es) (hnc : n ≤ c) :
    Calls Try.prog 15 #[.agg #[.int .i64 t, .slice a n c]] w fun e w' => e = .returned (.bool (netB t es)) ∧ Below w.heap.size w w' := by
  obtain ⟨W0, hW0⟩ : ∃ W0, W0 = w.alloc (.cells #[.int .i64 t, .slice a n c] 26) := ⟨_, rfl⟩
  have hb0 : Below w.heap.size w W0 := by rw [hW0]; exact bel1 _ _
  have hlt : w.heap.size < W0.heap.size := by rw [hW0]; simp
  have c0 : W0.cell? ⟨w.heap.size, 0, none⟩ = some (.int .i64 t) := by rw [hW0]; simp [go_sem]
  have c2 : W0.cell? ⟨w.heap.size, 1, none⟩ = some (.slice a n c) := by rw [hW0]; simp [go_sem]
  have HC := hide (fun (W : World) (hW : Below W0.heap.size W0 W) => And.intro (bcl hW hlt c0) (bcl hW hlt c2))
  have HFIN := hide (fun (W : World) (hW : Below W0.heap.size W0 W) => belOn hb0 hW)
  have HD := hide (fun (W : World) (hW : Below W0.heap.size W0 W) => (h.below hb0).below hW)
  have HW0 := hide hW0.symm
  have hbn := h.bn
  have HH := hide h
  have hlen := h.len
  clear hb0 hlt hW0 h
  obtain ⟨R, hR⟩ : ∃ R, netB t es = R := ⟨_, rfl⟩
  rw [hR]
  unfold netB at hR
  rw [hlen] at hR
  have HR := hide hR
  clear hR hlen
  by_cases h1 : t < 1
  · have HX := hide (show R = false from by rw [← unhide HR, decide_eq_false (show ¬ 1 ≤ t by omega)]; rfl)
    go_enter Try.func15, Try.ntmps15
    go_wp2_with fail
    rw [unhide HW0]
    go_ret
    exact ⟨by rw [unhide HX]; rfl, unhide HFIN _ (Below.refl _ _)⟩
  by_cases h2 : 1000000000000 < t
  · have HX := hide (show R = false from by rw [← unhide HR, decide_eq_false (show ¬ t ≤ 1000000000000 by omega), Bool.and_false]; rfl)
    go_enter Try.func15, Try.ntmps15
    go_wp2_with fail
    rw [unhide HW0]
    go_ret
    exact ⟨by rw [unhide HX]; rfl, unhide HFIN _ (Below.refl _ _)⟩
  by_cases h3 : (300 : Int) < (n : Int)
  · have HX := hide (show R = false from by rw [← unhide HR, decide_eq_false (show ¬ n ≤ 300 by omega), Bool.false_and, Bool.and_false])
    go_enter Try.func15, Try.ntmps15
    go_wp2_with fail
    rw [unhide HW0]
    go_ret
    exact ⟨by rw [unhide HX]; rfl, unhide HFIN _ (Below.refl _ _)⟩
  have HR2 := hide (show R = okP t 0 es from by rw [← unhide HR, decide_eq_true (show 1 ≤ t by omega), decide_eq_true (show t ≤ 1000000000000 by omega), decide_eq_true (show n ≤ 300 by omega)]; simp)
  clear HR
  go_enter Try.func15, Try.ntmps15
  go_wp2_with fail
  rw [unhide HW0]
  clear c0 c2
  go_loopw [3, 23] (fun l i wr => ∃ k : Nat, i = .int .i64 k ∧ l = .int .i64 (prevI es k) ∧ k ≤ n ∧ Hid (okP t (prevI es k) (es.drop k) = okP t 0 es) ∧ Hid (Below W0.heap.size W0 wr)) (fun _ i _ => n - (intOf i).toNat)
  case atStart => exact ⟨0, rfl, rfl, by omega, hide rfl, hide (Below.refl _ _)⟩
  case round =>
    obtain ⟨k, rfl, rfl, hk, HO, HB⟩ := hrel
    obtain ⟨q0, q2⟩ := unhide HC _ (unhide HB)
    by_cases hkn : k < n
    · have hkl : k < es.length := by rw [(unhide HH).len]; exact hkn
      obtain ⟨g, e1, l1, p0, p1, p2, p3⟩ := (unhide HD _ (unhide HB)).row.px k hkl
      have hst := okP_step t es k hkl
      have hpn : prevI es (k + 1) = es[k].id := by rw [prevI, List.getElem?_eq_getElem hkl]; rfl
      have hbs := (unhide HH).fit es[k] (by simp)
      generalize hx : es[k] = x at p0 p1 p2 p3 hst hbs hpn
      obtain ⟨pi, fr, ds, bd⟩ := x
      simp only at p0 p1 p2 p3 hbs hpn
      subst e1
      have i0 : (0 : Int) ≤ (k : Int) := by omega
      have i1 : (k : Int) < (n : Int) := by omega
      have HST := hide (hst.symm.trans (unhide HO))
      have HPN := hide hpn
      generalize prevI es k = pv at HST HO
      unfold pktB at HST
      simp only at HST
      have hlw : w.heap.size < wr.heap.size := lt_of_cell q0
      obtain ⟨W1, hW1⟩ : ∃ W1, W1 = wr.alloc (.cells #[.int .i64 pi, .int .i64 fr, .int .i64 ds, .string bd] 34) := ⟨_, rfl⟩
      have hb1 : Below wr.heap.size wr W1 := by rw [hW1]; exact bel1 _ _
      have r0 := bcl hb1 hlw q0
      have s0 : W1.cell? ⟨wr.heap.size, 0, none⟩ = some (.int .i64 pi) := by rw [hW1]; simp [go_sem]
      have s1 : W1.cell? ⟨wr.heap.size, 1, none⟩ = some (.int .i64 fr) := by rw [hW1]; simp [go_sem]
      have s2 : W1.cell? ⟨wr.heap.size, 2, none⟩ = some (.int .i64 ds) := by rw [hW1]; simp [go_sem]
      have s3 : W1.cell? ⟨wr.heap.size, 3, none⟩ = some (.string bd) := by rw [hW1]; simp [go_sem]
      have HB1 := hide (belOn (unhide HB) hb1)
      have HW1 := hide hW1.symm
      clear hst HO hx hb1 hW1 hpn
      by_cases g1 : pi ≤ pv
      · have HX := hide (show R = false from by rw [unhide HR2, ← unhide HST, decide_eq_false (show ¬ pv < pi by omega)]; simp)
        clear HST
        go_wp2_with fail
        rw [unhide HW1]
        go_wp2_with fail
        go_ret
        exact ⟨by rw [unhide HX]; rfl, unhide HFIN _ (unhide HB1)⟩
      by_cases g2 : t ≤ pi
      · have HX := hide (show R = false from by rw [unhide HR2, ← unhide HST, decide_eq_false (show ¬ pi < t by omega)]; simp)
        clear HST
        go_wp2_with fail
        rw [unhide HW1]
        go_wp2_with fail
        go_ret
        exact ⟨by rw [unhide HX]; rfl, unhide HFIN _ (unhide HB1)⟩
      have HF := hide (formOk_calls fr ds bd W1 (by omega))
      rw [decide_eq_true (show pv < pi by omega), decide_eq_true (show pi < t by omega)] at HST
      cases hf : endsB fr ds bd with
      | false =>
        have HX := hide (show R = false from by rw [unhide HR2, ← unhide HST, hf]; simp)
        rw [hf] at HF
        clear HST hf
        go_wp2_with fail
        rw [unhide HW1]
        go_wp2_with fail
        refine (unhide HF).mono ?_
        rintro e w2 ⟨rfl, rfl⟩
        go_wp2_with fail
        go_ret
        exact ⟨by rw [unhide HX]; rfl, unhide HFIN _ (unhide HB1)⟩
      | true =>
        have HX := hide (show okP t (prevI es (k + 1)) (es.drop (k + 1)) = okP t 0 es from by rw [← unhide HST, hf]; simp)
        rw [hf] at HF
        clear HST hf
        go_wp2_with fail
        rw [unhide HW1]
        go_wp2_with fail
        refine (unhide HF).mono ?_
        rintro e w2 ⟨rfl, rfl⟩
        go_wp2_with fail
        go_roundw
        case rel => exact ⟨k + 1, by go_num, by rw [unhide HPN], by omega, HX, HB1⟩
        case measure => simp [intOf]; omega
    · obtain rfl : k = n := by omega
      have hO := unhide HO
      rw [List.drop_of_length_le (by rw [(unhide HH).len]; exact Nat.le_refl _)] at hO
      have HX := hide (show R = true from by rw [unhide HR2, ← hO]; rfl)
      clear hO HO
      go_wp2_with fail
      go_ret
      exact ⟨by rw [unhide HX]; rfl, unhide HFIN _ (unhide HB)⟩
end Go.Proofs.Ytgdcamolpmjceaa
