/- The net of a mesh. -/
import Derived.Test.YtgdcamolpmjceaaMshP
namespace Go.Proofs.Ytgdcamolpmjceaa
open Go.RowKit Go.Maps Plain
set_option linter.unusedVariables false

theorem Plain.belDrw {B : Nat} {w w' : World} (h : Below B w w') : Below B w w'.drew := ⟨h.os, h.tape, h.output, h.size, h.block⟩
theorem Plain.belOfDrw {B : Nat} {w w' : World} (h : Below B w.drew w') : Below B w w' := ⟨h.os, h.tape, h.output, h.size, h.block⟩

set_option maxRecDepth 10000 in
set_option maxHeartbeats 4000000 in
theorem net_calls {W : World} {B M b n : Nat} {nx : Int} {es : List Pkt} {H : Int → Int → Option (Nat × Nat)} (h : MshAt W B M b n nx (wayF es) H) (hr : RisP es) (hw : ∀ e ∈ es, wfP e.src e.dst) (hl : es.length ≤ 1000) :
    Calls Try.prog 25 #[.pointer (some ⟨M, 0, none⟩)] W fun e w' => ∃ a c, e = .returned (.agg #[.int .i64 nx, .slice a es.length c]) ∧ OwnR pktE w' W.heap.size (.slice a es.length c) es ∧ Below W.heap.size W w' := by
  obtain ⟨W1, hW1⟩ : ∃ W1, W1 = W.alloc (.cells #[.int .i64 0, .slice none 0 0] 26) := ⟨_, rfl⟩
  have hb1 : Below W.heap.size W W1 := by rw [hW1]; exact bel1 _ _
  have hz : W1.heap.size = W.heap.size + 1 := by rw [hW1]; simp
  have h1 := h.below hb1
  have hM := h.lt.1
  have c0 := h1.c0
  have HC := hide (fun (X : World) (hX : Below W1.heap.size W1 X) => (bcl hX (show M < W1.heap.size by omega) c0))
  have k0 : W1.cell? ⟨W.heap.size, 0, none⟩ = some (.int .i64 0) := by rw [hW1]; simp [go_sem]
  have k1 : W1.cell? ⟨W.heap.size, 1, none⟩ = some (.slice none 0 0) := by rw [hW1]; simp [go_sem]
  have z0 : W1.frozen? ⟨W.heap.size, 0, none⟩ = false := by rw [hW1]; simp [go_sem]
  have z1 : W1.frozen? ⟨W.heap.size, 1, none⟩ = false := by rw [hW1]; simp [go_sem]
  have hWl : W.heap.size < W1.heap.size := by omega
  have HP := hide (packets_calls (W := W1.drew) (h1.below (belDrw (Below.refl _ _))) hr hw hl)
  have HFIN := hide (fun (X : World) (u v : Value) (hX : Below W1.heap.size W1 X) => show Below W.heap.size W ((X.setCell ⟨W.heap.size, 0, none⟩ u).setCell ⟨W.heap.size, 1, none⟩ v) from ((hb1.trans (hX.mono (by omega))).setCell (p := ⟨W.heap.size, 0, none⟩) (Nat.le_refl _) _).setCell (p := ⟨W.heap.size, 1, none⟩) (Nat.le_refl _) _)
  have HW1 := hide hW1.symm
  generalize es.length = m at HP ⊢
  clear h h1 hb1 hW1 hr hw
  go_enter Try.func25, Try.ntmps25
  go_wp2_with fail
  rw [unhide HW1]
  go_region_with (first
    | (go_at_call 41; refine (unhide HP).mono ?_; rintro e w2 ⟨a, c, rfl, ho, hb2⟩; have hb3 := belOfDrw hb2; have d0 := unhide HC _ hb3; have e0 := bcl hb3 hWl k0; have e1 := bcl hb3 hWl k1; have f0 := (hb3.frozen (p := ⟨W.heap.size, 0, none⟩) hWl).trans z0; have f1 := (hb3.frozen (p := ⟨W.heap.size, 1, none⟩) hWl).trans z1))
  all_goals (try go_wp2_with fail)
  all_goals
    have r1 := cell_setN (u := .slice a m c) (show (w2.setCell ⟨W.heap.size, 0, none⟩ (.int .i64 nx)).cell? ⟨W.heap.size, 1, none⟩ = some (.slice none 0 0) from (cell_offN (.inr (by omega))).trans e1)
    have r0 := (cell_offN (W := w2.setCell ⟨W.heap.size, 0, none⟩ (.int .i64 nx)) (b := W.heap.size) (i := 1) (g := W.heap.size) (j := 0) (u := .slice a m c) (.inr (by omega))).trans (cell_setN (u := .int .i64 nx) e0)
    have ho2 : OwnR pktE ((w2.setCell ⟨W.heap.size, 0, none⟩ (.int .i64 nx)).setCell ⟨W.heap.size, 1, none⟩ (.slice a m c)) W.heap.size (.slice a m c) es := (ho.le (by show W.heap.size ≤ W1.heap.size; omega)).otherN (fun g hg => by
      have := (World.ownsRow.lt ho g hg).1
      have hne : W.heap.size ≠ g := by have : W1.heap.size ≤ g := this; omega
      exact (heap_setN hne).trans (heap_setN hne))
    have hfin := unhide HFIN _ (.int .i64 nx) (.slice a m c) hb3
    exact bodyPost_ret (v := .agg #[.int .i64 nx, .slice a m c]) (by simp [results, Try.results25, go_sem, r0, r1]) rfl ⟨a, c, rfl, ho2, hfin⟩
end Go.Proofs.Ytgdcamolpmjceaa
