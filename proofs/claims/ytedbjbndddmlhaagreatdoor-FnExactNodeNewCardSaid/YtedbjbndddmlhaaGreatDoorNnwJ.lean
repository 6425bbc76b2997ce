/- Members cloned and copied, by the program. -/
import Derived.Test.YtedbjbndddmlhaaGreatDoorChaC
namespace Go.Proofs.YtedbjbndddmlhaaGreatDoor
open Go.RowKit Plain
set_option linter.unusedVariables false

set_option maxRecDepth 10000 in
theorem nil_ints (g n c : Nat) (W : World) : Sem.run Tryz.prog (binOp BinOp.eql 22 (Value.slice (some ⟨g, 0, none⟩) n c) (Value.slice none 0 0)) W = .ok (.bool false) W := by
  first | rfl | (unfold binOp; simp [go_sem, Tryz.underlying22]) | (simp [binOp, go_sem])

set_option maxRecDepth 10000 in
theorem nil_ints0 (W : World) : Sem.run Tryz.prog (binOp BinOp.eql 22 (Value.slice none 0 0) (Value.slice none 0 0)) W = .ok (.bool true) W := by
  first | rfl | (unfold binOp; simp [go_sem, Tryz.underlying22]) | (simp [binOp, go_sem])

set_option maxRecDepth 10000 in
theorem nil_ents0 (W : World) : Sem.run Tryz.prog (binOp BinOp.eql 27 (Value.slice none 0 0) (Value.slice none 0 0)) W = .ok (.bool true) W := by
  first | rfl | (unfold binOp; simp [go_sem, Tryz.underlying27]) | (simp [binOp, go_sem])

set_option maxRecDepth 10000 in
theorem nil_peers0 (W : World) : Sem.run Tryz.prog (binOp BinOp.eql 28 (Value.slice none 0 0) (Value.slice none 0 0)) W = .ok (.bool true) W := by
  first | rfl | (unfold binOp; simp [go_sem, Tryz.underlying28]) | (simp [binOp, go_sem])

set_option maxRecDepth 10000 in
set_option maxHeartbeats 1000000 in
theorem cloneI_calls (g n c : Nat) (v : List Int) (w : World) (hn : v.length = n) (hn2 : n ≤ 1048576) (h : RowAt i64E w (some ⟨g, 0, none⟩) v) :
    Calls Tryz.prog 41 #[.slice (some ⟨g, 0, none⟩) n c] w fun e w' => ∃ a' c', e = .returned (.slice a' n c') ∧ OwnR i64E w' w.heap.size (.slice a' n c') v ∧ Below w.heap.size w w' := by
  have HO := hide (ownR_empty i64E w w.heap.size (Nat.le_refl _))
  have HR1 := hide (h.below (bel1 w (.cells #[] 2)))
  have HB1 := hide (bel1 w (.cells #[] 2))
  have HN := hide hn
  have hnil := nil_ints g n c
  clear h hn
  go_enter Tryz.func41, Tryz.ntmps41
  go_wp2_with (at_builtin; go_must (refine appGG (e := i64E) rfl _ _ rfl (unhide HO) rfl (some ⟨g, 0, none⟩) n c rfl (unhide HN) (unhide HR1) (.inr ⟨g, rfl⟩) (by simp; omega) (by simp) ?_); intro v' w6 hown6 hb6)
  obtain ⟨a', c', rfl⟩ := hown6.form
  go_ret
  refine ⟨a', c', ?_, ?_, (unhide HB1).trans hb6⟩
  · rw [List.nil_append, unhide HN]; rfl
  · rw [List.nil_append, unhide HN] at hown6; exact hown6

set_option maxRecDepth 10000 in
theorem cloneI0_calls (w : World) : Calls Tryz.prog 41 #[.slice none 0 0] w fun e w' => e = .returned (.slice none 0 0) ∧ w = w' := by
  have hnil := nil_ints0
  go_enter Tryz.func41, Tryz.ntmps41
  go_wp2_with fail
  go_ret
  exact ⟨rfl, rfl⟩

set_option maxRecDepth 10000 in
theorem cloneE0_calls (w : World) : Calls Tryz.prog 40 #[.slice none 0 0] w fun e w' => e = .returned (.slice none 0 0) ∧ w = w' := by
  have hnil := nil_ents0
  go_enter Tryz.func40, Tryz.ntmps40
  go_wp2_with fail
  go_ret
  exact ⟨rfl, rfl⟩

set_option maxRecDepth 10000 in
theorem cloneP0_calls (w : World) : Calls Tryz.prog 42 #[.slice none 0 0] w fun e w' => e = .returned (.slice none 0 0) ∧ w = w' := by
  have hnil := nil_peers0
  go_enter Tryz.func42, Tryz.ntmps42
  go_wp2_with fail
  go_ret
  exact ⟨rfl, rfl⟩

/-- Two rows of the call's own, apart. -/
def Plain.NfPost (v l : List Int) (w : World) (a1 : Option Addr) (c1 : Nat) (a2 : Option Addr) (c2 : Nat) (w' : World) : Prop := RowAt i64E w' a1 v ∧ RowAt i64E w' a2 l ∧ (∀ g, inB a1 g → w.heap.size ≤ g ∧ g < w'.heap.size) ∧ (∀ g, inB a2 g → w.heap.size ≤ g ∧ g < w'.heap.size) ∧ (∀ g, inB a1 g → ¬ inB a2 g) ∧ Below w.heap.size w w'
/-- What copyOfConf leaves. -/
def Plain.CoPost (v l : List Int) (w : World) (e : Ending) (w' : World) : Prop := ∃ a1 c1 a2 c2, e = .returned (.agg #[.slice a1 v.length c1, .slice a2 l.length c2]) ∧ NfPost v l w a1 c1 a2 c2 w'
theorem Plain.coRet {w w4 : World} {B rb : Nat} {y1 y2 : Option Addr} {k1 k2 : Nat} {v l : List Int} (h1 : RowAt i64E w4 y1 v) (h2 : RowAt i64E w4 y2 l)
    (m1 : ∀ k, inB y1 k → B ≤ k ∧ k < w4.heap.size) (m2 : ∀ k, inB y2 k → B ≤ k ∧ k < w4.heap.size) (ap : ∀ k, inB y1 k → ¬ inB y2 k) (hrb : w.heap.size ≤ rb) (hB : rb < B) (hb : Below w.heap.size w w4) : CoPost v l w (.returned (.agg #[.slice y1 v.length k1, .slice y2 l.length k2])) ((w4.setCell ⟨rb, 0, none⟩ (.slice y1 v.length k1)).setCell ⟨rb, 1, none⟩ (.slice y2 l.length k2)) :=
  ⟨y1, k1, y2, k2, rfl, h1.set2 (fun k hk => by have := m1 k hk; omega), h2.set2 (fun k hk => by have := m2 k hk; omega), fun k hk => by have := m1 k hk; simp; omega, fun k hk => by have := m2 k hk; simp; omega, ap, (hb.setCell hrb _).setCell hrb _⟩

set_option maxRecDepth 10000 in
set_option maxHeartbeats 8000000 in
theorem copyOfConf_calls (g1 nv cv : Nat) (v : List Int) (g2 nl cl : Nat) (l : List Int) (w : World) (h : ConfAt w (some ⟨g1, 0, none⟩) nv v (some ⟨g2, 0, none⟩) nl l) :
    Calls Tryz.prog 39 #[.agg #[.slice (some ⟨g1, 0, none⟩) nv cv, .slice (some ⟨g2, 0, none⟩) nl cl]] w (CoPost v l w) := by
  obtain ⟨Wa, hWa⟩ : ∃ Wa, Wa = w.alloc (.cells #[.slice (some ⟨g1, 0, none⟩) nv cv, .slice (some ⟨g2, 0, none⟩) nl cl] 26) := ⟨_, rfl⟩
  obtain ⟨W0, hW0⟩ : ∃ W0, W0 = Wa.alloc (.cells #[.slice none 0 0, .slice none 0 0] 26) := ⟨_, rfl⟩
  have hba : Below w.heap.size w Wa := by rw [hWa]; exact bel1 _ _
  have hsa : Wa.heap.size = w.heap.size + 1 := by rw [hWa]; simp
  have hs0 : W0.heap.size = w.heap.size + 2 := by rw [hW0]; simp [hsa]
  have hb0 : Below Wa.heap.size Wa W0 := by rw [hW0]; exact bel1 _ _
  have c0 : W0.cell? ⟨w.heap.size, 0, none⟩ = some (.slice (some ⟨g1, 0, none⟩) nv cv) := bcl hb0 (by omega) (by rw [hWa]; simp [go_sem])
  have c1 : W0.cell? ⟨w.heap.size, 1, none⟩ = some (.slice (some ⟨g2, 0, none⟩) nl cl) := bcl hb0 (by omega) (by rw [hWa]; simp [go_sem])
  have hr : ∀ i, i < 2 → W0.cell? ⟨w.heap.size + 1, i, none⟩ = some (.slice none 0 0) ∧ W0.frozen? ⟨w.heap.size + 1, i, none⟩ = false := by
    intro i hi
    rw [hW0, ← hsa]
    rcases i with _ | _ | i
    all_goals first | omega | simp [go_sem]
  have HFIN := hide (fun (W : World) (hW : Below W0.heap.size W0 W) => belOn (belOn hba hb0) hW)
  have HW0 := hide (show (w.alloc (.cells #[.slice (some ⟨g1, 0, none⟩) nv cv, .slice (some ⟨g2, 0, none⟩) nl cl] 26)).alloc (.cells #[.slice none 0 0, .slice none 0 0] 26) = W0 from by rw [hW0, hWa])
  have HLV := hide h.v.len
  have HLL := hide h.l.len
  have hbv := h.v.bn
  have hbl := h.l.bn
  have l0 : w.heap.size < W0.heap.size := by omega
  have l1 : w.heap.size + 1 < W0.heap.size := by omega
  obtain ⟨r0, z0⟩ := hr 0 (by decide)
  obtain ⟨r1, z1⟩ := hr 1 (by decide)
  have hn1 : w.heap.size + 1 ≤ W0.heap.size := by omega
  have X0 := fun (W : World) (hW : SX2 w.heap.size W0 W) => bcl hW.1 (show w.heap.size < w.heap.size + 1 by omega) c0
  have X1 := fun (W : World) (hW : SX2 w.heap.size W0 W) => bcl hW.1 (show w.heap.size < w.heap.size + 1 by omega) c1
  have hbw := belOn hba hb0
  have HC1 := hide (fun (W : World) (hW : SX2 w.heap.size W0 W) => cloneI_calls g1 nv cv v W (unhide HLV) hbv (h.v.row.below (hbw.trans (hW.1.mono (by omega)))))
  have HC2 := hide (fun (W : World) (hW : SX2 w.heap.size W0 W) => cloneI_calls g2 nl cl l W (unhide HLL) hbl (h.l.row.below (hbw.trans (hW.1.mono (by omega)))))
  have Q0 : SX2 w.heap.size W0 W0.drew := ⟨belDrew (Below.refl _ _), l1, ⟨_, r0⟩, ⟨_, r1⟩, z0, z1⟩
  clear hba hb0 hWa hW0 hr h hsa hs0 hbw
  go_enter Tryz.func39, Tryz.ntmps39
  go_wp2_with fail
  rw [unhide HW0]
  go_region_held3 (fun w' => SX2 w.heap.size W0 w') (first | exact Q2 | exact Q1 | exact Q0 | exact SX2.set Q2) (first
    | (go_at_call 41; refine (unhide HC2 _ Q1).mono ?_; rintro e w3 ⟨y2, k2, rfl, o2, hb3⟩; have Q2 : SX2 w.heap.size W0 w3 := SX2.step Q1 hb3 hn1; obtain ⟨-, nlt, ⟨u0, t0⟩, ⟨u1, t1⟩, v0, v1⟩ := Q2; have Q2 : SX2 w.heap.size W0 w3 := SX2.step Q1 hb3 hn1)
    | (go_at_call 41; refine (unhide HC1 _ Q0).mono ?_; rintro e w2 ⟨y1, k1, rfl, o1, hb2⟩; have Q1 : SX2 w.heap.size W0 w2 := SX2.step Q0 hb2 hn1))
  all_goals (have B2 : Below W0.heap.size W0 w2 := bOfDrew hb2)
  all_goals (have B4 := belOn B2 hb3)
  all_goals (have z3 := hb3.size)
  all_goals (have z2 := B2.size)
  all_goals (have HY1 := hide (o1.keep hb3).at)
  all_goals (have HY2 := hide o2.at)
  all_goals (have HM1 := hide (show ∀ k, inB y1 k → W0.heap.size ≤ k ∧ k < w3.heap.size from fun k hk => by have h2 := o1.bl k hk; simp at h2; omega))
  all_goals (have HM2 := hide (show ∀ k, inB y2 k → W0.heap.size ≤ k ∧ k < w3.heap.size from fun k hk => by have h2 := o2.bl k hk; omega))
  all_goals (have HAP := hide (show ∀ k, inB y1 k → ¬ inB y2 k from fun k hk h3 => by have h2 := o1.bl k hk; have h4 := o2.bl k h3; omega))
  all_goals (have HB4 := hide B4)
  all_goals clear o1 o2 B2 B4 z2 z3 hb2 hb3 c0 c1 r0 r1 z0 z1 Q0 Q1 Q2
  all_goals (try go_wp2_with fail)
  all_goals refine bodyPost_ret (v := .agg #[.slice y1 nv k1, .slice y2 nl k2]) (by simp [results, Tryz.results39, go_sem, t0, t1]) rfl ?_
  all_goals (have hn1 := unhide HLV)
  all_goals (have hn2 := unhide HLL)
  all_goals (subst hn1 hn2)
  all_goals exact coRet (unhide HY1) (unhide HY2) (unhide HM1) (unhide HM2) (unhide HAP) (by omega) l1 (unhide HFIN _ (unhide HB4))
end Go.Proofs.YtedbjbndddmlhaaGreatDoor
