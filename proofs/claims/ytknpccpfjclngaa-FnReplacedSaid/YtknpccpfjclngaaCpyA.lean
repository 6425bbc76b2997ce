/- Disks copied, by the specification, wherever their slices lie. -/
import Derived.Test.YtknpccpfjclngaaGAF
import Derived.Test.YtknpccpfjclngaaGAI
import Derived.Test.YtknpccpfjclngaaAppO
namespace Go.Proofs.Ytknpccpfjclngaa
open Go.RowKit Plain
set_option linter.unusedVariables false

/-- What l4Copy leaves. -/
def CpPost (live safe : List Fl) (ops : List Dop) (w : World) (e : Ending) (w' : World) : Prop :=
  ∃ aL cL aS cS aO cO B3, e = .returned (.agg #[.slice aL live.length cL, .slice aS safe.length cS, .slice aO ops.length cO]) ∧ RowAt fileE w' aL live ∧ RowAt fileE w' aS safe ∧ RowAt dopE w' aO ops ∧ (AdOk aL cL ∧ AdOk aS cS ∧ AdOk aO cO) ∧ OwnOr dopE w' B3 aO cO ops ∧ w.heap.size ≤ B3 ∧ B3 ≤ w'.heap.size ∧ (∀ g, inB aS g → g < B3) ∧ (∀ g, inB aL g → w.heap.size ≤ g) ∧ (∀ g, inB aS g → w.heap.size ≤ g ∧ g < w'.heap.size) ∧ (∀ g, inB aO g → w.heap.size ≤ g ∧ g < w'.heap.size) ∧ Below w.heap.size w w'

theorem adN {α : Type} {e : Elem α} {g : Nat} {w w' : World} {a : Option Addr} {c : Nat} {ys : List α} (h : AppN e g w w' a c ys) : AdOk a c := by
  rcases h.own with q | ⟨_, _, q⟩
  · exact q.ad
  · exact .inr ⟨g, q⟩
theorem Plain.OwnOr.setO {w : World} {B rb i : Nat} {u : Value} {a : Option Addr} {c : Nat} {xs : List Dop} (h : OwnOr dopE w B a c xs) (hB : rb < B) : OwnOr dopE (w.setCell ⟨rb, i, none⟩ u) B a c xs := by
  rcases h with h | ⟨h1, h2, g, h3, h4⟩
  · exact .inl (h.other fun g hg => by have := (World.ownsRow.lt h g hg).1; exact heap_set (by omega))
  · exact .inr ⟨h1, h2, g, h3, by simpa using h4⟩
/-- The block of the answer may be written. -/
structure Plain.NQ (b : Nat) (W : World) : Prop where
  lt : b < W.heap.size
  e0 : ∃ u, W.cell? ⟨b, 0, none⟩ = some u
  e1 : ∃ u, W.cell? ⟨b, 1, none⟩ = some u
  e2 : ∃ u, W.cell? ⟨b, 2, none⟩ = some u
  z0 : W.frozen? ⟨b, 0, none⟩ = false
  z1 : W.frozen? ⟨b, 1, none⟩ = false
  z2 : W.frozen? ⟨b, 2, none⟩ = false
/-- What holds while a disk is copied. -/
def Plain.SX (n : Nat) (W0 W : World) : Prop := Below (n + 1) W0 W ∧ NQ (n + 1) W
theorem Plain.SX.step {n : Nat} {W0 X X' : World} (h : SX n W0 X) (hb : Below X.heap.size X X') (hn : n + 1 ≤ W0.heap.size) : SX n W0 X' := by
  obtain ⟨h1, h2⟩ := h
  obtain ⟨u0, q0⟩ := h2.e0
  obtain ⟨u1, q1⟩ := h2.e1
  obtain ⟨u2, q2⟩ := h2.e2
  exact ⟨h1.trans (hb.mono (Nat.le_trans hn h1.size)), Nat.lt_of_lt_of_le h2.lt hb.size, ⟨u0, bcl hb h2.lt q0⟩, ⟨u1, bcl hb h2.lt q1⟩, ⟨u2, bcl hb h2.lt q2⟩, (hb.frozen (p := ⟨n + 1, 0, none⟩) h2.lt).trans h2.z0, (hb.frozen (p := ⟨n + 1, 1, none⟩) h2.lt).trans h2.z1, (hb.frozen (p := ⟨n + 1, 2, none⟩) h2.lt).trans h2.z2⟩
theorem Plain.SX.al {n : Nat} {W0 X : World} {o : Obj} (h : SX n W0 X) (hn : n + 1 ≤ W0.heap.size) : SX n W0 (X.alloc o) := h.step (bel1 X o) hn
theorem Plain.SX.ald {n : Nat} {W0 X : World} {o : Obj} (h : SX n W0 X.drew) (hn : n + 1 ≤ W0.heap.size) : SX n W0 (X.alloc o).drew := h.step (bel1 X.drew o) hn
theorem Plain.SX.set {n : Nat} {W0 X : World} {v0 v1 v2 : Value} (h : SX n W0 X) : SX n W0 (((X.setCell ⟨n + 1, 0, none⟩ v0).setCell ⟨n + 1, 1, none⟩ v1).setCell ⟨n + 1, 2, none⟩ v2) := by
  obtain ⟨h1, h2⟩ := h
  obtain ⟨u0, q0⟩ := h2.e0
  obtain ⟨u1, q1⟩ := h2.e1
  obtain ⟨u2, q2⟩ := h2.e2
  refine ⟨((h1.setCell (Nat.le_refl _) _).setCell (Nat.le_refl _) _).setCell (Nat.le_refl _) _, by simpa using h2.lt, ⟨v0, ?_⟩, ⟨v1, ?_⟩, ⟨v2, ?_⟩, ?_, ?_, ?_⟩
  · exact (cell_off (.inr (by decide))).trans ((cell_off (.inr (by decide))).trans (cell_set q0))
  · exact (cell_off (.inr (by decide))).trans (cell_set ((cell_off (.inr (by decide))).trans q1))
  · exact cell_set ((cell_off (.inr (by decide))).trans ((cell_off (.inr (by decide))).trans q2))
  · rw [World.frozen?_setCell, World.frozen?_setCell, World.frozen?_setCell]; exact h2.z0
  · rw [World.frozen?_setCell, World.frozen?_setCell, World.frozen?_setCell]; exact h2.z1
  · rw [World.frozen?_setCell, World.frozen?_setCell, World.frozen?_setCell]; exact h2.z2
theorem cpRet {w w4 : World} {B B3 rb : Nat} {y1 y2 y3 : Option Addr} {k1 k2 k3 : Nat} {live safe : List Fl} {ops : List Dop} (h1 : RowAt fileE w4 y1 live) (h2 : RowAt fileE w4 y2 safe) (h3 : RowAt dopE w4 y3 ops) (had : AdOk y1 k1 ∧ AdOk y2 k2 ∧ AdOk y3 k3) (h4 : OwnOr dopE w4 B3 y3 k3 ops) (hB3 : B ≤ B3) (hB4 : B3 ≤ w4.heap.size) (ap : ∀ k, inB y2 k → k < B3)
    (m1 : ∀ k, inB y1 k → B ≤ k) (m2 : ∀ k, inB y2 k → B ≤ k ∧ k < w4.heap.size) (m3 : ∀ k, inB y3 k → B ≤ k ∧ k < w4.heap.size) (hrb : w.heap.size ≤ rb) (hB : rb < B) (hb : Below w.heap.size w w4) : CpPost live safe ops w (.returned (.agg #[.slice y1 live.length k1, .slice y2 safe.length k2, .slice y3 ops.length k3])) (((w4.setCell ⟨rb, 0, none⟩ (.slice y1 live.length k1)).setCell ⟨rb, 1, none⟩ (.slice y2 safe.length k2)).setCell ⟨rb, 2, none⟩ (.slice y3 ops.length k3)) := by
  have n1 : live = [] ∨ ∀ k, inB y1 k → k ≠ rb := .inr fun k hk => by have := m1 k hk; omega
  have n2 : safe = [] ∨ ∀ k, inB y2 k → k ≠ rb := .inr fun k hk => by have := m2 k hk; omega
  have n3 : ops = [] ∨ ∀ k, inB y3 k → k ≠ rb := .inr fun k hk => by have := m3 k hk; omega
  have hr3 : rb < B3 := by omega
  exact ⟨y1, k1, y2, k2, y3, k3, B3, rfl, ((h1.setO n1).setO n1).setO n1, ((h2.setO n2).setO n2).setO n2, ((h3.setO n3).setO n3).setO n3, had, ((h4.setO hr3).setO hr3).setO hr3, by omega, by simpa using hB4, ap, fun k hk => by have := m1 k hk; omega, fun k hk => by have := m2 k hk; simp; omega, fun k hk => by have := m3 k hk; simp; omega, ((hb.setCell hrb _).setCell hrb _).setCell hrb _⟩

set_option maxRecDepth 10000 in
set_option maxHeartbeats 8000000 in
theorem l4Copy_callsN (a1 : Option Addr) (nL cL : Nat) (live : List Fl) (a2 : Option Addr) (nS cS : Nat) (safe : List Fl) (a3 : Option Addr) (nO cO : Nat) (ops : List Dop) (w : World) (h : DiskN w a1 nL cL live a2 nS cS safe a3 nO cO ops) :
    Calls Try.prog 42 #[.agg #[.slice a1 nL cL, .slice a2 nS cS, .slice a3 nO cO]] w (CpPost live safe ops w) := by
  obtain ⟨Wa, hWa⟩ : ∃ Wa, Wa = w.alloc (.cells #[.slice a1 nL cL, .slice a2 nS cS, .slice a3 nO cO] 27) := ⟨_, rfl⟩
  obtain ⟨W0, hW0⟩ : ∃ W0, W0 = Wa.alloc (.cells #[.slice none 0 0, .slice none 0 0, .slice none 0 0] 27) := ⟨_, rfl⟩
  have hba : Below w.heap.size w Wa := by rw [hWa]; exact bel1 _ _
  have hsa : Wa.heap.size = w.heap.size + 1 := by rw [hWa]; simp
  have hs0 : W0.heap.size = w.heap.size + 2 := by rw [hW0]; simp [hsa]
  have hb0 : Below Wa.heap.size Wa W0 := by rw [hW0]; exact bel1 _ _
  have c0 : W0.cell? ⟨w.heap.size, 0, none⟩ = some (.slice a1 nL cL) := bcl hb0 (by omega) (by rw [hWa]; simp [go_sem])
  have c1 : W0.cell? ⟨w.heap.size, 1, none⟩ = some (.slice a2 nS cS) := bcl hb0 (by omega) (by rw [hWa]; simp [go_sem])
  have c2 : W0.cell? ⟨w.heap.size, 2, none⟩ = some (.slice a3 nO cO) := bcl hb0 (by omega) (by rw [hWa]; simp [go_sem])
  have hr : ∀ i, i < 3 → W0.cell? ⟨w.heap.size + 1, i, none⟩ = some (.slice none 0 0) ∧ W0.frozen? ⟨w.heap.size + 1, i, none⟩ = false := by
    intro i hi
    rw [hW0, ← hsa]
    rcases i with _ | _ | _ | i
    all_goals first | omega | simp [go_sem]
  have HC := hide (fun (W : World) (hW : Below W0.heap.size W0 W) => And.intro (bcl hW (show w.heap.size < W0.heap.size by omega) c0) (And.intro (bcl hW (show w.heap.size < W0.heap.size by omega) c1) (bcl hW (show w.heap.size < W0.heap.size by omega) c2)))
  have HR := hide (fun (W : World) (hW : Below W0.heap.size W0 W) (i : Nat) (hi : i < 3) => And.intro (bcl hW (show w.heap.size + 1 < W0.heap.size by omega) (hr i hi).1) ((hW.frozen (p := ⟨w.heap.size + 1, i, none⟩) (show w.heap.size + 1 < W0.heap.size by omega)).trans (hr i hi).2))
  have HFIN := hide (fun (W : World) (hW : Below W0.heap.size W0 W) => belOn (belOn hba hb0) hW)
  have HD := hide (fun (W : World) (hW : Below W0.heap.size W0 W) => (h.below (belOn hba hb0)).below hW)
  have HW0 := hide (show (w.alloc (.cells #[.slice a1 nL cL, .slice a2 nS cS, .slice a3 nO cO] 27)).alloc (.cells #[.slice none 0 0, .slice none 0 0, .slice none 0 0] 27) = W0 from by rw [hW0, hWa])
  have HD1 := hide h.adl
  have HD2 := hide h.ads
  have HD3 := hide h.ado
  have HLL := hide h.ll
  have HLS := hide h.ls
  have HLO := hide h.lo
  have hbl := h.bl
  have hbs := h.bs
  have hbo := h.bo
  have HS0 := hide hs0
  have l0 : w.heap.size < W0.heap.size := by omega
  have l1 : w.heap.size + 1 < W0.heap.size := by omega
  obtain ⟨r0, z0⟩ := hr 0 (by decide)
  obtain ⟨r1, z1⟩ := hr 1 (by decide)
  obtain ⟨r2, z2⟩ := hr 2 (by decide)
  have hn1 : w.heap.size + 1 ≤ W0.heap.size := by omega
  have X0 := fun (W : World) (hW : SX w.heap.size W0 W) => bcl hW.1 (show w.heap.size < w.heap.size + 1 by omega) c0
  have X1 := fun (W : World) (hW : SX w.heap.size W0 W) => bcl hW.1 (show w.heap.size < w.heap.size + 1 by omega) c1
  have X2 := fun (W : World) (hW : SX w.heap.size W0 W) => bcl hW.1 (show w.heap.size < w.heap.size + 1 by omega) c2
  have hbw := belOn hba hb0
  have HRL := hide (fun (W : World) (hW : SX w.heap.size W0 W) => h.rl.below (hbw.trans (hW.1.mono (by omega))))
  have HRS := hide (fun (W : World) (hW : SX w.heap.size W0 W) => h.rs.below (hbw.trans (hW.1.mono (by omega))))
  have HRO := hide (fun (W : World) (hW : SX w.heap.size W0 W) => h.ro.below (hbw.trans (hW.1.mono (by omega))))
  have Q0 : SX w.heap.size W0 W0.drew := ⟨belDrew (Below.refl _ _), l1, ⟨_, r0⟩, ⟨_, r1⟩, ⟨_, r2⟩, z0, z1, z2⟩
  clear hba hb0 hWa hW0 hr h hsa hs0 HC HR hbw
  go_enter Try.func42, Try.ntmps42
  go_wp2_with fail
  rw [unhide HW0]
  go_region_held3 (fun w' => SX w.heap.size W0 w') (first | exact SX.ald (by assumption) hn1 | exact SX.al (by assumption) hn1 | exact Q3 | exact Q2 | exact Q1 | exact Q0 | exact SX.set Q3) (first
    | (refine stepNA (e := fileE) rfl (.tmp 3) (.tmp 5) rfl _ rfl (by first | omega | (simp <;> omega)) a1 nL cL rfl (unhide HLL) (unhide HRL _ (by assumption)) (unhide HD1) hbl ?_; intro y1 k1 w2 ap1; have Q1 : SX w.heap.size W0 w2 := SX.step (by assumption) ap1.below hn1; have Z2 := ap1.below.size; (try simp at Z2))
    | (refine stepNA (e := fileE) rfl (.tmp 7) (.tmp 9) rfl _ rfl (by first | omega | (simp <;> omega)) a2 nS cS rfl (unhide HLS) (unhide HRS _ (by assumption)) (unhide HD2) hbs ?_; intro y2 k2 w3 ap2; have Q2 : SX w.heap.size W0 w3 := SX.step (by assumption) ap2.below hn1; have Z3 := ap2.below.size; (try simp at Z3))
    | (refine stepNO (e := dopE) rfl (.tmp 11) (.tmp 13) rfl _ rfl (by first | omega | (simp <;> omega)) a3 nO cO rfl (unhide HLO) (unhide HRO _ (by assumption)) (unhide HD3) hbo ?_; intro y3 k3 w4 ap3; have Q3 : SX w.heap.size W0 w4 := SX.step (by assumption) ap3.below hn1; obtain ⟨-, nlt, ⟨u0, t0⟩, ⟨u1, t1⟩, ⟨u2, t2⟩, v0, v1, v2⟩ := Q3; have Q3 : SX w.heap.size W0 w4 := SX.step (by assumption) ap3.below hn1))
  all_goals (have B2 : Below W0.heap.size W0 _ := belOn (by first | exact belDrew (bel1 _ _) | exact belDrew (belOn (bel1 _ _) (bel1 _ _)) | exact belDrew (belOn (belOn (bel1 _ _) (bel1 _ _)) (bel1 _ _))) ap1.below)
  all_goals (have K23 : Below w2.heap.size w2 w3 := belOn (by first | exact Below.refl _ _ | exact bel1 _ _ | exact belOn (bel1 _ _) (bel1 _ _)) ap2.below)
  all_goals (have K34 : Below w3.heap.size w3 w4 := belOn (by first | exact Below.refl _ _ | exact bel1 _ _ | exact belOn (bel1 _ _) (bel1 _ _)) ap3.below)
  all_goals (have B4 := belOn B2 (belOn K23 K34))
  all_goals (have Z4 := ap3.below.size)
  all_goals (try simp at Z4)
  all_goals (have HY1 := hide (ap1.row.below (belOn K23 K34)))
  all_goals (have HY2 := hide (ap2.row.below K34))
  all_goals (have HY3 := hide ap3.row)
  all_goals (have HM1 := hide (show ∀ k, inB y1 k → W0.heap.size ≤ k from fun k hk => by rcases (ap1.bl k hk).1 with q | q; all_goals (first | omega | (simp at q; omega))))
  all_goals (have M2 : ∀ k, inB y2 k → W0.heap.size ≤ k ∧ k < w3.heap.size := fun k hk => by have h2 := (ap2.bl k hk).2; rcases (ap2.bl k hk).1 with q | q; all_goals (first | omega | (simp at q; omega)))
  all_goals (have HM2 := hide (show ∀ k, inB y2 k → W0.heap.size ≤ k ∧ k < w4.heap.size from fun k hk => by have := M2 k hk; have := K34.size; omega))
  all_goals (have HM3 := hide (show ∀ k, inB y3 k → W0.heap.size ≤ k ∧ k < w4.heap.size from fun k hk => by have h2 := (ap3.bl k hk).2; rcases (ap3.bl k hk).1 with q | q; all_goals (first | omega | (simp at q; omega))))
  all_goals (have HOO := hide (show ∃ B3, OwnOr dopE w4 B3 y3 k3 ops ∧ W0.heap.size ≤ B3 ∧ B3 ≤ w4.heap.size ∧ ∀ k, inB y2 k → k < B3 from by
    rcases ap3.own with q | ⟨q1, q2, q3⟩
    · refine ⟨_, .inl q, ?_, ap3.below.size, fun k hk => Nat.lt_of_lt_of_le (M2 k hk).2 ?_⟩
      all_goals (first | omega | (simp <;> omega))
    · exact ⟨w4.heap.size, .inr ⟨q1, q2, _, q3, (ap3.bl _ ⟨0, q3⟩).2⟩, by omega, Nat.le_refl _, fun k hk => by have := (M2 k hk).2; have := K34.size; omega⟩))
  all_goals (have HAD := hide (And.intro (adN ap1) (And.intro (adN ap2) (adN ap3))))
  all_goals (have HB4 := hide B4)
  all_goals clear ap1 ap2 ap3 M2 B2 B4 K23 K34 Z2 Z3 Z4 c0 c1 c2 r0 r1 r2 z0 z1 z2 Q0 Q1 Q2 Q3
  all_goals (try go_wp2_with fail)
  all_goals refine bodyPost_ret (v := .agg #[.slice y1 nL k1, .slice y2 nS k2, .slice y3 nO k3]) (by simp [results, Try.results42, go_sem, t0, t1, t2]) rfl ?_
  all_goals (have hn1 := unhide HLL)
  all_goals (have hn2 := unhide HLS)
  all_goals (have hn3 := unhide HLO)
  all_goals (subst hn1 hn2 hn3)
  all_goals (obtain ⟨B3, e1, e2, e3, e4⟩ := unhide HOO)
  all_goals exact cpRet (unhide HY1) (unhide HY2) (unhide HY3) (unhide HAD) e1 e2 e3 e4 (unhide HM1) (unhide HM2) (unhide HM3) (by omega) l1 (unhide HFIN _ (unhide HB4))
end Go.Proofs.Ytknpccpfjclngaa
