/- A disk variable that is made, and filled later. -/
import Derived.Test.YtliklijcdcfomaaGreatOzA
import Derived.Test.YtliklijcdcfomaaGreatPzA
namespace Go.Proofs.YtliklijcdcfomaaGreat
open Go.RowKit Plain
set_option linter.unusedVariables false

/-- A block of three empty slices that may be written. -/
structure Plain.NZ (b : Nat) (V : World) : Prop where
  lt : b < V.heap.size
  c0 : V.cell? ⟨b, 0, none⟩ = some (.slice none 0 0)
  c1 : V.cell? ⟨b, 1, none⟩ = some (.slice none 0 0)
  c2 : V.cell? ⟨b, 2, none⟩ = some (.slice none 0 0)
  z0 : V.frozen? ⟨b, 0, none⟩ = false
  z1 : V.frozen? ⟨b, 1, none⟩ = false
  z2 : V.frozen? ⟨b, 2, none⟩ = false
theorem Plain.NZ.new (V : World) : NZ V.heap.size (V.alloc (.cells #[.slice none 0 0, .slice none 0 0, .slice none 0 0] 30)) := ⟨by simp, by simp [go_sem], by simp [go_sem], by simp [go_sem], by simp [go_sem], by simp [go_sem], by simp [go_sem]⟩
theorem Plain.NZ.newD (V : World) : NZ V.heap.size (V.alloc (.cells #[.slice none 0 0, .slice none 0 0, .slice none 0 0] 30)).drew := ⟨(NZ.new V).lt, (NZ.new V).c0, (NZ.new V).c1, (NZ.new V).c2, (NZ.new V).z0, (NZ.new V).z1, (NZ.new V).z2⟩
theorem Plain.NZ.below {b : Nat} {V V' : World} (h : NZ b V) (hb : Below V.heap.size V V') : NZ b V' :=
  ⟨Nat.lt_of_lt_of_le h.lt hb.size, bcl hb h.lt h.c0, bcl hb h.lt h.c1, bcl hb h.lt h.c2, (hb.frozen (p := ⟨b, 0, none⟩) h.lt).trans h.z0, (hb.frozen (p := ⟨b, 1, none⟩) h.lt).trans h.z1, (hb.frozen (p := ⟨b, 2, none⟩) h.lt).trans h.z2⟩
theorem Plain.DC.set {b : Nat} {V : World} (h : NZ b V) (v0 v1 v2 : Value) : DC b v0 v1 v2 (((V.setCell ⟨b, 0, none⟩ v0).setCell ⟨b, 1, none⟩ v1).setCell ⟨b, 2, none⟩ v2) := by
  have h0 : (V.setCell ⟨b, 0, none⟩ v0).cell? ⟨b, 0, none⟩ = some v0 := cell_set h.c0
  have h1 : ((V.setCell ⟨b, 0, none⟩ v0).setCell ⟨b, 1, none⟩ v1).cell? ⟨b, 1, none⟩ = some v1 := cell_set ((cell_off (.inr (by decide))).trans h.c1)
  refine ⟨by simpa using h.lt, (cell_off (.inr (by decide))).trans ((cell_off (.inr (by decide))).trans h0), (cell_off (.inr (by decide))).trans h1, cell_set ((cell_off (.inr (by decide))).trans ((cell_off (.inr (by decide))).trans h.c2))⟩
theorem Plain.keepD {B : Nat} {w X : World} {o : Obj} (h : Below B w X.drew) (hB : B ≤ w.heap.size) : Below B w (X.alloc o).drew := h.trans ((bel1 X.drew o).mono (Nat.le_trans hB h.size))
theorem Plain.keepE {B : Nat} {w X : World} {o : Obj} (h : Below B w X) (hB : B ≤ w.heap.size) : Below B w (X.alloc o) := h.trans ((bel1 X o).mono (Nat.le_trans hB h.size))
theorem RowAt.set3 {α : Type} {e : Elem α} {W : World} {a : Option Addr} {ys : List α} {b : Nat} {u0 u1 u2 : Value} (h : RowAt e W a ys) (hne : ∀ k, inB a k → k ≠ b) : RowAt e (((W.setCell ⟨b, 0, none⟩ u0).setCell ⟨b, 1, none⟩ u1).setCell ⟨b, 2, none⟩ u2) a ys := ((h.setO (.inr hne)).setO (.inr hne)).setO (.inr hne)
theorem act_bound (live safe : List Fl) (ops : List Dop) (o : Dop) {nL nS nO : Nat} (h1 : live.length = nL) (h2 : safe.length = nS) (h3 : ops.length = nO) (b1 : nL ≤ 1048576) (b2 : nS ≤ 1048576) (b3 : nO ≤ 1048576) : (actL live safe ops [o]).length ≤ 10000000 ∧ (actS live safe ops).length ≤ 10000000 ∧ (actO live safe ops [o]).length ≤ 10000000 := by
  refine ⟨?_, ?_, ?_⟩
  · unfold actL
    split
    · split
      · rename_i hd hz
        rw [goA] at hz ⊢
        split at hz
        · split at hz
          · split at hz
            · rename_i q1 q2 q3
              rw [if_pos q1, if_pos q2, if_pos q3, goA]
              rw [Bool.and_eq_true] at q3
              have := (files_small q3.2).1
              show (doF live o).1.length ≤ _
              omega
            · exact absurd hz (by decide)
          · exact absurd hz (by decide)
        · exact absurd hz (by decide)
      · omega
    · simp
  · unfold actS; split
    · omega
    · simp
  · unfold actO; split
    · split
      · simp; omega
      · omega
    · simp
theorem own3 {V : World} {B : Nat} {a1 a2 a3 : Option Addr} {n1 c1 n2 c2 n3 c3 : Nat} {f1 f2 : List Fl} {f3 : List Dop} (o1 : OwnR fileE V B (.slice a1 n1 c1) f1) (o2 : OwnR fileE V B (.slice a2 n2 c2) f2) (o3 : OwnR dopE V B (.slice a3 n3 c3) f3) : ∀ g, inD a1 a2 a3 g → B ≤ g ∧ g < V.heap.size := fun g hg => by
  rcases hg with h | h | h
  · exact o1.bl g h
  · exact o2.bl g h
  · exact o3.bl g h
end Go.Proofs.YtliklijcdcfomaaGreat
