/- The variable of a disk that is being drawn, its row of files owned. -/
import Derived.Test.YtknpccpfjclngaaDkV
import Derived.Test.YtknpccpfjclngaaGAE
import Derived.Test.YtknpccpfjclngaaGAK
namespace Go.Proofs.Ytknpccpfjclngaa
open Go.RowKit Plain
set_option linter.unusedVariables false

theorem Plain.LvOwn.only {R B0 : Nat} {W W' : World} {aL aS aO : Option Addr} {cL cO : Nat} {live safe : List Fl} {ops : List Dop} (h : LvOwn B0 W aL cL live aS safe aO cO ops) (ho : OnlyAt ⟨R, 1, none⟩ W W') (hR : R < B0) : LvOwn B0 W' aL cL live aS safe aO cO ops := by
  obtain ⟨B, b1, b2, b3, b4⟩ := h
  refine ⟨B, b1, Nat.le_trans b2 ho.size, ?_, b4⟩
  rcases b3 with q | ⟨q1, q2, g, q3, q4⟩
  · exact .inl (q.onlN ho (by show R < B; omega))
  · exact .inr ⟨q1, q2, g, q3, Nat.lt_of_lt_of_le q4 ho.size⟩
theorem Plain.LvOwn.below {B0 : Nat} {W W' : World} {aL aS aO : Option Addr} {cL cO : Nat} {live safe : List Fl} {ops : List Dop} (h : LvOwn B0 W aL cL live aS safe aO cO ops) (hb : Below W.heap.size W W') : LvOwn B0 W' aL cL live aS safe aO cO ops := by
  obtain ⟨B, b1, b2, b3, b4⟩ := h
  refine ⟨B, b1, Nat.le_trans b2 hb.size, ?_, b4⟩
  rcases b3 with q | ⟨q1, q2, g, q3, q4⟩
  · exact .inl (q.keep hb)
  · exact .inr ⟨q1, q2, g, q3, Nat.lt_of_lt_of_le q4 hb.size⟩
theorem Plain.LvOwn.set {B0 rb i : Nat} {u : Value} {W : World} {aL aS aO : Option Addr} {cL cO : Nat} {live safe : List Fl} {ops : List Dop} (h : LvOwn B0 W aL cL live aS safe aO cO ops) (hr : rb < B0) : LvOwn B0 (W.setCell ⟨rb, i, none⟩ u) aL cL live aS safe aO cO ops := by
  obtain ⟨B, b1, b2, b3, b4⟩ := h
  exact ⟨B, b1, by simpa using b2, b3.setF (by omega), b4⟩
theorem Plain.LvOwn.le {B0 B1 : Nat} {W : World} {aL aS aO : Option Addr} {cL cO : Nat} {live safe : List Fl} {ops : List Dop} (h : LvOwn B0 W aL cL live aS safe aO cO ops) (hB : B1 ≤ B0) : LvOwn B1 W aL cL live aS safe aO cO ops := by
  obtain ⟨B, b1, b2⟩ := h
  exact ⟨B, Nat.le_trans hB b1, b2⟩
theorem Plain.LvOwn.nil (B0 : Nat) (W : World) (hB : B0 ≤ W.heap.size) : LvOwn B0 W none 0 [] none [] none 0 [] :=
  ⟨W.heap.size, hB, Nat.le_refl _, .inl (ownR_nil _ _ _), .inl rfl, .inl rfl, Nat.le_refl _⟩
/-- What a round of the drawing leaves. -/
structure Plain.DkR (w : World) (R : Nat) (a : Option Addr) (len cap : Nat) (zs : List Int) (live safe : List Fl) (ops : List Dop) (aL : Option Addr) (cL : Nat) (aS : Option Addr) (cS : Nat) (aO : Option Addr) (cO : Nat) (wr : World) : Prop where
  v : DkV (w.heap.size + 1) live safe ops aL cL aS cS aO cO wr
  own : LvOwn (w.heap.size + 2) wr aL cL live aS safe aO cO ops
  d : diskB live safe ops = true
  s : ∀ o ∈ ops, SmO o
  rd : Rd wr R a len cap zs
  on : OnlyAt ⟨R, 1, none⟩ w wr
  z : w.heap.size + 2 ≤ wr.heap.size
  c : ∀ i, i < 3 → wr.cell? ⟨w.heap.size, i, none⟩ = some (.slice none 0 0) ∧ wr.frozen? ⟨w.heap.size, i, none⟩ = false
theorem Plain.DkR.only {w wr w2 : World} {R : Nat} {a : Option Addr} {len cap : Nat} {zs : List Int} {live safe : List Fl} {ops : List Dop} {aL aS aO : Option Addr} {cL cS cO : Nat} (h : DkR w R a len cap zs live safe ops aL cL aS cS aO cO wr) (hR : R < w.heap.size) (hR2 : Rd w2 R a len cap zs) (ho : OnlyAt ⟨R, 1, none⟩ wr w2) : DkR w R a len cap zs live safe ops aL cL aS cS aO cO w2 :=
  ⟨h.v.only ho (by omega), h.own.only ho (by omega), h.d, h.s, hR2, h.on.trans ho, by have := ho.size; have := h.z; omega, fun i hi => ⟨ho.c (h.c i hi).1 (by omega), ho.z (by have := h.z; omega) (h.c i hi).2⟩⟩
theorem small_form {o : Dop} (h : formB o = true) (hd : o.data.size ≤ 6) : SmO o := by
  obtain ⟨kd, nm, tx, dt⟩ := o
  unfold formB at h
  simp only [Bool.and_eq_true, decide_eq_true_eq] at h
  obtain ⟨⟨_, hn⟩, h3⟩ := h
  have hnm : ∀ s : ByteArray, nmB s = true → s.size ≤ 1000000000 := fun s q => by
    unfold nmB at q
    simp only [Bool.and_eq_true, decide_eq_true_eq] at q
    omega
  have hem : ∀ s : ByteArray, emp s = true → s.size ≤ 1000000000 := fun s q => by
    have : s = ⟨#[]⟩ := by
      unfold emp at q
      have q2 := List.isEmpty_iff.1 q
      apply ByteArray.ext
      apply Array.ext'
      simpa [ByteArray.toList_eq] using q2
    rw [this]; show (0 : Nat) ≤ _; omega
  refine ⟨hnm nm hn, ?_, by show dt.size ≤ _; simp only at hd; omega⟩
  split at h3
  · simp only [Bool.and_eq_true] at h3; exact hnm tx h3.1
  · simp only [Bool.and_eq_true] at h3; exact hem tx h3.1
/-- It is written anew. -/
theorem Plain.DkR.put {w wr w2 : World} {R : Nat} {a : Option Addr} {len cap : Nat} {zs : List Int} {live safe live' safe' : List Fl} {ops ops' : List Dop} {aL aS aO xL xS xO : Option Addr} {cL cS cO dL dS dO : Nat} (h : DkR w R a len cap zs live safe ops aL cL aS cS aO cO wr) (hR : R < w.heap.size) (hb : Below wr.heap.size wr w2)
    (rl : RowAt fileE w2 xL live') (rs : RowAt fileE w2 xS safe') (ro : RowAt dopE w2 xO ops') (ad : AdOk xL dL ∧ AdOk xS dS ∧ AdOk xO dO) (nl : ∀ g, inB xL g → wr.heap.size ≤ g) (ns : ∀ g, inB xS g → wr.heap.size ≤ g) (no : ∀ g, inB xO g → wr.heap.size ≤ g) (hd : diskB live' safe' ops' = true) (hs : ∀ o ∈ ops', SmO o) (ho : LvOwn wr.heap.size w2 xL dL live' xS safe' xO dO ops') :
    DkR w R a len cap zs live' safe' ops' xL dL xS dS xO dO (((w2.setCell ⟨w.heap.size + 1, 0, none⟩ (.slice xL live'.length dL)).setCell ⟨w.heap.size + 1, 1, none⟩ (.slice xS safe'.length dS)).setCell ⟨w.heap.size + 1, 2, none⟩ (.slice xO ops'.length dO)) := by
  obtain ⟨hv, -, -, -, hr, hoo, hz, hc⟩ := h
  have hb2 : Below (w.heap.size + 1) wr (((w2.setCell ⟨w.heap.size + 1, 0, none⟩ (.slice xL live'.length dL)).setCell ⟨w.heap.size + 1, 1, none⟩ (.slice xS safe'.length dS)).setCell ⟨w.heap.size + 1, 2, none⟩ (.slice xO ops'.length dO)) := belowSetD (belowSetD (belowSetD (hb.mono (by omega)) _ _) _ _) _ _
  exact ⟨hv.put hb rl rs ro ad nl ns no, (((ho.set (by omega)).set (by omega)).set (by omega)).le (by omega), hd, hs, hr.onlyB hb2 (by omega), hoo.thenBelow hb2 (by omega), Nat.le_trans hz hb2.size, fun i hi => ⟨(hb2.cell (p := ⟨w.heap.size, i, none⟩) (show w.heap.size < w.heap.size + 1 by omega)).trans (hc i hi).1, (hb2.frozen (p := ⟨w.heap.size, i, none⟩) (show w.heap.size < w.heap.size + 1 by omega)).trans (hc i hi).2⟩⟩
end Go.Proofs.Ytknpccpfjclngaa
