/- The variable of a disk that is being drawn. -/
import Derived.Test.YtknpccpfjclngaaDoA
import Derived.Test.YtknpccpfjclngaaSynA
import Derived.Test.YtknpccpfjclngaaGAK
import Derived.Test.YtknpccpfjclngaaGAE
namespace Go.Proofs.Ytknpccpfjclngaa
open Go.RowKit Plain
set_option linter.unusedVariables false

theorem RowAt.onlyR {α : Type} {e : Elem α} {W W' : World} {a : Option Addr} {xs : List α} {R : Nat} (h : RowAt e W a xs) (ho : OnlyAt ⟨R, 1, none⟩ W W') (hR : ∀ g, inB a g → g ≠ R) : RowAt e W' a xs := fun i hi => by
  obtain ⟨g, e1, hl, h1⟩ := h i hi
  have hg : g ≠ R := hR g ⟨0, e1⟩
  exact ⟨g, e1, Nat.lt_of_lt_of_le hl ho.size, fun j hj => ⟨(ho.cell ⟨g, i * e.n + j, none⟩ hl (fun q => by injection q with q _ _; exact hg q)).trans (h1 j hj).1, (ho.frozen ⟨g, i * e.n + j, none⟩ hl).trans (h1 j hj).2⟩⟩
theorem Plain.RowO.onlyR {α : Type} {e : Elem α} {W W' : World} {a : Option Addr} {xs : List α} {R : Nat} (h : RowO e W a xs) (ho : OnlyAt ⟨R, 1, none⟩ W W') (hR : ∀ g, inB a g → g ≠ R) : RowO e W' a xs := fun i hi => by
  obtain ⟨g, b, e1, hl, h1⟩ := h i hi
  have hg : g ≠ R := hR g ⟨b, e1⟩
  exact ⟨g, b, e1, Nat.lt_of_lt_of_le hl ho.size, fun j hj => ⟨(ho.cell ⟨g, b + i * e.n + j, none⟩ hl (fun q => by injection q with q _ _; exact hg q)).trans (h1 j hj).1, (ho.frozen ⟨g, b + i * e.n + j, none⟩ hl).trans (h1 j hj).2⟩⟩
/-- The variable's block D, and its rows behind it. -/
structure Plain.DkV (D : Nat) (live safe : List Fl) (ops : List Dop) (aL : Option Addr) (cL : Nat) (aS : Option Addr) (cS : Nat) (aO : Option Addr) (cO : Nat) (W : World) : Prop where
  c0 : W.cell? ⟨D, 0, none⟩ = some (.slice aL live.length cL)
  c1 : W.cell? ⟨D, 1, none⟩ = some (.slice aS safe.length cS)
  c2 : W.cell? ⟨D, 2, none⟩ = some (.slice aO ops.length cO)
  z0 : W.frozen? ⟨D, 0, none⟩ = false
  z1 : W.frozen? ⟨D, 1, none⟩ = false
  z2 : W.frozen? ⟨D, 2, none⟩ = false
  rl : RowAt fileE W aL live
  rs : RowAt fileE W aS safe
  ro : RowAt dopE W aO ops
  ad : AdOk aL cL ∧ AdOk aS cS ∧ AdOk aO cO
  nl : ∀ g, inB aL g → D < g
  ns : ∀ g, inB aS g → D < g
  no : ∀ g, inB aO g → D < g
theorem Plain.DkV.only {D R : Nat} {live safe : List Fl} {ops : List Dop} {aL aS aO : Option Addr} {cL cS cO : Nat} {W W' : World} (h : DkV D live safe ops aL cL aS cS aO cO W) (ho : OnlyAt ⟨R, 1, none⟩ W W') (hR : R < D) : DkV D live safe ops aL cL aS cS aO cO W' :=
  ⟨ho.c h.c0 (by omega), ho.c h.c1 (by omega), ho.c h.c2 (by omega), ho.z (lt_of_cell h.c0) h.z0, ho.z (lt_of_cell h.c0) h.z1, ho.z (lt_of_cell h.c0) h.z2,
   h.rl.onlyR ho (fun g hg => by have := h.nl g hg; omega), h.rs.onlyR ho (fun g hg => by have := h.ns g hg; omega), h.ro.onlyR ho (fun g hg => by have := h.no g hg; omega), h.ad, h.nl, h.ns, h.no⟩
theorem Plain.DkV.below {D : Nat} {live safe : List Fl} {ops : List Dop} {aL aS aO : Option Addr} {cL cS cO : Nat} {W W' : World} (h : DkV D live safe ops aL cL aS cS aO cO W) (hb : Below W.heap.size W W') : DkV D live safe ops aL cL aS cS aO cO W' := by
  have hD := lt_of_cell h.c0
  exact ⟨bcl hb hD h.c0, bcl hb hD h.c1, bcl hb hD h.c2, (hb.frozen (p := ⟨D, 0, none⟩) hD).trans h.z0, (hb.frozen (p := ⟨D, 1, none⟩) hD).trans h.z1, (hb.frozen (p := ⟨D, 2, none⟩) hD).trans h.z2, h.rl.below hb, h.rs.below hb, h.ro.below hb, h.ad, h.nl, h.ns, h.no⟩
/-- What it holds is a disk: a small one. -/
theorem Plain.DkV.disk {D : Nat} {live safe : List Fl} {ops : List Dop} {aL aS aO : Option Addr} {cL cS cO : Nat} {W : World} (h : DkV D live safe ops aL cL aS cS aO cO W) (hd : diskB live safe ops = true) (hs : ∀ o ∈ ops, SmO o) : DiskAt W aL live.length cL live aS safe.length cS safe aO ops.length cO ops := by
  have h1 := (disk_run hd).1
  have h2 := disk_parts hd
  have n1 := (files_small h1).1
  have n2 := (files_small h2.1).1
  exact ⟨h.rl, h.rs, h.ro, rfl, rfl, rfl, h.ad.1, h.ad.2.1, h.ad.2.2, small_fit h1, small_fit h2.1, hs, by omega, by omega, by have := h2.2.1; omega⟩
/-- It is written anew, with what a call left. -/
theorem Plain.DkV.put {D : Nat} {live safe live' safe' : List Fl} {ops ops' : List Dop} {aL aS aO xL xS xO : Option Addr} {cL cS cO dL dS dO : Nat} {W W' : World} (h : DkV D live safe ops aL cL aS cS aO cO W) (hb : Below W.heap.size W W')
    (rl : RowAt fileE W' xL live') (rs : RowAt fileE W' xS safe') (ro : RowAt dopE W' xO ops') (ad : AdOk xL dL ∧ AdOk xS dS ∧ AdOk xO dO) (nl : ∀ g, inB xL g → W.heap.size ≤ g) (ns : ∀ g, inB xS g → W.heap.size ≤ g) (no : ∀ g, inB xO g → W.heap.size ≤ g) :
    DkV D live' safe' ops' xL dL xS dS xO dO (((W'.setCell ⟨D, 0, none⟩ (.slice xL live'.length dL)).setCell ⟨D, 1, none⟩ (.slice xS safe'.length dS)).setCell ⟨D, 2, none⟩ (.slice xO ops'.length dO)) := by
  have hD : D < W.heap.size := lt_of_cell h.c0
  have k := h.below hb
  have l := fun g (hg : inB xL g) => show D < g by have := nl g hg; omega
  have s := fun g (hg : inB xS g) => show D < g by have := ns g hg; omega
  have o := fun g (hg : inB xO g) => show D < g by have := no g hg; omega
  have l' : live' = [] ∨ ∀ g, inB xL g → g ≠ D := .inr fun g hg => by have := l g hg; omega
  have s' : safe' = [] ∨ ∀ g, inB xS g → g ≠ D := .inr fun g hg => by have := s g hg; omega
  have o' : ops' = [] ∨ ∀ g, inB xO g → g ≠ D := .inr fun g hg => by have := o g hg; omega
  have c0 := k.c0
  have c1 := k.c1
  have c2 := k.c2
  have z0 := k.z0
  have z1 := k.z1
  have z2 := k.z2
  exact ⟨by simp [go_sem, c0], by simp [go_sem, c1], by simp [go_sem, c2], by simp [go_sem, z0], by simp [go_sem, z1], by simp [go_sem, z2],
    ((rl.setO l').setO l').setO l', ((rs.setO s').setO s').setO s', ((ro.setO o').setO o').setO o', ad, l, s, o⟩
end Go.Proofs.Ytknpccpfjclngaa
