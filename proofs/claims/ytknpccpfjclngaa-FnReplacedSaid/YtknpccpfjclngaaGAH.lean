/- Texts of one kind, put together. -/
import Derived.Test.YtknpccpfjclngaaGAF
import Derived.Test.YtknpccpfjclngaaDskI

/- A disk that an exact law copies is one that the programs bear. -/
namespace Go.Proofs.Ytknpccpfjclngaa
open Go.RowKit Plain
set_option linter.unusedVariables false

end Go.Proofs.Ytknpccpfjclngaa


/- Ops done one behind the other on a disk, as plain mathematics; the disk that is being made. -/
namespace Go.Proofs.Ytknpccpfjclngaa
open Go.RowKit Go.Maps Plain
set_option linter.unusedVariables false

namespace Plain
/-- Ops done on files, n of them before: the code, and the files where it is nought. -/
def goA (fs : List Fl) (n : Nat) : List Dop → Int × List Fl
  | [] => (0, fs)
  | o :: l => if formB o then (if (doF fs o).2 then (if decide (n < 200) && filesB (doF fs o).1 then goA (doF fs o).1 (n + 1) l else (4, [])) else (3, [])) else (2, [])
def actC (live safe : List Fl) (ops xs : List Dop) : Int := if diskB live safe ops then (goA live ops.length xs).1 else 1
def actL (live safe : List Fl) (ops xs : List Dop) : List Fl := if diskB live safe ops then (if (goA live ops.length xs).1 = 0 then (goA live ops.length xs).2 else live) else []
def actS (live safe : List Fl) (ops : List Dop) : List Fl := if diskB live safe ops then safe else []
def actO (live safe : List Fl) (ops xs : List Dop) : List Dop := if diskB live safe ops then (if (goA live ops.length xs).1 = 0 then ops ++ xs else ops) else []
theorem goA_step (fs : List Fl) (n : Nat) (xs : List Dop) (k : Nat) (h : k < xs.length) : goA fs n (xs.drop k) = if formB xs[k] then (if (doF fs xs[k]).2 then (if decide (n < 200) && filesB (doF fs xs[k]).1 then goA (doF fs xs[k]).1 (n + 1) (xs.drop (k + 1)) else (4, [])) else (3, [])) else (2, []) := by
  rw [List.drop_eq_getElem_cons h, goA]
theorem OnlyRow.gr {g : Nat} {w w' : World} (h : OnlyRow (some ⟨g, 0, none⟩) w w') : w.grownBy w' (some g) := ⟨h.os, h.tape, h.output, h.size, fun k hk hne => h.block k hk (fun o e => hne (by cases e; rfl))⟩
end Plain
theorem Tab.off {w w' : World} {b m g : Nat} {f : ByteArray → Option ByteArray} (h : Tab w b m f) (hg : w.grownBy w' (some g)) (hne : b ≠ g) : Tab w' b m f := by
  obtain ⟨D, h1, h2⟩ := h
  exact ⟨D, h1.kept hg (fun q => hne (Option.some.inj q)), h2⟩
theorem OwnR.inb {α : Type} {e : Elem α} {W : World} {B n c g : Nat} {a : Option Addr} {xs : List α} (h : OwnR e W B (.slice a n c) xs) (hg : (Value.slice a n c).ownBlock = some g) : inB a g := by
  rcases h.ad with ⟨rfl, -⟩ | ⟨g', rfl⟩
  · cases hg
  · cases hg; exact ⟨0, rfl⟩
theorem OwnR.off {α : Type} {e : Elem α} {W W' : World} {B n c x : Nat} {a : Option Addr} {xs : List α} (h : OwnR e W B (.slice a n c) xs) (hg : W.grownBy W' (some x)) (hne : ¬ inB a x) : OwnR e W' B (.slice a n c) xs :=
  h.other fun g q => hg.block g (h.lt g q) fun r => hne (by cases r; exact h.inb q)
theorem Plain.grCell {W W' : World} {x b i : Nat} {v : Value} (hg : W.grownBy W' (some x)) (hne : b ≠ x) (h : W.cell? ⟨b, i, none⟩ = some v) : W'.cell? ⟨b, i, none⟩ = some v := (hg.cell_far ⟨b, i, none⟩ (lt_of_cell h) (fun q => hne (Option.some.inj q))).trans h
theorem Plain.grFroz {W W' : World} {x b i : Nat} (hg : W.grownBy W' (some x)) (hne : b ≠ x) (hl : b < W.heap.size) (h : W.frozen? ⟨b, i, none⟩ = false) : W'.frozen? ⟨b, i, none⟩ = false := (hg.frozen_far ⟨b, i, none⟩ hl (fun q => hne (Option.some.inj q))).trans h
theorem dopLit (w : World) (o : Dop) : OwnR dopE (w.alloc (.cells #[.int .i64 o.kind, .string o.name, .string o.to, .string o.data] 50)) w.heap.size (.slice (some ⟨w.heap.size, 0, none⟩) 1 1) [o] := World.ownsRow_lit w #[.int .i64 o.kind, .string o.name, .string o.to, .string o.data] 1 (Nat.le_refl _) (by unfold maxLen; omega) rfl

/-- The disk that is being made: a table of its files, its synced files and its ops. -/
structure Plain.NxAt (W : World) (B b m nb : Nat) (now : List Fl) (vL : Value) (yS : Option Addr) (kS : Nat) (yO : Option Addr) (kO : Nat) (safe : List Fl) (os : List Dop) : Prop where
  tab : Tab W b m (tabF now)
  ok : filesB now = true
  bB : B ≤ b
  nB : B ≤ nb
  bn : b ≠ nb
  s : OwnR fileE W B (.slice yS safe.length kS) safe
  o : OwnR dopE W B (.slice yO os.length kO) os
  so : ∀ g, inB yS g → ¬ inB yO g
  sb : ¬ inB yS b
  ob : ¬ inB yO b
  sn : ¬ inB yS nb
  on : ¬ inB yO nb
  c0 : W.cell? ⟨nb, 0, none⟩ = some vL
  c1 : W.cell? ⟨nb, 1, none⟩ = some (.slice yS safe.length kS)
  c2 : W.cell? ⟨nb, 2, none⟩ = some (.slice yO os.length kO)
  z0 : W.frozen? ⟨nb, 0, none⟩ = false
  z2 : W.frozen? ⟨nb, 2, none⟩ = false
theorem Plain.NxAt.below {W W' : World} {B b m nb : Nat} {now : List Fl} {vL : Value} {yS : Option Addr} {kS : Nat} {yO : Option Addr} {kO : Nat} {safe : List Fl} {os : List Dop} (h : NxAt W B b m nb now vL yS kS yO kO safe os) (hb : Below W.heap.size W W') : NxAt W' B b m nb now vL yS kS yO kO safe os := by
  have hl := lt_of_cell h.c0
  exact ⟨h.tab.below hb h.tab.lt, h.ok, h.bB, h.nB, h.bn, h.s.keep hb, h.o.keep hb, h.so, h.sb, h.ob, h.sn, h.on, bcl hb hl h.c0, bcl hb hl h.c1, bcl hb hl h.c2, (hb.frozen (p := ⟨nb, 0, none⟩) hl).trans h.z0, (hb.frozen (p := ⟨nb, 2, none⟩) hl).trans h.z2⟩
theorem Plain.NxAt.applied {W W' : World} {B b m m' nb : Nat} {now nx : List Fl} {vL : Value} {yS : Option Addr} {kS : Nat} {yO : Option Addr} {kO : Nat} {safe : List Fl} {os : List Dop} (h : NxAt W B b m nb now vL yS kS yO kO safe os) (ho : OnlyRow (some ⟨b, 0, none⟩) W W') (hT : Tab W' b m' (tabF nx)) (hok : filesB nx = true) : NxAt W' B b m' nb nx vL yS kS yO kO safe os := by
  have hl := lt_of_cell h.c0
  have hg := ho.gr
  have hn := Ne.symm h.bn
  exact ⟨hT, hok, h.bB, h.nB, h.bn, h.s.off hg h.sb, h.o.off hg h.ob, h.so, h.sb, h.ob, h.sn, h.on, grCell hg hn h.c0, grCell hg hn h.c1, grCell hg hn h.c2, grFroz hg hn hl h.z0, grFroz hg hn hl h.z2⟩
theorem Plain.NxAt.added {W W1 W2 : World} {B b m nb g' k' : Nat} {now : List Fl} {vL : Value} {yS : Option Addr} {kS : Nat} {yO : Option Addr} {kO : Nat} {safe : List Fl} {os : List Dop} {x : Dop} (h0 : NxAt W B b m nb now vL yS kS yO kO safe os) (hb : Below W.heap.size W W1) (hx : W.heap.size < W1.heap.size)
    (gr : W1.grownBy W2 (Value.slice yO os.length kO).ownBlock) (ow : OwnR dopE W2 B (.slice (some ⟨g', 0, none⟩) (os.length + 1) k') (os ++ [x])) (li : (Value.slice yO os.length kO).ownBlock = some g' ∨ g' = W1.heap.size) :
    NxAt (W2.setCell ⟨nb, 2, none⟩ (.slice (some ⟨g', 0, none⟩) (os.length + 1) k')) B b m nb now vL yS kS (some ⟨g', 0, none⟩) k' safe (os ++ [x]) := by
  have h := h0.below hb
  have hl : nb < W1.heap.size := lt_of_cell h.c0
  have hlb := h.tab.lt
  have hls := h.s.bl
  have e0 : (os ++ [x]).length = os.length + 1 := by simp
  -- what the append leaves alone
  have key : ∀ k, k < W1.heap.size → ¬ inB yO k → W2.heap[k]? = W1.heap[k]? := fun k hk hn => gr.block k hk fun q => by
    rw [eq_comm] at q
    exact hn (h.o.inb q)
  have t2 : Tab W2 b m (tabF now) := by
    obtain ⟨D, h1, h2⟩ := h.tab
    refine ⟨D, h1.kept gr (fun q => ?_), h2⟩
    rw [eq_comm] at q
    exact h.ob (h.o.inb q)
  have s2 : OwnR fileE W2 B (.slice yS safe.length kS) safe := h.s.other fun g q => key g (h.s.lt g q) (h.so g (h.s.inb q))
  have hbn := key nb hl h.on
  have d0 := (World.cell?_of_block (a := ⟨nb, 0, none⟩) hbn).trans h.c0
  have d1 := (World.cell?_of_block (a := ⟨nb, 1, none⟩) hbn).trans h.c1
  have d2 := (World.cell?_of_block (a := ⟨nb, 2, none⟩) hbn).trans h.c2
  have f0 := (World.frozen?_of_block (a := ⟨nb, 0, none⟩) hbn).trans h.z0
  have f2 := (World.frozen?_of_block (a := ⟨nb, 2, none⟩) hbn).trans h.z2
  have hg2 : ¬ inB (some ⟨g', 0, none⟩) nb := by
    rintro ⟨o, e⟩
    cases e
    rcases li with q | q
    · exact h.on (h.o.inb q)
    · omega
  have hgb : ¬ inB (some ⟨g', 0, none⟩) b := by
    rintro ⟨o, e⟩
    cases e
    rcases li with q | q
    · exact h.ob (h.o.inb q)
    · omega
  have hgs : ∀ g, inB yS g → ¬ inB (some ⟨g', 0, none⟩) g := by
    rintro g hs ⟨o, e⟩
    cases e
    rcases li with q | q
    · exact h.so _ hs (h.o.inb q)
    · have := (hls _ hs).2; omega
  have st : W2.grownBy (W2.setCell ⟨nb, 2, none⟩ (.slice (some ⟨g', 0, none⟩) (os.length + 1) k')) (some nb) := (OnlyRow.set (g := nb) (o := 0) 2 _).gr
  refine ⟨Tab.off t2 st h.bn, h.ok, h.bB, h.nB, h.bn, s2.off st h.sn, ?_, hgs, h.sb, hgb, h.sn, hg2, (cell_off (.inr (by decide))).trans d0, (cell_off (.inr (by decide))).trans d1, ?_, by rw [World.frozen?_setCell]; exact f0, by rw [World.frozen?_setCell]; exact f2⟩
  · rw [e0]; exact ow.off st hg2
  · rw [e0]; exact cell_set d2
end Go.Proofs.Ytknpccpfjclngaa

