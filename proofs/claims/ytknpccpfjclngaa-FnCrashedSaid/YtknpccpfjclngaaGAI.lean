/- Texts of one kind, put together. -/
import Derived.Test.YtknpccpfjclngaaGAE
import Derived.Test.YtknpccpfjclngaaDskI
import Derived.Test.YtknpccpfjclngaaGAG

/- A disk that an exact law copies is one that the programs bear. -/
namespace Go.Proofs.Ytknpccpfjclngaa
open Go.RowKit Plain
set_option linter.unusedVariables false

end Go.Proofs.Ytknpccpfjclngaa


/- Ops done one behind the other on a disk, as plain mathematics; the disk that is being made. -/
namespace Go.Proofs.Ytknpccpfjclngaa
open Go.RowKit Go.Maps Plain
set_option linter.unusedVariables false

namespace Plain
/-- Ops done on files, n of them before: the code, and the files where it is nought. -/
def goA (fs : List Fl) (n : Nat) : List Dop → Int × List Fl
  | [] => (0, fs)
  | o :: l => if formB o then (if (doF fs o).2 then (if decide (n < 200) && filesB (doF fs o).1 then goA (doF fs o).1 (n + 1) l else (4, [])) else (3, [])) else (2, [])
def actC (live safe : List Fl) (ops xs : List Dop) : Int := if diskB live safe ops then (goA live ops.length xs).1 else 1
def actL (live safe : List Fl) (ops xs : List Dop) : List Fl := if diskB live safe ops then (if (goA live ops.length xs).1 = 0 then (goA live ops.length xs).2 else live) else []
def actS (live safe : List Fl) (ops : List Dop) : List Fl := if diskB live safe ops then safe else []
def actO (live safe : List Fl) (ops xs : List Dop) : List Dop := if diskB live safe ops then (if (goA live ops.length xs).1 = 0 then ops ++ xs else ops) else []
theorem OnlyRow.gr {g : Nat} {w w' : World} (h : OnlyRow (some ⟨g, 0, none⟩) w w') : w.grownBy w' (some g) := ⟨h.os, h.tape, h.output, h.size, fun k hk hne => h.block k hk (fun o e => hne (by cases e; rfl))⟩
end Plain
theorem Tab.off {w w' : World} {b m g : Nat} {f : ByteArray → Option ByteArray} (h : Tab w b m f) (hg : w.grownBy w' (some g)) (hne : b ≠ g) : Tab w' b m f := by
  obtain ⟨D, h1, h2⟩ := h
  exact ⟨D, h1.kept hg (fun q => hne (Option.some.inj q)), h2⟩
theorem OwnR.inb {α : Type} {e : Elem α} {W : World} {B n c g : Nat} {a : Option Addr} {xs : List α} (h : OwnR e W B (.slice a n c) xs) (hg : (Value.slice a n c).ownBlock = some g) : inB a g := by
  rcases h.ad with ⟨rfl, -⟩ | ⟨g', rfl⟩
  · cases hg
  · cases hg; exact ⟨0, rfl⟩
theorem OwnR.off {α : Type} {e : Elem α} {W W' : World} {B n c x : Nat} {a : Option Addr} {xs : List α} (h : OwnR e W B (.slice a n c) xs) (hg : W.grownBy W' (some x)) (hne : ¬ inB a x) : OwnR e W' B (.slice a n c) xs :=
  h.other fun g q => hg.block g (h.lt g q) fun r => hne (by cases r; exact h.inb q)
theorem dopLit (w : World) (o : Dop) : OwnR dopE (w.alloc (.cells #[.int .i64 o.kind, .string o.name, .string o.to, .string o.data] 50)) w.heap.size (.slice (some ⟨w.heap.size, 0, none⟩) 1 1) [o] := World.ownsRow_lit w #[.int .i64 o.kind, .string o.name, .string o.to, .string o.data] 1 (Nat.le_refl _) (by unfold maxLen; omega) rfl

/-- The disk that is being made: a table of its files, its synced files and its ops. -/
structure Plain.NxAt (W : World) (B b m nb : Nat) (now : List Fl) (vL : Value) (yS : Option Addr) (kS : Nat) (yO : Option Addr) (kO : Nat) (safe : List Fl) (os : List Dop) : Prop where
  tab : Tab W b m (tabF now)
  ok : filesB now = true
  bB : B ≤ b
  nB : B ≤ nb
  bn : b ≠ nb
  s : OwnR fileE W B (.slice yS safe.length kS) safe
  o : OwnR dopE W B (.slice yO os.length kO) os
  so : ∀ g, inB yS g → ¬ inB yO g
  sb : ¬ inB yS b
  ob : ¬ inB yO b
  sn : ¬ inB yS nb
  on : ¬ inB yO nb
  c0 : W.cell? ⟨nb, 0, none⟩ = some vL
  c1 : W.cell? ⟨nb, 1, none⟩ = some (.slice yS safe.length kS)
  c2 : W.cell? ⟨nb, 2, none⟩ = some (.slice yO os.length kO)
  z0 : W.frozen? ⟨nb, 0, none⟩ = false
  z2 : W.frozen? ⟨nb, 2, none⟩ = false
theorem Plain.NxAt.below {W W' : World} {B b m nb : Nat} {now : List Fl} {vL : Value} {yS : Option Addr} {kS : Nat} {yO : Option Addr} {kO : Nat} {safe : List Fl} {os : List Dop} (h : NxAt W B b m nb now vL yS kS yO kO safe os) (hb : Below W.heap.size W W') : NxAt W' B b m nb now vL yS kS yO kO safe os := by
  have hl := lt_of_cell h.c0
  exact ⟨h.tab.below hb h.tab.lt, h.ok, h.bB, h.nB, h.bn, h.s.keep hb, h.o.keep hb, h.so, h.sb, h.ob, h.sn, h.on, bcl hb hl h.c0, bcl hb hl h.c1, bcl hb hl h.c2, (hb.frozen (p := ⟨nb, 0, none⟩) hl).trans h.z0, (hb.frozen (p := ⟨nb, 2, none⟩) hl).trans h.z2⟩
end Go.Proofs.Ytknpccpfjclngaa

