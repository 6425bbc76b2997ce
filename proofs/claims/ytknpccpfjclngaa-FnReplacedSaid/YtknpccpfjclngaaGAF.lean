/- Texts of one kind, put together. -/
import Derived.Test.YtknpccpfjclngaaGAE
import Derived.Test.YtknpccpfjclngaaDskW
import Derived.Test.YtknpccpfjclngaaGAD
import Derived.Deep.AppendLies
import Derived.Deep.RegionHeld3

/- Disks, as the exact laws copy, measure and compare them. -/
namespace Go.Proofs.Ytknpccpfjclngaa
open Go.RowKit Plain
set_option linter.unusedVariables false

theorem OwnR.other {α : Type} {e : Elem α} {W W' : World} {B : Nat} {v : Value} {xs : List α} (h : OwnR e W B v xs) (hh : ∀ g, v.ownBlock = some g → W'.heap[g]? = W.heap[g]?) : OwnR e W' B v xs := by
  refine ⟨h.1, ?_⟩
  rcases h.2 with ⟨a, c⟩ | ⟨g, cap, cur, rfl, c, d, r⟩
  · exact .inl ⟨a, c⟩
  · exact .inr ⟨g, cap, cur, rfl, c, (hh g rfl).trans d, r⟩
theorem Plain.heap_set {W : World} {b i g : Nat} {u : Value} (h : b ≠ g) : (W.setCell ⟨b, i, none⟩ u).heap[g]? = W.heap[g]? := Below.heap_setCell _ _ _ _ (fun e => h (by simp at e; exact e.symm))
theorem Plain.cell_set {W : World} {b i : Nat} {u v : Value} (h : W.cell? ⟨b, i, none⟩ = some v) : (W.setCell ⟨b, i, none⟩ u).cell? ⟨b, i, none⟩ = some u := World.cell?_setCell_same' _ _ _ (by rw [h]; rfl)
theorem Plain.cell_off {W : World} {b i g j : Nat} {u : Value} (h : b ≠ g ∨ i ≠ j) : (W.setCell ⟨b, i, none⟩ u).cell? ⟨g, j, none⟩ = W.cell? ⟨g, j, none⟩ := World.cell?_setCell_other _ ⟨b, i, none⟩ ⟨g, j, none⟩ _ (fun q => by have h1 := congrArg Addr.block q; have h2 := congrArg Addr.off q; simp at h1 h2; omega)

/-- A disk among the arguments. -/
structure Plain.DskArg (W : World) (aL : Option Addr) (nL cL : Nat) (live : List Fl) (aS : Option Addr) (nS cS : Nat) (safe : List Fl) (aO : Option Addr) (nO cO : Nat) (ops : List Dop) : Prop where
  l : ArgRow 2 fileL goodF W aL nL cL live
  s : ArgRow 2 fileL goodF W aS nS cS safe
  o : ArgRow 4 dopL goodO W aO nO cO ops
theorem Plain.DskArg.below {W W' : World} {aL : Option Addr} {nL cL : Nat} {live : List Fl} {aS : Option Addr} {nS cS : Nat} {safe : List Fl} {aO : Option Addr} {nO cO : Nat} {ops : List Dop}
    (h : DskArg W aL nL cL live aS nS cS safe aO nO cO ops) (hb : Below W.heap.size W W') : DskArg W' aL nL cL live aS nS cS safe aO nO cO ops :=
  ⟨⟨h.l.len, h.l.le, h.l.good, h.l.row.below hb⟩, ⟨h.s.len, h.s.le, h.s.good, h.s.row.below hb⟩, ⟨h.o.len, h.o.le, h.o.good, h.o.row.below hb⟩⟩
/-- The three rows of a disk that is read. -/
structure Plain.DskRow (W : World) (aL aS aO : Option Addr) (live safe : List Fl) (ops : List Dop) : Prop where
  l : RowAt fileE W aL live
  s : RowAt fileE W aS safe
  o : RowAt dopE W aO ops
theorem Plain.DskRow.below {W W' : World} {aL aS aO : Option Addr} {live safe : List Fl} {ops : List Dop} (h : DskRow W aL aS aO live safe ops) (hb : Below W.heap.size W W') : DskRow W' aL aS aO live safe ops := ⟨h.l.below hb, h.s.below hb, h.o.below hb⟩

end Go.Proofs.Ytknpccpfjclngaa


/- Rows of files and ops marked and looked at again, as the exact laws do it. -/
namespace Go.Proofs.Ytknpccpfjclngaa
open Go.RowKit Plain
set_option linter.unusedVariables false

namespace Plain
/-- What the marking of files leaves. -/
def mkF (b n : Nat) : List Fl := (List.range n).map fun i : Nat => (mtx (b + i * 2), mtx (b + i * 2 + 1))
end Plain
end Go.Proofs.Ytknpccpfjclngaa


/- Rows of ops marked and looked at again, as the exact laws do it. -/
namespace Go.Proofs.Ytknpccpfjclngaa
open Go.RowKit Plain
set_option linter.unusedVariables false

namespace Plain
/-- What the marking leaves. -/
def mkO (b n : Nat) : List Dop := (List.range n).map fun i : Nat => (⟨(((b + i * 4) : Nat) : Int), mtx (b + i * 4 + 1), mtx (b + i * 4 + 2), mtx (b + i * 4 + 3)⟩ : Dop)
end Plain
end Go.Proofs.Ytknpccpfjclngaa


/- Disks marked and looked at again, as the exact laws do it; a disk that is answered. -/
namespace Go.Proofs.Ytknpccpfjclngaa
open Go.RowKit Plain
set_option linter.unusedVariables false

namespace Plain
/-- No two rows of a disk share a block. -/
structure Apart (aL aS aO : Option Addr) : Prop where
  ls : ∀ g, inB aL g → ¬ inB aS g
  lo : ∀ g, inB aL g → ¬ inB aO g
  so : ∀ g, inB aS g → ¬ inB aO g
end Plain
/-- Three rows, marked one behind the other. -/
structure Plain.DMark (W : World) (aL aS aO : Option Addr) (nL nS nO : Nat) : Prop where
  l : RowAt fileE W aL (mkF 1 nL)
  s : RowAt fileE W aS (mkF (1 + nL * 2) nS)
  o : RowAt dopE W aO (mkO (1 + nL * 2 + nS * 2) nO)
theorem Plain.DMark.below {W W' : World} {aL aS aO : Option Addr} {nL nS nO : Nat} (h : DMark W aL aS aO nL nS nO) (hb : Below W.heap.size W W') : DMark W' aL aS aO nL nS nO := ⟨h.l.below hb, h.s.below hb, h.o.below hb⟩





/-- A disk that is answered: three rows of its own, no two in one block. -/
def DskPost (f : Value → Value) (live safe : List Fl) (ops : List Dop) (w : World) (e : Ending) (w' : World) : Prop :=
  ∃ aL cL aS cS aO cO, e = .returned (f (.agg #[.slice aL live.length cL, .slice aS safe.length cS, .slice aO ops.length cO])) ∧ OwnR fileE w' w.heap.size (.slice aL live.length cL) live ∧ OwnR fileE w' w.heap.size (.slice aS safe.length cS) safe ∧ OwnR dopE w' w.heap.size (.slice aO ops.length cO) ops ∧ Apart aL aS aO ∧ Below w.heap.size w w'
end Go.Proofs.Ytknpccpfjclngaa


/- Rows of files and of ops cloned, by the program. -/
namespace Go.Proofs.Ytknpccpfjclngaa
open Go.RowKit Plain
set_option linter.unusedVariables false

set_option maxRecDepth 10000 in
theorem nil_file (g n c : Nat) (W : World) : Sem.run Try.prog (binOp BinOp.eql 24 (Value.slice (some ⟨g, 0, none⟩) n c) (Value.slice none 0 0)) W = .ok (.bool false) W := by
  first | rfl | (unfold binOp; simp [go_sem, Try.underlying24]) | (simp [binOp, go_sem])
set_option maxRecDepth 10000 in
set_option maxHeartbeats 1000000 in
theorem cloneFile_calls (g n c : Nat) (fs : List Fl) (w : World) (hn : fs.length = n) (hn2 : n ≤ 1048576) (h : RowAt fileE w (some ⟨g, 0, none⟩) fs) :
    Calls Try.prog 33 #[.slice (some ⟨g, 0, none⟩) n c] w fun e w' => ∃ a' c', e = .returned (.slice a' n c') ∧ OwnR fileE w' w.heap.size (.slice a' n c') fs ∧ Below w.heap.size w w' := by
  have HO := hide (ownR_empty fileE w w.heap.size (Nat.le_refl _))
  have HR1 := hide (h.below (bel1 w (.cells #[] 65)))
  have HB1 := hide (bel1 w (.cells #[] 65))
  have HN := hide hn
  have hnil := nil_file g n c
  clear h hn
  go_enter Try.func33, Try.ntmps33
  go_wp2_with (at_builtin; go_must (refine appG (e := fileE) rfl _ _ rfl (unhide HO) rfl (some ⟨g, 0, none⟩) n c rfl (unhide HN) (unhide HR1) (.inr ⟨g, rfl⟩) (by simp; omega) (by simp) ?_); intro v' w6 hown6 hb6)
  obtain ⟨a', c', rfl⟩ := hown6.form
  go_ret
  refine ⟨a', c', ?_, ?_, (unhide HB1).trans hb6⟩
  · rw [List.nil_append, unhide HN]; rfl
  · rw [List.nil_append, unhide HN] at hown6; exact hown6

set_option maxRecDepth 10000 in
theorem nil_file0 (W : World) : Sem.run Try.prog (binOp BinOp.eql 24 (Value.slice none 0 0) (Value.slice none 0 0)) W = .ok (.bool true) W := by
  first | rfl | (unfold binOp; simp [go_sem, Try.underlying24]) | (simp [binOp, go_sem])

set_option maxRecDepth 10000 in
theorem cloneFile0_calls (w : World) : Calls Try.prog 33 #[.slice none 0 0] w fun e w' => e = .returned (.slice none 0 0) ∧ w = w' := by
  have hnil := nil_file0
  go_enter Try.func33, Try.ntmps33
  go_wp2_with fail
  go_ret
  exact ⟨rfl, rfl⟩

theorem cloneFileO_calls (a : Option Addr) (n c : Nat) (fs : List Fl) (w : World) (hn : fs.length = n) (hn2 : n ≤ 1048576) (h : RowAt fileE w a fs) (had : AdOk a c) :
    Calls Try.prog 33 #[.slice a n c] w fun e w' => ∃ a' c', e = .returned (.slice a' n c') ∧ OwnR fileE w' w.heap.size (.slice a' n c') fs ∧ Below w.heap.size w w' := by
  rcases had with ⟨rfl, rfl⟩ | ⟨g, rfl⟩
  · have h0 : fs = [] := by
      cases fs with
      | nil => rfl
      | cons f t => obtain ⟨g, e, _⟩ := h 0 (by simp); cases e
    subst h0
    subst hn
    refine (cloneFile0_calls w).mono ?_
    rintro e w' ⟨rfl, rfl⟩
    exact ⟨none, 0, rfl, ownR_nil _ _ _, Below.refl _ _⟩
  · exact cloneFile_calls g n c fs w hn hn2 h

end Go.Proofs.Ytknpccpfjclngaa


/- A row appended to an empty slice that was just made, inside a region that draws its order. -/
namespace Go.Proofs.Ytknpccpfjclngaa
open Go.RowKit Plain
set_option linter.unusedVariables false

/-- What an append to an empty slice in block g leaves. -/
structure Plain.AppE {α : Type} (e : Elem α) (g : Nat) (w w' : World) (a : Option Addr) (c : Nat) (ys : List α) : Prop where
  row : RowAt e w' a ys
  own : OwnR e w' g (.slice a ys.length c) ys
  gr : w.grownBy w' (some g)
  lies : ys = [] ∨ ∀ k, inB a k → k = g ∨ k = w.heap.size
theorem RowAt.grown {α : Type} {e : Elem α} {w w' : World} {a : Option Addr} {g : Nat} {ys : List α} (h : RowAt e w a ys) (hg : w.grownBy w' (some g)) (hne : ys = [] ∨ ∀ k, inB a k → k ≠ g) : RowAt e w' a ys := fun i hi => by
  obtain ⟨k, e1, hl, hc⟩ := h i hi
  have hk : some k ≠ some g := by
    rcases hne with h | h
    · rw [h] at hi; simp at hi
    · exact fun q => h k ⟨0, e1⟩ (Option.some.inj q)
  have hb := hg.block k hl hk
  exact ⟨k, e1, Nat.lt_of_lt_of_le hl hg.size, fun j hj => ⟨(World.cell?_of_block (a := ⟨k, i * e.n + j, none⟩) hb).trans (hc j hj).1, (World.frozen?_of_block (a := ⟨k, i * e.n + j, none⟩) hb).trans (hc j hj).2⟩⟩
theorem Plain.litN (W : World) (x : Obj) : (W.alloc x).heap[W.heap.size]? = some x := by show (W.heap.push x)[W.heap.size]? = some x; rw [Array.getElem?_push, if_pos rfl]
theorem Plain.lit0 (W : World) (x : Obj) : (W.alloc x).drew.heap[W.heap.size]? = some x := litN W x
theorem RowAt.setO {α : Type} {e : Elem α} {W : World} {a : Option Addr} {ys : List α} {b i : Nat} {u : Value} (h : RowAt e W a ys) (hne : ys = [] ∨ ∀ k, inB a k → k ≠ b) : RowAt e (W.setCell ⟨b, i, none⟩ u) a ys := by
  rcases hne with rfl | hne
  · exact fun i hi => by simp at hi
  · exact h.offR (b := some ⟨b, 0, none⟩) (OnlyRow.set i u) (fun g hg ⟨o, e⟩ => by cases e; exact hne _ hg rfl)
theorem Plain.AppE.far {α : Type} {e : Elem α} {g B : Nat} {w w' : World} {a : Option Addr} {c : Nat} {ys : List α} (h : AppE e g w w' a c ys) (h1 : B < g) (h2 : B < w.heap.size) : ys = [] ∨ ∀ k, inB a k → k ≠ B :=
  h.lies.imp id fun q k hk => by rcases q k hk with rfl | rfl <;> omega
end Go.Proofs.Ytknpccpfjclngaa


/- Disks copied, by the program. -/
namespace Go.Proofs.Ytknpccpfjclngaa
open Go.RowKit Plain
set_option linter.unusedVariables false

end Go.Proofs.Ytknpccpfjclngaa


/- Disks that lie in a block of their own. -/
namespace Go.Proofs.Ytknpccpfjclngaa
open Go.RowKit Plain
set_option linter.unusedVariables false

/-- A disk's three slices in a block of their own. -/
structure Plain.DC (b : Nat) (vL vS vO : Value) (W : World) : Prop where
  lt : b < W.heap.size
  c0 : W.cell? ⟨b, 0, none⟩ = some vL
  c1 : W.cell? ⟨b, 1, none⟩ = some vS
  c2 : W.cell? ⟨b, 2, none⟩ = some vO
theorem Plain.DC.below {b : Nat} {vL vS vO : Value} {W W' : World} (h : DC b vL vS vO W) (hb : Below W.heap.size W W') : DC b vL vS vO W' := ⟨Nat.lt_of_lt_of_le h.lt hb.size, bcl hb h.lt h.c0, bcl hb h.lt h.c1, bcl hb h.lt h.c2⟩
theorem Plain.DC.offP {b : Nat} {vL vS vO : Value} {W W' : World} {p : Nat → Prop} (h : DC b vL vS vO W) (ho : OnlyP p W W') (hp : ¬ p b) : DC b vL vS vO W' := by
  have hb := ho.block b h.lt hp
  exact ⟨Nat.lt_of_lt_of_le h.lt ho.size, (World.cell?_of_block (a := ⟨b, 0, none⟩) hb).trans h.c0, (World.cell?_of_block (a := ⟨b, 1, none⟩) hb).trans h.c1, (World.cell?_of_block (a := ⟨b, 2, none⟩) hb).trans h.c2⟩
theorem Plain.DC.new (W : World) (a b c : Option Addr) (n m k i j l : Nat) : DC W.heap.size (.slice a n i) (.slice b m j) (.slice c k l) (W.alloc (.cells #[.slice a n i, .slice b m j, .slice c k l] 27)) := ⟨by simp, by simp [go_sem], by simp [go_sem], by simp [go_sem]⟩
end Go.Proofs.Ytknpccpfjclngaa

