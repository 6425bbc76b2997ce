/- Texts of one kind, put together. -/
import Derived.Test.YtknpccpfjclngaaGAE
import Derived.Test.YtknpccpfjclngaaGAC

/- Rows of files and ops marked and looked at again, as the exact laws do it. -/
namespace Go.Proofs.Ytknpccpfjclngaa
open Go.RowKit Plain
set_option linter.unusedVariables false

namespace Plain
/-- What the marking of files leaves. -/
def mkF (b n : Nat) : List Fl := (List.range n).map fun i : Nat => (mtx (b + i * 2), mtx (b + i * 2 + 1))
end Plain
end Go.Proofs.Ytknpccpfjclngaa


/- Rows of ops marked and looked at again, as the exact laws do it. -/
namespace Go.Proofs.Ytknpccpfjclngaa
open Go.RowKit Plain
set_option linter.unusedVariables false

namespace Plain
/-- What the marking leaves. -/
def mkO (b n : Nat) : List Dop := (List.range n).map fun i : Nat => (⟨(((b + i * 4) : Nat) : Int), mtx (b + i * 4 + 1), mtx (b + i * 4 + 2), mtx (b + i * 4 + 3)⟩ : Dop)
end Plain
end Go.Proofs.Ytknpccpfjclngaa


/- Disks marked and looked at again, as the exact laws do it; a disk that is answered. -/
namespace Go.Proofs.Ytknpccpfjclngaa
open Go.RowKit Plain
set_option linter.unusedVariables false

namespace Plain
/-- No two rows of a disk share a block. -/
structure Apart (aL aS aO : Option Addr) : Prop where
  ls : ∀ g, inB aL g → ¬ inB aS g
  lo : ∀ g, inB aL g → ¬ inB aO g
  so : ∀ g, inB aS g → ¬ inB aO g
end Plain
/-- Three rows, marked one behind the other. -/
structure Plain.DMark (W : World) (aL aS aO : Option Addr) (nL nS nO : Nat) : Prop where
  l : RowAt fileE W aL (mkF 1 nL)
  s : RowAt fileE W aS (mkF (1 + nL * 2) nS)
  o : RowAt dopE W aO (mkO (1 + nL * 2 + nS * 2) nO)
theorem Plain.DMark.below {W W' : World} {aL aS aO : Option Addr} {nL nS nO : Nat} (h : DMark W aL aS aO nL nS nO) (hb : Below W.heap.size W W') : DMark W' aL aS aO nL nS nO := ⟨h.l.below hb, h.s.below hb, h.o.below hb⟩





/-- A disk that is answered: three rows of its own, no two in one block. -/
def DskPost (f : Value → Value) (live safe : List Fl) (ops : List Dop) (w : World) (e : Ending) (w' : World) : Prop :=
  ∃ aL cL aS cS aO cO, e = .returned (f (.agg #[.slice aL live.length cL, .slice aS safe.length cS, .slice aO ops.length cO])) ∧ OwnR fileE w' w.heap.size (.slice aL live.length cL) live ∧ OwnR fileE w' w.heap.size (.slice aS safe.length cS) safe ∧ OwnR dopE w' w.heap.size (.slice aO ops.length cO) ops ∧ Apart aL aS aO ∧ Below w.heap.size w w'
/-- A disk that the specification answers: three rows. -/
def SpcPost (f : Value → Value) (live safe : List Fl) (ops : List Dop) (w : World) (e : Ending) (w' : World) : Prop :=
  ∃ aL cL aS cS aO cO, e = .returned (f (.agg #[.slice aL live.length cL, .slice aS safe.length cS, .slice aO ops.length cO])) ∧ RowAt fileE w' aL live ∧ RowAt fileE w' aS safe ∧ RowAt dopE w' aO ops ∧ Below w.heap.size w w'
end Go.Proofs.Ytknpccpfjclngaa


/- Rows of files and of ops cloned, by the program. -/
namespace Go.Proofs.Ytknpccpfjclngaa
open Go.RowKit Plain
set_option linter.unusedVariables false

set_option maxRecDepth 10000 in
theorem nil_file (g n c : Nat) (W : World) : Sem.run Try.prog (binOp BinOp.eql 24 (Value.slice (some ⟨g, 0, none⟩) n c) (Value.slice none 0 0)) W = .ok (.bool false) W := by
  first | rfl | (unfold binOp; simp [go_sem, Try.underlying24]) | (simp [binOp, go_sem])
set_option maxRecDepth 10000 in
set_option maxHeartbeats 1000000 in
theorem cloneFile_calls (g n c : Nat) (fs : List Fl) (w : World) (hn : fs.length = n) (hn2 : n ≤ 1048576) (h : RowAt fileE w (some ⟨g, 0, none⟩) fs) :
    Calls Try.prog 33 #[.slice (some ⟨g, 0, none⟩) n c] w fun e w' => ∃ a' c', e = .returned (.slice a' n c') ∧ OwnR fileE w' w.heap.size (.slice a' n c') fs ∧ Below w.heap.size w w' := by
  have HO := hide (ownR_empty fileE w w.heap.size (Nat.le_refl _))
  have HR1 := hide (h.below (bel1 w (.cells #[] 65)))
  have HB1 := hide (bel1 w (.cells #[] 65))
  have HN := hide hn
  have hnil := nil_file g n c
  clear h hn
  go_enter Try.func33, Try.ntmps33
  go_wp2_with (at_builtin; go_must (refine appG (e := fileE) rfl _ _ rfl (unhide HO) rfl (some ⟨g, 0, none⟩) n c rfl (unhide HN) (unhide HR1) (.inr ⟨g, rfl⟩) (by simp; omega) (by simp) ?_); intro v' w6 hown6 hb6)
  obtain ⟨a', c', rfl⟩ := hown6.form
  go_ret
  refine ⟨a', c', ?_, ?_, (unhide HB1).trans hb6⟩
  · rw [List.nil_append, unhide HN]; rfl
  · rw [List.nil_append, unhide HN] at hown6; exact hown6

set_option maxRecDepth 10000 in
theorem nil_file0 (W : World) : Sem.run Try.prog (binOp BinOp.eql 24 (Value.slice none 0 0) (Value.slice none 0 0)) W = .ok (.bool true) W := by
  first | rfl | (unfold binOp; simp [go_sem, Try.underlying24]) | (simp [binOp, go_sem])

set_option maxRecDepth 10000 in
theorem cloneFile0_calls (w : World) : Calls Try.prog 33 #[.slice none 0 0] w fun e w' => e = .returned (.slice none 0 0) ∧ w = w' := by
  have hnil := nil_file0
  go_enter Try.func33, Try.ntmps33
  go_wp2_with fail
  go_ret
  exact ⟨rfl, rfl⟩

theorem cloneFileO_calls (a : Option Addr) (n c : Nat) (fs : List Fl) (w : World) (hn : fs.length = n) (hn2 : n ≤ 1048576) (h : RowAt fileE w a fs) (had : AdOk a c) :
    Calls Try.prog 33 #[.slice a n c] w fun e w' => ∃ a' c', e = .returned (.slice a' n c') ∧ OwnR fileE w' w.heap.size (.slice a' n c') fs ∧ Below w.heap.size w w' := by
  rcases had with ⟨rfl, rfl⟩ | ⟨g, rfl⟩
  · have h0 : fs = [] := by
      cases fs with
      | nil => rfl
      | cons f t => obtain ⟨g, e, _⟩ := h 0 (by simp); cases e
    subst h0
    subst hn
    refine (cloneFile0_calls w).mono ?_
    rintro e w' ⟨rfl, rfl⟩
    exact ⟨none, 0, rfl, ownR_nil _ _ _, Below.refl _ _⟩
  · exact cloneFile_calls g n c fs w hn hn2 h

end Go.Proofs.Ytknpccpfjclngaa

