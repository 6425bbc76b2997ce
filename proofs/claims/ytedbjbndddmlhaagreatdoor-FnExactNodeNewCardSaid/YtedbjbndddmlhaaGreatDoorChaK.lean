/- Changes of members, by the program: the whole call. -/
import Derived.Test.YtedbjbndddmlhaaGreatDoorChaJ
import Derived.Test.YtedbjbndddmlhaaGreatDoorMrkI
import Derived.Test.YtedbjbndddmlhaaGreatDoorCbx
namespace Go.Proofs.YtedbjbndddmlhaaGreatDoor
open Go.RowKit Plain
set_option linter.unusedVariables false

theorem OwnR.oth2 {α : Type} {e : Elem α} {W : World} {B n c rb : Nat} {a : Option Addr} {xs : List α} {u1 u2 : Value} (h : OwnR e W B (.slice a n c) xs) (hne : ∀ g, (Value.slice a n c).ownBlock = some g → g ≠ rb) : OwnR e ((W.setCell ⟨rb, 0, none⟩ u1).setCell ⟨rb, 1, none⟩ u2) B (.slice a n c) xs :=
  h.oth (fun g hg => by rw [heap_setI (fun q => hne g hg q.symm), heap_setI (fun q => hne g hg q.symm)])
/-- Members that are answered: two lists of the call's own, apart. -/
def CfPost (v l : List Int) (w : World) (a1 : Option Addr) (c1 : Nat) (a2 : Option Addr) (c2 : Nat) (w' : World) : Prop := RowAt i64E w' a1 v ∧ RowAt i64E w' a2 l ∧ (∀ g, inB a1 g → w.heap.size ≤ g ∧ g < w'.heap.size) ∧ (∀ g, inB a2 g → w.heap.size ≤ g ∧ g < w'.heap.size) ∧ (∀ g, inB a1 g → ¬ inB a2 g) ∧ Below w.heap.size w w'



namespace Plain
/-- What a change makes of members, and its code. -/
def chgF (kind id : Int) (v l : List Int) : List Int × List Int × Int := if confB v l = true then chgS kind id v l else ([], [], 10)
theorem chgS_ok (kind id : Int) (v l : List Int) (h : confB v l = true) : okIds 0 (chgS kind id v l).1 = true ∧ okIds 0 (chgS kind id v l).2.1 = true ∧ (chgS kind id v l).1.length ≤ 7 ∧ (chgS kind id v l).2.1.length ≤ 7 := by
  have hb := h
  unfold confB at hb
  simp only [Bool.and_eq_true, decide_eq_true_iff] at hb
  have base : okIds 0 v = true ∧ okIds 0 l = true ∧ v.length ≤ 7 ∧ l.length ≤ 7 := ⟨hb.1.1, hb.1.2, hb.2.2.1, hb.2.2.2⟩
  unfold chgS
  split
  · rename_i hf
    have hf2 : (1 ≤ kind ∧ kind ≤ 3) ∧ (1 ≤ id ∧ id ≤ 50) := by simpa using hf
    split
    · split
      · exact base
      · split
        · exact base
        · rename_i h7
          exact ⟨nxtV_ok kind id v hf2.2.1 hf2.2.2 base.1, nxtL_ok kind id l hf2.2.1 hf2.2.2 base.2.1, by show (nxtV kind id v).length ≤ 7; omega, by show (nxtL kind id l).length ≤ 7; omega⟩
    · exact base
  · exact base
end Plain
theorem cf_nil {w W : World} (hb : Below w.heap.size w W) : CfPost [] [] w none 0 none 0 W :=
  And.intro (fun i hi => by simp at hi) (And.intro (fun i hi => by simp at hi) (And.intro (fun g hg => (inB_none hg).elim) (And.intro (fun g hg => (inB_none hg).elim) (And.intro (fun g hg => (inB_none hg).elim) hb))))

end Go.Proofs.YtedbjbndddmlhaaGreatDoor