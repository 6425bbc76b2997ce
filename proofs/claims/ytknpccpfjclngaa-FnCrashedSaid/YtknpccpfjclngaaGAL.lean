/- Texts of one kind, put together. -/
import Derived.Test.YtknpccpfjclngaaGAI
import Derived.Laws.CopyOwn
import Derived.Deep.RegionHeld3
import Derived.Test.YtknpccpfjclngaaGAJ
import Derived.Test.YtknpccpfjclngaaGAG
import Derived.Test.YtknpccpfjclngaaDskU

/- Reading a file of a disk, by both programs. -/
namespace Go.Proofs.Ytknpccpfjclngaa
open Go.RowKit Go.Maps Plain
set_option linter.unusedVariables false

namespace Plain
end Plain

end Go.Proofs.Ytknpccpfjclngaa


/- The builtin copy at rows of any element. -/
namespace Go.Proofs.Ytknpccpfjclngaa
open Go.RowKit Plain
set_option linter.unusedVariables false

end Go.Proofs.Ytknpccpfjclngaa


/- One op put ahead of two, by the library's slices.Insert. -/
namespace Go.Proofs.Ytknpccpfjclngaa
open Go.RowKit Plain
set_option linter.unusedVariables false

end Go.Proofs.Ytknpccpfjclngaa


/- A file replaced, by the program. -/
namespace Go.Proofs.Ytknpccpfjclngaa
open Go.RowKit Plain
set_option linter.unusedVariables false

namespace Plain
end Plain

end Go.Proofs.Ytknpccpfjclngaa


/- A disk variable that is made, and filled later. -/
namespace Go.Proofs.Ytknpccpfjclngaa
open Go.RowKit Plain
set_option linter.unusedVariables false

/-- A block of three empty slices that may be written. -/
structure Plain.NZ (b : Nat) (V : World) : Prop where
  lt : b < V.heap.size
  c0 : V.cell? ⟨b, 0, none⟩ = some (.slice none 0 0)
  c1 : V.cell? ⟨b, 1, none⟩ = some (.slice none 0 0)
  c2 : V.cell? ⟨b, 2, none⟩ = some (.slice none 0 0)
  z0 : V.frozen? ⟨b, 0, none⟩ = false
  z1 : V.frozen? ⟨b, 1, none⟩ = false
  z2 : V.frozen? ⟨b, 2, none⟩ = false
theorem Plain.NZ.new (V : World) : NZ V.heap.size (V.alloc (.cells #[.slice none 0 0, .slice none 0 0, .slice none 0 0] 27)) := ⟨by simp, by simp [go_sem], by simp [go_sem], by simp [go_sem], by simp [go_sem], by simp [go_sem], by simp [go_sem]⟩
theorem Plain.NZ.below {b : Nat} {V V' : World} (h : NZ b V) (hb : Below V.heap.size V V') : NZ b V' :=
  ⟨Nat.lt_of_lt_of_le h.lt hb.size, bcl hb h.lt h.c0, bcl hb h.lt h.c1, bcl hb h.lt h.c2, (hb.frozen (p := ⟨b, 0, none⟩) h.lt).trans h.z0, (hb.frozen (p := ⟨b, 1, none⟩) h.lt).trans h.z1, (hb.frozen (p := ⟨b, 2, none⟩) h.lt).trans h.z2⟩
theorem Plain.DC.set {b : Nat} {V : World} (h : NZ b V) (v0 v1 v2 : Value) : DC b v0 v1 v2 (((V.setCell ⟨b, 0, none⟩ v0).setCell ⟨b, 1, none⟩ v1).setCell ⟨b, 2, none⟩ v2) := by
  have h0 : (V.setCell ⟨b, 0, none⟩ v0).cell? ⟨b, 0, none⟩ = some v0 := cell_set h.c0
  have h1 : ((V.setCell ⟨b, 0, none⟩ v0).setCell ⟨b, 1, none⟩ v1).cell? ⟨b, 1, none⟩ = some v1 := cell_set ((cell_off (.inr (by decide))).trans h.c1)
  refine ⟨by simpa using h.lt, (cell_off (.inr (by decide))).trans ((cell_off (.inr (by decide))).trans h0), (cell_off (.inr (by decide))).trans h1, cell_set ((cell_off (.inr (by decide))).trans ((cell_off (.inr (by decide))).trans h.c2))⟩
end Go.Proofs.Ytknpccpfjclngaa


/- Two rows of files held against each other, as the drawn laws do. -/
namespace Go.Proofs.Ytknpccpfjclngaa
open Go.RowKit Plain
set_option linter.unusedVariables false

set_option maxHeartbeats 4000000 in
theorem sameFiles_calls (a1 a2 : Option Addr) (n1 n2 c1 c2 : Nat) (s t : List Fl) (w : World) (hs : s.length = n1) (ht : t.length = n2) (hn : n1 ≤ 100000000) (hn2 : n2 ≤ 100000000) (h1 : RowAt fileE w a1 s) (h2 : RowAt fileE w a2 t) :
    Calls Try.prog 10 #[.slice a1 n1 c1, .slice a2 n2 c2] w fun e w' => e = .returned (.bool (sameF s t)) ∧ Below w.heap.size w w' := by
  by_cases hl : n1 = n2
  · subst hl
    have H1 := hide h1
    have H2 := hide h2
    have HS := hide hs
    have HT := hide ht
    clear h1 h2 hs ht
    go_enter Try.func10, Try.ntmps10
    go_wp2_with fail
    go_loopw [5] (fun i wr => ∃ k : Nat, i = .int .i64 k ∧ k ≤ n1 ∧ Hid (sameF (s.drop k) (t.drop k) = sameF s t) ∧ Hid (Below w.heap.size w wr)) (fun i _ => n1 - (intOf i).toNat)
    case atStart => exact ⟨0, rfl, by omega, hide rfl, hide (Below.refl _ _)⟩
    case round =>
      obtain ⟨k, rfl, hk, HR, HB⟩ := hrel
      by_cases hkn : k < n1
      · have k1 : k < s.length := by rw [unhide HS]; exact hkn
        have k2 : k < t.length := by rw [unhide HT]; exact hkn
        obtain ⟨g, e1, l1, p0, p1⟩ := ((unhide H1).below (unhide HB)).file k k1
        obtain ⟨g2, e2, l2, q0, q1⟩ := ((unhide H2).below (unhide HB)).file k k2
        have hst := sameF_step s t k k1 k2
        generalize s[k] = f at p0 p1 hst
        generalize t[k] = f2 at q0 q1 hst
        obtain ⟨fn, fd⟩ := f
        obtain ⟨gn, gd⟩ := f2
        simp only at p0 p1 q0 q1 hst
        subst e1 e2
        have i0 : (0 : Int) ≤ (k : Int) := by omega
        have i1 : (k : Int) < (n1 : Int) := by omega
        cases hx : eqN fn gn with
        | false =>
          have HF := hide (show sameF s t = false from by rw [← unhide HR, hst, hx]; rfl)
          unfold eqN at hx
          clear hst HR
          go_wp2_with fail
          go_quiet (fail)
          all_goals (try go_wp2_with fail)
          all_goals go_ret
          all_goals exact ⟨by rw [unhide HF]; rfl, belN (unhide HB) _⟩
        | true =>
          cases hy : eqN fd gd with
          | false =>
            have HF := hide (show sameF s t = false from by rw [← unhide HR, hst, hx, hy]; rfl)
            unfold eqN at hx hy
            clear hst HR
            go_wp2_with fail
            go_quiet (fail)
            all_goals (try go_wp2_with fail)
            all_goals go_ret
            all_goals exact ⟨by rw [unhide HF]; rfl, belN (unhide HB) _⟩
          | true =>
            have HF := hide (show sameF (s.drop (k + 1)) (t.drop (k + 1)) = sameF s t from by rw [← unhide HR, hst, hx, hy]; rfl)
            unfold eqN at hx hy
            clear hst HR
            go_wp2_with fail
            go_quiet (fail)
            all_goals (try go_wp2_with fail)
            all_goals exact ⟨⟨k + 1, by go_num, by omega, HF, hide (belN (unhide HB) _)⟩, by simp [intOf]; omega⟩
      · have HF := unhide HR
        rw [List.drop_of_length_le (by rw [unhide HS]; omega), List.drop_of_length_le (by rw [unhide HT]; omega)] at HF
        have HFF := hide HF
        clear HR HF
        go_wp2_with fail
        go_ret
        exact ⟨by rw [← unhide HFF]; rfl, unhide HB⟩
  · rw [sameF_len s t (by omega)]
    have b : ((n1 : Int) == (n2 : Int)) = false := by simp; omega
    clear h1 h2 hs ht
    go_enter Try.func10, Try.ntmps10
    go_wp2_with fail
    go_ret
    exact ⟨rfl, Below.refl _ _⟩
end Go.Proofs.Ytknpccpfjclngaa

