/- Frames compared as FnFramed does it. -/
import Derived.Test.YtlkkhhelonbcbaaRdQ
import Derived.Test.YtlkkhhelonbcbaaFrmM
import Derived.Deep.QuietTactic
import Derived.BigQuiet
namespace Go.Proofs.Ytlkkhhelonbcbaa
open Go.RowKit Plain
set_option linter.unusedVariables false

set_option maxHeartbeats 1000000 in
theorem sameFrames_calls (a1 a2 : Option Addr) (c1 c2 n : Nat) (fs : List (Int × ByteArray)) (w : World) (hn : fs.length = n) (hn2 : n ≤ 2000) (h1 : FrAt w a1 fs) (h2 : FrAt w a2 fs) :
    Calls Try.prog 24 #[.slice a1 n c1, .slice a2 n c2] w fun e w' => e = .returned (.bool true) ∧ Below w.heap.size w w' := by
  have H1 := hide h1
  have H2 := hide h2
  have HN := hide hn
  clear h1 h2 hn
  go_enter Try.func24, Try.ntmps24
  go_wp2_with fail
  go_loopw [5] (fun i wr => ∃ (k : Nat), i = .int .i64 k ∧ k ≤ n ∧ Hid (Below w.heap.size w wr)) (fun i _ => n - (intOf i).toNat)
  case atStart => exact ⟨0, rfl, by omega, Below.refl _ _⟩
  case round =>
    obtain ⟨k, rfl, hk, HB⟩ := hrel
    by_cases hlt : k < n
    · obtain ⟨g1, e1, l1, p1, p2, -, -⟩ := (unhide H1).below (unhide HB) k (by rw [unhide HN]; exact hlt)
      obtain ⟨g2, e2, l2, q1, q2, -, -⟩ := (unhide H2).below (unhide HB) k (by rw [unhide HN]; exact hlt)
      generalize (fs[k]'(by rw [unhide HN]; exact hlt)).1 = kd at p1 q1
      generalize (fs[k]'(by rw [unhide HN]; exact hlt)).2 = bd at p2 q2
      clear H1 H2
      subst e1 e2
      have i0 : (0 : Int) ≤ (k : Int) := by omega
      have i1 : (k : Int) < (n : Int) := by omega
      go_wp2_with fail
      go_quiet (fail)
      go_wp2_with fail
      exact ⟨⟨k + 1, by go_num, by omega, hide (below_drewN (unhide HB) _)⟩, by simp [intOf]; omega⟩
    · obtain rfl : k = n := by omega
      go_wp2_with fail
      go_ret
      exact ⟨rfl, unhide HB⟩

namespace Plain
theorem FrAt.pre {W : World} {a : Option Addr} {fs rest : List (Int × ByteArray)} (h : FrAt W a (fs ++ rest)) : FrAt W a fs := fun i hi => by
  obtain ⟨g, e, hl, h1, h2, h3, h4⟩ := h i (by rw [List.length_append]; omega)
  rw [List.getElem_append_left hi] at h1 h2
  exact ⟨g, e, hl, h1, h2, h3, h4⟩
theorem frameB_size (k : Int) (b : ByteArray) : (frameB k b).size ≤ 20009 := by
  by_cases h : 1 ≤ k ∧ k ≤ 100 ∧ b.size ≤ 20000
  · rw [(frame_parts k b h.1 h.2.1 h.2.2).1]; omega
  · unfold frameB; rw [if_neg h]; exact Nat.zero_le _
theorem catF_size (l : List (Int × ByteArray)) : (catF l).size ≤ 20009 * l.length := by
  induction l with
  | nil => exact Nat.zero_le _
  | cons x l ih =>
    rw [catF, ByteArray.size_append, List.length_cons]
    have := frameB_size x.1 x.2
    omega
theorem catF_next (fs : List (Int × ByteArray)) (k : Nat) (h : k < fs.length) : catF (fs.take k) ++ frameB (fs[k]).1 (fs[k]).2 = catF (fs.take (k + 1)) := by
  rw [List.take_add_one, List.getElem?_eq_getElem h, catF_app]
  simp only [Option.toList_some, catF]
  congr 1
  apply ByteArray.ext
  simp
end Plain
end Go.Proofs.Ytlkkhhelonbcbaa
