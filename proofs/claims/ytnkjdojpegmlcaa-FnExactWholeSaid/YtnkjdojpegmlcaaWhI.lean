/- Pieces put together again, by the program. -/
import Derived.Test.YtnkjdojpegmlcaaWhT
import Derived.Test.YtnkjdojpegmlcaaBld
import Derived.Test.YtnkjdojpegmlcaaStrR
import Derived.WalkArith
namespace Go.Proofs.Ytnkjdojpegmlcaa
open Go.RowKit Go.Maps Plain
set_option linter.unusedVariables false

namespace Plain
theorem stp_range {s : ByteArray} {p q : Nat} {v : Int} (h : stp s p = some (v, q)) : 0 ≤ v ∧ v ≤ 1000000000000 := by
  unfold stp at h
  cases ht : tkN s p with
  | none => rw [ht] at h; simp at h
  | some y =>
    obtain ⟨n, l⟩ := y
    have := tkN_le ht
    rw [ht] at h
    simp at h
    omega
theorem bodR_range {b : ByteArray} {a c : Int} {x : ByteArray} (h : bodR b = some (a, c, x)) : (0 ≤ a ∧ a ≤ 1000000000000) ∧ (0 ≤ c ∧ c ≤ 1000000000000) ∧ x.size ≤ 20000 := by
  unfold bodR at h
  split at h
  · cases h
  · next u a' c' x' p he =>
    split at h
    · obtain ⟨rfl, rfl, rfl⟩ : a' = a ∧ c' = c ∧ x' = x := by simpa using h
      unfold stT stN at he
      simp only [Option.bind_eq_some_iff, Option.map_eq_some_iff] at he
      obtain ⟨⟨⟨u2, c2⟩, p2⟩, ⟨⟨⟨u1, a1⟩, p1⟩, ⟨y0, h0, ⟨v0, q0⟩, e0, k0⟩, ⟨v1, q1⟩, e1, k1⟩, ⟨v2, q2⟩, e2, k2⟩ := he
      simp at k0 k1 k2
      obtain ⟨⟨_, rfl⟩, rfl⟩ := k0
      obtain ⟨⟨⟨_, rfl⟩, rfl⟩, rfl⟩ := k1
      obtain ⟨⟨⟨⟨_, rfl⟩, rfl⟩, rfl⟩, rfl⟩ := k2
      exact ⟨stp_range e0, stp_range e1, txp_size e2⟩
    · cases h
theorem pieceR_range {s : ByteArray} {a c : Int} {x : ByteArray} (h : pieceR s = some (a, c, x)) : (0 ≤ a ∧ a ≤ 1000000000000) ∧ (0 ≤ c ∧ c ≤ 1000000000000) ∧ x.size ≤ 20000 := by
  unfold pieceR at h
  split at h
  · split at h
    · exact bodR_range h
    · cases h
  · cases h
theorem run_small (s : ByteArray) : ∀ (f p done : Nat) (k : Int) (b : ByteArray), (k, b) ∈ (run s f p done).1 → b.size ≤ s.size := by
  intro f
  induction f with
  | zero => intro p done k b h; simp [run] at h
  | succ f ih =>
    intro p done k b h
    rw [run] at h
    split at h
    · simp at h
    · split at h
      · simp at h
      · split at h
        · simp at h
        · rcases List.mem_cons.1 h with e | e
          · have : b = frB (s.extract p s.size) := congrArg Prod.snd e
            rw [this]
            unfold frB
            rw [ByteArray.size_extract, ByteArray.size_extract]
            omega
          · exact ih _ _ k b e
theorem readF_small (s : ByteArray) (k : Int) (b : ByteArray) (h : (k, b) ∈ (readF s).1) : b.size ≤ s.size := run_small s 2001 0 0 k b h
/-- The table of what is known. -/
def lkF (L : List (Int × ByteArray)) (c : Int) : Int → Option (Int × ByteArray) := fun a => (lk L a).map fun x => (c, x)
theorem lkF_new {L : List (Int × ByteArray)} {c : Int} {a : Int} {x : ByteArray} (h : lk L a = none) : updN (lkF L c) a (c, x) = lkF (L ++ [(a, x)]) c := by
  funext y
  unfold updN lkF
  rw [lk_snoc]
  by_cases e : y = a
  · subst e; rw [if_pos rfl, h]; simp
  · rw [if_neg e]
    cases lk L y with
    | none => simp; exact fun q => e q.symm
    | some z => rfl
theorem lkF_old {L : List (Int × ByteArray)} {c : Int} {a : Int} {x : ByteArray} (h : lk L a = some x) : updN (lkF L c) a (c, x) = lkF L c := by
  funext y
  unfold updN lkF
  by_cases e : y = a
  · subst e; rw [if_pos rfl, h]; rfl
  · rw [if_neg e]
/-- All texts are short. -/
def ShortL (L : List (Int × ByteArray)) : Prop := ∀ a x, lk L a = some x → x.size ≤ 20000
theorem ShortL.snoc {L : List (Int × ByteArray)} (h : ShortL L) {a : Int} {x : ByteArray} (hx : x.size ≤ 20000) : ShortL (L ++ [(a, x)]) := by
  intro b y hy
  rw [lk_snoc] at hy
  cases hb : lk L b with
  | none =>
    rw [hb] at hy
    by_cases e : a = b
    · have : x = y := by simpa [e] using hy
      rw [← this]; exact hx
    · simp [e] at hy
  | some z =>
    rw [hb] at hy
    have : z = y := by simpa using hy
    rw [← this]; exact h b z hb
theorem joinL_size {L : List (Int × ByteArray)} (h : ShortL L) : ∀ n, (joinL L n).size ≤ n * 20000 := by
  intro n
  induction n with
  | zero => exact Nat.le_refl _
  | succ n ih =>
    rw [joinL, ByteArray.size_append]
    have : ((lk L n).getD ⟨#[]⟩).size ≤ 20000 := by
      cases hl : lk L n with
      | none => exact Nat.zero_le _
      | some x => exact h _ x hl
    omega
end Plain

theorem field_data (a c : Int) (d : ByteArray) (W : World) : (Instr.field 54 (.agg #[.int .i64 a, .int .i64 c, .string d]) 2).run Try.prog W = .ok (.string d) W := by
  simp [Instr.field, go_sem, run_underlying Try.underlying54, asAgg]

set_option maxRecDepth 10000 in
set_option maxHeartbeats 2000000 in
theorem joined_calls (b : Nat) (L : List (Int × ByteArray)) (c : Int) (w : World) (h : PTab w b L.length (lkF L c)) (hl : L.length ≤ 2000) (hsh : ShortL L) :
    Calls Try.prog 31 #[.map (some b)] w fun e w' => e = .returned (.string (joinL L L.length)) ∧ Below w.heap.size w w' := by
  obtain ⟨n, hn⟩ : ∃ n, L.length = n := ⟨_, rfl⟩
  rw [hn] at h hl ⊢
  obtain ⟨W0, hW0⟩ : ∃ W0, W0 = w.alloc (.cells #[.pointer none, .slice none 0 0] 81) := ⟨_, rfl⟩
  have hb0 : Below w.heap.size w W0 := by rw [hW0]; exact bel1 _ _
  have hlen := fun ty => (h.keep hb0).len ty
  have HH := hide h
  have HS := hide hsh
  have HF := hide (show Lib.IsBuilder 81 5 w.heap.size w.heap.size (Lib.byteCells (joinL L 0).data.toList) W0 from .inl ⟨Nat.le_refl _, .slice none 0 0, by rw [hW0]; exact (MapKept.heap_alloc w _).1, World.ownsRow_nil _ _ _ _, by simp [Value.ownBlock]⟩)
  have HB0 := hide hb0
  have HW0 := hide hW0.symm
  rw [hW0] at hlen
  clear h hb0 hW0 hn hsh
  go_enter Try.func31, Try.ntmps31
  go_wp2_with fail
  rw [unhide HW0]
  clear hlen
  go_loopw [7] (fun i wr => ∃ k : Nat, i = .int .i64 k ∧ k ≤ n ∧ Hid (Lib.IsBuilder 81 5 w.heap.size w.heap.size (Lib.byteCells (joinL L k).data.toList) wr) ∧ Hid (Below w.heap.size w wr)) (fun i _ => n - (intOf i).toNat)
  case atStart => exact ⟨0, rfl, by omega, HF, HB0⟩
  case round =>
    clear HF HB0
    obtain ⟨k, rfl, hk, HF, HB⟩ := hrel
    by_cases hkn : k < n
    · have hwf : (Lit.int .i64 (k : Int)).wf = true := Go.WalkArith.wf_i64 ⟨by omega, by omega⟩
      have hlook := ((unhide HH).keep (unhide HB)).look hwf
      obtain ⟨a', c', hpc⟩ : ∃ a' c', pcAt (lkF L c) (k : Int) = pcA a' c' ((lk L k).getD ⟨#[]⟩) := by
        unfold pcAt lkF
        cases lk L (k : Int) with
        | none => exact ⟨0, 0, rfl⟩
        | some x => exact ⟨_, _, rfl⟩
      rw [hpc] at hlook
      unfold pcA at hlook
      have hsz : ((lk L (k : Int)).getD ⟨#[]⟩).size ≤ 20000 := by
        cases hq : lk L (k : Int) with
        | none => exact Nat.zero_le _
        | some x => exact unhide HS _ x hq
      have hjs := joinL_size (unhide HS) k
      have HST := hide (show Lib.byteCells (joinL L k).data.toList ++ Lib.strCells ((lk L (k : Int)).getD ⟨#[]⟩) = Lib.byteCells (joinL L (k + 1)).data.toList from by rw [joinL, Lib.strCells_eq]; simp [Lib.byteCells])
      have hz := (unhide HB).size
      have HWS := hide (WriteString_calls w.heap.size w.heap.size _ ((lk L (k : Int)).getD ⟨#[]⟩) wr (unhide HF) (by rw [Lib.byteCells_length, Array.length_toList]; show (joinL L k).size + _ ≤ _; omega) hz)
      rw [unhide HST] at HWS
      generalize (lk L (k : Int)).getD ⟨#[]⟩ = d at hlook HWS
      have i1 : (k : Int) < (n : Int) := by omega
      have hfd := fun W => field_data a' c' d W
      clear hpc hsz hjs HST hwf
      go_wp2_with fail
      refine (unhide HWS).mono ?_
      rintro e w2 ⟨rfl, hF2, hb2⟩
      have HF2 := hide (show Lib.IsBuilder 81 5 w.heap.size w.heap.size (Lib.byteCells (joinL L (k + 1)).data.toList) w2 from .inr hF2)
      have HB2 := hide ((unhide HB).trans hb2)
      clear hF2 hb2 hlook hfd
      go_wp2_with fail
      go_roundw
      case rel => exact ⟨k + 1, by go_num, by omega, HF2, HB2⟩
      case measure => simp [intOf]; omega
    · obtain rfl : k = n := by omega
      have hz := (unhide HB).size
      have HS2 := hide (BString_calls w.heap.size w.heap.size _ wr (unhide HF) hz)
      rw [show (⟨((joinL L k).data.toList).toArray⟩ : ByteArray) = joinL L k from by simp] at HS2
      clear HF
      go_wp2_with fail
      refine (unhide HS2).mono ?_
      rintro e w2 ⟨rfl, hb2⟩
      have HB2 := hide ((unhide HB).trans hb2)
      clear hb2
      go_wp2_with fail
      go_ret
      exact ⟨rfl, unhide HB2⟩
end Go.Proofs.Ytnkjdojpegmlcaa
