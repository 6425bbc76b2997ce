/- A branch as a prefix, by the program. -/
import Derived.Test.YtldgkpnlplfopaaDoorStM
import Derived.Test.YtldgkpnlplfopaaDoorTzA
namespace Go.Proofs.YtldgkpnlplfopaaDoor
open Go.RowKit Go.Maps Plain
set_option linter.unusedVariables false

/-- Bytes as elements. -/
def byE : Elem Int where
  E := 5
  S := 71
  n := 1
  bytes := 1
  zero := .int .u8 0
  enc := fun x => [.int .u8 x]
  hund := Tryd.underlying71
  hinfo := by kernel_rfl
  hz := by kernel_rfl
  hn := by decide
  hb := by decide
  hlen := fun _ => rfl
  hone := fun x u hu => by
    simp at hu
    subst hu
    rfl
theorem conv_by (W : World) (B g n c : Nat) (xs : List Int) (h : OwnR byE W B (.slice (some ⟨g, 0, none⟩) n c) xs) (hn : xs.length = n) : (convert 71 9 (.slice (some ⟨g, 0, none⟩) n c)).run Tryd.prog W = .ok (.string (strOfNums xs)) W :=
  run_convert_bytes_arg W _ _ Tryd.underlying71 Tryd.underlying5 g 0 n c xs hn (fun i hi => by
    obtain ⟨g', e1, hl, hc⟩ := h.at i (by omega)
    cases e1
    have := (hc 0 (by decide)).1
    simp [byE] at this
    rw [Nat.zero_add, this]
    simp [List.getD, List.getElem?_eq_getElem (show i < xs.length by omega)]) _ Tryd.underlying9

namespace Plain
/-- The first k digits of a branch. -/
def pfL (n v k : Nat) : List Int := (List.range k).map fun j => ((hxC (v / 16 ^ (n - 1 - j) % 16)).toNat : Int)
theorem pfL_len (n v k : Nat) : (pfL n v k).length = k := by simp [pfL]
theorem pfL_next (n v k : Nat) : pfL n v (k + 1) = pfL n v k ++ [((hxC (v / 16 ^ (n - 1 - k) % 16)).toNat : Int)] := by simp [pfL, List.range_succ]
theorem str_one (c : UInt8) : strOfNums [(c.toNat : Int)] = ⟨#[c]⟩ := by
  unfold strOfNums
  simp
theorem pfL_str {n v : Nat} (h : gdB (n, v)) (h1 : 1 ≤ n) : strOfNums (pfL n v n) = prT (n, v) := by
  have h2 := h.2
  simp only at h2
  have hn : n = 1 ∨ n = 2 := by have := h.1; simp at this; omega
  rcases hn with rfl | rfl
  · have e : v % 16 = v := by omega
    simp [pfL, prT, dgC, strOfNums, e]
  · have e : v / 16 % 16 = v / 16 := by omega
    simp [pfL, prT, dgC, strOfNums, e, List.range_succ]
    apply ByteArray.ext
    simp
end Plain

set_option maxRecDepth 10000 in
set_option maxHeartbeats 2000000 in
theorem prefix_calls (n v : Nat) (h : gdB (n, v)) (w : World) :
    Calls Tryd.prog 26 #[brV n v] w fun e w' => e = .returned (.string (prT (n, v))) ∧ Below w.heap.size w w' := by
  have hv := gdB_lt h
  have hn2 := h.1
  simp only at hv hn2
  by_cases hn0 : n = 0
  · subst hn0
    have HE := hide (show prT (0, v) = ByteArray.empty from rfl)
    rw [unhide HE]
    have hcn := fun W => run_convert_bytes_nil (P := Tryd.prog) W 71 _ Tryd.underlying71 Tryd.underlying5 0 0 9 Tryd.underlying9
    unfold brV
    go_enter Tryd.func26, Tryd.ntmps26
    go_wp2_with fail
    go_loopw [3, 4] (fun s3 s4 wr => s3 = .slice none 0 0 ∧ s4 = .int .i64 (-4) ∧ Hid (Below w.heap.size w wr)) (fun _ _ _ => 0)
    case atStart => exact ⟨rfl, rfl, hide ((Below.refl _ _).alloc (Nat.le_refl _) _)⟩
    case round =>
      obtain ⟨rfl, rfl, HB⟩ := hrel
      go_wp2_with fail
      go_ret
      exact ⟨rfl, unhide HB⟩
  · have HE := hide (pfL_str h (by omega))
    rw [← unhide HE]
    obtain ⟨W0, hW0⟩ : ∃ W0, w.alloc (.cells #[.int .i64 (n : Int), .int .u8 (v : Int)] 39) = W0 := ⟨_, rfl⟩
    have hrow0 : W0.heap[w.heap.size]? = some (.cells #[.int .i64 (n : Int), .int .u8 (v : Int)] 39 (0, 0)) := by rw [← hW0]; exact heap_alloc_new _ _
    have hb0 : Below w.heap.size w W0 := by rw [← hW0]; exact (Below.refl _ _).alloc (Nat.le_refl _) _
    have hl0 : w.heap.size < W0.heap.size := by rw [← hW0]; simp
    have HC1 := hide (fun (W : World) (hW : Below W0.heap.size W0 W) => (show W.cell? ⟨w.heap.size, 1, none⟩ = some (.int .u8 (v : Int)) from by rw [cell_of_row _ _ 1 _ _ _ ((hW.block _ hl0).trans hrow0)]; rfl))
    have q0 : W0.cell? ⟨w.heap.size, 0, none⟩ = some (.int .i64 (n : Int)) := by rw [cell_of_row _ _ 0 _ _ _ hrow0]; rfl
    have HW := hide hW0
    have HB0 := hide hb0
    have HBR := hide (show brV n v = .agg #[.int .i64 (n : Int), .int .u8 (v : Int)] from rfl)
    rw [unhide HBR]
    obtain ⟨sh0, hsh0⟩ : ∃ sh : Nat, 4 * ((n : Int) - 1) = (sh : Int) := ⟨4 * (n - 1), by omega⟩
    have hn1 : IntKind.i64.wrap ((n : Int) - 1) = (n : Int) - 1 := by rw [IntKind.wrap_i64]; omega
    clear hrow0 hb0 hW0 h
    go_enter Tryd.func26, Tryd.ntmps26
    go_upto_region 2 with fail
    rw [unhide HW]
    go_wp2_with fail
    clear q0
    go_loopw [3, 4] (fun s3 s4 wr => ∃ (k : Nat) (ta : Option Addr) (tc : Nat) (sh : Int), s4 = .int .i64 sh ∧ s3 = .slice ta k tc ∧ k ≤ n ∧ sh = 4 * ((n : Int) - 1 - k) ∧ Hid (OwnR byE wr W0.heap.size (.slice ta k tc) (pfL n v k)) ∧ Hid (Below W0.heap.size W0 wr)) (fun _ s4 _ => (intOf s4 + 4).toNat)
    case atStart => exact ⟨0, none, 0, _, rfl, rfl, by omega, by omega, hide (ownR_nil _ _ _), hide (Below.refl _ _)⟩
    case round =>
      obtain ⟨k, ta, tc, sh, rfl, rfl, hk, hsh, HO, HB⟩ := hrel
      by_cases hlt : k < n
      · have p1 := unhide HC1 wr (unhide HB)
        have HNX := hide (pfL_next n v k)
        have HLE := hide (pfL_len n v k)
        have hBz := (unhide HB).size
        obtain ⟨b, hb⟩ : ∃ b : Nat, v / 16 ^ (n - 1 - k) = b := ⟨_, rfl⟩
        have hbl : b < 256 := by rw [← hb]; exact Nat.lt_of_le_of_lt (Nat.div_le_self _ _) hv
        obtain ⟨q, hq, hq16⟩ : ∃ q : Nat, b % 16 = q ∧ q < 16 := ⟨_, rfl, by omega⟩
        have a15 := and15u ⟨b, hbl⟩
        simp only [hq] at a15
        rw [hb, hq, ← hx_at q hq16 hq16] at HNX
        have g0 : (0 : Int) ≤ (q : Int) := by omega
        have g1 : (q : Int) < 16 := by omega
        have hcase : sh = 0 ∧ b = v ∨ sh = 4 ∧ b = v / 16 := by
          have : n - 1 - k = 0 ∨ n - 1 - k = 1 := by omega
          rcases this with e | e
          · rw [e] at hb
            exact .inl ⟨by omega, by simpa using hb.symm⟩
          · rw [e] at hb
            exact .inr ⟨by omega, by simpa using hb.symm⟩
        rcases hcase with ⟨hs0, hbv⟩ | ⟨hs0, hbv⟩
        · subst hs0
          subst hbv
          have HSH := hide hsh
          clear hb hq hsh
          go_wp2_with (at_builtin; refine appR (e := byE) rfl _ _ rfl (unhide HO) rfl _ rfl _ rfl rfl (by rw [unhide HLE]; omega) hBz ?_; intro v5 w5 hO5 hb5 _; obtain ⟨a5, c5, hv5⟩ := hO5.form; rw [List.length_append, unhide HLE, List.length_singleton] at hv5; subst hv5; have HO5 := hide hO5; have HB5 := hide ((unhide HB).trans hb5); clear hO5 hb5)
          go_roundw
          case rel =>
            refine ⟨k + 1, a5, c5, _, rfl, rfl, by omega, by have := unhide HSH; omega, hide ?_, HB5⟩
            rw [unhide HNX]
            exact unhide HO5
          case measure => simp [intOf] <;> omega
        · subst hs0
          have hdv : (v : Int) / 16 = (b : Int) := by omega
          have HSH := hide hsh
          clear hb hq hsh hbv
          go_wp2_with (at_builtin; refine appR (e := byE) rfl _ _ rfl (unhide HO) rfl _ rfl _ rfl rfl (by rw [unhide HLE]; omega) hBz ?_; intro v5 w5 hO5 hb5 _; obtain ⟨a5, c5, hv5⟩ := hO5.form; rw [List.length_append, unhide HLE, List.length_singleton] at hv5; subst hv5; have HO5 := hide hO5; have HB5 := hide ((unhide HB).trans hb5); clear hO5 hb5)
          go_roundw
          case rel =>
            refine ⟨k + 1, a5, c5, _, rfl, rfl, by omega, by have := unhide HSH; omega, hide ?_, HB5⟩
            rw [unhide HNX]
            exact unhide HO5
          case measure => simp [intOf] <;> omega
      · obtain rfl : k = n := by omega
        obtain rfl : sh = -4 := by omega
        obtain ⟨g, e1, -, -⟩ := (unhide HO).at 0 (by rw [pfL_len]; omega)
        subst e1
        have hcv := conv_by wr _ g k tc _ (unhide HO) (pfL_len _ _ _)
        go_wp2_with fail
        go_ret
        exact ⟨rfl, (unhide HB0).trans ((unhide HB).mono (Nat.le_of_lt hl0))⟩
end Go.Proofs.YtldgkpnlplfopaaDoor
