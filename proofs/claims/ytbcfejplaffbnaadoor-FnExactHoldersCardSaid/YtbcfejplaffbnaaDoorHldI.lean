/- The holders of a blob, by the program. -/
import Derived.Test.YtbcfejplaffbnaaDoorHld
import Derived.Test.YtbcfejplaffbnaaDoorRzD
import Derived.Deep.RegionHeld3
namespace Go.Proofs.YtbcfejplaffbnaaDoor
open Go.RowKit Plain
set_option linter.unusedVariables false

namespace Plain
def kB (k : Int) : Bool := decide (1 ≤ k) && decide (k ≤ 7)
def rosB (l : List Int) (k : Int) : Bool := okIds 0 l && kB k
end Plain

theorem ownSetLow {α : Type} {e : Elem α} {W : World} {B : Nat} {v : Value} {xs : List α} (h : OwnR e W B v xs) {b : Nat} (hb : b < B) (i : Nat) (u : Value) : OwnR e (W.setCell ⟨b, i, none⟩ u) B v xs := by
  refine ⟨h.1, ?_⟩
  rcases h.2 with ⟨a, c⟩ | ⟨g, cap, cur, a, c, d, r⟩
  · exact .inl ⟨a, c⟩
  · refine .inr ⟨g, cap, cur, a, c, ?_, r⟩
    rw [Below.heap_setCell _ _ _ _ (by simp; omega)]
    exact d

set_option maxRecDepth 10000 in
set_option maxHeartbeats 2000000 in
theorem rosterOf_calls (a : Option Addr) (n c : Nat) (ls : List Int) (k : Int) (w : World) (h : IntsAt w a n ls) :
    Calls Tryd.prog 29 #[.slice a n c, .int .i64 k] w fun e w' => e = .returned (.tuple #[.agg #[.slice a n c, .int .i64 k], .bool (rosB ls k)]) ∧ Below w.heap.size w w' := by
  have HI := hide (fun (W : World) (hW : Below w.heap.size w W) => risingSet_calls a n c ls W (h.below hW))
  unfold rosB
  obtain ⟨KB, hKB⟩ : ∃ KB, kB k = KB := ⟨_, rfl⟩
  have HKB := hide hKB
  clear hKB
  cases h2 : okIds 0 ls with
  | false =>
    rw [risV_no h2] at HI
    clear h h2
    go_enter Tryd.func29, Tryd.ntmps29
    go_wp2_with fail
    refine (unhide HI _ (bel1D w _)).mono ?_
    rintro e w1 ⟨rfl, rfl⟩
    go_wp2_with fail
    exact bodyPost_ret (v := .tuple #[.agg #[.slice a n c, .int .i64 k], .bool false]) (by simp [results, Tryd.results29, go_sem]) rfl ⟨rfl, bel1D _ _⟩
  | true =>
    rw [risV_yes h2] at HI
    generalize setN ls = S at HI
    clear h h2
    by_cases k1 : 1 ≤ k
    · by_cases k2 : k ≤ 7
      · have HX1 := hide (show kB k = true from by unfold kB; rw [decide_eq_true k1, decide_eq_true k2]; rfl)
        go_enter Tryd.func29, Tryd.ntmps29
        go_wp2_with fail
        refine (unhide HI _ (bel1D w _)).mono ?_
        rintro e w1 ⟨rfl, rfl⟩
        go_wp2_with fail
        exact bodyPost_ret (v := .tuple #[.agg #[.slice a n c, .int .i64 k], .bool true]) (by simp [results, Tryd.results29, go_sem]) rfl ⟨by first | (rw [unhide HX1]; done) | (rw [unhide HX1]; rfl), bel1D _ _⟩
      · have HX1 := hide (show kB k = false from by unfold kB; rw [decide_eq_false k2, Bool.and_false])
        go_enter Tryd.func29, Tryd.ntmps29
        go_wp2_with fail
        refine (unhide HI _ (bel1D w _)).mono ?_
        rintro e w1 ⟨rfl, rfl⟩
        go_wp2_with fail
        exact bodyPost_ret (v := .tuple #[.agg #[.slice a n c, .int .i64 k], .bool false]) (by simp [results, Tryd.results29, go_sem] <;> omega) rfl ⟨by first | (rw [unhide HX1]; done) | (rw [unhide HX1]; rfl), bel1D _ _⟩
    · have HX1 := hide (show kB k = false from by unfold kB; rw [decide_eq_false k1]; rfl)
      go_enter Tryd.func29, Tryd.ntmps29
      go_wp2_with fail
      refine (unhide HI _ (bel1D w _)).mono ?_
      rintro e w1 ⟨rfl, rfl⟩
      go_wp2_with fail
      exact bodyPost_ret (v := .tuple #[.agg #[.slice a n c, .int .i64 k], .bool false]) (by simp [results, Tryd.results29, go_sem] <;> omega) rfl ⟨by first | (rw [unhide HX1]; done) | (rw [unhide HX1]; rfl), bel1D _ _⟩

set_option maxRecDepth 10000 in
set_option maxHeartbeats 4000000 in
theorem seatingOf_calls (a : Option Addr) (n c : Nat) (ls : List Int) (K : Nat) (d : ByteArray) (w : World) (h : IntsAt w a n ls) (hok : okIds 0 ls = true) (hd : d.size = 71) (hK : KAt w) (hk1 : 1 ≤ K) (hk7 : K ≤ 7) :
    Calls Tryd.prog 30 #[.agg #[.slice a n c, .int .i64 K], .string d] w fun e w' => ∃ v, e = .returned (.agg #[v, .int .u64 (setN ((rk (wt d) ls).take K) : Nat)]) ∧ OwnR i64E w' w.heap.size v (rk (wt d) ls) ∧ Below w.heap.size w w' := by
  have h0 : 1 < w.heap.size := lt_of_cell (hK 0 (by omega))
  obtain ⟨W1, hW1⟩ : ∃ W1, W1 = (w.alloc (.cells #[.slice a n c, .int .i64 K] 50)).alloc (.cells #[.slice none 0 0, .int .u64 0] 54) := ⟨_, rfl⟩
  have hz : W1.heap.size = w.heap.size + 2 := by rw [hW1]; simp
  have HB1 := hide (show Below w.heap.size w W1 from by rw [hW1]; exact belOnD (bel1D _ _) (bel1D _ _))
  have a0 : W1.cell? ⟨w.heap.size, 0, none⟩ = some (.slice a n c) := by rw [hW1]; simp [go_sem]
  have a1 : W1.cell? ⟨w.heap.size, 1, none⟩ = some (.int .i64 K) := by rw [hW1]; simp [go_sem]
  have b0 : W1.cell? ⟨w.heap.size + 1, 0, none⟩ = some (.slice none 0 0) := by rw [hW1]; simp [go_sem]
  have b1 : W1.cell? ⟨w.heap.size + 1, 1, none⟩ = some (.int .u64 0) := by rw [hW1]; simp [go_sem]
  have hblk : W1.heap[w.heap.size + 1]? = some (.cells #[.slice none 0 0, .int .u64 0] 54 (0, 0)) := by
    have := (MapKept.heap_alloc (w.alloc (.cells #[.slice a n c, .int .i64 K] 50)) (.cells #[.slice none 0 0, .int .u64 0] 54)).1
    rw [show (w.alloc (.cells #[.slice a n c, .int .i64 K] 50)).heap.size = w.heap.size + 1 from by simp] at this
    rw [hW1]
    exact this
  have f0 : W1.frozen? ⟨w.heap.size + 1, 0, none⟩ = false := frozen_of_row W1 (w.heap.size + 1) 0 _ _ hblk
  have f1 : W1.frozen? ⟨w.heap.size + 1, 1, none⟩ = false := frozen_of_row W1 (w.heap.size + 1) 1 _ _ hblk
  have l0 : w.heap.size < W1.heap.size := by omega
  have l1 : w.heap.size + 1 < W1.heap.size := by omega
  have A0 := fun (V : World) (hV : Below W1.heap.size W1 V) => bclW hV l0 a0
  have HA1 := hide (fun (V : World) (hV : Below W1.heap.size W1 V) => bclW hV l0 a1)
  have HX := hide (fun (V : World) (hV : Below W1.heap.size W1 V) => And.intro (And.intro (bclW hV l1 b0) (bclW hV l1 b1)) (And.intro ((hV.frozen (p := ⟨w.heap.size + 1, 0, none⟩) l1).trans f0) ((hV.frozen (p := ⟨w.heap.size + 1, 1, none⟩) l1).trans f1)))
  have HG := hide (weigher2_calls d W1.drew)
  have HH := hide (heaviest_calls d W1.drew.heap.size a n c ls (W1.drew.alloc (.cells #[.string d] 9)) (h.below (belOnD (unhide HB1) (belOnD (belDrew (Below.refl _ _)) (bel1D _ _)))) hok hd (hK.below (belOnD (unhide HB1) (belOnD (belDrew (Below.refl _ _)) (bel1D _ _))) h0) (by simp [go_sem]))
  have HBR := hide (Below.refl W1.heap.size W1)
  have hrl := rk_len (wt d) ls
  rw [h.len] at hrl
  have hbn := h.bn
  generalize rk (wt d) ls = rs at HH hrl ⊢
  have HRL := hide hrl
  have HW1 := hide hW1.symm
  clear h hok hd hK a0 a1 b0 b1 f0 f1 l0 l1 hW1 hrl hblk
  have HZ := hide hz
  clear hz
  go_enter Tryd.func30, Tryd.ntmps30
  go_wp2_with fail
  rw [unhide HW1]
  go_region_held3 (fun w' => Below W1.heap.size W1 w') (first | exact belDrewW (unhide HBR) | exact (by assumption) | exact (Below.alloc (by assumption) (Below.size (by assumption)) _)) (first
    | (go_at_call 26; refine (unhide HG).mono ?_; rintro e w1 ⟨rfl, rfl⟩)
    | (go_at_call 25; refine (unhide HH).mono ?_; rintro e w2 ⟨v, rfl, ho, hb2⟩; have hS2 : Below W1.heap.size W1 w2 := belOnD (belOnD (belDrew (unhide HBR)) (bel1D _ _)) hb2))
  have HS2 := hide hS2
  have hs2 := hS2.size
  obtain ⟨q1, ⟨q2, q3⟩, q4, q5⟩ := And.intro (unhide HA1 _ hS2) (unhide HX _ hS2)
  clear hb2 hS2 A0
  have hcap : ∃ aR cR, v = .slice aR n cR ∧ n ≤ cR := by
    rcases ho.2 with ⟨e1, e0⟩ | ⟨g, cap, cur, e1, _, _, h1, _⟩
    · exact ⟨none, 0, by rw [e1]; rw [unhide HRL] at e0; rw [e0], by rw [unhide HRL] at e0; omega⟩
    · rw [unhide HRL] at e1 h1
      exact ⟨_, cap, e1, h1⟩
  obtain ⟨aR, cR, rfl, hcR⟩ := hcap
  have HO := hide ho
  have hM : ∃ M : Nat, min (K : Int) (n : Int) = (M : Int) ∧ M = min K n := ⟨min K n, by omega, rfl⟩
  obtain ⟨M, hM1, hM2⟩ := hM
  have m0 : (0 : Int) ≤ (M : Int) := by omega
  have m1 : (M : Int) ≤ (cR : Int) := by omega
  have HM2 := hide hM2
  have HSO := hide (setOf_calls aR M cR (rs.take K) w2 ⟨fun i hi => by
      have hi2 : i < rs.length := by rw [List.length_take] at hi; omega
      obtain ⟨g, e1, e2, e3⟩ := (unhide HO).at i hi2
      refine ⟨g, e1, e2, ?_⟩
      rw [List.getElem_take]
      exact e3, by rw [List.length_take, unhide HRL]; exact hM2.symm, by omega⟩)
  have hz2 := unhide HZ
  have HFN := hide (fun (u1 u2 : Value) => (show OwnR i64E ((w2.setCell ⟨w.heap.size + 1, 0, none⟩ u1).setCell ⟨w.heap.size + 1, 1, none⟩ u2) w.heap.size (.slice aR n cR) rs ∧ Below w.heap.size w ((w2.setCell ⟨w.heap.size + 1, 0, none⟩ u1).setCell ⟨w.heap.size + 1, 1, none⟩ u2) from
    ⟨((ownSetLow (ownSetLow (unhide HO) (b := w.heap.size + 1) (by simp; omega) 0 u1) (b := w.heap.size + 1) (by simp; omega) 1 u2)).le (by simp; omega),
     (((unhide HB1).trans ((unhide HS2).mono (by omega))).setCell (p := ⟨w.heap.size + 1, 0, none⟩) (by simp) u1).setCell (p := ⟨w.heap.size + 1, 1, none⟩) (by simp) u2⟩))
  generalize hS : setN (rs.take K) = S at HSO
  have HS := hide hS
  clear ho hM2 hz2 hS
  go_wp2_with fail
  refine (unhide HSO).mono ?_
  rintro e w3 ⟨rfl, rfl⟩
  go_wp2_with fail
  exact bodyPost_ret (v := .agg #[.slice aR n cR, .int .u64 S]) (by simp [results, Tryd.results30, go_sem, q2, q3]) rfl ⟨_, by rw [unhide HS], unhide HFN _ _⟩
end Go.Proofs.YtbcfejplaffbnaaDoor
