/- A set's keys, rising. -/
import Derived.Test.YtldgkpnlplfopaaGreatDoorKyA
import Derived.Test.YtldgkpnlplfopaaGreatDoorKyS
namespace Go.Proofs.YtldgkpnlplfopaaGreatDoor
open Go.RowKit Go.Maps Plain
set_option linter.unusedVariables false

namespace Plain
/-- A set of digests: the map at b has just the keys ks. -/
def KSet (W : World) (b nn : Nat) (ks : List (List UInt8)) : Prop := ∃ D : DataW Unit, W.ownsMap Tryz.prog 63 anyR b nn D ∧ Maps.size D = ks.length ∧ ∀ x : List UInt8, x.length = 32 → (Maps.has D (keyLK x) = true ↔ x ∈ ks)
/-- .. and no word on how many. -/
def KLe (W : World) (b nn : Nat) (ks : List (List UInt8)) : Prop := ∃ D : DataW Unit, W.ownsMap Tryz.prog 63 anyR b nn D ∧ Maps.size D ≤ 100000 ∧ ∀ x : List UInt8, x.length = 32 → (Maps.has D (keyLK x) = true ↔ x ∈ ks)
theorem KSet.kle {W : World} {b nn : Nat} {ks : List (List UInt8)} (h : KSet W b nn ks) (hN : ks.length ≤ 100000) : KLe W b nn ks := by
  obtain ⟨D, h1, h2, h3⟩ := h
  exact ⟨D, h1, by omega, h3⟩
theorem KLe.of_block {W W' : World} {b nn : Nat} {ks : List (List UInt8)} (h : KLe W b nn ks) (hb : W'.heap[b]? = W.heap[b]?) : KLe W' b nn ks := by
  obtain ⟨D, ⟨es, clock, h1, h2⟩, h3⟩ := h
  exact ⟨D, ⟨es, clock, hb.trans h1, h2⟩, h3⟩
theorem KLe.lt {W : World} {b nn : Nat} {ks : List (List UInt8)} (h : KLe W b nn ks) : b < W.heap.size := by
  obtain ⟨D, hD, _⟩ := h
  exact hD.lt
theorem RisK.nodup {ks : List (List UInt8)} (h : RisK ks) : ks.Nodup := h.imp (fun {a b} q e => by rw [e] at q; exact List.lt_irrefl _ q)
theorem CameK.perm {D : DataW Unit} {ss ks : List (List UInt8)} (h : CameK D (fun _ => false) ss) (hD : ∀ x : List UInt8, x.length = 32 → (Maps.has D (keyLK x) = true ↔ x ∈ ks)) (hr : RisK ks) (h32 : ∀ x ∈ ks, x.length = 32) : ss.Perm ks := by
  refine (List.perm_ext_iff_of_nodup h.1 hr.nodup).2 fun x => ⟨fun hx => ?_, fun hx => ?_⟩
  · have h2 := h.2.1 x hx
    exact (hD x h2).1 ((h.2.2 x h2).1 hx).1
  · have h2 := h32 x hx
    exact (h.2.2 x h2).2 ⟨(hD x h2).2 hx, rfl⟩
theorem KSet.lt {W : World} {b nn : Nat} {ks : List (List UInt8)} (h : KSet W b nn ks) : b < W.heap.size := by
  obtain ⟨D, hD, _⟩ := h
  exact hD.lt
theorem KSet.of_block {W W' : World} {b nn : Nat} {ks : List (List UInt8)} (h : KSet W b nn ks) (hb : W'.heap[b]? = W.heap[b]?) : KSet W' b nn ks := by
  obtain ⟨D, ⟨es, clock, h1, h2⟩, h3⟩ := h
  exact ⟨D, ⟨es, clock, hb.trans h1, h2⟩, h3⟩
theorem KSet.below {W W' : World} {b nn B : Nat} {ks : List (List UInt8)} (h : KSet W b nn ks) (hb : Below B W W') (hB : b < B) : KSet W' b nn ks := h.of_block (hb.block b hB)
end Plain

theorem collectK (Bm b nn : Nat) (D0 : DataW Unit) (hN : Maps.size D0 ≤ 1000000) (w : World) (hBm : Bm < w.heap.size) (hm : w.cell? ⟨Bm, 0, none⟩ = some (.map (some b))) (hown : w.ownsMap Tryz.prog 63 anyR b nn D0) :
    Calls Tryz.prog 60 #[.func (.func 62) #[] #[.pointer (some ⟨Bm, 0, none⟩)]] w fun e w' => ∃ v ss, e = .returned v ∧ CameK D0 (fun _ => false) ss ∧ OwnR keyE w' w.heap.size v ss ∧ Below w.heap.size w w' := by
  have HC := hide (callsIn_wide.1 (appendSeqK 2 (Nat.le_refl _) Bm b nn D0 hN w hBm hm hown))
  clear hm hown
  go_enter Tryz.func60, Tryz.ntmps60
  go_wp2_with fail
  refine (unhide HC).mono ?_
  rintro e w1 ⟨v, ss, rfl, h1, h2, h3⟩
  obtain ⟨a, c, rfl⟩ := h2.form
  have HX := hide (And.intro h1 (And.intro h2 h3))
  clear h1 h2 h3
  go_wp2_with fail
  go_ret
  exact ⟨_, ss, rfl, unhide HX⟩
theorem sortedL (Bm b nn : Nat) (ks : List (List UInt8)) (hr : RisK ks) (h32 : ∀ x ∈ ks, x.length = 32) (hN : ks.length ≤ 100000) (w : World) (hBm : Bm < w.heap.size) (hm : w.cell? ⟨Bm, 0, none⟩ = some (.map (some b))) (h : KLe w b nn ks) :
    Calls Tryz.prog 42 #[.func (.func 62) #[] #[.pointer (some ⟨Bm, 0, none⟩)], .func (.func 44) #[] #[]] w fun e w' => ∃ v, e = .returned v ∧ OwnR keyE w' w.heap.size v ks ∧ Below w.heap.size w w' := by
  obtain ⟨D, hown, hs, hD⟩ := h
  have HC := hide (collectK Bm b nn D (by omega) w hBm hm hown)
  clear hm hown hs
  go_enter Tryz.func42, Tryz.ntmps42
  go_wp2_with fail
  refine (unhide HC).mono ?_
  rintro e w1 ⟨v, ss, rfl, h1, h2, h3⟩
  obtain ⟨a, c, rfl⟩ := h2.form
  have hp := h1.perm hD hr h32
  have HS := hide (sortK_any w.heap.size a ss.length c ks ss w1 rfl (by rw [hp.length_eq]; omega) hr hp h2)
  have HB := hide h3
  clear h1 h2 h3 hp
  go_wp2_with fail
  refine (unhide HS).mono ?_
  rintro e w2 ⟨rfl, h4, h5⟩
  have HX := hide (And.intro h4 ((unhide HB).trans h5))
  clear h4 h5
  go_wp2_with fail
  go_ret
  exact ⟨_, rfl, unhide HX⟩
theorem keysK_calls (b : Nat) (w : World) : Calls Tryz.prog 43 #[.map (some b)] w fun e w' => e = .returned (.func (.func 62) #[] #[.pointer (some ⟨w.heap.size, 0, none⟩)]) ∧ w' = w.alloc (.cells #[.map (some b)] 44) := by
  go_enter Tryz.func43, Tryz.ntmps43
  go_wp2_with fail
  go_ret
  exact ⟨rfl, rfl⟩
theorem keysL_calls (b nn : Nat) (ks : List (List UInt8)) (hr : RisK ks) (h32 : ∀ x ∈ ks, x.length = 32) (hN : ks.length ≤ 100000) (w : World) (h : KLe w b nn ks) :
    Calls Tryz.prog 24 #[.map (some b)] w fun e w' => ∃ v, e = .returned v ∧ OwnR keyE w' w.heap.size v ks ∧ Below w.heap.size w w' := by
  have HK := hide (keysK_calls b w)
  have HS := hide (sortedL w.heap.size b nn ks hr h32 hN (w.alloc (.cells #[.map (some b)] 44)) (by simp) (by rw [cell_of_row _ w.heap.size 0 _ _ _ (heap_alloc_new _ _)]; rfl) (h.of_block (Below.heap_alloc _ _ _ h.lt)))
  clear h
  go_enter Tryz.func24, Tryz.ntmps24
  go_wp2_with fail
  refine (unhide HK).mono ?_
  rintro e w1 ⟨rfl, rfl⟩
  go_wp2_with fail
  refine (unhide HS).mono ?_
  rintro e w2 ⟨v, rfl, h1, h2⟩
  obtain ⟨a, c, rfl⟩ := h1.form
  have HX := hide (And.intro (OwnR.le h1 (show w.heap.size ≤ _ by simp)) (((Below.refl w.heap.size w).alloc (Nat.le_refl _) _).trans (h2.mono (by simp))))
  clear h1 h2
  go_wp2_with fail
  go_ret
  exact ⟨_, rfl, unhide HX⟩
theorem keys_calls (b nn : Nat) (ks : List (List UInt8)) (hr : RisK ks) (h32 : ∀ x ∈ ks, x.length = 32) (hN : ks.length ≤ 100000) (w : World) (h : KSet w b nn ks) :
    Calls Tryz.prog 24 #[.map (some b)] w fun e w' => ∃ v, e = .returned v ∧ OwnR keyE w' w.heap.size v ks ∧ Below w.heap.size w w' := keysL_calls b nn ks hr h32 hN w (h.kle hN)
end Go.Proofs.YtldgkpnlplfopaaGreatDoor
