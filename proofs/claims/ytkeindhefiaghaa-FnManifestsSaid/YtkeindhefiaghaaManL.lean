/- Manifests as the exact laws copy, measure and compare them. -/
import Derived.Test.YtkeindhefiaghaaMan
import Derived.Deep.RegionWith
namespace Go.Proofs.Ytkeindhefiaghaa
open Go.RowKit Plain
set_option linter.unusedVariables false

theorem OwnR.setLow {α : Type} {e : Elem α} {W : World} {B : Nat} {v : Value} {xs : List α} (h : OwnR e W B v xs) {p : Addr} (hp : p.block < B) (x : Value) : OwnR e (W.setCell p x) B v xs := ownsRow_setCell_below h hp x
namespace Plain
theorem setLow {W : World} {b i j g o : Nat} {x v : Value} (h : W.cell? ⟨g, o, none⟩ = some v) (hne : b ≠ g) : (W.setCell ⟨b, i, none⟩ x).cell? ⟨g, o, none⟩ = some v := (World.cell?_setCell_other _ ⟨b, i, none⟩ ⟨g, o, none⟩ _ (fun e => hne (congrArg Addr.block e))).trans h
end Plain

set_option maxHeartbeats 1000000 in
theorem toManifest_calls (cf : ByteArray) (a : Option Addr) (n c : Nat) (ls : List ByteArray) (w : World) (hn : ls.length = n) (hn2 : n ≤ 1048576) (h : StrsAt w a ls) :
    Calls Try.prog 41 #[.agg #[.string cf, .slice a n c]] w fun e w' => ∃ g, e = .returned (.agg #[.string cf, .slice (some ⟨g, 0, none⟩) n n]) ∧ OwnR strE w' w.heap.size (.slice (some ⟨g, 0, none⟩) n n) ls ∧ Below w.heap.size w w' := by
  have H := hide h
  clear h
  go_enter Try.func41, Try.ntmps41
  go_wp2_with fail
  obtain ⟨W, hW⟩ : ∃ W, W = (((w.alloc (.cells #[.string cf, .slice a n c] 56)).alloc (.cells #[.string ⟨#[]⟩, .slice none 0 0] 26)).alloc (.cells #[.string cf, .slice none 0 0] 26)) := ⟨_, rfl⟩
  have hb0 : Below w.heap.size w W := by rw [hW]; exact belOn (belOn (bel1 w _) (bel1 _ _)) (bel1 _ _)
  have hz : W.heap.size = w.heap.size + 3 := by rw [hW]; simp
  have r0 : W.cell? ⟨w.heap.size + 1, 0, none⟩ = some (.string ⟨#[]⟩) := by rw [hW]; simp [go_sem]
  have r1 : W.cell? ⟨w.heap.size + 1, 1, none⟩ = some (.slice none 0 0) := by rw [hW]; simp [go_sem]
  have o0 : W.cell? ⟨w.heap.size + 2, 0, none⟩ = some (.string cf) := by rw [hW]; simp [go_sem]
  have o1 : W.cell? ⟨w.heap.size + 2, 1, none⟩ = some (.slice none 0 0) := by rw [hW]; simp [go_sem]
  have fr0 : W.frozen? ⟨w.heap.size + 1, 0, none⟩ = false := by rw [hW]; simp [go_sem]
  have fr1 : W.frozen? ⟨w.heap.size + 1, 1, none⟩ = false := by rw [hW]; simp [go_sem]
  have fo1 : W.frozen? ⟨w.heap.size + 2, 1, none⟩ = false := by rw [hW]; simp [go_sem]
  rw [← hW]
  have HC := hide (toStringS_calls a n c ls W hn hn2 ((unhide H).below hb0))
  refine (unhide HC).mono ?_
  rintro e w1 ⟨g, rfl, hown, hb1⟩
  have HB1 := hide (hb0.trans (hb1.mono (by omega)))
  have lt1 : w.heap.size + 1 < W.heap.size := by omega
  have lt2 : w.heap.size + 2 < W.heap.size := by omega
  have p0 := bcl hb1 lt1 r0
  have p1 := bcl hb1 lt1 r1
  have p2 := bcl hb1 lt2 o0
  have p3 := bcl hb1 lt2 o1
  have y0 : w1.frozen? ⟨w.heap.size + 1, 0, none⟩ = false := (hb1.frozen (p := ⟨w.heap.size + 1, 0, none⟩) lt1).trans fr0
  have y1 : w1.frozen? ⟨w.heap.size + 1, 1, none⟩ = false := (hb1.frozen (p := ⟨w.heap.size + 1, 1, none⟩) lt1).trans fr1
  have y2 : w1.frozen? ⟨w.heap.size + 2, 1, none⟩ = false := (hb1.frozen (p := ⟨w.heap.size + 2, 1, none⟩) lt2).trans fo1
  have HO := hide (((hown.setLow (p := ⟨w.heap.size + 2, 1, none⟩) lt2 (.slice (some ⟨g, 0, none⟩) n n)).setLow (p := ⟨w.heap.size + 1, 0, none⟩) lt1 (.string cf)).setLow (p := ⟨w.heap.size + 1, 1, none⟩) lt1 (.slice (some ⟨g, 0, none⟩) n n))
  have HL := hide (show w.heap.size ≤ W.heap.size from by omega)
  clear hW hb0 hz r0 r1 o0 o1 fr0 fr1 fo1 HC hb1 hown lt1 lt2
  go_wp2_with fail
  refine bodyPost_ret (v := .agg #[.string cf, .slice (some ⟨g, 0, none⟩) n n]) (by simp [results, Try.results41, go_sem, p0, p1]) rfl ⟨g, rfl, (unhide HO).le (unhide HL), ?_⟩
  exact (((unhide HB1).setCell (p := ⟨w.heap.size + 2, 1, none⟩) (by simp) _).setCell (p := ⟨w.heap.size + 1, 0, none⟩) (by simp) _).setCell (p := ⟨w.heap.size + 1, 1, none⟩) (by simp) _

namespace Plain
def szM (cf : ByteArray) (ls : List ByteArray) (left : Int) : Int := if left < cf.size then -1 else szL ls (left - cf.size)
theorem szL_neg (ls : List ByteArray) (left : Int) (h : szL ls left < 0) (h0 : 0 ≤ left) : szL ls left = -1 := by
  unfold szL at h ⊢
  split
  · rfl
  · next hc => rw [if_neg hc] at h; omega
theorem szM_fit {cf : ByteArray} {ls : List ByteArray} (h : ¬ szM cf ls 1048576 < 0) : cf.size ≤ 1048576 ∧ ls.length ≤ 1048576 ∧ sumZ ls ≤ 1048576 := by
  unfold szM at h
  split at h
  · omega
  · unfold szL at h
    split at h
    · omega
    · omega
end Plain

set_option maxHeartbeats 1000000 in
theorem szManifest_calls (cf : ByteArray) (a : Option Addr) (n c : Nat) (ls : List ByteArray) (left : Int) (w : World) (hc : cf.size ≤ 9223372036854775807) (hn : ls.length = n) (hn2 : n ≤ 9223372036854775807) (hs : ∀ l ∈ ls, l.size ≤ 9223372036854775807) (h0 : 0 ≤ left) (h1 : left ≤ 10000000) (h : StrsAt w a ls) :
    Calls Try.prog 40 #[.agg #[.string cf, .slice a n c], .int .i64 left] w fun e w' => e = .returned (.int .i64 (szM cf ls left)) ∧ Below w.heap.size w w' := by
  have hb0 := bel1 w (.cells #[.string cf, .slice a n c] 56)
  have HB0 := hide hb0
  by_cases hlt : left < (cf.size : Int)
  · rw [show szM cf ls left = -1 from by unfold szM; rw [if_pos hlt]]
    clear h hs hn hb0
    go_enter Try.func40, Try.ntmps40
    go_wp2_with fail
    go_ret
    exact ⟨rfl, unhide HB0⟩
  · rw [show szM cf ls left = szL ls (left - cf.size) from by unfold szM; rw [if_neg hlt]]
    obtain ⟨L, hL⟩ : ∃ L : Nat, left - (cf.size : Int) = (L : Int) := ⟨(left - cf.size).toNat, by omega⟩
    rw [hL]
    have HC := hide (szStringS_calls a n c ls L _ hn hn2 hs (by omega) (by omega) (h.below hb0))
    have hneg := szL_neg ls (L : Int)
    have hL0 : (0 : Int) ≤ (L : Int) := by omega
    generalize szL ls (L : Int) = r at HC hneg ⊢
    clear h hs hn hb0
    go_enter Try.func40, Try.ntmps40
    go_wp2_with fail
    refine (unhide HC).mono ?_
    rintro e w1 ⟨rfl, hb1⟩
    have HB1 := hide (belOn (unhide HB0) hb1)
    clear hb1 HC HB0
    by_cases hr : r < 0
    · obtain rfl := hneg hr hL0
      go_wp2_with fail
      go_ret
      exact ⟨rfl, unhide HB1⟩
    · clear hneg
      go_wp2_with fail
      go_ret
      exact ⟨rfl, unhide HB1⟩

theorem eqManifest_calls (cf : ByteArray) (a1 a2 : Option Addr) (c1 c2 n : Nat) (ls : List ByteArray) (w : World) (hn : ls.length = n) (hn2 : n ≤ 100000000) (h1 : StrsAt w a1 ls) (h2 : StrsAt w a2 ls) :
    Calls Try.prog 42 #[.agg #[.string cf, .slice a1 n c1], .agg #[.string cf, .slice a2 n c2]] w fun e w' => e = .returned (.bool true) ∧ Below w.heap.size w w' := by
  have hb0 := belOn (bel1 w (.cells #[.string cf, .slice a1 n c1] 26)) (bel1 _ (.cells #[.string cf, .slice a2 n c2] 26))
  have HB0 := hide hb0
  have HC := hide (eqStringS_calls a1 a2 c1 c2 n ls _ hn hn2 (h1.below hb0) (h2.below hb0))
  clear h1 h2 hn hb0
  go_enter Try.func42, Try.ntmps42
  go_wp2_with fail
  refine (unhide HC).mono ?_
  rintro e w1 ⟨rfl, hb1⟩
  have HB1 := hide (belOn (unhide HB0) hb1)
  clear hb1 HC HB0
  go_wp2_with fail
  go_ret
  exact ⟨rfl, unhide HB1⟩
end Go.Proofs.Ytkeindhefiaghaa
