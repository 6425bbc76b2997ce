/- The weight of a node for a digest, by both. -/
import Derived.Test.YtmicacoegkmklaaGreatDoorShaMx
import Derived.Test.YtmicacoegkmklaaGreatDoorDig
import Derived.Test.YtmicacoegkmklaaGreatDoorDec
import Derived.Test.YtmicacoegkmklaaGreatDoorGrw
namespace Go.Proofs.YtmicacoegkmklaaGreatDoor
open Go.RowKit Plain
set_option linter.unusedVariables false

namespace Plain
def wt (d : ByteArray) (n : Int) : Int := mxI d (decT n.toNat)
theorem wt_nat (d : ByteArray) (n : Nat) : wt d (n : Int) = mxI d (decT n) := rfl
def nodB (n : Int) : Bool := decide (1 ≤ n) && decide (n ≤ 50)
theorem nodB_iff (n : Int) : nodB n = true ↔ 1 ≤ n ∧ n ≤ 50 := by simp [nodB]
theorem digB_len71 {d : ByteArray} (h : digB d = true) : d.size = 71 := by
  by_cases h1 : d.size = 71
  · exact h1
  · rw [digB_size h1] at h; cases h
end Plain

set_option maxRecDepth 10000 in
theorem nodeIdW_calls (n : Int) (w : World) : Calls Tryz.prog 62 #[.int .i64 n] w fun e w' => e = .returned (.bool (nodB n)) ∧ w = w' := by
  by_cases h1 : 1 ≤ n <;> by_cases h2 : n ≤ 50 <;>
    (go_enter Tryz.func62, Tryz.ntmps62
     go_wp2
     go_ret
     exact ⟨by simp [nodB, h1, h2], rfl⟩)

set_option maxRecDepth 10000 in
theorem l13Weight_calls (d : ByteArray) (n : Nat) (w : World) (hd : d.size = 71) (h1 : 1 ≤ n) (h2 : n ≤ 50) :
    Calls Tryz.prog 51 #[.string d, .int .i64 n] w fun e w' => e = .returned (.int .u64 (wt d n)) ∧ Below w.heap.size w w' := by
  have hds := decT_size n h2
  have HD := hide (fun W => l1DecD_calls n W h1 h2)
  have HM := hide (fun W => specMixed_calls d (decT n) W (by omega) (by omega))
  rw [← wt_nat] at HM
  change Hid (∀ W, Calls Tryz.prog 66 #[.int .i64 n] W fun e w' => e = .returned (.string (decT n)) ∧ Below W.heap.size W w') at HD
  generalize wt d n = R at HM
  generalize decT n = T at HD HM
  clear hd hds h1 h2
  go_enter Tryz.func51, Tryz.ntmps51
  go_wp2_with fail
  refine (unhide HD _).mono ?_
  rintro e w1 ⟨rfl, hb1⟩
  have HB1 := hide hb1
  clear hb1
  go_wp2_with fail
  refine (unhide HM _).mono ?_
  rintro e w2 ⟨rfl, hb2⟩
  have HB2 := hide (belOnD (unhide HB1) hb2)
  clear hb2
  go_wp2_with fail
  go_ret
  exact ⟨rfl, unhide HB2⟩

set_option maxRecDepth 10000 in
theorem weigh_calls (d : ByteArray) (n : Nat) (g : Nat) (w : World) (hK : KAt w) (hd : d.size = 71) (h2 : n ≤ 50) (hg : w.cell? ⟨g, 0, none⟩ = some (.string d)) :
    Calls Tryz.prog 59 #[.int .i64 n, .pointer (some ⟨g, 0, none⟩)] w fun e w' => e = .returned (.int .u64 (wt d n)) ∧ Below w.heap.size w w' := by
  have h0 : 1 < w.heap.size := lt_of_cell (hK 0 (by omega))
  have hgl : g < w.heap.size := lt_of_cell hg
  have hds := decT_size n h2
  have HD := hide (fun W => formatInt_dec n W h2)
  have HM := hide (fun W (h : KAt W) => implMixed_calls d (decT n) W h (by omega) (by omega))
  rw [← wt_nat] at HM
  have HK := hide (fun x : Grown w => hK.below x.ok h0)
  have hc := fun x : Grown w => Grown.cell (p := ⟨g, 0, none⟩) hg hgl x
  have hne : Nonempty (Grown w) := ⟨⟨w, Below.refl _ _⟩⟩
  generalize wt d n = R at HM
  generalize decT n = T at HD HM
  clear hd hds h2 hK hg
  go_enter Tryz.func59, Tryz.ntmps59
  go_wp2_with fail
  refine region_grown (by kernel_rfl) (by kernel_rfl) w (Below.refl _ _) ?_
  repeat (go_big_quiet_step (first | (go_at_call 61; exact calls_grown _ ((unhide HD _).mono fun e w' ⟨h1, h2⟩ => ⟨h1, by rw [h2]; exact Below.refl _ _⟩)) | (go_at_call 60; exact calls_grown _ (unhide HM _ (unhide HK _)))))
  refine wpQuiet_nil ?_
  rintro w' ⟨x, rfl⟩
  have hb := x.ok
  clear hc
  go_wp2_with fail
  go_ret
  exact ⟨rfl, hb⟩
end Go.Proofs.YtmicacoegkmklaaGreatDoor
