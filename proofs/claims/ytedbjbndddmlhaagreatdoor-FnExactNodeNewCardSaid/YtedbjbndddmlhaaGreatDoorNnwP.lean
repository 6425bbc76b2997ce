/- New nodes compared, marked and looked at again: whole. -/
import Derived.Test.YtedbjbndddmlhaaGreatDoorNnwM
namespace Go.Proofs.YtedbjbndddmlhaaGreatDoor
open Go.RowKit Plain
set_option linter.unusedVariables false

namespace Plain
theorem NnC.offP {p : Nat → Prop} {b : Nat} {id : Int} {V L : Value} {W W' : World} (h : NnC b id V L W) (ho : OnlyP p W W') (hn : ¬ p b) : NnC b id V L W' := by
  have hb := ho.block b h.lt hn
  have hc : ∀ i (u : Value), W.cell? ⟨b, i, none⟩ = some u → W'.cell? ⟨b, i, none⟩ = some u := fun i u hu => (World.cell?_of_block (a := ⟨b, i, none⟩) hb).trans hu
  exact ⟨Nat.lt_of_lt_of_le h.lt ho.size, hc _ _ h.c0, hc _ _ h.c1, hc _ _ h.c2, hc _ _ h.c3, hc _ _ h.c4, hc _ _ h.c5, hc _ _ h.c6, hc _ _ h.c7, hc _ _ h.c8, hc _ _ h.c9, hc _ _ h.c10, hc _ _ h.c11, hc _ _ h.c12, hc _ _ h.c13, fun i hi => (World.frozen?_of_block (a := ⟨b, i, none⟩) hb).trans (h.fr i hi)⟩
end Plain

set_option maxRecDepth 10000 in
set_option maxHeartbeats 4000000 in
theorem eqNode_calls (id : Int) (av al bv bl : Option Addr) (nv nl c1 c2 c3 c4 : Nat) (v l : List Int) (w : World) (h1 : ConfAt w av nv v al nl l) (h2 : ConfAt w bv nv v bl nl l) :
    Calls Tryz.prog 8 #[nnV id (.slice av nv c1) (.slice al nl c2), nnV id (.slice bv nv c3) (.slice bl nl c4)] w fun e w' => e = .returned (.bool true) ∧ Below w.heap.size w w' := by
  obtain ⟨Wa, hWa⟩ : ∃ Wa, Wa = w.alloc (.cells #[.int .i64 id, .int .i64 0, .int .i64 0, .int .i64 0, .int .i64 0, .slice av nv c1, .slice al nl c2, .string ⟨#[]⟩, .slice none 0 0, .int .i64 0, .int .i64 0, .int .i64 0, .slice none 0 0, .slice none 0 0] 30) := ⟨_, rfl⟩
  obtain ⟨W0, hW0⟩ : ∃ W0, W0 = Wa.alloc (.cells #[.int .i64 id, .int .i64 0, .int .i64 0, .int .i64 0, .int .i64 0, .slice bv nv c3, .slice bl nl c4, .string ⟨#[]⟩, .slice none 0 0, .int .i64 0, .int .i64 0, .int .i64 0, .slice none 0 0, .slice none 0 0] 30) := ⟨_, rfl⟩
  have hba : Below w.heap.size w Wa := by rw [hWa]; exact bel1 _ _
  have hb0 : Below Wa.heap.size Wa W0 := by rw [hW0]; exact bel1 _ _
  have hsa : Wa.heap.size = w.heap.size + 1 := by rw [hWa]; simp
  have A0 : NnC w.heap.size id (.slice av nv c1) (.slice al nl c2) Wa := by rw [hWa]; exact NnC.new w _ _ _ _
  have B0 : NnC (w.heap.size + 1) id (.slice bv nv c3) (.slice bl nl c4) W0 := by rw [hW0, ← hsa]; exact NnC.new Wa _ _ _ _
  have A1 := A0.call hb0
  have HE := hide (eqConf_calls av al bv bl nv nl c1 c2 c3 c4 v l W0 (h1.below (belOn hba hb0)) (h2.below (belOn hba hb0)))
  have HC := hide (fun (W : World) (hW : Below W0.heap.size W0 W) => And.intro (A1.call hW) (B0.call hW))
  have HFIN := hide (fun (W : World) (hW : Below W0.heap.size W0 W) => belOn (belOn hba hb0) hW)
  have HW0 := hide (show (w.alloc (.cells #[.int .i64 id, .int .i64 0, .int .i64 0, .int .i64 0, .int .i64 0, .slice av nv c1, .slice al nl c2, .string ⟨#[]⟩, .slice none 0 0, .int .i64 0, .int .i64 0, .int .i64 0, .slice none 0 0, .slice none 0 0] 30)).alloc (.cells #[.int .i64 id, .int .i64 0, .int .i64 0, .int .i64 0, .int .i64 0, .slice bv nv c3, .slice bl nl c4, .string ⟨#[]⟩, .slice none 0 0, .int .i64 0, .int .i64 0, .int .i64 0, .slice none 0 0, .slice none 0 0] 30) = W0 from by rw [hW0, hWa])
  unfold nnV
  clear hba hb0 hsa A0 B0 A1 h1 h2 hWa hW0
  go_enter Tryz.func8, Tryz.ntmps8
  go_wp2_with fail
  rw [unhide HW0]
  refine (unhide HE).mono ?_
  rintro e w1 ⟨rfl, hb1⟩
  obtain ⟨⟨-, c0, c1, c2, c3, c4, c5, c6, c7, c8, c9, c10, c11, c12, c13, -⟩, ⟨-, d0, d1, d2, d3, d4, d5, d6, d7, d8, d9, d10, d11, d12, d13, -⟩⟩ := unhide HC _ hb1
  have HB1 := hide hb1
  clear hb1
  go_wp2_with (first
    | (go_at_call 19; refine (eqE0_calls _).mono ?_; rintro e w2 ⟨rfl, rfl⟩)
    | (go_at_call 20; refine (eqI0_calls _).mono ?_; rintro e w2 ⟨rfl, rfl⟩)
    | (go_at_call 21; refine (eqP0_calls _).mono ?_; rintro e w2 ⟨rfl, rfl⟩))
  go_ret
  exact ⟨rfl, unhide HFIN _ (unhide HB1)⟩

set_option maxRecDepth 10000 in
set_option maxHeartbeats 4000000 in
theorem markNode_calls (id : Int) (av : Option Addr) (nv cv : Nat) (v : List Int) (al : Option Addr) (nl cl : Nat) (l : List Int) (w : World) (h : ConfAt w av nv v al nl l) (ap : ∀ g, inB av g → ¬ inB al g) (hin : ∀ g, inC av al g → g < w.heap.size) :
    Calls Tryz.prog 11 #[nnV id (.slice av nv cv) (.slice al nl cl), .int .i64 1] w fun e w' => e = .returned (.int .i64 ((1 + nv + nl : Nat) : Int)) ∧ CMark w' av al nv nl ∧ OnlyP (inC av al) w w' := by
  obtain ⟨W0, hW0⟩ : ∃ W0, W0 = w.alloc (.cells #[.int .i64 id, .int .i64 0, .int .i64 0, .int .i64 0, .int .i64 0, .slice av nv cv, .slice al nl cl, .string ⟨#[]⟩, .slice none 0 0, .int .i64 0, .int .i64 0, .int .i64 0, .slice none 0 0, .slice none 0 0] 30) := ⟨_, rfl⟩
  have hb0 : Below w.heap.size w W0 := by rw [hW0]; exact bel1 _ _
  have hs0 := hb0.size
  have B0 : NnC w.heap.size id (.slice av nv cv) (.slice al nl cl) W0 := by rw [hW0]; exact NnC.new w _ _ _ _
  have HM := hide (markConf_calls av nv cv v al nl cl l W0 (h.below hb0) ap (fun g hg => by have := hin g hg; omega))
  have HC := hide (fun (W : World) (hW : OnlyP (inC av al) W0 W) => B0.offP hW (fun hg => by have := hin _ hg; omega))
  have HB0 := hide (OnlyP.of (p := inC av al) hb0)
  have HW0 := hide hW0.symm
  unfold nnV
  clear hb0 hs0 B0 hW0 h ap hin
  go_enter Tryz.func11, Tryz.ntmps11
  go_wp2_with fail
  rw [unhide HW0]
  refine (unhide HM).mono ?_
  rintro e w1 ⟨rfl, hM1, ho1⟩
  obtain ⟨-, c0, c1, c2, c3, c4, c5, c6, c7, c8, c9, c10, c11, c12, c13, -⟩ := unhide HC _ ho1
  have HO := hide ((unhide HB0).trans ho1)
  have HM1 := hide hM1
  obtain ⟨K, hK⟩ : ∃ K, 1 + nv + nl = K := ⟨_, rfl⟩
  rw [hK]
  have HK := hide hK
  clear ho1 hM1 HM hK
  go_wp2_with (first
    | (go_at_call 23; refine (markE0_calls _ _).mono ?_; rintro e w2 ⟨rfl, rfl⟩)
    | (go_at_call 22; refine (markI0_calls _ _).mono ?_; rintro e w2 ⟨rfl, rfl⟩)
    | (go_at_call 24; refine (markP0_calls _ _).mono ?_; rintro e w2 ⟨rfl, rfl⟩))
  go_ret
  exact ⟨by rw [unhide HK]; rfl, unhide HM1, unhide HO⟩

set_option maxRecDepth 10000 in
set_option maxHeartbeats 4000000 in
theorem heldNode_calls (id : Int) (av : Option Addr) (nv cv : Nat) (al : Option Addr) (nl cl : Nat) (w : World) (bv : nv ≤ 1048576) (bl : nl ≤ 1048576) (h : CMark w av al nv nl) :
    Calls Tryz.prog 12 #[nnV id (.slice av nv cv) (.slice al nl cl), .int .i64 1] w fun e w' => e = .returned (.int .i64 ((1 + nv + nl : Nat) : Int)) ∧ Below w.heap.size w w' := by
  obtain ⟨W0, hW0⟩ : ∃ W0, W0 = w.alloc (.cells #[.int .i64 id, .int .i64 0, .int .i64 0, .int .i64 0, .int .i64 0, .slice av nv cv, .slice al nl cl, .string ⟨#[]⟩, .slice none 0 0, .int .i64 0, .int .i64 0, .int .i64 0, .slice none 0 0, .slice none 0 0] 30) := ⟨_, rfl⟩
  have hb0 : Below w.heap.size w W0 := by rw [hW0]; exact bel1 _ _
  have B0 : NnC w.heap.size id (.slice av nv cv) (.slice al nl cl) W0 := by rw [hW0]; exact NnC.new w _ _ _ _
  have HM := hide (heldConf_calls av nv cv al nl cl W0 bv bl (h.below hb0))
  have HC := hide (fun (W : World) (hW : Below W0.heap.size W0 W) => B0.call hW)
  have HFIN := hide (fun (W : World) (hW : Below W0.heap.size W0 W) => belOn hb0 hW)
  have HW0 := hide hW0.symm
  unfold nnV
  clear hb0 B0 hW0 h
  go_enter Tryz.func12, Tryz.ntmps12
  go_wp2_with fail
  rw [unhide HW0]
  refine (unhide HM).mono ?_
  rintro e w1 ⟨rfl, hb1⟩
  obtain ⟨-, c0, c1, c2, c3, c4, c5, c6, c7, c8, c9, c10, c11, c12, c13, -⟩ := unhide HC _ hb1
  have HB1 := hide hb1
  obtain ⟨K, hK⟩ : ∃ K, 1 + nv + nl = K := ⟨_, rfl⟩
  rw [hK]
  have HK := hide hK
  clear hb1 HM hK
  go_wp2_with (first
    | (go_at_call 26; refine (heldE0_calls _ _).mono ?_; rintro e w2 ⟨rfl, rfl⟩)
    | (go_at_call 27; refine (heldI0_calls _ _).mono ?_; rintro e w2 ⟨rfl, rfl⟩)
    | (go_at_call 28; refine (heldP0_calls _ _).mono ?_; rintro e w2 ⟨rfl, rfl⟩))
  go_ret
  exact ⟨by rw [unhide HK]; rfl, unhide HFIN _ (unhide HB1)⟩
end Go.Proofs.YtedbjbndddmlhaaGreatDoor
