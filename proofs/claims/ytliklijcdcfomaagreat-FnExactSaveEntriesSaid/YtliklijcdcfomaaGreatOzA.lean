/- Texts of one kind, put together. -/
import Derived.Test.YtliklijcdcfomaaGreatGen
import Derived.Test.YtliklijcdcfomaaGreatMrkO

/- Worlds that differ in some blocks alone; rows that lie elsewhere. -/
namespace Go.Proofs.YtliklijcdcfomaaGreat
open Go.RowKit Plain
set_option linter.unusedVariables false

namespace Plain
/-- Nothing has changed but blocks of which p is so, and new blocks. -/
structure OnlyP (p : Nat → Prop) (w w' : World) : Prop where
  os : w'.os = w.os
  tape : w'.tape = w.tape
  output : w'.output = w.output
  size : w.heap.size ≤ w'.heap.size
  block : ∀ k, k < w.heap.size → ¬ p k → w'.heap[k]? = w.heap[k]?
theorem OnlyP.of {p : Nat → Prop} {w w' : World} (h : Below w.heap.size w w') : OnlyP p w w' := ⟨h.os, h.tape, h.output, h.size, fun k hk _ => h.block k hk⟩
theorem OnlyP.row {p : Nat → Prop} {a : Option Addr} {w w' : World} (h : OnlyRow a w w') (hp : ∀ g o, a = some ⟨g, o, none⟩ → p g) : OnlyP p w w' := ⟨h.os, h.tape, h.output, h.size, fun k hk hn => h.block k hk fun o e => hn (hp k o e)⟩
theorem OnlyP.trans {p : Nat → Prop} {u v w : World} (h : OnlyP p u v) (h2 : OnlyP p v w) : OnlyP p u w :=
  ⟨h2.os.trans h.os, h2.tape.trans h.tape, h2.output.trans h.output, Nat.le_trans h.size h2.size, fun k hk hne => (h2.block k (Nat.lt_of_lt_of_le hk h.size) hne).trans (h.block k hk hne)⟩
theorem OnlyP.below {p : Nat → Prop} {w w' : World} {B : Nat} (h : OnlyP p w w') (hB : ∀ g, p g → B ≤ g) (hBw : B ≤ w.heap.size) : Below B w w' :=
  ⟨h.os, h.tape, h.output, h.size, fun k hk => h.block k (Nat.lt_of_lt_of_le hk hBw) (fun e => by have := hB k e; omega)⟩
/-- The block that a slice lies in. -/
def inB (a : Option Addr) (g : Nat) : Prop := ∃ o, a = some ⟨g, o, none⟩
end Plain
theorem RowAt.offP {α : Type} {e : Elem α} {p : Nat → Prop} {w w' : World} {a : Option Addr} {xs : List α} (h : RowAt e w a xs) (ho : OnlyP p w w') (hne : ∀ g, inB a g → ¬ p g) : RowAt e w' a xs := fun i hi => by
  obtain ⟨g, e1, hl, hc⟩ := h i hi
  have hb := ho.block g hl (hne g ⟨0, e1⟩)
  exact ⟨g, e1, Nat.lt_of_lt_of_le hl ho.size, fun j hj => ⟨(World.cell?_of_block (a := ⟨g, i * e.n + j, none⟩) hb).trans (hc j hj).1, (World.frozen?_of_block (a := ⟨g, i * e.n + j, none⟩) hb).trans (hc j hj).2⟩⟩
theorem RowAt.offR {α : Type} {e : Elem α} {w w' : World} {a b : Option Addr} {xs : List α} (h : RowAt e w a xs) (ho : OnlyRow b w w') (hne : ∀ g, inB a g → ¬ inB b g) : RowAt e w' a xs := h.offP (OnlyP.row (p := inB b) ho fun g o e => ⟨o, e⟩) hne
theorem OwnR.bl {α : Type} {e : Elem α} {w : World} {B n c : Nat} {a : Option Addr} {ls : List α} (h : OwnR e w B (.slice a n c) ls) : ∀ g, inB a g → B ≤ g ∧ g < w.heap.size := by
  rintro g ⟨o, rfl⟩
  exact World.ownsRow.lt h g rfl
end Go.Proofs.YtliklijcdcfomaaGreat


/- Disks marked and looked at again, as the exact laws do it; a disk that is answered. -/
namespace Go.Proofs.YtliklijcdcfomaaGreat
open Go.RowKit Plain
set_option linter.unusedVariables false

namespace Plain
/-- The blocks of a disk's three rows. -/
def inD (aL aS aO : Option Addr) (g : Nat) : Prop := inB aL g ∨ inB aS g ∨ inB aO g
/-- No two rows of a disk share a block. -/
structure Apart (aL aS aO : Option Addr) : Prop where
  ls : ∀ g, inB aL g → ¬ inB aS g
  lo : ∀ g, inB aL g → ¬ inB aO g
  so : ∀ g, inB aS g → ¬ inB aO g
theorem apart3 {a b c : Nat} (h1 : a < b) (h2 : b < c) : Apart (some ⟨a, 0, none⟩) (some ⟨b, 0, none⟩) (some ⟨c, 0, none⟩) := by
  refine ⟨?_, ?_, ?_⟩ <;> (rintro g ⟨o, e⟩ ⟨o', e'⟩; cases e; cases e'; omega)
end Plain
/-- Three rows, marked one behind the other. -/
structure Plain.DMark (W : World) (aL aS aO : Option Addr) (nL nS nO : Nat) : Prop where
  l : RowAt fileE W aL (mkF 1 nL)
  s : RowAt fileE W aS (mkF (1 + nL * 2) nS)
  o : RowAt dopE W aO (mkO (1 + nL * 2 + nS * 2) nO)
theorem Plain.DMark.below {W W' : World} {aL aS aO : Option Addr} {nL nS nO : Nat} (h : DMark W aL aS aO nL nS nO) (hb : Below W.heap.size W W') : DMark W' aL aS aO nL nS nO := ⟨h.l.below hb, h.s.below hb, h.o.below hb⟩

set_option maxRecDepth 10000 in
set_option maxHeartbeats 1000000 in
theorem markDisk_calls (aL : Option Addr) (nL cL : Nat) (live : List Fl) (aS : Option Addr) (nS cS : Nat) (safe : List Fl) (aO : Option Addr) (nO cO : Nat) (ops : List Dop) (w : World) (hl : live.length = nL) (hs : safe.length = nS) (ho : ops.length = nO)
    (bl : nL ≤ 10000000) (bs : nS ≤ 10000000) (bo : nO ≤ 10000000) (h1 : RowAt fileE w aL live) (h2 : RowAt fileE w aS safe) (h3 : RowAt dopE w aO ops) (ap : Apart aL aS aO) (hin : ∀ g, inD aL aS aO g → g < w.heap.size) :
    Calls Tryz.prog 10 #[.agg #[.slice aL nL cL, .slice aS nS cS, .slice aO nO cO], .int .i64 1] w fun e w' => e = .returned (.int .i64 ((1 + nL * 2 + nS * 2 + nO * 4 : Nat) : Int)) ∧ DMark w' aL aS aO nL nS nO ∧ OnlyP (inD aL aS aO) w w' := by
  obtain ⟨W0, hW0⟩ : ∃ W0, W0 = w.alloc (.cells #[.slice aL nL cL, .slice aS nS cS, .slice aO nO cO] 30) := ⟨_, rfl⟩
  have hb0 : Below w.heap.size w W0 := by rw [hW0]; exact bel1 _ _
  have hlt : w.heap.size < W0.heap.size := by rw [hW0]; simp
  have c0 : W0.cell? ⟨w.heap.size, 0, none⟩ = some (.slice aL nL cL) := by rw [hW0]; simp [go_sem]
  have c1 : W0.cell? ⟨w.heap.size, 1, none⟩ = some (.slice aS nS cS) := by rw [hW0]; simp [go_sem]
  have c2 : W0.cell? ⟨w.heap.size, 2, none⟩ = some (.slice aO nO cO) := by rw [hW0]; simp [go_sem]
  have nl : ∀ o, aL ≠ some ⟨w.heap.size, o, none⟩ := fun o e => by have := hin _ (.inl ⟨o, e⟩); omega
  have ns : ∀ o, aS ≠ some ⟨w.heap.size, o, none⟩ := fun o e => by have := hin _ (.inr (.inl ⟨o, e⟩)); omega
  have HW0 := hide hW0.symm
  have HM1 := hide (markFileS_calls 1 aL cL nL live W0 (by omega) (by omega) hl (by omega) (h1.below hb0))
  have HP0 := hide (OnlyP.of (p := inD aL aS aO) hb0)
  have HAP := hide ap
  have HR2 := hide (h2.below hb0)
  have HR3 := hide (h3.below hb0)
  have HS := hide hs
  have HO := hide ho
  have HNL := hide nl
  have HNS := hide ns
  clear hb0 hW0 h1 h2 h3 hl hs ho ap nl ns hin
  go_enter Tryz.func10, Tryz.ntmps10
  go_wp2_with fail
  rw [unhide HW0]
  refine (unhide HM1).mono ?_
  rintro e w1 ⟨rfl, r1, o1⟩
  have q1 := (o1.cell hlt (unhide HNL)).trans c1
  have q2 := (o1.cell hlt (unhide HNL)).trans c2
  have hl1 : w.heap.size < w1.heap.size := lt_of_cell q1
  have HM2 := hide (markFileS_calls (1 + nL * 2) aS cS nS safe w1 (by omega) (by omega) (unhide HS) (by omega) ((unhide HR2).offR o1 fun g h h2 => (unhide HAP).ls g h2 h))
  have HR3b := hide ((unhide HR3).offR o1 fun g h h2 => (unhide HAP).lo g h2 h)
  have HP1 := hide ((unhide HP0).trans (OnlyP.row o1 fun g o e => .inl ⟨o, e⟩))
  have HQ1 := hide r1
  clear r1 o1 c0 c1 c2 HM1 HR2 HR3 HP0
  go_wp2_with fail
  refine (unhide HM2).mono ?_
  rintro e w2 ⟨rfl, r2, o2⟩
  have p2 := (o2.cell hl1 (unhide HNS)).trans q2
  have hl2 : w.heap.size < w2.heap.size := lt_of_cell p2
  have HM3 := hide (markDOpS_calls (1 + nL * 2 + nS * 2) aO cO nO ops w2 (by omega) (by omega) (unhide HO) (by omega) ((unhide HR3b).offR o2 fun g h h2 => (unhide HAP).so g h2 h))
  have HP2 := hide ((unhide HP1).trans (OnlyP.row o2 fun g o e => .inr (.inl ⟨o, e⟩)))
  have HQ2 := hide r2
  have HQ1b := hide ((unhide HQ1).offR o2 fun g h h2 => (unhide HAP).ls g h h2)
  clear r2 o2 q1 q2 HM2 HR3b HP1 HQ1
  go_wp2_with fail
  refine (unhide HM3).mono ?_
  rintro e w3 ⟨rfl, r3, o3⟩
  have HP3 := hide ((unhide HP2).trans (OnlyP.row o3 fun g o e => .inr (.inr ⟨o, e⟩)))
  have HQ := hide (show DMark w3 aL aS aO nL nS nO from ⟨(unhide HQ1b).offR o3 fun g h h2 => (unhide HAP).lo g h h2, (unhide HQ2).offR o3 fun g h h2 => (unhide HAP).so g h h2, r3⟩)
  clear r3 o3 p2 HM3 HP2
  go_wp2_with fail
  go_ret
  exact ⟨rfl, unhide HQ, unhide HP3⟩

set_option maxRecDepth 10000 in
set_option maxHeartbeats 1000000 in
theorem heldDisk_calls (aL : Option Addr) (nL cL : Nat) (aS : Option Addr) (nS cS : Nat) (aO : Option Addr) (nO cO : Nat) (w : World) (bl : nL ≤ 10000000) (bs : nS ≤ 10000000) (bo : nO ≤ 10000000) (h : DMark w aL aS aO nL nS nO) :
    Calls Tryz.prog 11 #[.agg #[.slice aL nL cL, .slice aS nS cS, .slice aO nO cO], .int .i64 1] w fun e w' => e = .returned (.int .i64 ((1 + nL * 2 + nS * 2 + nO * 4 : Nat) : Int)) ∧ Below w.heap.size w w' := by
  obtain ⟨W0, hW0⟩ : ∃ W0, W0 = w.alloc (.cells #[.slice aL nL cL, .slice aS nS cS, .slice aO nO cO] 30) := ⟨_, rfl⟩
  have hb0 : Below w.heap.size w W0 := by rw [hW0]; exact bel1 _ _
  have hlt : w.heap.size < W0.heap.size := by rw [hW0]; simp
  have c0 : W0.cell? ⟨w.heap.size, 0, none⟩ = some (.slice aL nL cL) := by rw [hW0]; simp [go_sem]
  have c1 : W0.cell? ⟨w.heap.size, 1, none⟩ = some (.slice aS nS cS) := by rw [hW0]; simp [go_sem]
  have c2 : W0.cell? ⟨w.heap.size, 2, none⟩ = some (.slice aO nO cO) := by rw [hW0]; simp [go_sem]
  have HC := hide (fun (W : World) (hW : Below W0.heap.size W0 W) => And.intro (bcl hW hlt c0) (And.intro (bcl hW hlt c1) (bcl hW hlt c2)))
  have HFIN := hide (fun (W : World) (hW : Below W0.heap.size W0 W) => belOn hb0 hW)
  have HD := hide (fun (W : World) (hW : Below W0.heap.size W0 W) => (h.below hb0).below hW)
  have HW0 := hide hW0.symm
  obtain ⟨M1, hM1⟩ : ∃ M, 1 + nL * 2 = M := ⟨_, rfl⟩
  obtain ⟨M2, hM2⟩ : ∃ M, M1 + nS * 2 = M := ⟨_, rfl⟩
  obtain ⟨M3, hM3⟩ : ∃ M, M2 + nO * 4 = M := ⟨_, rfl⟩
  have H1 := hide (fun (W : World) (hW : Below W0.heap.size W0 W) => heldFileS_calls 1 aL cL nL W (by omega) (by omega) (by omega) (unhide HD W hW).l)
  have H2 := hide (fun (W : World) (hW : Below W0.heap.size W0 W) => heldFileS_calls (1 + nL * 2) aS cS nS W (by omega) (by omega) (by omega) (unhide HD W hW).s)
  have H3 := hide (fun (W : World) (hW : Below W0.heap.size W0 W) => heldDOpS_calls (1 + nL * 2 + nS * 2) aO cO nO W (by omega) (by omega) (by omega) (unhide HD W hW).o)
  rw [hM1] at H1 H2 H3 ⊢
  rw [hM2] at H2 H3 ⊢
  rw [hM3] at H3 ⊢
  clear h hb0 hlt hW0 HD hM1 hM2 hM3
  go_enter Tryz.func11, Tryz.ntmps11
  go_wp2_with fail
  rw [unhide HW0]
  refine (unhide H1 _ (Below.refl _ _)).mono ?_
  rintro e w1 ⟨rfl, hb1⟩
  have HB1 := hide hb1
  obtain ⟨q0, q1, q2⟩ := unhide HC _ hb1
  clear hb1 c0 c1 c2
  go_wp2_with fail
  refine (unhide H2 _ (unhide HB1)).mono ?_
  rintro e w2 ⟨rfl, hb2⟩
  have HB2 := hide (belOn (unhide HB1) hb2)
  clear hb2 q0 q1 q2
  obtain ⟨q0, q1, q2⟩ := unhide HC _ (unhide HB2)
  go_wp2_with fail
  refine (unhide H3 _ (unhide HB2)).mono ?_
  rintro e w3 ⟨rfl, hb3⟩
  have HB3 := hide (unhide HFIN _ (belOn (unhide HB2) hb3))
  clear hb3 q0 q1 q2
  go_wp2_with fail
  go_ret
  exact ⟨rfl, unhide HB3⟩

/-- A disk that is answered: three rows of its own, no two in one block. -/
def DskPost (f : Value → Value) (live safe : List Fl) (ops : List Dop) (w : World) (e : Ending) (w' : World) : Prop :=
  ∃ aL cL aS cS aO cO, e = .returned (f (.agg #[.slice aL live.length cL, .slice aS safe.length cS, .slice aO ops.length cO])) ∧ OwnR fileE w' w.heap.size (.slice aL live.length cL) live ∧ OwnR fileE w' w.heap.size (.slice aS safe.length cS) safe ∧ OwnR dopE w' w.heap.size (.slice aO ops.length cO) ops ∧ Apart aL aS aO ∧ Below w.heap.size w w'
/-- A disk that the specification answers: three rows. -/
def SpcPost (f : Value → Value) (live safe : List Fl) (ops : List Dop) (w : World) (e : Ending) (w' : World) : Prop :=
  ∃ aL cL aS cS aO cO, e = .returned (f (.agg #[.slice aL live.length cL, .slice aS safe.length cS, .slice aO ops.length cO])) ∧ RowAt fileE w' aL live ∧ RowAt fileE w' aS safe ∧ RowAt dopE w' aO ops ∧ Below w.heap.size w w'
end Go.Proofs.YtliklijcdcfomaaGreat


/- Disks that lie in a block of their own. -/
namespace Go.Proofs.YtliklijcdcfomaaGreat
open Go.RowKit Plain
set_option linter.unusedVariables false

/-- A disk's three slices in a block of their own. -/
structure Plain.DC (b : Nat) (vL vS vO : Value) (W : World) : Prop where
  lt : b < W.heap.size
  c0 : W.cell? ⟨b, 0, none⟩ = some vL
  c1 : W.cell? ⟨b, 1, none⟩ = some vS
  c2 : W.cell? ⟨b, 2, none⟩ = some vO
theorem Plain.DC.below {b : Nat} {vL vS vO : Value} {W W' : World} (h : DC b vL vS vO W) (hb : Below W.heap.size W W') : DC b vL vS vO W' := ⟨Nat.lt_of_lt_of_le h.lt hb.size, bcl hb h.lt h.c0, bcl hb h.lt h.c1, bcl hb h.lt h.c2⟩
theorem Plain.DC.offP {b : Nat} {vL vS vO : Value} {W W' : World} {p : Nat → Prop} (h : DC b vL vS vO W) (ho : OnlyP p W W') (hp : ¬ p b) : DC b vL vS vO W' := by
  have hb := ho.block b h.lt hp
  exact ⟨Nat.lt_of_lt_of_le h.lt ho.size, (World.cell?_of_block (a := ⟨b, 0, none⟩) hb).trans h.c0, (World.cell?_of_block (a := ⟨b, 1, none⟩) hb).trans h.c1, (World.cell?_of_block (a := ⟨b, 2, none⟩) hb).trans h.c2⟩
theorem Plain.DC.new (W : World) (a b c : Option Addr) (n m k i j l : Nat) : DC W.heap.size (.slice a n i) (.slice b m j) (.slice c k l) (W.alloc (.cells #[.slice a n i, .slice b m j, .slice c k l] 30)) := ⟨by simp, by simp [go_sem], by simp [go_sem], by simp [go_sem]⟩
end Go.Proofs.YtliklijcdcfomaaGreat

