/- Texts of one kind, put together. -/
import Derived.Test.YtjiclgcohpkkjaaGreatDoorGzAF
import Derived.Test.YtjiclgcohpkkjaaGreatDoorGzAH
import Derived.Deep.RegionHeld3
import Derived.Test.YtjiclgcohpkkjaaGreatDoorGzAA
import Derived.Test.YtjiclgcohpkkjaaGreatDoorWfI
import Derived.Test.YtjiclgcohpkkjaaGreatDoorWfS
import Derived.Deep.QuietTactic
import Derived.BigQuiet

/- Messages, as the exact laws copy, measure and compare them. -/
namespace Go.Proofs.YtjiclgcohpkkjaaGreatDoor
open Go.RowKit Plain
set_option linter.unusedVariables false

namespace Plain
/-- A message among the arguments. -/
structure MsgArg (W : World) (tx : ByteArray) (ae : Option Addr) (ne ce : Nat) (es : List Ent) (av : Option Addr) (nv cv : Nat) (v : List Int) (al : Option Addr) (nl cl : Nat) (l : List Int) : Prop where
  t : tx.size ≤ maxLen
  e : ArgRow 3 entL goodE W ae ne ce es
  c : ConfArg W av nv cv v al nl cl l
theorem MsgArg.below {W W' : World} {tx : ByteArray} {ae : Option Addr} {ne ce : Nat} {es : List Ent} {av : Option Addr} {nv cv : Nat} {v : List Int} {al : Option Addr} {nl cl : Nat} {l : List Int} (h : MsgArg W tx ae ne ce es av nv cv v al nl cl l) (hb : Below W.heap.size W W') : MsgArg W' tx ae ne ce es av nv cv v al nl cl l :=
  ⟨h.t, ⟨h.e.len, h.e.le, h.e.good, h.e.row.below hb⟩, h.c.below hb⟩
/-- How many bytes and elements a message has. -/
def totM (tx : ByteArray) (es : List Ent) (nv nl : Nat) : Nat := (es.length + totE es) + (tx.size + (nv + nl))
end Plain
/-- What toMsg leaves. -/
def ToMsg (kd fr tt tm ix lg cm : Int) (ok : Bool) (tx : ByteArray) (ne : Nat) (es : List Ent) (nv : Nat) (v : List Int) (nl : Nat) (l : List Int) (w : World) (e : Ending) (w' : World) : Prop :=
  ∃ g1 g2 g3, e = .returned (.agg #[.int .i64 kd, .int .i64 fr, .int .i64 tt, .int .i64 tm, .int .i64 ix, .int .i64 lg, .slice (some ⟨g1, 0, none⟩) ne ne, .int .i64 cm, .bool ok, .string tx, .slice (some ⟨g2, 0, none⟩) nv nv, .slice (some ⟨g3, 0, none⟩) nl nl]) ∧ OwnR entE w' w.heap.size (.slice (some ⟨g1, 0, none⟩) ne ne) es ∧ OwnR i64E w' w.heap.size (.slice (some ⟨g2, 0, none⟩) nv nv) v ∧ OwnR i64E w' w.heap.size (.slice (some ⟨g3, 0, none⟩) nl nl) l ∧ Below w.heap.size w w'





set_option maxRecDepth 10000 in
set_option maxHeartbeats 4000000 in
theorem eqMsg_calls (kd fr tt tm ix lg cm : Int) (ok : Bool) (tx : ByteArray) (ae be : Option Addr) (ne ce de : Nat) (es : List Ent) (av bv : Option Addr) (nv cv dv : Nat) (v : List Int) (al bl : Option Addr) (nl cl dl : Nat) (l : List Int) (w : World) (hn : es.length = ne) (hn2 : ne ≤ 1048576)
    (h1 : RowAt entE w ae es) (h2 : RowAt entE w be es) (c1 : ConfAt w av nv v al nl l) (c2 : ConfAt w bv nv v bl nl l) :
    Calls Tryz.prog 7 #[.agg #[.int .i64 kd, .int .i64 fr, .int .i64 tt, .int .i64 tm, .int .i64 ix, .int .i64 lg, .slice ae ne ce, .int .i64 cm, .bool ok, .string tx, .slice av nv cv, .slice al nl cl], .agg #[.int .i64 kd, .int .i64 fr, .int .i64 tt, .int .i64 tm, .int .i64 ix, .int .i64 lg, .slice be ne de, .int .i64 cm, .bool ok, .string tx, .slice bv nv dv, .slice bl nl dl]] w fun e w' => e = .returned (.bool true) ∧ Below w.heap.size w w' := by
  obtain ⟨W0, hW0⟩ : ∃ W0, W0 = ((w.alloc (.cells #[.int .i64 kd, .int .i64 fr, .int .i64 tt, .int .i64 tm, .int .i64 ix, .int .i64 lg, .slice ae ne ce, .int .i64 cm, .bool ok, .string tx, .slice av nv cv, .slice al nl cl] 27)).alloc (.cells #[.int .i64 kd, .int .i64 fr, .int .i64 tt, .int .i64 tm, .int .i64 ix, .int .i64 lg, .slice be ne de, .int .i64 cm, .bool ok, .string tx, .slice bv nv dv, .slice bl nl dl] 27)) := ⟨_, rfl⟩
  have hb0 : Below w.heap.size w W0 := by rw [hW0]; exact belOn (bel1 _ _) (bel1 _ _)
  have B0 : Blk W0 w.heap.size [.int .i64 kd, .int .i64 fr, .int .i64 tt, .int .i64 tm, .int .i64 ix, .int .i64 lg, .slice ae ne ce, .int .i64 cm, .bool ok, .string tx, .slice av nv cv, .slice al nl cl] := by rw [hW0]; exact (Blk.new w _ _).alloc _
  have D0 : Blk W0 (w.heap.size + 1) [.int .i64 kd, .int .i64 fr, .int .i64 tt, .int .i64 tm, .int .i64 ix, .int .i64 lg, .slice be ne de, .int .i64 cm, .bool ok, .string tx, .slice bv nv dv, .slice bl nl dl] := by
    rw [hW0]
    have := Blk.new (w.alloc (.cells #[.int .i64 kd, .int .i64 fr, .int .i64 tt, .int .i64 tm, .int .i64 ix, .int .i64 lg, .slice ae ne ce, .int .i64 cm, .bool ok, .string tx, .slice av nv cv, .slice al nl cl] 27)) [.int .i64 kd, .int .i64 fr, .int .i64 tt, .int .i64 tm, .int .i64 ix, .int .i64 lg, .slice be ne de, .int .i64 cm, .bool ok, .string tx, .slice bv nv dv, .slice bl nl dl] 27
    simpa using this
  have HC := hide (fun (W : World) (hW : Below W0.heap.size W0 W) => And.intro (And.intro ((B0.call hW).c 7 (by simp)) (And.intro ((B0.call hW).c 8 (by simp)) (And.intro ((B0.call hW).c 9 (by simp)) (And.intro ((B0.call hW).c 10 (by simp)) ((B0.call hW).c 11 (by simp)))))) (And.intro ((D0.call hW).c 7 (by simp)) (And.intro ((D0.call hW).c 8 (by simp)) (And.intro ((D0.call hW).c 9 (by simp)) (And.intro ((D0.call hW).c 10 (by simp)) ((D0.call hW).c 11 (by simp)))))))
  have HFIN := hide (fun (W : World) (hW : Below W0.heap.size W0 W) => belOn hb0 hW)
  have HW0 := hide hW0.symm
  have H1 := hide (eqEntryS_calls ae be ce de ne es W0 hn (by omega) (h1.below hb0) (h2.below hb0))
  have H2 := hide (fun (W : World) (hW : Below W0.heap.size W0 W) => eqConf_calls av al bv bl nv nl cv cl dv dl v l W (c1.below (belOn hb0 hW)) (c2.below (belOn hb0 hW)))
  clear h1 h2 c1 c2 hb0 B0 D0 hW0 hn hn2
  go_enter Tryz.func7, Tryz.ntmps7
  go_wp2_with fail
  rw [unhide HW0]
  refine (unhide H1).mono ?_
  rintro e w1 ⟨rfl, hb1⟩
  have HB1 := hide hb1
  obtain ⟨⟨q7, q8, q9, q10, q11⟩, p7, p8, p9, p10, p11⟩ := unhide HC _ hb1
  clear hb1
  go_wp2_with fail
  refine (unhide H2 _ (unhide HB1)).mono ?_
  rintro e w2 ⟨rfl, hb2⟩
  have HB2 := hide (belOn (unhide HB1) hb2)
  clear hb2
  go_wp2_with fail
  go_ret
  exact ⟨rfl, unhide HFIN _ (unhide HB2)⟩
end Go.Proofs.YtjiclgcohpkkjaaGreatDoor


/- Entries of a journal: whether they are right, by both programs. -/
namespace Go.Proofs.YtjiclgcohpkkjaaGreatDoor
open Go.RowKit Plain
set_option linter.unusedVariables false

def Plain.entB (t k : Int) (b : ByteArray) : Bool := ((decide (1 ≤ t) && decide (t ≤ 1000000000000)) && (decide (0 ≤ k) && decide (k ≤ 9))) && decide (b.size ≤ 4000)
theorem Plain.entB_yes {t k : Int} {b : ByteArray} (h : entB t k b = true) : 1 ≤ t ∧ t ≤ 1000000000000 ∧ 0 ≤ k ∧ k ≤ 9 ∧ b.size ≤ 4000 := by
  unfold entB at h
  simp at h
  omega

set_option maxHeartbeats 1000000 in
theorem entryOk_calls (t k : Int) (b : ByteArray) (w : World) (hb : b.size ≤ 1000000000000) :
    Calls Tryz.prog 80 #[.agg #[.int .i64 t, .int .i64 k, .string b]] w fun e w' => e = .returned (.bool (entB t k b)) ∧ Below w.heap.size w w' := by
  obtain ⟨R, hR⟩ : ∃ R, entB t k b = R := ⟨_, rfl⟩
  rw [hR]
  unfold entB at hR
  have HR := hide hR
  clear hR
  go_enter Tryz.func80, Tryz.ntmps80
  go_wp2_with fail
  all_goals go_ret
  all_goals refine ⟨?_, bel1 _ _⟩
  all_goals (show Ending.returned (.bool _) = Ending.returned (.bool _); rw [← unhide HR]; congr 2; rw [Bool.eq_iff_iff]; simp; try omega)

set_option maxHeartbeats 1000000 in
theorem l5Entry_calls (t k : Int) (b : ByteArray) (w : World) (hb : b.size ≤ 1000000000000) :
    Calls Tryz.prog 58 #[.agg #[.int .i64 t, .int .i64 k, .string b]] w fun e w' => e = .returned (.bool (entB t k b)) ∧ Below w.heap.size w w' := by
  obtain ⟨R, hR⟩ : ∃ R, entB t k b = R := ⟨_, rfl⟩
  rw [hR]
  unfold entB at hR
  have HR := hide hR
  clear hR
  go_enter Tryz.func58, Tryz.ntmps58
  go_wp2_with (go_at_call 46; refine (l1In_calls _ _ _ _).mono ?_; rintro e w' ⟨rfl, rfl⟩)
  all_goals go_ret
  all_goals refine ⟨?_, bel1 _ _⟩
  all_goals (show Ending.returned (.bool _) = Ending.returned (.bool _); rw [← unhide HR]; congr 2; rw [Bool.eq_iff_iff]; simp; try omega)

end Go.Proofs.YtjiclgcohpkkjaaGreatDoor


/- The texts of entries, by both programs. -/
namespace Go.Proofs.YtjiclgcohpkkjaaGreatDoor
open Go.RowKit Plain
set_option linter.unusedVariables false

def Plain.entT (t k : Int) (b : ByteArray) : ByteArray := if entB t k b then frameB 2 (putS t ++ putS k ++ putT b) else ByteArray.empty
theorem Plain.str_add {a b : ByteArray} (W : World) (h : a.size + b.size ≤ 1000000000000) : (Op.stringOp .add a b).run Tryz.prog W = .ok (.string (a ++ b)) W := by
  have h1 : ¬ ((a.size + b.size : Nat) : Int) > IntKind.i64.max := by rw [show IntKind.i64.max = 9223372036854775807 from rfl]; omega
  unfold Op.stringOp
  simp only [if_neg h1]
  rfl
namespace Plain
theorem entB_sizes {t k : Int} {b : ByteArray} (h : entB t k b = true) : (putS t ++ putS k ++ putT b).size ≤ 1000000 := by
  obtain ⟨_, _, _, _, hb⟩ := entB_yes h
  have h1 := putS_size t
  have h2 := putS_size k
  have h3 := putS_size (b.size : Int)
  unfold putT
  rw [if_pos (by omega), ByteArray.size_append, ByteArray.size_append, ByteArray.size_append]
  omega
end Plain

set_option maxRecDepth 10000 in
set_option maxHeartbeats 1000000 in
theorem impl_EntryText (t k : Int) (b : ByteArray) (w : World) (hb : b.size ≤ 1000000000000) :
    Calls Tryz.prog 44 #[.agg #[.int .i64 t, .int .i64 k, .string b]] w fun e w' => e = .returned (.string (entT t k b)) ∧ Below w.heap.size w w' := by
  obtain ⟨W0, hW0⟩ : ∃ W0, W0 = w.alloc (.cells #[.int .i64 t, .int .i64 k, .string b] 51) := ⟨_, rfl⟩
  have hb0 : Below w.heap.size w W0 := by rw [hW0]; exact bel1 _ _
  have hlt : w.heap.size < W0.heap.size := by rw [hW0]; simp
  have c0 : W0.cell? ⟨w.heap.size, 0, none⟩ = some (.int .i64 t) := by rw [hW0]; simp [go_sem]
  have c1 : W0.cell? ⟨w.heap.size, 1, none⟩ = some (.int .i64 k) := by rw [hW0]; simp [go_sem]
  have c2 : W0.cell? ⟨w.heap.size, 2, none⟩ = some (.string b) := by rw [hW0]; simp [go_sem]
  have HC := hide (fun (W : World) (hW : Below W0.heap.size W0 W) => And.intro (bcl hW hlt c0) (And.intro (bcl hW hlt c1) (bcl hW hlt c2)))
  have HFIN := hide (fun (W : World) (hW : Below W0.heap.size W0 W) => belOn hb0 hW)
  have HW0 := hide hW0.symm
  clear hb0 hlt c0 c1 c2 hW0
  unfold entT
  cases he : entB t k b with
  | false =>
    rw [if_neg (by simp)]
    have HE := hide he
    clear he
    go_enter Tryz.func44, Tryz.ntmps44
    go_wp2_with fail
    rw [unhide HW0]
    refine (entryOk_calls t k b W0 hb).mono ?_
    rintro e w1 ⟨rfl, hb1⟩
    rw [unhide HE]
    have HB1 := hide (unhide HFIN _ hb1)
    clear hb1
    go_wp2_with fail
    go_ret
    exact ⟨rfl, unhide HB1⟩
  | true =>
    rw [if_pos rfl]
    have HE := hide he
    have hsz := entB_sizes he
    have hsb := (entB_yes he).2.2.2.2
    obtain ⟨A, hA⟩ : ∃ A, putS t = A := ⟨_, rfl⟩
    obtain ⟨C, hC⟩ : ∃ C, putS k = C := ⟨_, rfl⟩
    obtain ⟨D, hD⟩ : ∃ D, putT b = D := ⟨_, rfl⟩
    have H1 := hide (fun W => impl_PutNumber t W)
    have H2 := hide (fun W => impl_PutNumber k W)
    have H3 := hide (fun W => impl_PutText b W hb)
    rw [hA, hC, hD] at hsz ⊢
    rw [hA] at H1
    rw [hC] at H2
    rw [hD] at H3
    rw [ByteArray.size_append, ByteArray.size_append] at hsz
    have HZ := hide hsz
    have hA1 : A.size ≤ 1000000 := by omega
    have hC1 : C.size ≤ 1000000 := by omega
    have hD1 : D.size ≤ 1000000 := by omega
    clear he hA hC hD hsz
    go_enter Tryz.func44, Tryz.ntmps44
    go_wp2_with fail
    rw [unhide HW0]
    refine (entryOk_calls t k b W0 hb).mono ?_
    rintro e w1 ⟨rfl, hb1⟩
    rw [unhide HE]
    have HB1 := hide hb1
    obtain ⟨q0, q1, q2⟩ := unhide HC _ hb1
    clear hb1
    have l1 : w.heap.size < w1.heap.size := lt_of_cell q0
    have hAC : (A ++ C).size ≤ 3000000 := by rw [ByteArray.size_append]; omega
    have e1 := fun W => str_add (a := A) (b := C) W (by omega)
    have e2 := fun W => str_add (a := A ++ C) (b := D) W (by omega)
    have HWF := hide (fun W => impl_WriteFrame 2 (A ++ C ++ D) W (by have := unhide HZ; rw [ByteArray.size_append, ByteArray.size_append]; omega))
    go_wp2_with fail
    go_region_held3 (fun w' => w'.cell? ⟨w.heap.size, 0, none⟩ = some (.int .i64 t) ∧ w'.cell? ⟨w.heap.size, 1, none⟩ = some (.int .i64 k) ∧ w'.cell? ⟨w.heap.size, 2, none⟩ = some (.string b)) (go_keep) (first
      | (go_at_call_of 39 t; refine (unhide H1 _).mono ?_; rintro e w2 ⟨rfl, hb2⟩; have r0 := bcl (bOfDrew hb2) l1 q0; have r1 := bcl (bOfDrew hb2) l1 q1; have r2 := bcl (bOfDrew hb2) l1 q2; have l2 := lt_of_cell r0)
      | (go_at_call_of 39 k; refine (unhide H2 _).mono ?_; rintro e w3 ⟨rfl, hb3⟩; have s0 := bcl hb3 l2 r0; have s1 := bcl hb3 l2 r1; have s2 := bcl hb3 l2 r2; have l3 := lt_of_cell s0)
      | (go_at_call 40; refine (unhide H3 _).mono ?_; rintro e w4 ⟨rfl, hb4⟩; have t0 := bcl hb4 l3 s0; have t1 := bcl hb4 l3 s1; have t2 := bcl hb4 l3 s2; have l4 := lt_of_cell t0)
      | (go_at_call 83; refine (unhide HWF _).mono ?_; rintro e w5 ⟨rfl, hb5⟩; have v0 := bcl hb5 l4 t0; have v1 := bcl hb5 l4 t1; have v2 := bcl hb5 l4 t2))
    all_goals (try go_wp2_with fail)
    all_goals (try go_ret)
    all_goals exact ⟨rfl, unhide HFIN _ (belOn (belOn (belOn (belOn (unhide HB1) (bOfDrew hb2)) hb3) hb4) hb5)⟩

set_option maxRecDepth 10000 in
set_option maxHeartbeats 1000000 in
theorem spec_EntryText (t k : Int) (b : ByteArray) (w : World) (hb : b.size ≤ 1000000000000) :
    Calls Tryz.prog 50 #[.agg #[.int .i64 t, .int .i64 k, .string b]] w fun e w' => e = .returned (.string (entT t k b)) ∧ Below w.heap.size w w' := by
  obtain ⟨W0, hW0⟩ : ∃ W0, W0 = w.alloc (.cells #[.int .i64 t, .int .i64 k, .string b] 51) := ⟨_, rfl⟩
  have hb0 : Below w.heap.size w W0 := by rw [hW0]; exact bel1 _ _
  have hlt : w.heap.size < W0.heap.size := by rw [hW0]; simp
  have c0 : W0.cell? ⟨w.heap.size, 0, none⟩ = some (.int .i64 t) := by rw [hW0]; simp [go_sem]
  have c1 : W0.cell? ⟨w.heap.size, 1, none⟩ = some (.int .i64 k) := by rw [hW0]; simp [go_sem]
  have c2 : W0.cell? ⟨w.heap.size, 2, none⟩ = some (.string b) := by rw [hW0]; simp [go_sem]
  have HC := hide (fun (W : World) (hW : Below W0.heap.size W0 W) => And.intro (bcl hW hlt c0) (And.intro (bcl hW hlt c1) (bcl hW hlt c2)))
  have HFIN := hide (fun (W : World) (hW : Below W0.heap.size W0 W) => belOn hb0 hW)
  have HW0 := hide hW0.symm
  clear hb0 hlt c0 c1 c2 hW0
  unfold entT
  cases he : entB t k b with
  | false =>
    rw [if_neg (by simp)]
    have HE := hide he
    clear he
    go_enter Tryz.func50, Tryz.ntmps50
    go_wp2_with fail
    rw [unhide HW0]
    refine (l5Entry_calls t k b W0 hb).mono ?_
    rintro e w1 ⟨rfl, hb1⟩
    rw [unhide HE]
    have HB1 := hide (unhide HFIN _ hb1)
    clear hb1
    go_wp2_with fail
    go_ret
    exact ⟨rfl, unhide HB1⟩
  | true =>
    rw [if_pos rfl]
    have HE := hide he
    have hsz := entB_sizes he
    have hsb := (entB_yes he).2.2.2.2
    obtain ⟨A, hA⟩ : ∃ A, putS t = A := ⟨_, rfl⟩
    obtain ⟨C, hC⟩ : ∃ C, putS k = C := ⟨_, rfl⟩
    obtain ⟨D, hD⟩ : ∃ D, putT b = D := ⟨_, rfl⟩
    have H1 := hide (fun W => spec_PutNumber t W)
    have H2 := hide (fun W => spec_PutNumber k W)
    have H3 := hide (fun W => spec_PutText b W hb)
    rw [hA, hC, hD] at hsz ⊢
    rw [hA] at H1
    rw [hC] at H2
    rw [hD] at H3
    rw [ByteArray.size_append, ByteArray.size_append] at hsz
    have HZ := hide hsz
    have hA1 : A.size ≤ 1000000 := by omega
    have hC1 : C.size ≤ 1000000 := by omega
    have hD1 : D.size ≤ 1000000 := by omega
    clear he hA hC hD hsz
    go_enter Tryz.func50, Tryz.ntmps50
    go_wp2_with fail
    rw [unhide HW0]
    refine (l5Entry_calls t k b W0 hb).mono ?_
    rintro e w1 ⟨rfl, hb1⟩
    rw [unhide HE]
    have HB1 := hide hb1
    obtain ⟨q0, q1, q2⟩ := unhide HC _ hb1
    clear hb1
    have l1 : w.heap.size < w1.heap.size := lt_of_cell q0
    have hAC : (A ++ C).size ≤ 3000000 := by rw [ByteArray.size_append]; omega
    have e1 := fun W => str_add (a := A) (b := C) W (by omega)
    have e2 := fun W => str_add (a := A ++ C) (b := D) W (by omega)
    have HWF := hide (fun W => spec_WriteFrame 2 (A ++ C ++ D) W (by have := unhide HZ; rw [ByteArray.size_append, ByteArray.size_append]; omega))
    go_wp2_with fail
    go_region_held3 (fun w' => w'.cell? ⟨w.heap.size, 0, none⟩ = some (.int .i64 t) ∧ w'.cell? ⟨w.heap.size, 1, none⟩ = some (.int .i64 k) ∧ w'.cell? ⟨w.heap.size, 2, none⟩ = some (.string b)) (go_keep) (first
      | (go_at_call_of 47 t; refine (unhide H1 _).mono ?_; rintro e w2 ⟨rfl, hb2⟩; have r0 := bcl (bOfDrew hb2) l1 q0; have r1 := bcl (bOfDrew hb2) l1 q1; have r2 := bcl (bOfDrew hb2) l1 q2; have l2 := lt_of_cell r0)
      | (go_at_call_of 47 k; refine (unhide H2 _).mono ?_; rintro e w3 ⟨rfl, hb3⟩; have s0 := bcl hb3 l2 r0; have s1 := bcl hb3 l2 r1; have s2 := bcl hb3 l2 r2; have l3 := lt_of_cell s0)
      | (go_at_call 48; refine (unhide H3 _).mono ?_; rintro e w4 ⟨rfl, hb4⟩; have t0 := bcl hb4 l3 s0; have t1 := bcl hb4 l3 s1; have t2 := bcl hb4 l3 s2; have l4 := lt_of_cell t0)
      | (go_at_call 86; refine (unhide HWF _).mono ?_; rintro e w5 ⟨rfl, hb5⟩; have v0 := bcl hb5 l4 t0; have v1 := bcl hb5 l4 t1; have v2 := bcl hb5 l4 t2))
    all_goals (try go_wp2_with fail)
    all_goals (try go_ret)
    all_goals exact ⟨rfl, unhide HFIN _ (belOn (belOn (belOn (belOn (unhide HB1) (bOfDrew hb2)) hb3) hb4) hb5)⟩
end Go.Proofs.YtjiclgcohpkkjaaGreatDoor


/- Members by the program: right ones, quorums, whether two sets of quorums meet. -/
namespace Go.Proofs.YtjiclgcohpkkjaaGreatDoor
open Go.RowKit Plain
set_option linter.unusedVariables false

namespace Plain
theorem dec_lt (a b : Nat) : decide ((a : Int) < (b : Int)) = decide (a < b) := decide_eq_decide.2 (by omega)
theorem dec_le (a b : Nat) : decide ((a : Int) ≤ (b : Int)) = decide (a ≤ b) := decide_eq_decide.2 (by omega)
theorem maj_le {x m : Nat} (h : popN 64 x / 2 + 1 = m) : m ≤ 1000 := by
  have := popN_le 64 x
  generalize popN 64 x = a at *
  omega
theorem add_small (a b : Nat) (ha : a ≤ 1000) (hb : b ≤ 1000) : wrap64 ((a : Int) + (b : Int)) = ((a + b : Nat) : Int) := by unfold wrap64; omega
theorem add_small2 (a b : Nat) (ha : a ≤ 1000) (hb : b ≤ 1000) : IntKind.i64.wrap ((a : Int) + (b : Int)) = ((a + b : Nat) : Int) := by rw [IntKind.wrap_i64]; omega
end Plain

set_option maxRecDepth 10000 in
set_option maxHeartbeats 1000000 in
theorem impl_ConfOk (av : Option Addr) (nv cv : Nat) (v : List Int) (al : Option Addr) (nl cl : Nat) (l : List Int) (w : World) (h : ConfAt w av nv v al nl l) :
    Calls Tryz.prog 63 #[.agg #[.slice av nv cv, .slice al nl cl]] w fun e w' => e = .returned (.bool (confB v l)) ∧ Below w.heap.size w w' := by
  obtain ⟨W0, hW0⟩ : ∃ W0, W0 = w.alloc (.cells #[.slice av nv cv, .slice al nl cl] 25) := ⟨_, rfl⟩
  have hb0 : Below w.heap.size w W0 := by rw [hW0]; exact bel1 _ _
  have c0 : W0.cell? ⟨w.heap.size, 0, none⟩ = some (.slice av nv cv) := by rw [hW0]; simp [go_sem]
  have c1 : W0.cell? ⟨w.heap.size, 1, none⟩ = some (.slice al nl cl) := by rw [hW0]; simp [go_sem]
  have HC := hide (councilOf_calls av nv cv v al nl cl l W0 (h.below hb0))
  obtain ⟨V, L, e1, -⟩ := councV_is v l
  rw [e1] at HC
  generalize confB v l = R at HC
  have HB0 := hide hb0
  have HW0 := hide hW0.symm
  clear hb0 hW0 h e1
  go_enter Tryz.func63, Tryz.ntmps63
  go_wp2_with fail
  rw [unhide HW0]
  refine (unhide HC).mono ?_
  rintro e w1 ⟨rfl, hb1⟩
  have HB1 := hide (belOn (unhide HB0) hb1)
  clear hb1 c0 c1
  go_wp2_with fail
  go_ret
  exact ⟨rfl, belOn (unhide HB1) (bel1 _ _)⟩







namespace Plain
/-- How many of v are among ids. -/
def among (v ids : List Int) : Nat := (v.filter fun x => decide (x ∈ ids)).length
def quoB (v l ids : List Int) : Bool := confB v l && decide (v.length < 2 * among v ids)
theorem confB_v {v l : List Int} (h : confB v l = true) : okIds 0 v = true ∧ 1 ≤ v.length ∧ v.length ≤ 7 := by
  unfold confB at h
  simp only [Bool.and_eq_true, decide_eq_true_iff] at h
  exact ⟨h.1.1, h.2.1.1, h.2.2.1⟩
theorem among_le (v ids : List Int) : among v ids ≤ v.length := List.length_filter_le _ _
end Plain



namespace Plain
def meetB (v l u k : List Int) : Bool := (confB v l && confB u k) && decide (v.length + u.length - among v u < (v.length / 2 + 1) + (u.length / 2 + 1))
end Plain

end Go.Proofs.YtjiclgcohpkkjaaGreatDoor
