/- The texts of entries, by both programs. -/
import Derived.Test.YtiakhgafibgpgaaDoorTxt
import Derived.Test.YtiakhgafibgpgaaDoorWfI
import Derived.Test.YtiakhgafibgpgaaDoorWfS
import Derived.Test.YtiakhgafibgpgaaDoorEntK
import Derived.Deep.RegionHeld3
namespace Go.Proofs.YtiakhgafibgpgaaDoor
open Go.RowKit Plain
set_option linter.unusedVariables false

def Plain.entT (t k : Int) (b : ByteArray) : ByteArray := if entB t k b then frameB 2 (putS t ++ putS k ++ putT b) else ByteArray.empty
theorem Plain.str_add {a b : ByteArray} (W : World) (h : a.size + b.size ≤ 1000000000000) : (Op.stringOp .add a b).run Tryd.prog W = .ok (.string (a ++ b)) W := by
  have h1 : ¬ ((a.size + b.size : Nat) : Int) > IntKind.i64.max := by rw [show IntKind.i64.max = 9223372036854775807 from rfl]; omega
  unfold Op.stringOp
  simp only [if_neg h1]
  rfl
namespace Plain
theorem entB_sizes {t k : Int} {b : ByteArray} (h : entB t k b = true) : (putS t ++ putS k ++ putT b).size ≤ 1000000 := by
  obtain ⟨_, _, _, _, hb⟩ := entB_yes h
  have h1 := putS_size t
  have h2 := putS_size k
  have h3 := putS_size (b.size : Int)
  unfold putT
  rw [if_pos (by omega), ByteArray.size_append, ByteArray.size_append, ByteArray.size_append]
  omega
end Plain

set_option maxRecDepth 10000 in
set_option maxHeartbeats 1000000 in
theorem impl_EntryText (t k : Int) (b : ByteArray) (w : World) (hb : b.size ≤ 1000000000000) :
    Calls Tryd.prog 26 #[.agg #[.int .i64 t, .int .i64 k, .string b]] w fun e w' => e = .returned (.string (entT t k b)) ∧ Below w.heap.size w w' := by
  obtain ⟨W0, hW0⟩ : ∃ W0, W0 = w.alloc (.cells #[.int .i64 t, .int .i64 k, .string b] 45) := ⟨_, rfl⟩
  have hb0 : Below w.heap.size w W0 := by rw [hW0]; exact bel1 _ _
  have hlt : w.heap.size < W0.heap.size := by rw [hW0]; simp
  have c0 : W0.cell? ⟨w.heap.size, 0, none⟩ = some (.int .i64 t) := by rw [hW0]; simp [go_sem]
  have c1 : W0.cell? ⟨w.heap.size, 1, none⟩ = some (.int .i64 k) := by rw [hW0]; simp [go_sem]
  have c2 : W0.cell? ⟨w.heap.size, 2, none⟩ = some (.string b) := by rw [hW0]; simp [go_sem]
  have HC := hide (fun (W : World) (hW : Below W0.heap.size W0 W) => And.intro (bcl hW hlt c0) (And.intro (bcl hW hlt c1) (bcl hW hlt c2)))
  have HFIN := hide (fun (W : World) (hW : Below W0.heap.size W0 W) => belOn hb0 hW)
  have HW0 := hide hW0.symm
  clear hb0 hlt c0 c1 c2 hW0
  unfold entT
  cases he : entB t k b with
  | false =>
    rw [if_neg (by simp)]
    have HE := hide he
    clear he
    go_enter Tryd.func26, Tryd.ntmps26
    go_wp2_with fail
    rw [unhide HW0]
    refine (entryOk_calls t k b W0 hb).mono ?_
    rintro e w1 ⟨rfl, hb1⟩
    rw [unhide HE]
    have HB1 := hide (unhide HFIN _ hb1)
    clear hb1
    go_wp2_with fail
    go_ret
    exact ⟨rfl, unhide HB1⟩
  | true =>
    rw [if_pos rfl]
    have HE := hide he
    have hsz := entB_sizes he
    have hsb := (entB_yes he).2.2.2.2
    obtain ⟨A, hA⟩ : ∃ A, putS t = A := ⟨_, rfl⟩
    obtain ⟨C, hC⟩ : ∃ C, putS k = C := ⟨_, rfl⟩
    obtain ⟨D, hD⟩ : ∃ D, putT b = D := ⟨_, rfl⟩
    have H1 := hide (fun W => impl_PutNumber t W)
    have H2 := hide (fun W => impl_PutNumber k W)
    have H3 := hide (fun W => impl_PutText b W hb)
    rw [hA, hC, hD] at hsz ⊢
    rw [hA] at H1
    rw [hC] at H2
    rw [hD] at H3
    rw [ByteArray.size_append, ByteArray.size_append] at hsz
    have HZ := hide hsz
    have hA1 : A.size ≤ 1000000 := by omega
    have hC1 : C.size ≤ 1000000 := by omega
    have hD1 : D.size ≤ 1000000 := by omega
    clear he hA hC hD hsz
    go_enter Tryd.func26, Tryd.ntmps26
    go_wp2_with fail
    rw [unhide HW0]
    refine (entryOk_calls t k b W0 hb).mono ?_
    rintro e w1 ⟨rfl, hb1⟩
    rw [unhide HE]
    have HB1 := hide hb1
    obtain ⟨q0, q1, q2⟩ := unhide HC _ hb1
    clear hb1
    have l1 : w.heap.size < w1.heap.size := lt_of_cell q0
    have hAC : (A ++ C).size ≤ 3000000 := by rw [ByteArray.size_append]; omega
    have e1 := fun W => str_add (a := A) (b := C) W (by omega)
    have e2 := fun W => str_add (a := A ++ C) (b := D) W (by omega)
    have HWF := hide (fun W => impl_WriteFrame 2 (A ++ C ++ D) W (by have := unhide HZ; rw [ByteArray.size_append, ByteArray.size_append]; omega))
    go_wp2_with fail
    go_region_held3 (fun w' => w'.cell? ⟨w.heap.size, 0, none⟩ = some (.int .i64 t) ∧ w'.cell? ⟨w.heap.size, 1, none⟩ = some (.int .i64 k) ∧ w'.cell? ⟨w.heap.size, 2, none⟩ = some (.string b)) (go_keep) (first
      | (go_at_call_of 21 t; refine (unhide H1 _).mono ?_; rintro e w2 ⟨rfl, hb2⟩; have r0 := bcl (bOfDrew hb2) l1 q0; have r1 := bcl (bOfDrew hb2) l1 q1; have r2 := bcl (bOfDrew hb2) l1 q2; have l2 := lt_of_cell r0)
      | (go_at_call_of 21 k; refine (unhide H2 _).mono ?_; rintro e w3 ⟨rfl, hb3⟩; have s0 := bcl hb3 l2 r0; have s1 := bcl hb3 l2 r1; have s2 := bcl hb3 l2 r2; have l3 := lt_of_cell s0)
      | (go_at_call 22; refine (unhide H3 _).mono ?_; rintro e w4 ⟨rfl, hb4⟩; have t0 := bcl hb4 l3 s0; have t1 := bcl hb4 l3 s1; have t2 := bcl hb4 l3 s2; have l4 := lt_of_cell t0)
      | (go_at_call 45; refine (unhide HWF _).mono ?_; rintro e w5 ⟨rfl, hb5⟩; have v0 := bcl hb5 l4 t0; have v1 := bcl hb5 l4 t1; have v2 := bcl hb5 l4 t2))
    all_goals (try go_wp2_with fail)
    all_goals (try go_ret)
    all_goals exact ⟨rfl, unhide HFIN _ (belOn (belOn (belOn (belOn (unhide HB1) (bOfDrew hb2)) hb3) hb4) hb5)⟩

set_option maxRecDepth 10000 in
set_option maxHeartbeats 1000000 in
theorem spec_EntryText (t k : Int) (b : ByteArray) (w : World) (hb : b.size ≤ 1000000000000) :
    Calls Tryd.prog 15 #[.agg #[.int .i64 t, .int .i64 k, .string b]] w fun e w' => e = .returned (.string (entT t k b)) ∧ Below w.heap.size w w' := by
  obtain ⟨W0, hW0⟩ : ∃ W0, W0 = w.alloc (.cells #[.int .i64 t, .int .i64 k, .string b] 45) := ⟨_, rfl⟩
  have hb0 : Below w.heap.size w W0 := by rw [hW0]; exact bel1 _ _
  have hlt : w.heap.size < W0.heap.size := by rw [hW0]; simp
  have c0 : W0.cell? ⟨w.heap.size, 0, none⟩ = some (.int .i64 t) := by rw [hW0]; simp [go_sem]
  have c1 : W0.cell? ⟨w.heap.size, 1, none⟩ = some (.int .i64 k) := by rw [hW0]; simp [go_sem]
  have c2 : W0.cell? ⟨w.heap.size, 2, none⟩ = some (.string b) := by rw [hW0]; simp [go_sem]
  have HC := hide (fun (W : World) (hW : Below W0.heap.size W0 W) => And.intro (bcl hW hlt c0) (And.intro (bcl hW hlt c1) (bcl hW hlt c2)))
  have HFIN := hide (fun (W : World) (hW : Below W0.heap.size W0 W) => belOn hb0 hW)
  have HW0 := hide hW0.symm
  clear hb0 hlt c0 c1 c2 hW0
  unfold entT
  cases he : entB t k b with
  | false =>
    rw [if_neg (by simp)]
    have HE := hide he
    clear he
    go_enter Tryd.func15, Tryd.ntmps15
    go_wp2_with fail
    rw [unhide HW0]
    refine (l5Entry_calls t k b W0 hb).mono ?_
    rintro e w1 ⟨rfl, hb1⟩
    rw [unhide HE]
    have HB1 := hide (unhide HFIN _ hb1)
    clear hb1
    go_wp2_with fail
    go_ret
    exact ⟨rfl, unhide HB1⟩
  | true =>
    rw [if_pos rfl]
    have HE := hide he
    have hsz := entB_sizes he
    have hsb := (entB_yes he).2.2.2.2
    obtain ⟨A, hA⟩ : ∃ A, putS t = A := ⟨_, rfl⟩
    obtain ⟨C, hC⟩ : ∃ C, putS k = C := ⟨_, rfl⟩
    obtain ⟨D, hD⟩ : ∃ D, putT b = D := ⟨_, rfl⟩
    have H1 := hide (fun W => spec_PutNumber t W)
    have H2 := hide (fun W => spec_PutNumber k W)
    have H3 := hide (fun W => spec_PutText b W hb)
    rw [hA, hC, hD] at hsz ⊢
    rw [hA] at H1
    rw [hC] at H2
    rw [hD] at H3
    rw [ByteArray.size_append, ByteArray.size_append] at hsz
    have HZ := hide hsz
    have hA1 : A.size ≤ 1000000 := by omega
    have hC1 : C.size ≤ 1000000 := by omega
    have hD1 : D.size ≤ 1000000 := by omega
    clear he hA hC hD hsz
    go_enter Tryd.func15, Tryd.ntmps15
    go_wp2_with fail
    rw [unhide HW0]
    refine (l5Entry_calls t k b W0 hb).mono ?_
    rintro e w1 ⟨rfl, hb1⟩
    rw [unhide HE]
    have HB1 := hide hb1
    obtain ⟨q0, q1, q2⟩ := unhide HC _ hb1
    clear hb1
    have l1 : w.heap.size < w1.heap.size := lt_of_cell q0
    have hAC : (A ++ C).size ≤ 3000000 := by rw [ByteArray.size_append]; omega
    have e1 := fun W => str_add (a := A) (b := C) W (by omega)
    have e2 := fun W => str_add (a := A ++ C) (b := D) W (by omega)
    have HWF := hide (fun W => spec_WriteFrame 2 (A ++ C ++ D) W (by have := unhide HZ; rw [ByteArray.size_append, ByteArray.size_append]; omega))
    go_wp2_with fail
    go_region_held3 (fun w' => w'.cell? ⟨w.heap.size, 0, none⟩ = some (.int .i64 t) ∧ w'.cell? ⟨w.heap.size, 1, none⟩ = some (.int .i64 k) ∧ w'.cell? ⟨w.heap.size, 2, none⟩ = some (.string b)) (go_keep) (first
      | (go_at_call_of 12 t; refine (unhide H1 _).mono ?_; rintro e w2 ⟨rfl, hb2⟩; have r0 := bcl (bOfDrew hb2) l1 q0; have r1 := bcl (bOfDrew hb2) l1 q1; have r2 := bcl (bOfDrew hb2) l1 q2; have l2 := lt_of_cell r0)
      | (go_at_call_of 12 k; refine (unhide H2 _).mono ?_; rintro e w3 ⟨rfl, hb3⟩; have s0 := bcl hb3 l2 r0; have s1 := bcl hb3 l2 r1; have s2 := bcl hb3 l2 r2; have l3 := lt_of_cell s0)
      | (go_at_call 13; refine (unhide H3 _).mono ?_; rintro e w4 ⟨rfl, hb4⟩; have t0 := bcl hb4 l3 s0; have t1 := bcl hb4 l3 s1; have t2 := bcl hb4 l3 s2; have l4 := lt_of_cell t0)
      | (go_at_call 35; refine (unhide HWF _).mono ?_; rintro e w5 ⟨rfl, hb5⟩; have v0 := bcl hb5 l4 t0; have v1 := bcl hb5 l4 t1; have v2 := bcl hb5 l4 t2))
    all_goals (try go_wp2_with fail)
    all_goals (try go_ret)
    all_goals exact ⟨rfl, unhide HFIN _ (belOn (belOn (belOn (belOn (unhide HB1) (bOfDrew hb2)) hb3) hb4) hb5)⟩
end Go.Proofs.YtiakhgafibgpgaaDoor
