/- Texts of one kind, put together. -/
import Derived.Test.YtakalfckhailjaaGreatGAF
import Derived.Deep.DeepCutAuto
import Derived.Test.YtakalfckhailjaaGreatGAD
import Derived.Test.YtakalfckhailjaaGreatGAI
import Derived.Deep.RegionHeld3

/- WriteFrame of the program by its contract. -/
namespace Go.Proofs.YtakalfckhailjaaGreat
open Go.RowKit Plain
set_option linter.unusedVariables false

set_option maxRecDepth 100000 in
set_option maxHeartbeats 16000000 in
theorem impl_WriteFrame (k : Int) (body : ByteArray) (w : World) (hs : body.size ≤ 1000000000000) :
    Calls Tryz.prog 57 #[.agg #[.int .i64 k, .string body]] w fun e w' => e = .returned (.string (frameB k body)) ∧ Below w.heap.size w w' := by
  unfold frameB
  by_cases h : 1 ≤ k ∧ k ≤ 100 ∧ body.size ≤ 20000
  · rw [if_pos h]
    obtain ⟨h1, h2, h3⟩ := h
    have e1 := four_size (body.size : Int)
    have e2 := one_size k
    have hcd := conv_cell k
    have hk8 : IntKind.u8.wrap k = k := by rw [IntKind.wrap_u8']; omega
    have hn32 : IntKind.u32.wrap (body.size : Int) = (body.size : Int) := by rw [IntKind.wrap_u32']; omega
    go_enter Tryz.func57, Tryz.ntmps57
    go_upto_region 3 with fail
    go_cut [3] (fun s3 wx => s3 = .string (sealB k body) ∧ Below w.heap.size w wx)
    case first =>
      go_region_with (go_at_call 95; refine (impl_lowFirst_at _ _ (by omega) (by omega)).mono ?_; rintro e w1 ⟨rfl, rfl⟩)
      all_goals (go_wp2_with fail; go_meet)
      all_goals exact ⟨rfl, by first | exact below_allocs2 1 | exact below_allocs2 2⟩
    case rest =>
    obtain ⟨rfl, hb1⟩ := hcut
    have hss := seal_size k body
    obtain ⟨t, ht⟩ : ∃ t, sealB k body = t := ⟨_, rfl⟩
    rw [ht] at hss ⊢
    clear hcd hk8 hn32 e1 e2
    have hcr := crcI_range t
    have e4 := four_size (crcI t)
    go_wp2_with fail
    refine (impl_Crc _ _ (by omega)).mono ?_
    rintro e w2 ⟨rfl, hb2⟩
    go_wp2_with fail
    refine (impl_lowFirst _ _ hcr.1 hcr.2).mono ?_
    rintro e w3 ⟨rfl, hb3⟩
    go_wp2
    go_ret
    exact ⟨by rw [ht]; rfl, (hb1.trans (hb2.mono hb1.size)).trans (hb3.mono (Nat.le_trans hb1.size hb2.size))⟩
  · rw [if_neg h]
    by_cases h1 : k < 1
    · go_enter Tryz.func57, Tryz.ntmps57
      go_wp2
      go_ret
      exact ⟨rfl, (Below.refl _ _).alloc (Nat.le_refl _) _⟩
    · by_cases h2 : 100 < k
      · go_enter Tryz.func57, Tryz.ntmps57
        go_wp2
        go_ret
        exact ⟨rfl, (Below.refl _ _).alloc (Nat.le_refl _) _⟩
      · have h3 : 20000 < body.size := by omega
        go_enter Tryz.func57, Tryz.ntmps57
        go_wp2
        go_ret
        exact ⟨rfl, (Below.refl _ _).alloc (Nat.le_refl _) _⟩
end Go.Proofs.YtakalfckhailjaaGreat


/- WriteFrame of the specification by its contract. -/
namespace Go.Proofs.YtakalfckhailjaaGreat
open Go.RowKit Plain
set_option linter.unusedVariables false

set_option maxRecDepth 100000 in
set_option maxHeartbeats 16000000 in
theorem spec_WriteFrame (k : Int) (body : ByteArray) (w : World) (hs : body.size ≤ 1000000000000) :
    Calls Tryz.prog 60 #[.agg #[.int .i64 k, .string body]] w fun e w' => e = .returned (.string (frameB k body)) ∧ Below w.heap.size w w' := by
  unfold frameB
  by_cases h : 1 ≤ k ∧ k ≤ 100 ∧ body.size ≤ 20000
  · rw [if_pos h]
    obtain ⟨h1, h2, h3⟩ := h
    have e1 := four_size (body.size : Int)
    have e2 := one_size k
    have hcd := conv_cell k
    have hk8 : IntKind.u8.wrap k = k := by rw [IntKind.wrap_u8']; omega
    have hn32 : IntKind.u32.wrap (body.size : Int) = (body.size : Int) := by rw [IntKind.wrap_u32']; omega
    have hd : (decide (1 ≤ k) && decide (k ≤ 100)) = true := by simp; omega
    go_enter Tryz.func60, Tryz.ntmps60
    go_upto_region 3 with (go_at_call 28; refine (l1In_calls _ _ _ _).mono ?_; rintro e w' ⟨rfl, rfl⟩)
    go_cut [3] (fun s3 wx => s3 = .string (sealB k body) ∧ Below w.heap.size w wx)
    case first =>
      go_region_with (go_at_call 97; refine (spec_l2Four_at _ _ (by omega) (by omega)).mono ?_; rintro e w1 ⟨rfl, rfl⟩)
      all_goals (go_wp2_with fail; go_meet)
      all_goals exact ⟨rfl, by first | exact below_allocs2 1 | exact below_allocs2 2⟩
    case rest =>
    obtain ⟨rfl, hb1⟩ := hcut
    have hss := seal_size k body
    obtain ⟨t, ht⟩ : ∃ t, sealB k body = t := ⟨_, rfl⟩
    rw [ht] at hss ⊢
    clear hcd hk8 hn32 e1 e2
    have hcr := crcI_range t
    have e4 := four_size (crcI t)
    go_wp2_with fail
    refine (spec_Crc _ _ (by omega)).mono ?_
    rintro e w2 ⟨rfl, rfl⟩
    go_wp2_with fail
    refine (spec_l2Four _ _ hcr.1 hcr.2).mono ?_
    rintro e w3 ⟨rfl, hb3⟩
    go_wp2
    go_ret
    exact ⟨by rw [ht]; rfl, hb1.trans (hb3.mono hb1.size)⟩
  · rw [if_neg h]
    by_cases h1 : 1 ≤ k ∧ k ≤ 100
    · have hd : (decide (1 ≤ k) && decide (k ≤ 100)) = true := by simp; omega
      have h3 : 20000 < body.size := by omega
      go_enter Tryz.func60, Tryz.ntmps60
      go_wp2_with (go_at_call 28; refine (l1In_calls _ _ _ _).mono ?_; rintro e w' ⟨rfl, rfl⟩)
      go_ret
      exact ⟨rfl, (Below.refl _ _).alloc (Nat.le_refl _) _⟩
    · have hd : (decide (1 ≤ k) && decide (k ≤ 100)) = false := by simp; omega
      go_enter Tryz.func60, Tryz.ntmps60
      go_wp2_with (go_at_call 28; refine (l1In_calls _ _ _ _).mono ?_; rintro e w' ⟨rfl, rfl⟩)
      go_ret
      exact ⟨rfl, (Below.refl _ _).alloc (Nat.le_refl _) _⟩
end Go.Proofs.YtakalfckhailjaaGreat


/- The texts of entries, by both programs. -/
namespace Go.Proofs.YtakalfckhailjaaGreat
open Go.RowKit Plain
set_option linter.unusedVariables false

def Plain.entT (t k : Int) (b : ByteArray) : ByteArray := if entB t k b then frameB 2 (putS t ++ putS k ++ putT b) else ByteArray.empty
theorem Plain.str_add {a b : ByteArray} (W : World) (h : a.size + b.size ≤ 1000000000000) : (Op.stringOp .add a b).run Tryz.prog W = .ok (.string (a ++ b)) W := by
  have h1 : ¬ ((a.size + b.size : Nat) : Int) > IntKind.i64.max := by rw [show IntKind.i64.max = 9223372036854775807 from rfl]; omega
  unfold Op.stringOp
  simp only [if_neg h1]
  rfl
namespace Plain
theorem entB_sizes {t k : Int} {b : ByteArray} (h : entB t k b = true) : (putS t ++ putS k ++ putT b).size ≤ 1000000 := by
  obtain ⟨_, _, _, _, hb⟩ := entB_yes h
  have h1 := putS_size t
  have h2 := putS_size k
  have h3 := putS_size (b.size : Int)
  unfold putT
  rw [if_pos (by omega), ByteArray.size_append, ByteArray.size_append, ByteArray.size_append]
  omega
end Plain

set_option maxRecDepth 10000 in
set_option maxHeartbeats 1000000 in
theorem impl_EntryText (t k : Int) (b : ByteArray) (w : World) (hb : b.size ≤ 1000000000000) :
    Calls Tryz.prog 18 #[.agg #[.int .i64 t, .int .i64 k, .string b]] w fun e w' => e = .returned (.string (entT t k b)) ∧ Below w.heap.size w w' := by
  obtain ⟨W0, hW0⟩ : ∃ W0, W0 = w.alloc (.cells #[.int .i64 t, .int .i64 k, .string b] 45) := ⟨_, rfl⟩
  have hb0 : Below w.heap.size w W0 := by rw [hW0]; exact bel1 _ _
  have hlt : w.heap.size < W0.heap.size := by rw [hW0]; simp
  have c0 : W0.cell? ⟨w.heap.size, 0, none⟩ = some (.int .i64 t) := by rw [hW0]; simp [go_sem]
  have c1 : W0.cell? ⟨w.heap.size, 1, none⟩ = some (.int .i64 k) := by rw [hW0]; simp [go_sem]
  have c2 : W0.cell? ⟨w.heap.size, 2, none⟩ = some (.string b) := by rw [hW0]; simp [go_sem]
  have HC := hide (fun (W : World) (hW : Below W0.heap.size W0 W) => And.intro (bcl hW hlt c0) (And.intro (bcl hW hlt c1) (bcl hW hlt c2)))
  have HFIN := hide (fun (W : World) (hW : Below W0.heap.size W0 W) => belOn hb0 hW)
  have HW0 := hide hW0.symm
  clear hb0 hlt c0 c1 c2 hW0
  unfold entT
  cases he : entB t k b with
  | false =>
    rw [if_neg (by simp)]
    have HE := hide he
    clear he
    go_enter Tryz.func18, Tryz.ntmps18
    go_wp2_with fail
    rw [unhide HW0]
    refine (entryOk_calls t k b W0 hb).mono ?_
    rintro e w1 ⟨rfl, hb1⟩
    rw [unhide HE]
    have HB1 := hide (unhide HFIN _ hb1)
    clear hb1
    go_wp2_with fail
    go_ret
    exact ⟨rfl, unhide HB1⟩
  | true =>
    rw [if_pos rfl]
    have HE := hide he
    have hsz := entB_sizes he
    have hsb := (entB_yes he).2.2.2.2
    obtain ⟨A, hA⟩ : ∃ A, putS t = A := ⟨_, rfl⟩
    obtain ⟨C, hC⟩ : ∃ C, putS k = C := ⟨_, rfl⟩
    obtain ⟨D, hD⟩ : ∃ D, putT b = D := ⟨_, rfl⟩
    have H1 := hide (fun W => impl_PutNumber t W)
    have H2 := hide (fun W => impl_PutNumber k W)
    have H3 := hide (fun W => impl_PutText b W hb)
    rw [hA, hC, hD] at hsz ⊢
    rw [hA] at H1
    rw [hC] at H2
    rw [hD] at H3
    rw [ByteArray.size_append, ByteArray.size_append] at hsz
    have HZ := hide hsz
    have hA1 : A.size ≤ 1000000 := by omega
    have hC1 : C.size ≤ 1000000 := by omega
    have hD1 : D.size ≤ 1000000 := by omega
    clear he hA hC hD hsz
    go_enter Tryz.func18, Tryz.ntmps18
    go_wp2_with fail
    rw [unhide HW0]
    refine (entryOk_calls t k b W0 hb).mono ?_
    rintro e w1 ⟨rfl, hb1⟩
    rw [unhide HE]
    have HB1 := hide hb1
    obtain ⟨q0, q1, q2⟩ := unhide HC _ hb1
    clear hb1
    have l1 : w.heap.size < w1.heap.size := lt_of_cell q0
    have hAC : (A ++ C).size ≤ 3000000 := by rw [ByteArray.size_append]; omega
    have e1 := fun W => str_add (a := A) (b := C) W (by omega)
    have e2 := fun W => str_add (a := A ++ C) (b := D) W (by omega)
    have HWF := hide (fun W => impl_WriteFrame 2 (A ++ C ++ D) W (by have := unhide HZ; rw [ByteArray.size_append, ByteArray.size_append]; omega))
    go_wp2_with fail
    go_region_held3 (fun w' => w'.cell? ⟨w.heap.size, 0, none⟩ = some (.int .i64 t) ∧ w'.cell? ⟨w.heap.size, 1, none⟩ = some (.int .i64 k) ∧ w'.cell? ⟨w.heap.size, 2, none⟩ = some (.string b)) (go_keep) (first
      | (go_at_call_of 58 t; refine (unhide H1 _).mono ?_; rintro e w2 ⟨rfl, hb2⟩; have r0 := bcl (bOfDrew hb2) l1 q0; have r1 := bcl (bOfDrew hb2) l1 q1; have r2 := bcl (bOfDrew hb2) l1 q2; have l2 := lt_of_cell r0)
      | (go_at_call_of 58 k; refine (unhide H2 _).mono ?_; rintro e w3 ⟨rfl, hb3⟩; have s0 := bcl hb3 l2 r0; have s1 := bcl hb3 l2 r1; have s2 := bcl hb3 l2 r2; have l3 := lt_of_cell s0)
      | (go_at_call 59; refine (unhide H3 _).mono ?_; rintro e w4 ⟨rfl, hb4⟩; have t0 := bcl hb4 l3 s0; have t1 := bcl hb4 l3 s1; have t2 := bcl hb4 l3 s2; have l4 := lt_of_cell t0)
      | (go_at_call 57; refine (unhide HWF _).mono ?_; rintro e w5 ⟨rfl, hb5⟩; have v0 := bcl hb5 l4 t0; have v1 := bcl hb5 l4 t1; have v2 := bcl hb5 l4 t2))
    all_goals (try go_wp2_with fail)
    all_goals (try go_ret)
    all_goals exact ⟨rfl, unhide HFIN _ (belOn (belOn (belOn (belOn (unhide HB1) (bOfDrew hb2)) hb3) hb4) hb5)⟩

set_option maxRecDepth 10000 in
set_option maxHeartbeats 1000000 in
theorem spec_EntryText (t k : Int) (b : ByteArray) (w : World) (hb : b.size ≤ 1000000000000) :
    Calls Tryz.prog 20 #[.agg #[.int .i64 t, .int .i64 k, .string b]] w fun e w' => e = .returned (.string (entT t k b)) ∧ Below w.heap.size w w' := by
  obtain ⟨W0, hW0⟩ : ∃ W0, W0 = w.alloc (.cells #[.int .i64 t, .int .i64 k, .string b] 45) := ⟨_, rfl⟩
  have hb0 : Below w.heap.size w W0 := by rw [hW0]; exact bel1 _ _
  have hlt : w.heap.size < W0.heap.size := by rw [hW0]; simp
  have c0 : W0.cell? ⟨w.heap.size, 0, none⟩ = some (.int .i64 t) := by rw [hW0]; simp [go_sem]
  have c1 : W0.cell? ⟨w.heap.size, 1, none⟩ = some (.int .i64 k) := by rw [hW0]; simp [go_sem]
  have c2 : W0.cell? ⟨w.heap.size, 2, none⟩ = some (.string b) := by rw [hW0]; simp [go_sem]
  have HC := hide (fun (W : World) (hW : Below W0.heap.size W0 W) => And.intro (bcl hW hlt c0) (And.intro (bcl hW hlt c1) (bcl hW hlt c2)))
  have HFIN := hide (fun (W : World) (hW : Below W0.heap.size W0 W) => belOn hb0 hW)
  have HW0 := hide hW0.symm
  clear hb0 hlt c0 c1 c2 hW0
  unfold entT
  cases he : entB t k b with
  | false =>
    rw [if_neg (by simp)]
    have HE := hide he
    clear he
    go_enter Tryz.func20, Tryz.ntmps20
    go_wp2_with fail
    rw [unhide HW0]
    refine (l5Entry_calls t k b W0 hb).mono ?_
    rintro e w1 ⟨rfl, hb1⟩
    rw [unhide HE]
    have HB1 := hide (unhide HFIN _ hb1)
    clear hb1
    go_wp2_with fail
    go_ret
    exact ⟨rfl, unhide HB1⟩
  | true =>
    rw [if_pos rfl]
    have HE := hide he
    have hsz := entB_sizes he
    have hsb := (entB_yes he).2.2.2.2
    obtain ⟨A, hA⟩ : ∃ A, putS t = A := ⟨_, rfl⟩
    obtain ⟨C, hC⟩ : ∃ C, putS k = C := ⟨_, rfl⟩
    obtain ⟨D, hD⟩ : ∃ D, putT b = D := ⟨_, rfl⟩
    have H1 := hide (fun W => spec_PutNumber t W)
    have H2 := hide (fun W => spec_PutNumber k W)
    have H3 := hide (fun W => spec_PutText b W hb)
    rw [hA, hC, hD] at hsz ⊢
    rw [hA] at H1
    rw [hC] at H2
    rw [hD] at H3
    rw [ByteArray.size_append, ByteArray.size_append] at hsz
    have HZ := hide hsz
    have hA1 : A.size ≤ 1000000 := by omega
    have hC1 : C.size ≤ 1000000 := by omega
    have hD1 : D.size ≤ 1000000 := by omega
    clear he hA hC hD hsz
    go_enter Tryz.func20, Tryz.ntmps20
    go_wp2_with fail
    rw [unhide HW0]
    refine (l5Entry_calls t k b W0 hb).mono ?_
    rintro e w1 ⟨rfl, hb1⟩
    rw [unhide HE]
    have HB1 := hide hb1
    obtain ⟨q0, q1, q2⟩ := unhide HC _ hb1
    clear hb1
    have l1 : w.heap.size < w1.heap.size := lt_of_cell q0
    have hAC : (A ++ C).size ≤ 3000000 := by rw [ByteArray.size_append]; omega
    have e1 := fun W => str_add (a := A) (b := C) W (by omega)
    have e2 := fun W => str_add (a := A ++ C) (b := D) W (by omega)
    have HWF := hide (fun W => spec_WriteFrame 2 (A ++ C ++ D) W (by have := unhide HZ; rw [ByteArray.size_append, ByteArray.size_append]; omega))
    go_wp2_with fail
    go_region_held3 (fun w' => w'.cell? ⟨w.heap.size, 0, none⟩ = some (.int .i64 t) ∧ w'.cell? ⟨w.heap.size, 1, none⟩ = some (.int .i64 k) ∧ w'.cell? ⟨w.heap.size, 2, none⟩ = some (.string b)) (go_keep) (first
      | (go_at_call_of 61 t; refine (unhide H1 _).mono ?_; rintro e w2 ⟨rfl, hb2⟩; have r0 := bcl (bOfDrew hb2) l1 q0; have r1 := bcl (bOfDrew hb2) l1 q1; have r2 := bcl (bOfDrew hb2) l1 q2; have l2 := lt_of_cell r0)
      | (go_at_call_of 61 k; refine (unhide H2 _).mono ?_; rintro e w3 ⟨rfl, hb3⟩; have s0 := bcl hb3 l2 r0; have s1 := bcl hb3 l2 r1; have s2 := bcl hb3 l2 r2; have l3 := lt_of_cell s0)
      | (go_at_call 62; refine (unhide H3 _).mono ?_; rintro e w4 ⟨rfl, hb4⟩; have t0 := bcl hb4 l3 s0; have t1 := bcl hb4 l3 s1; have t2 := bcl hb4 l3 s2; have l4 := lt_of_cell t0)
      | (go_at_call 60; refine (unhide HWF _).mono ?_; rintro e w5 ⟨rfl, hb5⟩; have v0 := bcl hb5 l4 t0; have v1 := bcl hb5 l4 t1; have v2 := bcl hb5 l4 t2))
    all_goals (try go_wp2_with fail)
    all_goals (try go_ret)
    all_goals exact ⟨rfl, unhide HFIN _ (belOn (belOn (belOn (belOn (unhide HB1) (bOfDrew hb2)) hb3) hb4) hb5)⟩
end Go.Proofs.YtakalfckhailjaaGreat

