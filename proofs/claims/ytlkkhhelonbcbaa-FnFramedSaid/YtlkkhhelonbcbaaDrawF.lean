/- The frame that DrawWriteFrame draws is short. -/
import Derived.Test.YtlkkhhelonbcbaaDrawN
import Derived.Test.YtlkkhhelonbcbaaRdJ
namespace Go.Proofs.Ytlkkhhelonbcbaa
open Go.RowKit Plain
set_option linter.unusedVariables false

theorem Plain.Rd.set {w : World} {R B : Nat} {a : Option Addr} {len cap : Nat} {zs : List Int} (h : Rd w R a len cap zs) (i : Nat) (v : Value) (hR : R < B) : Rd (w.setCell ⟨B, i, none⟩ v) R a len cap zs :=
  h.onlyB (B := B) ((Below.refl B w).setCell (Nat.le_refl _) _) hR

set_option maxHeartbeats 1000000 in
theorem drawFrame_calls (R : Nat) (a : Option Addr) (len cap : Nat) (zs : List Int) (w : World) (h : Rd w R a len cap zs) :
    Calls Try.prog 55 #[.pointer (some ⟨R, 0, none⟩)] w fun e w' => ∃ (k : Int) (b : ByteArray), e = .returned (.agg #[.int .i64 k, .string b]) ∧ 1 ≤ k ∧ k ≤ 100 ∧ b.size ≤ 6 ∧ Rd w' R a len cap zs ∧ OnlyAt ⟨R, 1, none⟩ w w' := by
  have hR := h.lt
  obtain ⟨wa, hwa⟩ : ∃ wa, w.alloc (.cells #[.int .i64 0, .string ⟨#[]⟩] 35) = wa := ⟨_, rfl⟩
  have hba : Below w.heap.size w wa := by rw [← hwa]; exact (Below.refl _ _).alloc (Nat.le_refl _) _
  have hrow : wa.heap[w.heap.size]? = some (.cells #[.int .i64 0, .string ⟨#[]⟩] 35 (0, 0)) := by rw [← hwa]; exact h_new w _ rfl
  have HA := hide (h.below hba)
  have HWA := hide hwa
  have hoa : OnlyAt ⟨R, 1, none⟩ w wa := OnlyAt.of_below hba
  have hla : w.heap.size < wa.heap.size := by rw [← hwa]; simp
  clear h hwa hba
  go_enter Try.func55, Try.ntmps55
  go_wp2_with fail
  rw [unhide HWA]
  refine (near_calls R a len cap zs 1 100 _ (unhide HA) (by omega) (by omega) (by omega)).mono ?_
  rintro e w1 ⟨k, rfl, hk0, hk1, hR1, ho1⟩
  have HR1 := hide hR1
  clear hR1
  go_wp2_with fail
  refine (data_calls R a len cap zs _ (unhide HR1)).mono ?_
  rintro e w2 ⟨b, rfl, hb, hR2, ho2⟩
  have ho12 := ho1.trans ho2
  have hrow2 : w2.heap[w.heap.size]? = some (.cells #[.int .i64 0, .string ⟨#[]⟩] 35 (0, 0)) := (ho12.block _ hla (by simp; omega)).trans hrow
  have g0 : w2.cell? ⟨w.heap.size, 0, none⟩ = some (.int .i64 0) := cell_of_row w2 _ 0 _ _ _ hrow2
  have g1 : w2.cell? ⟨w.heap.size, 1, none⟩ = some (.string ⟨#[]⟩) := cell_of_row w2 _ 1 _ _ _ hrow2
  have z0 : w2.frozen? ⟨w.heap.size, 0, none⟩ = false := frozen_of_row w2 _ 0 _ _ hrow2
  have z1 : w2.frozen? ⟨w.heap.size, 1, none⟩ = false := frozen_of_row w2 _ 1 _ _ hrow2
  have HOO := hide (hoa.trans ho12)
  have HR2 := hide hR2
  clear ho1 ho2 ho12 hrow hrow2 hR2 hoa
  go_wp2_with fail
  have hoz : OnlyAt ⟨R, 1, none⟩ w ((w2.setCell ⟨w.heap.size, 0, none⟩ (.int .i64 k)).setCell ⟨w.heap.size, 1, none⟩ (.string b)) := ((unhide HOO).setNew (Nat.le_refl _) _).setNew (Nat.le_refl _) _
  refine bodyPost_ret (v := .agg #[.int .i64 k, .string b]) ?_ rfl ⟨k, b, rfl, hk0, hk1, hb, ?_, hoz⟩
  · simp [results, Try.results55, go_sem, g0, g1]
  · exact ((unhide HR2).set _ _ hR).set _ _ hR

theorem rowB {w w' : World} {a : Option Addr} {len cap : Nat} {zs : List Int} (h : IsRow .u8 w a len cap zs) (hb : Below w.heap.size w w') : IsRow .u8 w' a len cap zs := by
  rcases h with h | ⟨x, hx, h1, h2, h3, h4, h5⟩
  · exact .inl h
  · exact .inr ⟨x, hx, h1, h2, h3, fun i hi => (hb.cell (lt_of_cell (h4 i hi))).trans (h4 i hi), h5⟩

set_option maxRecDepth 10000 in
set_option maxHeartbeats 2000000 in
theorem DrawWriteFrame_calls (a : Option Addr) (len cap : Nat) (zs : List Int) (w : World) (h : IsRow .u8 w a len cap zs) (hl : len ≤ 1048576) :
    Calls Try.prog 26 #[.slice a len cap] w fun e w' => ∃ (k : Int) (b : ByteArray), e = .returned (.agg #[.int .i64 k, .string b]) ∧ b.size ≤ 30000 ∧ Below w.heap.size w w' := by
  obtain ⟨wa, hwa⟩ : ∃ wa, w.alloc (.cells #[.int .i64 0, .string ⟨#[]⟩] 35) = wa := ⟨_, rfl⟩
  have hba : Below w.heap.size w wa := by rw [← hwa]; exact (Below.refl _ _).alloc (Nat.le_refl _) _
  have hrow : wa.heap[w.heap.size]? = some (.cells #[.int .i64 0, .string ⟨#[]⟩] 35 (0, 0)) := by rw [← hwa]; exact h_new w _ rfl
  have hla : w.heap.size < wa.heap.size := by rw [← hwa]; simp
  have H := hide (rowB h hba)
  have HWA := hide hwa
  have HBA := hide hba
  clear h hwa hba
  go_enter Try.func26, Try.ntmps26
  go_wp2_with fail
  rw [unhide HWA]
  refine (open_calls a len cap zs _ (unhide H) hl).mono ?_
  rintro e w1 ⟨rfl, hR1, hb1⟩
  have HR1 := hide hR1
  have hrow1 := (hb1.block _ hla).trans hrow
  have HB1 := hide ((unhide HBA).trans (hb1.mono (Nat.le_of_lt hla)))
  have hR1l := hR1.lt
  clear hR1 hb1 hrow HBA
  go_wp2_with fail
  refine (drawFrame_calls wa.heap.size a len cap zs _ (unhide HR1)).mono ?_
  rintro e w2 ⟨k, b, rfl, hk0, hk1, hb, hR2, ho2⟩
  have hl1 : w.heap.size < w1.heap.size := by omega
  have hrow2 := (ho2.block _ hl1 (by simp; omega)).trans hrow1
  have HB2 := hide ((unhide HB1).trans (ho2.below (Nat.le_of_lt hla) (unhide HB1).size))
  have hz2 : wa.heap.size < w2.heap.size := hR2.lt
  have hb3 : Below w2.heap.size w2 (w2.alloc (.cells #[.int .i64 k, .string b] 35)) := (Below.refl _ _).alloc (Nat.le_refl _) _
  have HR3 := hide (hR2.below hb3)
  have hrow3 := (hb3.block _ (by omega)).trans hrow2
  have HB3 := hide ((unhide HB2).trans (hb3.mono (by omega)))
  clear hR2 ho2 hrow1 hrow2 HB1 HB2 HR1 hb3
  go_wp2_with fail
  refine (below_calls wa.heap.size a len cap zs 12 _ (unhide HR3) (by omega) (by omega)).mono ?_
  rintro e w4 ⟨v, rfl, hv0, hv1, hR4, ho4⟩
  have hG4 : w4.heap[w2.heap.size]? = some (.cells #[.int .i64 k, .string b] 35 (0, 0)) := (ho4.block _ (by simp) (by simp; omega)).trans (h_new w2 _ rfl)
  have hA4 := (ho4.block _ (by simp; omega) (by simp; omega)).trans hrow3
  have HB4 := hide ((unhide HB3).trans (ho4.below (Nat.le_of_lt hla) (unhide HB3).size))
  have hz4 : w2.heap.size < w4.heap.size := by have := ho4.size; simp at this; omega
  have HR4 := hide hR4
  have HA4 := hide hA4
  have HG4 := hide hG4
  have hne : ¬ w.heap.size = w2.heap.size := by omega
  have hne2 : ¬ w2.heap.size = w.heap.size := by omega
  clear ho4 hR4 hrow3 HB3 HR3 hA4 hG4
  by_cases v0 : v = 0
  · subst v0
    go_wp2_with fail
    refine (off_calls wa.heap.size a len cap zs 1 100 _ (unhide HR4) (by omega) (by omega) (by omega)).mono ?_
    rintro e w5 ⟨n, rfl, hn0, hn1, hR5, ho5⟩
    have hG := (ho5.block _ hz4 (by simp; omega)).trans (unhide HG4)
    have hA := (ho5.block _ (by omega) (by simp; omega)).trans (unhide HA4)
    have HB5 := hide ((unhide HB4).trans (ho5.below (Nat.le_of_lt hla) (unhide HB4).size))
    have g0 : w5.cell? ⟨w2.heap.size, 0, none⟩ = some (.int .i64 k) := cell_of_row w5 _ 0 _ _ _ hG
    have g1 : w5.cell? ⟨w2.heap.size, 1, none⟩ = some (.string b) := cell_of_row w5 _ 1 _ _ _ hG
    have y0 : w5.frozen? ⟨w2.heap.size, 0, none⟩ = false := frozen_of_row w5 _ 0 _ _ hG
    have a0 : w5.cell? ⟨w.heap.size, 0, none⟩ = some (.int .i64 0) := cell_of_row w5 _ 0 _ _ _ hA
    have a1 : w5.cell? ⟨w.heap.size, 1, none⟩ = some (.string ⟨#[]⟩) := cell_of_row w5 _ 1 _ _ _ hA
    have z0 : w5.frozen? ⟨w.heap.size, 0, none⟩ = false := frozen_of_row w5 _ 0 _ _ hA
    have z1 : w5.frozen? ⟨w.heap.size, 1, none⟩ = false := frozen_of_row w5 _ 1 _ _ hA
    clear hR5 ho5 hG hA
    go_wp2_with fail
    refine bodyPost_ret (v := .agg #[.int .i64 n, .string b]) ?_ rfl ⟨n, b, rfl, by omega, (((unhide HB5).setCell (p := ⟨w2.heap.size, 0, none⟩) (by simp; omega) _).setCell (Nat.le_refl _) _).setCell (Nat.le_refl _) _⟩
    simp [results, Try.results26, go_sem, a0, a1]
  · by_cases v1 : v = 1
    · subst v1
      go_wp2_with fail
      refine (below_calls wa.heap.size a len cap zs 2 _ (unhide HR4) (by omega) (by omega)).mono ?_
      rintro e w5 ⟨v2, rfl, hw0, hw1, hR5, ho5⟩
      have hG := (ho5.block _ hz4 (by simp; omega)).trans (unhide HG4)
      have hA := (ho5.block _ (by omega) (by simp; omega)).trans (unhide HA4)
      have HB5 := hide ((unhide HB4).trans (ho5.below (Nat.le_of_lt hla) (unhide HB4).size))
      have hz5 := ho5.size
      obtain ⟨n, hn⟩ : ∃ n : Nat, 20000 + v2 = (n : Int) := ⟨(20000 + v2).toNat, by omega⟩
      have hn3 : n ≤ 30000 := by omega
      have hmk := make_bytes n w5 hn3
      have hcv : (convert 22 9 (.slice (some ⟨w5.heap.size, 0, none⟩) n n)).run Try.prog (w5.alloc (.cells (zerosA n) 5)) = .ok (.string (strOfNums (List.replicate n 0))) (w5.alloc (.cells (zerosA n) 5)) :=
        run_convert_bytes_arg _ _ _ Try.underlying22 Try.underlying5 w5.heap.size 0 n n (List.replicate n 0) (by simp) (fun i hi => by
          rw [Nat.zero_add, cell_of_row _ _ i _ _ _ (h_new w5 _ rfl)]
          rw [zerosA_get n i hi]
          simp [hi, List.getD]) _ Try.underlying9
      obtain ⟨w6, hw6⟩ : ∃ w6, w5.alloc (.cells (zerosA n) 5) = w6 := ⟨_, rfl⟩
      have hb6 : Below w5.heap.size w5 w6 := by rw [← hw6]; exact (Below.refl _ _).alloc (Nat.le_refl _) _
      have hG := (hb6.block _ (by omega)).trans hG
      have hA := (hb6.block _ (by omega)).trans hA
      have HB6 := hide ((unhide HB5).trans (hb6.mono (by omega)))
      rw [hw6] at hmk hcv
      have hsz9 : (strOfNums (List.replicate n 0)).size ≤ 30000 := by rw [strOfNums_size]; simpa using hn3
      generalize strOfNums (List.replicate n 0) = bb at hcv hsz9
      have g0 : w6.cell? ⟨w2.heap.size, 0, none⟩ = some (.int .i64 k) := cell_of_row w6 _ 0 _ _ _ hG
      have g1 : w6.cell? ⟨w2.heap.size, 1, none⟩ = some (.string b) := cell_of_row w6 _ 1 _ _ _ hG
      have y1 : w6.frozen? ⟨w2.heap.size, 1, none⟩ = false := frozen_of_row w6 _ 1 _ _ hG
      have a0 : w6.cell? ⟨w.heap.size, 0, none⟩ = some (.int .i64 0) := cell_of_row w6 _ 0 _ _ _ hA
      have a1 : w6.cell? ⟨w.heap.size, 1, none⟩ = some (.string ⟨#[]⟩) := cell_of_row w6 _ 1 _ _ _ hA
      have z0 : w6.frozen? ⟨w.heap.size, 0, none⟩ = false := frozen_of_row w6 _ 0 _ _ hA
      have z1 : w6.frozen? ⟨w.heap.size, 1, none⟩ = false := frozen_of_row w6 _ 1 _ _ hA
      clear hR5 ho5 hG hA hb6 hw6
      go_wp2_with fail
      refine bodyPost_ret (v := .agg #[.int .i64 k, .string bb]) ?_ rfl ⟨k, bb, rfl, hsz9, (((unhide HB6).setCell (p := ⟨w2.heap.size, 1, none⟩) (by simp; omega) _).setCell (Nat.le_refl _) _).setCell (Nat.le_refl _) _⟩
      simp [results, Try.results26, go_sem, a0, a1]
    · have hG := unhide HG4
      have hA := unhide HA4
      have g0 : w4.cell? ⟨w2.heap.size, 0, none⟩ = some (.int .i64 k) := cell_of_row w4 _ 0 _ _ _ hG
      have g1 : w4.cell? ⟨w2.heap.size, 1, none⟩ = some (.string b) := cell_of_row w4 _ 1 _ _ _ hG
      have y1 : w4.frozen? ⟨w2.heap.size, 1, none⟩ = false := frozen_of_row w4 _ 1 _ _ hG
      have a0 : w4.cell? ⟨w.heap.size, 0, none⟩ = some (.int .i64 0) := cell_of_row w4 _ 0 _ _ _ hA
      have a1 : w4.cell? ⟨w.heap.size, 1, none⟩ = some (.string ⟨#[]⟩) := cell_of_row w4 _ 1 _ _ _ hA
      have z0 : w4.frozen? ⟨w.heap.size, 0, none⟩ = false := frozen_of_row w4 _ 0 _ _ hA
      have z1 : w4.frozen? ⟨w.heap.size, 1, none⟩ = false := frozen_of_row w4 _ 1 _ _ hA
      clear hG hA
      go_wp2_with fail
      refine bodyPost_ret (v := .agg #[.int .i64 k, .string b]) ?_ rfl ⟨k, b, rfl, by omega, ((unhide HB4).setCell (Nat.le_refl _) _).setCell (Nat.le_refl _) _⟩
      simp [results, Try.results26, go_sem, a0, a1]
end Go.Proofs.Ytlkkhhelonbcbaa
