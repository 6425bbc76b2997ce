/- A branch read, by the program. -/
import Derived.Test.YtnokbnoncdebmaaUnB
namespace Go.Proofs.Ytnokbnoncdebmaa
open Go.RowKit Go.Maps Plain
set_option linter.unusedVariables false

namespace Plain
def brN (l : List UInt8) : Nat := l.foldl (fun a c => a * 16 + (hexI c.toNat).toNat) 0
theorem brN_next (l : List UInt8) (i : Nat) (h : i < l.length) : brN (l.take (i + 1)) = brN (l.take i) * 16 + (hexI l[i].toNat).toNat := by
  unfold brN
  rw [List.take_succ_eq_append_getElem h, List.foldl_append]
  rfl
/-- What readBranch answers. -/
def brA (p : ByteArray) (r : Bool) : Value := if r then brV p.size (brN p.data.toList) else brV 0 0
theorem row2_set {W : World} {M : Nat} {x y : Value} {t : TypeId} (h : W.heap[M]? = some (.cells #[x, y] t (0, 0))) (x' y' : Value) : ((W.setCell ⟨M, 0, none⟩ x').setCell ⟨M, 1, none⟩ y').heap[M]? = some (.cells #[x', y'] t (0, 0)) := by
  have h1 := Go.heap_setCell_same W M 0 _ _ x' h
  exact Go.heap_setCell_same _ M 1 _ _ y' h1
theorem row2_far {W : World} {M b : Nat} {o : Obj} (h : W.heap[M]? = some o) (hne : M ≠ b) (x' y' : Value) : ((W.setCell ⟨b, 0, none⟩ x').setCell ⟨b, 1, none⟩ y').heap[M]? = some o := (Go.heap_setCell_other _ ⟨b, 1, none⟩ M y' hne).trans ((Go.heap_setCell_other W ⟨b, 0, none⟩ M x' hne).trans h)
end Plain
theorem infoB : (Try.prog.info? 37).map (·.size) = some 2 := by kernel_rfl

set_option maxRecDepth 10000 in
set_option maxHeartbeats 2000000 in
theorem readBranch_calls (p : ByteArray) (w : World) (hp : p.size ≤ 1000000000) :
    Calls Try.prog 21 #[.string p] w fun e w' => e = .returned (.tuple #[brA p (prB p), .bool (prB p)]) ∧ Below w.heap.size w w' := by
  obtain ⟨W0, hW0⟩ : ∃ W0, (w.alloc (.cells #[.int .i64 0, .int .u8 0] 37)).alloc (.cells #[.int .i64 0, .int .u8 0] 37) = W0 := ⟨_, rfl⟩
  have hr0 : W0.heap[w.heap.size]? = some (.cells #[.int .i64 0, .int .u8 0] 37 (0, 0)) := by
    rw [← hW0, heap_alloc_old _ _ (by simp)]
    exact heap_alloc_new _ _
  have hr1 : W0.heap[w.heap.size + 1]? = some (.cells #[.int .i64 0, .int .u8 0] 37 (0, 0)) := by
    have h0 : (w.alloc (.cells #[.int .i64 0, .int .u8 0] 37)).heap.size = w.heap.size + 1 := by simp
    rw [← hW0, ← h0]
    exact heap_alloc_new _ _
  have HB0 := hide (show Below w.heap.size w W0 from by rw [← hW0]; exact ((Below.refl _ _).alloc (Nat.le_refl _) _).alloc (by simp) _)
  have HW := hide hW0
  clear hW0
  by_cases hbig : (2 : Int) < (p.size : Int)
  · have hpb : prB p = false := by unfold prB; rw [decide_eq_false (by omega), Bool.and_false]
    rw [hpb]
    have c0 : W0.cell? ⟨w.heap.size, 0, none⟩ = some (.int .i64 0) := by rw [cell_of_row _ _ 0 _ _ _ hr0]; rfl
    have c1 : W0.cell? ⟨w.heap.size, 1, none⟩ = some (.int .u8 0) := by rw [cell_of_row _ _ 1 _ _ _ hr0]; rfl
    have f0 := frozen_of_row W0 w.heap.size 0 _ _ hr0
    have f1 := frozen_of_row W0 w.heap.size 1 _ _ hr0
    have HR := hide hr0
    clear hr0 hr1 hpb
    go_enter Try.func21, Try.ntmps21
    go_wp2_with fail
    rw [unhide HW]
    go_wp2_with fail
    exact bodyPost_ret (v := .tuple #[.agg #[.int .i64 0, .int .u8 0], .bool false]) (results_cell_tmp_row (fn := Try.f21) (p := 2) (u := 3) (ty := 37) (by kernel_rfl) _ _ w.heap.size _ _ (0, 0) _ rfl (unhide HR) Try.underlying37 rfl infoB) rfl ⟨rfl, unhide HB0⟩
  have hps : p.size ≤ 2 := by omega
  obtain ⟨R, hR⟩ : ∃ R, hexFrom p 0 = R := ⟨_, rfl⟩
  have HR := hide hR
  have hpb : prB p = R := by unfold prB; rw [decide_eq_true (by omega), Bool.and_true, hR]
  rw [hpb]
  have HR0 := hide hr0
  have HR1 := hide (show W0.heap[w.heap.size + 1]? = some (.cells #[.int .i64 ((0 : Nat) : Int), .int .u8 ((brN (p.data.toList.take 0) : Nat) : Int)] 37 (0, 0)) from hr1)
  clear hR hpb hr0 hr1
  go_enter Try.func21, Try.ntmps21
  go_wp2_with fail
  rw [unhide HW]
  go_loopw [5, 6, 13] (fun _ _ s13 wr => ∃ (i v : Nat), s13 = .int .i64 i ∧ i ≤ p.size ∧ Hid (v = brN (p.data.toList.take i)) ∧ Hid (v < 16 ^ i) ∧ Hid (hexFrom p i = R) ∧ Hid (wr.heap[w.heap.size]? = some (.cells #[.int .i64 0, .int .u8 0] 37 (0, 0))) ∧ Hid (wr.heap[w.heap.size + 1]? = some (.cells #[.int .i64 (i : Int), .int .u8 (v : Int)] 37 (0, 0))) ∧ Hid (Below w.heap.size w wr)) (fun _ _ s13 _ => p.size - (intOf s13).toNat)
  case atStart => exact ⟨0, _, rfl, by omega, hide rfl, hide (by simp [brN]), HR, HR0, HR1, HB0⟩
  case round =>
    clear HR HR0 HR1 HB0 HW
    obtain ⟨i, v, rfl, hi, HV, HL, HO, HR0, HR1, HB⟩ := hrel
    have c0 : wr.cell? ⟨w.heap.size, 0, none⟩ = some (.int .i64 0) := by rw [cell_of_row _ _ 0 _ _ _ (unhide HR0)]; rfl
    have c1 : wr.cell? ⟨w.heap.size, 1, none⟩ = some (.int .u8 0) := by rw [cell_of_row _ _ 1 _ _ _ (unhide HR0)]; rfl
    have f0 := frozen_of_row wr w.heap.size 0 _ _ (unhide HR0)
    have f1 := frozen_of_row wr w.heap.size 1 _ _ (unhide HR0)
    have d0 : wr.cell? ⟨w.heap.size + 1, 0, none⟩ = some (.int .i64 (i : Int)) := by rw [cell_of_row _ _ 0 _ _ _ (unhide HR1)]; rfl
    have d1 : wr.cell? ⟨w.heap.size + 1, 1, none⟩ = some (.int .u8 (v : Int)) := by rw [cell_of_row _ _ 1 _ _ _ (unhide HR1)]; rfl
    have hl1 : w.heap.size + 1 < wr.heap.size := (Array.getElem?_eq_some_iff.1 (unhide HR1)).1
    by_cases hlt : i < p.size
    · have hst := unhide HO
      rw [hexFrom_step p i hlt] at hst
      have hpl : i < p.data.toList.length := by simpa using hlt
      have hnx := brN_next p.data.toList i hpl
      have hpe : p.data.toList[i] = p[i] := by simp [ByteArray.getElem_eq_getElem_data]
      rw [hpe] at hnx
      obtain ⟨q, hq, hq2⟩ : ∃ q : Nat, p[i].toNat = q ∧ q < 256 := ⟨_, rfl, p[i].toNat_lt⟩
      rw [hq] at hst hnx
      have hi1 : (i : Int) < (p.size : Int) := by omega
      have i0 : (0 : Int) ≤ (i : Int) := by omega
      have HV2 := hide (fun W => impl_hexValue (q : Int) W (by omega) (by omega))
      have hxb := hexI_bounds (q : Int)
      generalize hexI (q : Int) = y at HV2 hst hxb hnx
      by_cases hy : y < 0
      · rw [decide_eq_false (by omega)] at hst
        have HX := hide (show R = false from by rw [← hst]; rfl)
        clear hst HO hnx
        go_wp2_with fail
        refine (unhide HV2 _).mono ?_
        rintro e w2 ⟨rfl, rfl⟩
        go_wp2_with fail
        exact bodyPost_ret (v := .tuple #[.agg #[.int .i64 0, .int .u8 0], .bool false]) (results_cell_tmp_row (fn := Try.f21) (p := 2) (u := 3) (ty := 37) (by kernel_rfl) _ _ w.heap.size _ _ (0, 0) _ rfl (row2_set (unhide HR0) _ _) Try.underlying37 rfl infoB) rfl ⟨by rw [unhide HX]; rfl, ((unhide HB).setCell (p := ⟨w.heap.size, 0, none⟩) (Nat.le_refl _) _).setCell (p := ⟨w.heap.size, 1, none⟩) (Nat.le_refl _) _⟩
      · rw [decide_eq_true (by omega), Bool.true_and] at hst
        have HX := hide hst
        obtain ⟨z, hz, hz2⟩ : ∃ z : Nat, y = (z : Int) ∧ z < 16 := ⟨y.toNat, by omega, by omega⟩
        subst hz
        have hv16 : v < 16 := by
          have h1 := unhide HL
          have h2 : i ≤ 1 := by omega
          obtain rfl | rfl : i = 0 ∨ i = 1 := by omega
          · simp at h1; omega
          · simpa using h1
        have HNV := hide (show v * 16 + z = brN (p.data.toList.take (i + 1)) from by rw [hnx, ← unhide HV]; simp)
        have HNL := hide (show v * 16 + z < 16 ^ (i + 1) from by have := unhide HL; rw [Nat.pow_succ]; omega)
        have HBH := hide (fun W => behind_calls i v z W (by omega) hv16 hz2)
        unfold brV at HBH
        have hzw : IntKind.u8.wrap (z : Int) = (z : Int) := by simp [IntKind.wrap, IntKind.bits, IntKind.signed]; omega
        have z0 : ¬ ((z : Int) < 0) := by omega
        clear hst HO hnx hy HL
        generalize v * 16 + z = v2 at HNV HNL HBH
        go_wp2_with fail
        refine (unhide HV2 _).mono ?_
        rintro e w2 ⟨rfl, rfl⟩
        go_wp2_with fail
        refine (unhide HBH _).mono ?_
        rintro e w3 ⟨rfl, hb3⟩
        have HR03 := hide ((hb3.block w.heap.size (by omega)).trans (unhide HR0))
        have HR13 := hide ((hb3.block (w.heap.size + 1) (by omega)).trans (unhide HR1))
        have HB3 := hide ((unhide HB).trans (hb3.mono (by omega)))
        have x0 : w3.cell? ⟨w.heap.size + 1, 0, none⟩ = some (.int .i64 (i : Int)) := by rw [cell_of_row _ _ 0 _ _ _ (unhide HR13)]; rfl
        have x1 : w3.cell? ⟨w.heap.size + 1, 1, none⟩ = some (.int .u8 (v : Int)) := by rw [cell_of_row _ _ 1 _ _ _ (unhide HR13)]; rfl
        have g0 := frozen_of_row w3 (w.heap.size + 1) 0 _ _ (unhide HR13)
        have g1 := frozen_of_row w3 (w.heap.size + 1) 1 _ _ (unhide HR13)
        clear hb3 c0 c1 f0 f1 d0 d1
        go_wp2_with fail
        go_roundw
        case rel => exact ⟨i + 1, v2, by go_num, by omega, HNV, HNL, HX, hide (row2_far (unhide HR03) (by omega) _ _), hide (row2_set (unhide HR13) _ _), hide (((unhide HB3).setCell (p := ⟨w.heap.size + 1, 0, none⟩) (by simp) _).setCell (p := ⟨w.heap.size + 1, 1, none⟩) (by simp) _)⟩
        case measure => simp [intOf]; omega
    · obtain rfl : i = p.size := by omega
      have hO := unhide HO
      rw [hexFrom_end _ _ (Nat.le_refl _)] at hO
      have HX := hide hO.symm
      have hv := unhide HV
      rw [List.take_of_length_le (by simp)] at hv
      have HVV := hide hv
      have HRR := hide (row2_set (unhide HR0) (.int .i64 (p.size : Int)) (.int .u8 (v : Int)))
      clear hO HO hv
      go_wp2_with fail
      exact bodyPost_ret (v := .tuple #[.agg #[.int .i64 (p.size : Int), .int .u8 (v : Int)], .bool true]) (results_cell_tmp_row (fn := Try.f21) (p := 2) (u := 3) (ty := 37) (by kernel_rfl) _ _ w.heap.size _ _ (0, 0) _ rfl (unhide HRR) Try.underlying37 rfl infoB) rfl ⟨by rw [unhide HX, unhide HVV]; rfl, ((unhide HB).setCell (p := ⟨w.heap.size, 0, none⟩) (Nat.le_refl _) _).setCell (p := ⟨w.heap.size, 1, none⟩) (Nat.le_refl _) _⟩
end Go.Proofs.Ytnokbnoncdebmaa
