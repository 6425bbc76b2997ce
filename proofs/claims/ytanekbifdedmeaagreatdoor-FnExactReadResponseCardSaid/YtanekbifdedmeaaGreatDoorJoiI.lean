/- strings.Join, by this program. -/
import Derived.Test.YtanekbifdedmeaaGreatDoorBldJ
import Derived.Test.YtanekbifdedmeaaGreatDoorGAB
import Derived.Lib.Join
namespace Go.Proofs.YtanekbifdedmeaaGreatDoor
open Go.RowKit Plain
set_option linter.unusedVariables false

namespace Plain
def lsL (xs : List ByteArray) : List (List UInt8) := xs.map fun x => x.data.toList
/-- Texts with a mark between each two. -/
def joinT (xs : List ByteArray) (sep : ByteArray) : ByteArray := ⟨(Lib.join (lsL xs) sep.data.toList).toArray⟩
theorem mk_toList (x : ByteArray) : (⟨x.data.toList.toArray⟩ : ByteArray) = x := ByteArray.ext (by simp)
end Plain

set_option maxRecDepth 100000 in
set_option maxHeartbeats 2000000 in
theorem join1_calls (g c : Nat) (x sep : ByteArray) (w : World) (hr : w.cell? ⟨g, 0, none⟩ = some (.string x)) :
    Calls Tryz.prog 31 #[.slice (some ⟨g, 0, none⟩) 1 c, .string sep] w fun e w' => e = .returned (.string (joinT [x] sep)) ∧ Below w.heap.size w w' := by
  have HE := hide (show joinT [x] sep = x from by unfold joinT lsL; rw [List.map_cons, List.map_nil, Lib.join_one, mk_toList])
  rw [unhide HE]
  go_enter Tryz.func31, Tryz.ntmps31
  go_wp2_with fail
  go_ret
  exact ⟨rfl, Below.refl _ _⟩

set_option maxRecDepth 100000 in
set_option maxHeartbeats 4000000 in
theorem join2_calls (g n c : Nat) (x0 : ByteArray) (r : List ByteArray) (sep : ByteArray) (w : World) (hn : r.length + 1 = n) (h2 : 2 ≤ n) (hn2 : n ≤ 1000) (hc : n ≤ c) (hs1 : 1 ≤ sep.size) (hs2 : sep.size ≤ 10) (hl : (Lib.join (lsL (x0 :: r)) sep.data.toList).length ≤ 10000000) (hr : RowAt strE w (some ⟨g, 0, none⟩) (x0 :: r)) :
    Calls Tryz.prog 31 #[.slice (some ⟨g, 0, none⟩) n c, .string sep] w fun e w' => e = .returned (.string (joinT (x0 :: r) sep)) ∧ Below w.heap.size w w' := by
  have hss : sep.data.toList.length = sep.size := by simp
  have hwhole : Lib.join (lsL (x0 :: r)) sep.data.toList = x0.data.toList ++ Lib.joinTail sep.data.toList (lsL r) := by unfold lsL; rw [List.map_cons, Lib.join_cons]
  have hjl := Lib.join_length x0.data.toList (lsL r) sep.data.toList
  have hll : (lsL r).length = n - 1 := by unfold lsL; rw [List.length_map]; omega
  have hxs : lsL (x0 :: r) = x0.data.toList :: lsL r := rfl
  rw [hxs] at hl
  rw [hss, hll] at hjl
  obtain ⟨M, hM⟩ : ∃ M, sep.size * (n - 1) = M := ⟨_, rfl⟩
  rw [hM] at hjl
  have hMb : M + Lib.lens (x0.data.toList :: lsL r) ≤ 10000000 := by omega
  have hcast : ((n : Int) - 1) = ((n - 1 : Nat) : Int) := by omega
  have hdv : ¬ (9223372036854775807 / ((n : Int) - 1) ≤ (sep.size : Int)) := by
    have h3 : (9223372036854775807 : Int) / ((n : Int) - 1) ≥ 9223372036854775807 / 1000 := by
      apply Int.le_ediv_of_mul_le (by omega)
      have : (9223372036854775807 : Int) / 1000 * ((n : Int) - 1) ≤ 9223372036854775807 / 1000 * 1000 := Int.mul_le_mul_of_nonneg_left (by omega) (by decide)
      exact Int.le_trans this (by decide)
    omega
  have hprod : wrap64 ((sep.size : Int) * ((n : Int) - 1)) = (M : Int) := by
    have e : (sep.size : Int) * ((n - 1 : Nat) : Int) = ((sep.size * (n - 1) : Nat) : Int) := (Int.natCast_mul _ _).symm
    rw [hcast, e, hM]
    unfold wrap64
    omega
  have hne0 : ((n : Int) == 0) = false := by rw [beq_eq_false_iff_ne]; omega
  have hne1 : ((n : Int) == 1) = false := by rw [beq_eq_false_iff_ne]; omega
  have HC := hide (fun (W : World) (hW : Below w.heap.size w W) (k : Nat) (x : ByteArray) (hk : (x0 :: r)[k]? = some x) => (show W.cell? ⟨g, k, none⟩ = some (.string x) from by
    obtain ⟨h1, h3⟩ := List.getElem?_eq_some_iff.1 hk
    obtain ⟨g', e1, _, p0, _⟩ := (hr.below hW).str k h1
    cases e1
    rw [p0, h3]))
  have HLX := hide (fun (k : Nat) (x : ByteArray) (hk : (x0 :: r)[k]? = some x) => (show Lib.lens ((x0.data.toList :: lsL r).take (k + 1)) = Lib.lens ((x0.data.toList :: lsL r).take k) + x.size from by
    have := Lib.lens_take_succ (lsL (x0 :: r)) k x.data.toList (by unfold lsL; rw [List.getElem?_map, hk]; rfl)
    rw [hxs] at this
    rw [this]
    simp))
  have HLE := hide (fun (k : Nat) => Lib.lens_take_le (x0.data.toList :: lsL r) k)
  have HTT := hide (show (x0.data.toList :: lsL r).take n = x0.data.toList :: lsL r from List.take_of_length_le (by rw [List.length_cons, hll]; omega))
  have HWH := hide hwhole
  have HL := hide hl
  have hdvd := decide_eq_false hdv
  have HN := hide hn
  clear hjl hwhole hss hM hl hcast hr hll hxs hn
  go_enter Tryz.func31, Tryz.ntmps31
  go_wp2_with fail
  go_loop [5, 41] (fun a i => ∃ k : Nat, k ≤ n ∧ i = .int .i64 k ∧ a = .int .i64 ((M + Lib.lens ((x0.data.toList :: lsL r).take k) : Nat) : Int)) (fun _ i => n - (intOf i).toNat)
  case atStart => exact ⟨0, by omega, rfl, by first | (simp [Lib.lens]; done) | skip⟩
  case round =>
    obtain ⟨k, hk, rfl, rfl⟩ := hrel
    by_cases hkn : k < n
    · have hkl : k < (x0 :: r).length := by rw [List.length_cons, unhide HN]; exact hkn
      have hxk : (x0 :: r)[k]? = some (x0 :: r)[k] := List.getElem?_eq_getElem hkl
      generalize (x0 :: r)[k] = x at hxk
      have hcx := unhide HC _ (Below.refl _ _) k x hxk
      have hst := unhide HLX k x hxk
      have hle := unhide HLE (k + 1)
      generalize hA1 : Lib.lens ((x0.data.toList :: lsL r).take (k + 1)) = A1 at hst hle
      have HA1 := hide hA1
      clear hA1
      generalize Lib.lens ((x0.data.toList :: lsL r).take k) = A0 at hst
      generalize Lib.lens (x0.data.toList :: lsL r) = AA at hle hMb
      have i0 : (0 : Int) ≤ (k : Int) := by omega
      have i1 : (k : Int) < (n : Int) := by omega
      have hA : ((M + A0 : Nat) : Int) + (x.size : Int) = ((M + A1 : Nat) : Int) := by omega
      have hgt : ¬ ((9223372036854775807 : Int) - ((M + A0 : Nat) : Int) < (x.size : Int)) := by omega
      generalize M + A0 = B0 at hA hgt ⊢
      generalize hB1 : M + A1 = B1 at hA
      have HB1 := hide hB1
      have hb1 : B1 ≤ 10000000 := by omega
      clear hB1 hst hle hxk hkl
      go_wp2_with fail
      go_round
      case rel => exact ⟨k + 1, by omega, by go_num, by rw [unhide HA1, unhide HB1]⟩
      case measure => simp [intOf]; omega
    · obtain rfl : k = n := by omega
      rw [unhide HTT]
      generalize M + Lib.lens (x0.data.toList :: lsL r) = T at hMb
      have hx0 := unhide HC _ (Below.refl _ _) 0 x0 rfl
      have HBA := hide (show Below w.heap.size w (w.alloc (.cells #[.pointer none, .slice none 0 0] 91)) from (Below.refl _ _).alloc (Nat.le_refl _) _)
      have HGR := hide (BGrow_calls w.heap.size T (w.alloc (.cells #[.pointer none, .slice none 0 0] 91)) (MapKept.heap_alloc w _).1 (by omega) (by simp))
      clear hMb hdv hprod hdvd hkn hk HLX HLE
      go_wp2_with fail
      refine (unhide HGR).mono ?_
      rintro e w1 ⟨rfl, hB1, hb1⟩
      have HB1 := hide hB1
      have HW1 := hide ((unhide HBA).trans hb1)
      have hc0 := unhide HC _ (unhide HW1) 0 x0 rfl
      have hz1 : w.heap.size ≤ w1.heap.size := (unhide HW1).size
      have HTL := hide (fun (q : Nat) => (show (x0.data.toList ++ Lib.joinTail sep.data.toList ((lsL r).take q)).length ≤ 10000000 from by
        have h3 := unhide HL
        have h4 := unhide HWH
        have h5 : lsL (x0 :: r) = x0.data.toList :: lsL r := rfl
        rw [h5] at h4
        rw [h4, List.length_append] at h3
        have h6 := Lib.joinTail_take_le sep.data.toList (lsL r) q
        rw [List.length_append]
        omega))
      have HS1 := hide (WriteString_calls w.heap.size w.heap.size [] x0 w1 (unhide HB1) (by have := unhide HTL 0; rw [List.length_append] at this; simp at this ⊢; omega) hz1)
      clear hB1 hb1 hx0 HGR HBA HTT
      go_wp2_with fail
      refine (unhide HS1).mono ?_
      rintro e w2 ⟨rfl, hB2, hb2⟩
      have hst0 : ([] : List Value) ++ Lib.strCells x0 = Lib.byteCells (x0.data.toList ++ Lib.joinTail sep.data.toList ((lsL r).take 0)) := by simp [Lib.joinTail, Lib.strCells_eq]
      rw [hst0] at hB2
      have HB2 := hide (Or.inr hB2 : Lib.IsBuilder 91 5 w.heap.size w.heap.size _ w2)
      have HW2 := hide ((unhide HW1).trans hb2)
      clear hB2 hb2 hst0 HS1 hc0 HB1 HW1 hz1
      obtain ⟨m, hm⟩ : ∃ m : Nat, (k : Int) - 1 = (m : Int) := ⟨k - 1, by omega⟩
      have hmr : r.length = m := by have := unhide HN; omega
      have HMR := hide hmr
      have hmb : m ≤ 1000 := by omega
      obtain ⟨c', hc'⟩ : ∃ c' : Nat, (c : Int) - 1 = (c' : Int) := ⟨c - 1, by omega⟩
      have hcc : ((c : Int) == 1) = false := by rw [beq_eq_false_iff_ne]; omega
      have hk1 : (1 : Int) ≤ (k : Int) := by omega
      have hkc : (k : Int) ≤ (c : Int) := by omega
      clear hmr
      go_wp2_with fail
      go_loopw [65] (fun i wr => ∃ q : Nat, q ≤ m ∧ i = .int .i64 q ∧ Hid (Lib.IsBuilder 91 5 w.heap.size w.heap.size (Lib.byteCells (x0.data.toList ++ Lib.joinTail sep.data.toList ((lsL r).take q))) wr) ∧ Hid (Below w.heap.size w wr)) (fun i _ => m - (intOf i).toNat)
      case atStart => exact ⟨0, by omega, rfl, HB2, HW2⟩
      case round =>
        obtain ⟨q, hq, rfl, HBq, HWq⟩ := hrel
        by_cases hqm : q < m
        · have hql : q < r.length := by rw [unhide HMR]; exact hqm
          have hyq : r[q]? = some r[q] := List.getElem?_eq_getElem hql
          generalize r[q] = y at hyq
          have hcy := unhide HC _ (unhide HWq) (q + 1) y (by rw [List.getElem?_cons_succ]; exact hyq)
          have hcy2 : wr.cell? ⟨g, 1 + q, none⟩ = some (.string y) := by rw [Nat.add_comm]; exact hcy
          have hts := Lib.joinTail_take_succ sep.data.toList (lsL r) q y.data.toList (by unfold lsL; rw [List.getElem?_map, hyq]; rfl)
          have hln := unhide HTL (q + 1)
          have HNX := hide (show Lib.byteCells (x0.data.toList ++ Lib.joinTail sep.data.toList ((lsL r).take q)) ++ Lib.strCells sep ++ Lib.strCells y = Lib.byteCells (x0.data.toList ++ Lib.joinTail sep.data.toList ((lsL r).take (q + 1))) from by
            rw [hts, Lib.strCells_eq, Lib.strCells_eq, ← Lib.byteCells_append, ← Lib.byteCells_append]
            congr 1
            simp [List.append_assoc])
          rw [hts] at hln
          have hl2 : (Lib.byteCells (x0.data.toList ++ Lib.joinTail sep.data.toList ((lsL r).take q))).length + sep.size + y.size ≤ 10000000 := by
            rw [Lib.byteCells_length]
            simp only [List.length_append, ← Lib.size_eq] at hln ⊢
            omega
          have hzq : w.heap.size ≤ wr.heap.size := (unhide HWq).size
          generalize Lib.byteCells (x0.data.toList ++ Lib.joinTail sep.data.toList ((lsL r).take q)) = cs at HBq HNX hl2
          have HS1 := hide (WriteString_calls w.heap.size w.heap.size cs sep wr (unhide HBq) (by omega) hzq)
          have i0 : (0 : Int) ≤ (q : Int) := by omega
          have i1 : (q : Int) < (m : Int) := by omega
          clear hts hln hyq hql
          go_wp2_with fail
          refine (unhide HS1).mono ?_
          rintro e w3 ⟨rfl, hB3, hb3⟩
          have HW3 := hide ((unhide HWq).trans hb3)
          have HS2 := hide (WriteString_calls w.heap.size w.heap.size (cs ++ Lib.strCells sep) y w3 (.inr hB3) (by rw [List.length_append, Lib.strCells_length]; omega) (Nat.le_trans hzq hb3.size))
          clear hB3 hb3 HS1
          go_wp2_with fail
          refine (unhide HS2).mono ?_
          rintro e w4 ⟨rfl, hB4, hb4⟩
          rw [unhide HNX] at hB4
          have HB4 := hide (Or.inr hB4 : Lib.IsBuilder 91 5 w.heap.size w.heap.size _ w4)
          have HW4 := hide ((unhide HW3).trans hb4)
          clear hB4 hb4 HS2
          go_wp2_with fail
          go_roundw
          case rel => exact ⟨q + 1, by omega, by go_num, HB4, HW4⟩
          case measure => simp [intOf]; omega
        · obtain rfl : q = m := by omega
          have hB5 := unhide HBq
          rw [show (lsL r).take q = lsL r from List.take_of_length_le (by unfold lsL; rw [List.length_map, unhide HMR]; exact Nat.le_refl _), ← unhide HWH] at hB5
          have HS3 := hide (BString_calls w.heap.size w.heap.size _ wr hB5 (unhide HWq).size)
          clear hB5 HBq
          go_wp2_with fail
          refine (unhide HS3).mono ?_
          rintro e w5 ⟨rfl, hb5⟩
          have HW5 := hide ((unhide HWq).trans hb5)
          clear hb5
          go_wp2_with fail
          go_ret
          exact ⟨rfl, unhide HW5⟩
end Go.Proofs.YtanekbifdedmeaaGreatDoor
