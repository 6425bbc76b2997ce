/- The digest of a key, by the program. -/
import Derived.Test.YtldgkpnlplfopaaGreatDoorKyR
import Derived.Test.YtldgkpnlplfopaaGreatDoorByt
namespace Go.Proofs.YtldgkpnlplfopaaGreatDoor
open Go.RowKit Go.Maps Plain
set_option linter.unusedVariables false

namespace Plain
def tI (k : List UInt8) : List Int := (dgL k).map fun b => (b.toNat : Int)
theorem tI_len (k : List UInt8) : (tI k).length = 7 + 2 * k.length := by
  unfold tI dgL
  rw [List.length_map, List.length_append]
  induction k with
  | nil => rfl
  | cons b k ih => simp [shaL] at *; omega
theorem tI_next (x : List UInt8) (i : Nat) (h : i < x.length) : tI (x.take (i + 1)) = tI (x.take i) ++ [((hxC (x[i].toNat / 16)).toNat : Int), ((hxC (x[i].toNat % 16)).toNat : Int)] := by
  unfold tI dgL
  rw [List.take_succ_eq_append_getElem h, List.flatMap_append, ← List.append_assoc, List.map_append]
  simp
theorem tI_str (x : List UInt8) : strOfNums (tI x) = dgT x := by
  unfold dgT tI strOfNums
  congr 1
  apply Array.ext'
  simp
  rw [show ((fun n : Int => UInt8.ofNat n.toNat) ∘ fun b : UInt8 => (b.toNat : Int)) = id from by funext b; simp]
  simp
end Plain
theorem stepB2 {ops : Array Oper} {o : Oper} {a : Act} {K : Act → World → Prop} {Q : Exit → Act → World → Prop} {F : Prop} (hgd : o.guard = none) (s x : Operand)
    (ho : o.op = .call { callee := .builtin .append, args := #[s, x], argTypes := #[22, 22] })
    {w : World} {B g cap n : Nat} {b1 b2 : Int} {xs : List Int} (hown : OwnP w B g cap xs) (hn : xs.length = n) (hs : a.eval s = .slice (some ⟨g, 0, none⟩) n cap)
    (gx : Nat) (hx : a.eval x = .slice (some ⟨gx, 0, none⟩) 2 2) (hc : w.heap[gx]? = some (.cells #[.int .u8 b1, .int .u8 b2] 5 (0, 0))) (hlen : n < 1000000) (hB : B ≤ w.heap.size)
    (h : ∀ g' cap' w', OwnP w' B g' cap' (xs ++ [b1, b2]) → Below B w w' → K (a.put o.dst (.slice (some ⟨g', 0, none⟩) (n + 2) cap')) w') :
    if Region.wanted o (yielded ops a.tmps) = true then Oper.wp Tryz.prog o a w K Q else F := by
  rw [if_pos (by simp [Region.wanted, hgd])]
  subst hn
  obtain ⟨i0, hi, hz0, hz1, hz2⟩ := info_parts info5
  obtain ⟨h1, h2, h3, h4, h5⟩ := hown
  have hnews : ∀ j u, ([Value.int .u8 b1, .int .u8 b2])[j]? = some u → w.cell? ((⟨gx, 0, none⟩ : Addr).add j) = some u := by
    intro j u hj
    rw [Addr.add_lit, Nat.zero_add, cell_of_row _ _ j _ _ _ hc, ← hj]
    simp
  have hone : ∀ u ∈ ([Value.int .u8 b1, .int .u8 b2]), u.oneCell' = true := by
    intro u hu
    simp at hu
    rcases hu with rfl | rfl <;> rfl
  by_cases hr : xs.length + 2 ≤ cap
  · have hrun := run_append_room_cells (P := Tryz.prog) w 22 o.type 5 i0 Tryz.underlying22 hi g 0 xs.length cap ⟨gx, 0, none⟩ 2 2 _ (by rw [hz1]; rfl) hnews hone hr
      (fun j hj => by simp at hj; rw [hz1, Nat.zero_add, Nat.mul_one]; exact (h5 _ (by omega)).1) (fun j hj => by simp at hj; rw [hz1, Nat.zero_add, Nat.mul_one]; exact (h5 _ (by omega)).2)
    unfold Oper.wp execOp
    simp only [ho, resolve, invoke, builtin, Sem.run_bind, Sem.run_pure, Result.andThen_ok, List.map_toArray, List.map_cons, List.map_nil, hs, hx, hrun]
    have e : w.setCells g (0 + xs.length * i0.size) [.int .u8 b1, .int .u8 b2] = (w.setCell ⟨g, xs.length, none⟩ (.int .u8 b1)).setCell ⟨g, xs.length + 1, none⟩ (.int .u8 b2) := by
      rw [hz1]
      simp [World.setCells]
    rw [e]
    refine h g cap _ ⟨h1, by simpa using h2, by simpa using hr, fun j hj => ?_, fun j hj => ?_⟩ (((Below.refl B w).setCell (p := ⟨g, xs.length, none⟩) h1 _).setCell (p := ⟨g, xs.length + 1, none⟩) h1 _)
    · simp at hj
      by_cases e2 : j = xs.length + 1
      · subst e2
        rw [World.cell?_setCell_same' _ _ _ (by rw [World.cell?_setCell_other _ ⟨g, xs.length, none⟩ ⟨g, xs.length + 1, none⟩ _ (fun q => by have := congrArg Addr.off q; simp at this)]; exact (h5 _ (by omega)).1)]
        simp [List.getD]
      · rw [World.cell?_setCell_other _ ⟨g, xs.length + 1, none⟩ ⟨g, j, none⟩ _ (fun q => e2 (congrArg Addr.off q).symm)]
        by_cases e1 : j = xs.length
        · subst e1
          rw [World.cell?_setCell_same' _ _ _ (h5 _ (by omega)).1]
          simp [List.getD]
        · rw [World.cell?_setCell_other _ ⟨g, xs.length, none⟩ ⟨g, j, none⟩ _ (fun q => e1 (congrArg Addr.off q).symm), h4 j (by omega)]
          simp [List.getD, List.getElem?_append_left (show j < xs.length by omega)]
    · refine ⟨?_, by simpa using (h5 j hj).2⟩
      by_cases e2 : j = xs.length + 1
      · subst e2
        rw [World.cell?_setCell_same' _ _ _ (by rw [World.cell?_setCell_other _ ⟨g, xs.length, none⟩ ⟨g, xs.length + 1, none⟩ _ (fun q => by have := congrArg Addr.off q; simp at this)]; exact (h5 _ (by omega)).1)]
        rfl
      · rw [World.cell?_setCell_other _ ⟨g, xs.length + 1, none⟩ ⟨g, j, none⟩ _ (fun q => e2 (congrArg Addr.off q).symm)]
        by_cases e1 : j = xs.length
        · subst e1
          rw [World.cell?_setCell_same' _ _ _ (h5 _ (by omega)).1]
          rfl
        · rw [World.cell?_setCell_other _ ⟨g, xs.length, none⟩ ⟨g, j, none⟩ _ (fun q => e1 (congrArg Addr.off q).symm)]
          exact (h5 j hj).1
  · obtain ⟨v', w', hrun, hw, hgr⟩ := run_append_arg_grows (P := Tryz.prog) w 22 o.type 5 i0 (.int .u8 0) 1 1 Tryz.underlying22 hi hz0 hz1 hz2 rfl (by decide) ⟨g, 0, none⟩ xs.length cap (xs.map (Value.int .u8)) (by simp) (fun j u hu => by
      have hl : j < xs.length := by have := (List.getElem?_eq_some_iff.1 hu).1; simpa using this
      rw [Addr.add_lit, Nat.zero_add, h4 j hl, ← hu]
      simp [List.getD, List.getElem?_eq_getElem hl]) ⟨gx, 0, none⟩ 2 2 _ rfl hnews (by omega) (by unfold maxLen; omega) (by omega)
    unfold Oper.wp execOp
    simp only [ho, resolve, invoke, builtin, Sem.run_bind, Sem.run_pure, Result.andThen_ok, List.map_toArray, List.map_cons, List.map_nil, hs, hx, hrun]
    rcases hw.2 with ⟨_, h0⟩ | ⟨g', cap', cur, rfl, hbg, hcur, hle, hmx, hcs, htk⟩
    · omega
    · refine h g' cap' w' ⟨by omega, (Array.getElem?_eq_some_iff.1 hcur).1, by simpa using hle, fun j hj => ?_, fun j hj => ?_⟩ ((Below.refl B w).grown hgr hB (fun k e => by cases e))
      · rw [cell_of_row _ _ j _ _ _ hcur]
        simp at hj
        have hk : cur.toList[j]? = (xs.map (Value.int .u8) ++ [.int .u8 b1, .int .u8 b2])[j]? := by rw [← htk, List.getElem?_take_of_lt (by omega)]
        rw [← Array.getElem?_toList, hk]
        by_cases e : j < xs.length
        · simp [List.getD, List.getElem?_append_left, e]
        · by_cases e1 : j = xs.length
          · subst e1
            simp [List.getD]
          · obtain rfl : j = xs.length + 1 := by omega
            simp [List.getD]
      · exact ⟨by rw [cell_of_row _ _ j _ _ _ hcur, Array.getElem?_eq_getElem (by omega)]; rfl, frozen_of_row _ _ j _ _ hcur⟩

theorem indexK (cs : Array Value) (i : Nat) (b : Nat) (h : cs[i]? = some (.int .u8 (b : Int))) (hi : i < 32) (W : World) : (Instr.index 63 (.agg cs) (.int .i64 (i : Int))).run Tryz.prog W = .ok (.int .u8 (b : Int)) W := by
  have h8 : (sizeOf 5).run Tryz.prog W = .ok 1 W := by kernel_rfl
  simp [Instr.index, asIntOf, run_underlying Tryz.underlying63, h8, hi, part, h]
theorem hx_all : ∀ p : Fin 16, (⟨#[48, 49, 50, 51, 52, 53, 54, 55, 56, 57, 97, 98, 99, 100, 101, 102]⟩ : ByteArray).data.toList.getD p.val 0 = hxC p.val := by decide +kernel
theorem hx_at (p : Nat) (h : p < 16) (hb : p < (⟨#[48, 49, 50, 51, 52, 53, 54, 55, 56, 57, 97, 98, 99, 100, 101, 102]⟩ : ByteArray).size) : (⟨#[48, 49, 50, 51, 52, 53, 54, 55, 56, 57, 97, 98, 99, 100, 101, 102]⟩ : ByteArray)[p]'hb = hxC p := by
  rw [← hx_all ⟨p, h⟩]
  have h2 : p < (⟨#[48, 49, 50, 51, 52, 53, 54, 55, 56, 57, 97, 98, 99, 100, 101, 102]⟩ : ByteArray).data.toList.length := by simpa using h
  simp only [List.getD, List.getElem?_eq_getElem h2]
  rfl
theorem and15u : ∀ n : Fin 256, bits .and .u8 (n.val : Int) 15 = ((n.val % 16 : Nat) : Int) := by decide +kernel

set_option maxRecDepth 100000 in
set_option maxHeartbeats 2000000 in
theorem kdig_calls (x : List UInt8) (hx : x.length = 32) (w : World) :
    Calls Tryz.prog 31 #[.agg (encK x).toArray] w fun e w' => e = .returned (.string (dgT x)) ∧ Below w.heap.size w w' := by
  have hcs : (convert 22 22 (.slice (some ⟨w.heap.size + 1, 0, none⟩) 7 7)).run Tryz.prog ((w.alloc (.cells (encK x).toArray 63)).alloc (.cells #[.int .u8 115, .int .u8 104, .int .u8 97, .int .u8 50, .int .u8 53, .int .u8 54, .int .u8 58] 5)) = .ok (.slice (some ⟨w.heap.size + 1, 0, none⟩) 7 7) ((w.alloc (.cells (encK x).toArray 63)).alloc (.cells ((tI []).map (Value.int .u8)).toArray 5 (7, 8))) := by
    have h0 : (w.alloc (.cells (encK x).toArray 63)).heap.size = w.heap.size + 1 := by simp
    have := conv_const (w.alloc (.cells (encK x).toArray 63)) (tI []) 7 rfl
    rw [h0] at this
    exact this
  obtain ⟨W0, hW0⟩ : ∃ W0, (w.alloc (.cells (encK x).toArray 63)).alloc (.cells ((tI []).map (Value.int .u8)).toArray 5 (7, 8)) = W0 := ⟨_, rfl⟩
  have HO0 := hide (show OwnP W0 w.heap.size (w.heap.size + 1) 7 (tI (x.take 0)) from by
    have h0 : (w.alloc (.cells (encK x).toArray 63)).heap.size = w.heap.size + 1 := by simp
    have := const_own (w.alloc (.cells (encK x).toArray 63)) (tI []) 7 rfl
    rw [hW0, h0] at this
    exact ⟨by omega, this.2⟩)
  have HB0 := hide (show Below w.heap.size w W0 from by rw [← hW0]; exact ((Below.refl _ _).alloc (Nat.le_refl _) _).alloc (by simp) _)
  have hrow : W0.heap[w.heap.size]? = some (.cells (encK x).toArray 63 (0, 0)) := by
    rw [← hW0, heap_alloc_old _ _ (by simp)]
    exact heap_alloc_new _ _
  rw [hW0] at hcs
  have hinx := infX x
  clear hW0
  go_enter Tryz.func31, Tryz.ntmps31
  go_upto_region 2 with fail
  clear hcs
  go_wp2_with (refine wpList_load_row rfl 63 (.tmp 1) rfl w.heap.size rfl 63 (encK x).toArray (0, 0) _ hrow Tryz.underlying63 rfl hinx ?_)
  clear hrow
  go_loopw [3, 5, 9] (fun s3 _ s9 wr => ∃ (i g c n : Nat), s9 = .int .i64 i ∧ s3 = .slice (some ⟨g, 0, none⟩) n c ∧ i ≤ 32 ∧ Hid (n = 7 + 2 * i) ∧ Hid (OwnP wr w.heap.size g c (tI (x.take i))) ∧ Hid (Below w.heap.size w wr)) (fun _ _ s9 _ => 32 - (intOf s9).toNat)
  case atStart => exact ⟨0, _, _, _, rfl, rfl, by omega, hide rfl, HO0, HB0⟩
  case round =>
    clear HO0 HB0
    obtain ⟨i, g, c, n, rfl, rfl, hi, HN, HO, HB⟩ := hrel
    by_cases hlt : i < 32
    · have hil : i < x.length := by omega
      have hix : ((encK x).toArray)[i]? = some (.int .u8 (x[i].toNat : Int)) := by
        unfold encK
        rw [padK_id hx]
        simp [hil]
      have HNX := hide (tI_next x i hil)
      have hbl := x[i].toNat_lt
      generalize x[i].toNat = b at hix HNX hbl
      have i0 : (0 : Int) ≤ (i : Int) := by omega
      have i1 : (i : Int) < 32 := by omega
      have hri := indexK (encK x).toArray i b hix hlt wr
      have a15 := and15u ⟨b, by omega⟩
      obtain ⟨p, hp, d4, l4⟩ : ∃ p : Nat, b / 16 = p ∧ (b : Int) / 16 = (p : Int) ∧ p < 16 := ⟨b / 16, rfl, by omega, by omega⟩
      obtain ⟨q, hq, l5⟩ : ∃ q : Nat, b % 16 = q ∧ q < 16 := ⟨b % 16, rfl, by omega⟩
      have d5 : bits .and .u8 (b : Int) 15 = (q : Int) := by rw [← hq]; exact a15
      rw [hp, hq] at HNX
      have p0 : (0 : Int) ≤ (p : Int) := by omega
      have p1 : (p : Int) < 16 := by omega
      have q0 : (0 : Int) ≤ (q : Int) := by omega
      have q1 : (q : Int) < 16 := by omega
      clear a15 hp hq hix hil
      go_wp2_with fail
      clear hri
      have hgl := (unhide HO).2.1
      have hBz := (unhide HB).size
      have hln : (tI (x.take i)).length = n := by rw [tI_len, unhide HN, List.length_take]; omega
      have hn9 : n < 1000000 := by rw [unhide HN]; omega
      go_region_held3 (fun _ => True) (exact trivial) (first | (refine stepB2 rfl (.tmp 12) (.tmp 19) rfl (OwnP.keep (unhide HO) (heap_alloc_old _ _ hgl) (by simp)) hln rfl wr.heap.size rfl (heap_alloc_new _ _) hn9 (by simp; omega) ?_; intro g' c' w2 hown2 hb2))
      all_goals
        go_wp2_with fail
        go_roundw
        case rel =>
          refine ⟨i + 1, g', c', n + 2, by go_num, rfl, by omega, hide (by rw [unhide HN]; omega), hide ?_, hide ((unhide HB).trans (show Below w.heap.size wr w2 from (((Below.refl _ wr).drew).alloc hBz _).trans hb2))⟩
          rw [unhide HNX, ← hx_at p l4 l4, ← hx_at q l5 l5]
          exact hown2
        case measure => simp [intOf]; omega
    · obtain rfl : i = 32 := by omega
      have hO := unhide HO
      rw [List.take_of_length_le (by omega)] at hO
      have hcv := conv_pre wr _ _ _ n c _ hO (by rw [tI_len, unhide HN]; omega)
      rw [List.take_of_length_le (by rw [tI_len, unhide HN]; omega), tI_str] at hcv
      clear hO HO
      go_wp2_with fail
      go_ret
      exact ⟨rfl, unhide HB⟩
end Go.Proofs.YtldgkpnlplfopaaGreatDoor
