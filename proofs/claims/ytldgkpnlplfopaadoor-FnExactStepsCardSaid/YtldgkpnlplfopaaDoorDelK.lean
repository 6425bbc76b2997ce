/- What one set has and another has not, by the program. -/
import Derived.Test.YtldgkpnlplfopaaDoorTzA
import Derived.Shelf.SlMaps.Clone
import Derived.Lib.SlMapFilter
import Derived.Maps.RangeWalk
import Derived.Laws.IdiomRangeMap
import Derived.Deep.LoopGhost
namespace Go.Proofs.YtldgkpnlplfopaaDoor
open Go.RowKit Go.Maps Plain
set_option linter.unusedVariables false

set_option maxRecDepth 100000 in
set_option maxHeartbeats 2000000 in
theorem cloneK (b n : Nat) (D : DataW Unit) (w : World) (hown : w.ownsMap Tryd.prog 43 anyR b n D) :
    Calls Tryd.prog 47 #[.map (some b)] w fun e w' => e = .returned (.map (some w.heap.size)) ∧ w'.ownsMap Tryd.prog 43 anyR w.heap.size n D ∧ Below w.heap.size w w' := by
  have hlt := hown.lt
  obtain ⟨es, clock, hb, F, hs, hD⟩ := hown
  have hq := fun w => run_eql_map_nil_sl (P := Tryd.prog) w 35 _ _ (some b) Tryd.underlying35
  have HX := hide (show (w.alloc (.map es clock)).ownsMap Tryd.prog 43 anyR w.heap.size n D from ⟨es, clock, (MapKept.heap_alloc w _).1, F, hs, hD⟩)
  clear F hs hD
  go_enter Tryd.func47, Tryd.ntmps47
  go_wp2
  rw [run_callFunc_extern Tryd.func61 (by kernel_rfl) (by kernel_rfl) (by kernel_rfl) (e := Extern.MapsClone.clone) (by kernel_rfl), run_maps_clone_sl w 35 hb]
  simp only [Result.andThen]
  rw [Oper.upon_value]
  go_wp2
  rw [run_typeAssert_map_sl _ 35 _ _ _ _ Tryd.underlying35]
  simp only [Result.andThen]
  rw [Oper.upon_value]
  go_wp2
  go_ret
  exact ⟨rfl, unhide HX, (Below.refl _ w).alloc (Nat.le_refl _) _⟩

set_option maxRecDepth 100000 in
set_option maxHeartbeats 2000000 in
theorem without1_calls (x : List UInt8) (hx : x.length = 32) (Bo bo no : Nat) (Do : DataW Unit) (W : World) (hm : W.cell? ⟨Bo, 0, none⟩ = some (.map (some bo))) (hown : W.ownsMap Tryd.prog 43 anyR bo no Do) :
    Calls Tryd.prog 49 #[.agg (encK x).toArray, .agg #[], .pointer (some ⟨Bo, 0, none⟩)] W fun e w' => e = .returned (.bool (Maps.has Do (keyLK x))) ∧ Below W.heap.size W w' := by
  have hBo : Bo < W.heap.size := lt_of_cell hm
  obtain ⟨W2, hW2⟩ : ∃ W2, (W.alloc (.cells (encK x).toArray 43)).alloc (.cells #[] 63) = W2 := ⟨_, rfl⟩
  have hb2 : Below W.heap.size W W2 := by rw [← hW2]; exact ((Below.refl _ _).alloc (Nat.le_refl _) _).alloc (by simp) _
  have hrow : W2.heap[W.heap.size]? = some (.cells (encK x).toArray 43 (0, 0)) := by
    rw [← hW2, heap_alloc_old _ _ (by simp)]
    exact heap_alloc_new _ _
  have hm2 : W2.cell? ⟨Bo, 0, none⟩ = some (.map (some bo)) := (hb2.cell (p := ⟨Bo, 0, none⟩) hBo).trans hm
  have HM2 := hide (show W2.ownsMap Tryd.prog 43 anyR bo no Do from by rw [← hW2]; exact (hown.alloc _).alloc _)
  have hz0 : ∀ W : World, (zeroValue 63).run Tryd.prog W = .ok (.agg #[]) W := fun W => by kernel_rfl
  have HZ0 := hide hz0
  have hinx := infX x
  have HB2 := hide hb2
  have HW2 := hide hW2
  clear hz0 hb2 hown hm hW2
  obtain ⟨r, hr⟩ : ∃ r, Maps.has Do (keyLK x) = r := ⟨_, rfl⟩
  rw [hr]
  go_enter Tryd.func49, Tryd.ntmps49
  go_upto_region 1 with fail
  rw [unhide HW2]
  go_wp2_with (first
    | (refine wpList_load_row rfl 43 (.tmp 3) rfl W.heap.size rfl 43 (encK x).toArray (0, 0) _ hrow Tryd.underlying43 rfl hinx ?_)
    | (at_lookup; refine wpList_lookup_own_unit _ rfl _ _ 35 rfl 43 63 keyedK Tryd.underlying35 (unhide HZ0 _) bo no Do rfl (unhide HM2) _ _ rfl (keyK_of x) ?_; rw [hr]))
  go_ret
  exact ⟨rfl, (unhide HB2).alloc (unhide HB2).size _⟩

theorem unit_inv {c : Value} {yd : DataW Unit} {yp : List MemPlace} (h : anyR c = some (yd, yp)) : c = .agg #[] := by
  unfold anyR unitElem at h
  split at h
  · split at h
    · rename_i cs hs
      rw [Array.eq_empty_of_size_eq_zero hs]
    · simp at h
  · simp at h

set_option maxRecDepth 100000 in
set_option maxHeartbeats 4000000 in
theorem delK (b n : Nat) (D : DataW Unit) (Bo bo no : Nat) (Do : DataW Unit) (w : World) (hown : w.ownsMap Tryd.prog 43 anyR b n D) (hm : w.cell? ⟨Bo, 0, none⟩ = some (.map (some bo))) (hownO : w.ownsMap Tryd.prog 43 anyR bo no Do) (hne : bo ≠ b) (hneB : Bo ≠ b) :
    Calls Tryd.prog 48 #[.map (some b), .func (.func 49) #[] #[.pointer (some ⟨Bo, 0, none⟩)]] w fun e w' => e = .returned (.tuple #[]) ∧ w'.ownsMap Tryd.prog 43 anyR b n (Lib.deleteFuncD (fun kl _ => Maps.has Do kl) D) ∧ w.grownBy w' (some b) := by
  have eg : ∀ args w, (callFunc 49 args).run Tryd.prog w = .ok (.enter 49 args) w := enters_of Tryd.func49 (by kernel_rfl) rfl
  have HD := hide (fun (W : World) (hW : w.grownBy W (some b)) (x : List UInt8) (hx : x.length = 32) => without1_calls x hx Bo bo no Do W (hW.cell hm (by intro q; simp at q; exact hneB q)) (hownO.kept hW (by intro q; simp at q; exact hne q)))
  obtain ⟨es0, rfl, hap, hkeys⟩ := hown.entries keyedK
  clear hm hownO
  go_enter Tryd.func48, Tryd.ntmps48
  go_wp2_with (first
    | (at_range; refine wpList_range_own _ rfl _ 35 rfl 43 63 keyedK Tryd.underlying35 anyR b n _ rfl hown ?_; intro w0 hrg0 hg0 hs0)
    | go_in)
  go_frame
  go_loopw [8, 9, 10, 11, 12, 4, 5] (fun _ _ _ _ _ _ _ wr => ∃ (left : Lit → Bool) (cnt : Nat), wr.ranges Tryd.prog 43 anyR b w.heap.size n (Fk (fun kl _ => Maps.has Do kl) es0 left) left cnt ∧ w.grownBy wr (some b))
    (fun _ _ _ _ _ _ _ wr => wr.rangeLeft b w.heap.size)
  case atStart => exact ⟨_, _, by rw [Fk_start hkeys]; exact hrg0, hg0.but _⟩
  case round =>
    obtain ⟨left, cnt, hrg, hgw⟩ := hrel
    go_wp2_with (first
      | (at_next; refine wpList_next_ranges _ rfl _ rfl 43 keyedK anyR valK id (fun key kl hk => by obtain ⟨x, e, hx⟩ := keyK_inv hk; exact ⟨⟨x, hx⟩, e⟩) (fun v _ _ => ⟨v, rfl⟩) b w.heap.size n _ _ _ rfl hrg ?_ ?_)
      | go_in)
    · intro _ hl0
      go_wp2
      go_end0
      exact ⟨rfl, by rw [← Fk_end hl0]; exact hrg.owns, hgw⟩
    · intro x hx c kl yd yp w1 cnt1 hkey hlx hv hat hrg1 hlt hg1 hs1 hen
      obtain rfl : keyLK x = kl := Option.some.inj ((keyK_of x).symm.trans hkey)
      have hgw1 := hgw.andThen hg1 (fun j hj => by cases hj; exact Or.inl (Nat.le_refl _))
      simp only [valK] at hen
      have hcu : c = .agg #[] := unit_inv hv
      subst hcu
      have hinx := infX x
      have H32X := hide (s32X x)
      have honx := oneX x
      have hbl := hrg1.owns.lt
      have hrl := hrg1.lt
      obtain ⟨W2, hW2⟩ : ∃ W2, (w1.alloc (.cells #[.int .u8 0, .int .u8 0, .int .u8 0, .int .u8 0, .int .u8 0, .int .u8 0, .int .u8 0, .int .u8 0, .int .u8 0, .int .u8 0, .int .u8 0, .int .u8 0, .int .u8 0, .int .u8 0, .int .u8 0, .int .u8 0, .int .u8 0, .int .u8 0, .int .u8 0, .int .u8 0, .int .u8 0, .int .u8 0, .int .u8 0, .int .u8 0, .int .u8 0, .int .u8 0, .int .u8 0, .int .u8 0, .int .u8 0, .int .u8 0, .int .u8 0, .int .u8 0] 43)).alloc (.cells #[] 63) = W2 := ⟨_, rfl⟩
      have hrow2 : W2.heap[w1.heap.size]? = some (.cells (keyC zeroK) 43 (0, 0)) := by
        rw [← hW2, ← zeroK_cells, heap_alloc_old _ _ (by simp)]
        exact heap_alloc_new _ _
      have hs2 : W2.heap.size = w1.heap.size + 2 := by rw [← hW2]; simp
      have hb2 : Below w1.heap.size w1 W2 := by rw [← hW2]; exact ((Below.refl _ _).alloc (Nat.le_refl _) _).alloc (by simp) _
      have hzk : (keyC zeroK).size = (encK x).toArray.size := by rw [← unhide H32X]; rfl
      have HC := hide (fun (W : World) (hW : w.grownBy W (some b)) => unhide HD W hW x hx)
      have hgw2 : w.grownBy W2 (some b) := gbT hgw1 (gbB hb2 _)
      have hwz : w.heap.size ≤ w1.heap.size := hgw1.size
      have HG := hide (fun (w3 w4 : World) (hgr3 : W2.grownBy w3 (some w1.heap.size)) (hb4 : Below w3.heap.size w3 w4) => (show w1.grownBy w4 none from ⟨hb4.os.trans (hgr3.os.trans hb2.os), hb4.tape.trans (hgr3.tape.trans hb2.tape), hb4.output.trans (hgr3.output.trans hb2.output), Nat.le_trans (Nat.le_trans hb2.size hgr3.size) hb4.size, fun k hk _ => (hb4.block k (Nat.lt_of_lt_of_le hk (Nat.le_trans hb2.size hgr3.size))).trans ((hgr3.block k (Nat.lt_of_lt_of_le hk hb2.size) (by intro q; simp at q; omega)).trans (hb2.block k hk))⟩))
      clear hs1
      cases hp : Maps.has Do (keyLK x) with
      | false =>
        rw [hp] at HC
        go_wp2_with (first
          | (go_at_fn 49; refine (unhide HC w3 hgw3).mono ?_; rintro e w4 ⟨rfl, hb4⟩)
          | (refine wpList_store_any rfl 43 (.tmp 4) (.tmp 11) rfl w1.heap.size (encK x).toArray rfl rfl 43 (keyC zeroK) (by first | exact hrow2 | (rw [hW2]; exact hrow2)) hinx hzk honx ?_; intro w3 hrow3 hgr3 hsz3; (try rw [hW2] at hgr3 hsz3); have hgw3 : w.grownBy w3 (some b) := gbN hgw2 hgr3 hwz)
          | (refine wpList_load_row rfl 43 (.tmp 4) rfl w1.heap.size rfl 43 (encK x).toArray (0, 0) _ hrow3 Tryd.underlying43 rfl hinx ?_)
          | go_in)
        have hg4 := unhide HG w3 w4 hgr3 hb4
        have hrg4 := hrg1.kept hg4 (by simp) (by simp)
        go_roundw
        case rel => exact ⟨_, cnt1, by rw [← Fk_stays hap (keyLK_ok x) hlx hp hat]; exact hrg4, gbT hgw3 (gbB hb4 _)⟩
        case measure => rw [hrg4.left_eq, hrg.left_eq]; exact hlt
      | true =>
        rw [hp] at HC
        go_wp2_with (first
          | (go_at_fn 49; refine (unhide HC w3 hgw3).mono ?_; rintro e w4 ⟨rfl, hb4⟩; have hrow4 := (hb4.block w1.heap.size (by omega)).trans hrow3; have hg4 := unhide HG w3 w4 hgr3 hb4; have hrg4 := hrg1.kept hg4 (by simp) (by simp))
          | (refine wpList_store_any rfl 43 (.tmp 4) (.tmp 11) rfl w1.heap.size (encK x).toArray rfl rfl 43 (keyC zeroK) (by first | exact hrow2 | (rw [hW2]; exact hrow2)) hinx hzk honx ?_; intro w3 hrow3 hgr3 hsz3; (try rw [hW2] at hgr3 hsz3); have hgw3 : w.grownBy w3 (some b) := gbN hgw2 hgr3 hwz)
          | (refine wpList_load_row rfl 43 (.tmp 4) rfl w1.heap.size rfl 43 (encK x).toArray (0, 0) _ hrow4 Tryd.underlying43 rfl hinx ?_)
          | (refine wpList_load_row rfl 43 (.tmp 4) rfl w1.heap.size rfl 43 (encK x).toArray (0, 0) _ hrow3 Tryd.underlying43 rfl hinx ?_)
          | (at_delete; refine wpList_delete_ranges _ rfl _ _ 35 43 rfl 63 keyedK Tryd.underlying35 anyR b w.heap.size n _ _ _ rfl hrg4 _ _ rfl (keyK_of x) ?_; intro w5 cnt5 hrg5 hle5 hturn5; go_frame)
          | go_in)
        rw [strike_twice] at hrg5
        go_roundw
        case rel => exact ⟨_, cnt5, by rw [← Fk_struck hap (keyLK_ok x) hlx hp hat]; exact hrg5, gbT (gbT hgw3 (gbB hb4 _)) hturn5.grown⟩
        case measure => rw [hrg5.left_eq, hrg.left_eq]; omega
end Go.Proofs.YtldgkpnlplfopaaDoor
