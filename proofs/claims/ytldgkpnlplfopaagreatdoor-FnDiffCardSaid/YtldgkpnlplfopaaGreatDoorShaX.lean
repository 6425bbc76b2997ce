/- The specification's table of the rounds' words, and its words behind a block. -/
import Derived.Test.YtldgkpnlplfopaaGreatDoorSzA
import Derived.Test.YtldgkpnlplfopaaGreatDoorShaT
import Derived.Test.YtldgkpnlplfopaaGreatDoorMem
import Derived.Deep.RegionWith
import Derived.Deep.RegionLaw
import Derived.Deep.AppendLies
import Derived.Deep.QuietTactic
import Derived.BigQuiet
import Derived.BigRegion
namespace Go.Proofs.YtldgkpnlplfopaaGreatDoor
open Go.RowKit Plain
set_option linter.unusedVariables false

def zerosW : Array Value := (List.replicate 64 (Value.int .u32 0)).toArray
theorem make26 (w : World) : (Instr.makeSlice 90 (.int .i64 64) (.int .i64 64)).run Tryz.prog w = .ok (.slice (some ⟨w.heap.size, 0, none⟩) 64 64) (w.alloc (.cells zerosW 93)) := by kernel_rfl

/-- Rows of words that the call owns, from block B on. -/
def OwnW (W : World) (B : Nat) (v : Value) (xs : List Int) : Prop := W.ownsRow B 93 1 v xs.length (xs.map (Value.int .u32))
theorem info30 : (Tryz.prog.info? 93).map (fun i => (i.zero, i.size, i.bytes)) = some (some (.int .u32 0), 1, 4) := by kernel_rfl
theorem ownW_empty (W : World) (B : Nat) (hB : B ≤ W.heap.size) : OwnW (W.alloc (.cells #[] 93)) B (.slice (some ⟨W.heap.size, 0, none⟩) 0 0) [] :=
  World.ownsRow_made W #[] 0 hB (by unfold maxLen; omega) rfl
theorem OwnW.words {W : World} {B g c : Nat} {xs : List Int} {n : Nat} (h : OwnW W B (.slice (some ⟨g, 0, none⟩) n c) xs) (hn : xs.length = n) : Words W g xs := by
  subst hn
  intro j hj
  refine ⟨?_, h.frozenAt j⟩
  rw [h.cellAt j (by omega)]
  simp [List.getD, List.getElem?_eq_getElem hj]

theorem appW {ops : Array Oper} {rest : List Oper} {o : Oper} {a : Act} {Q : Exit → Act → World → Prop} (hgd : o.guard = none) (s x : Operand)
    (ho : o.op = .call { callee := .builtin .append, args := #[s, x], argTypes := #[90, 90] })
    {w : World} {B : Nat} {v : Value} {xs : List Int} (hown : OwnW w B v xs) (hs : a.eval s = v) (g0 c0 : Nat) (ys : List Int) (hx : a.eval x = .slice (some ⟨g0, 0, none⟩) ys.length c0)
    (hys : Words w g0 ys) (hpos : 0 < ys.length) (hlen : xs.length + ys.length < 1000000000) (hB : B ≤ w.heap.size)
    (h : ∀ g c w', OwnW w' B (.slice (some ⟨g, 0, none⟩) (xs.length + ys.length) c) (xs ++ ys) → Below B w w' → B ≤ g → g < w'.heap.size → wpList Tryz.prog ops Q rest (a.put o.dst (.slice (some ⟨g, 0, none⟩) (xs.length + ys.length) c)) w') :
    wpList Tryz.prog ops Q (o :: rest) a w := by
  obtain ⟨i0, hi, hz0, hz1, hz2⟩ := info_parts info30
  refine wpList_append_lies w hgd s x 90 ho B 93 i0 (.int .u32 0) 1 4 Tryz.underlying90 hi hz0 hz1 hz2 rfl (by decide) v xs.length (xs.map (Value.int .u32)) hs hown
    ⟨g0, 0, none⟩ ys.length c0 (ys.map (Value.int .u32)) hx (by simp) ?_ ?_ hpos (by unfold maxLen; omega) (by omega) hB _ rfl ?_
  · intro j u hu
    have hj : j < ys.length := by have := (List.getElem?_eq_some_iff.1 hu).1; simpa using this
    have hadd : (⟨g0, 0, none⟩ : Addr).add j = ⟨g0, j, none⟩ := by unfold Addr.add; split <;> simp_all
    rw [hadd, (hys j hj).1, ← hu]
    simp [List.getD, List.getElem?_eq_getElem hj]
  · intro u hu; simp at hu; obtain ⟨y, _, rfl⟩ := hu; rfl
  · intro g c w' h1 h2 h3 h4
    refine h g c w' ?_ (own_below hown h2 hB) ?_ h4
    · unfold OwnW; simpa using h1
    · obtain ⟨g', c', e, hb, _⟩ := h1.form (by omega)
      cases e
      exact hb

theorem stepW {ops : Array Oper} {o : Oper} {a : Act} {K : Act → World → Prop} {Q : Exit → Act → World → Prop} {E : Prop} (hgd : o.guard = none) (s x : Operand)
    (ho : o.op = .call { callee := .builtin .append, args := #[s, x], argTypes := #[90, 90] })
    {w : World} {B : Nat} {b : Int} {v : Value} {xs : List Int} (hown : OwnW w B v xs) (hs : a.eval s = v) (hx : a.eval x = .slice (some ⟨w.heap.size, 0, none⟩) 1 1)
    (hlen : xs.length < 1000000000) (hB : B ≤ w.heap.size)
    (h : ∀ g c w', OwnW w' B (.slice (some ⟨g, 0, none⟩) (xs.length + 1) c) (xs ++ [b]) → Below B w w' → K (a.put o.dst (.slice (some ⟨g, 0, none⟩) (xs.length + 1) c)) w') :
    if Region.wanted o (yielded ops a.tmps) = true then Oper.wp Tryz.prog o a (w.alloc (.cells #[.int .u32 b] 93)) K Q else E := by
  obtain ⟨i0, hi, hz0, hz1, hz2⟩ := info_parts info30
  have ha := World.ownsRow.alloc hown (.cells #[.int .u32 b] 93)
  refine step_append_lies _ hgd s x 90 ho B 93 i0 (.int .u32 0) 1 4 Tryz.underlying90 hi hz0 hz1 hz2 rfl (by decide) v xs.length (xs.map (Value.int .u32)) hs ha
    ⟨w.heap.size, 0, none⟩ 1 1 [.int .u32 b] hx rfl (cell_one_new _ _ _) ?_ (by decide) (by unfold maxLen; omega) (by omega) (by simp; omega) _ rfl ?_
  · intro u hu; simp at hu; subst hu; rfl
  · intro g c w' h1 h2 h3 h4
    refine h g c w' ?_ (((Below.refl B w).alloc hB _).trans (own_below ha h2 (by simp; omega)))
    unfold OwnW; simpa using h1

theorem rotate_quiet (x n : Int) (hx0 : 0 ≤ x) (hx1 : x < 4294967296) (w : World) (k : Nat) :
    Calls Tryz.prog 77 #[.int .u32 x, .int .i64 n] (w.drewN k) fun e w' => e = .returned (.int .u32 (rotI x n)) ∧ ∃ m, w' = w.drewN m :=
  (spec_Rotate x n hx0 hx1 _).mono fun _ _ ⟨he, hm⟩ => ⟨he, k, hm.symm⟩

theorem rotate_quiet2 (x n : Int) (hx0 : 0 ≤ x) (hx1 : x < 4294967296) (w : World) (q k : Nat) :
    Calls Tryz.prog 77 #[.int .u32 x, .int .i64 n] (w.drewN (q + k)) fun e w' => e = .returned (.int .u32 (rotI x n)) ∧ ∃ m, w' = w.drewN (q + m) :=
  (spec_Rotate x n hx0 hx1 _).mono fun _ _ ⟨he, hm⟩ => ⟨he, k, hm.symm⟩

theorem rnd0_spec (v0 v1 v2 v3 v4 v5 v6 v7 kk ww : Int) : ((v7 + bS1 v4 + chI v4 v5 v6 + kk + ww) % 4294967296 + (bS0 v0 + majI v0 v1 v2) % 4294967296) % 4294967296 = rnd0 v0 v1 v2 v3 v4 v5 v6 v7 ((kk + ww) % 4294967296) := by
  unfold rnd0; omega
theorem rnd4_spec (v0 v1 v2 v3 v4 v5 v6 v7 kk ww : Int) : (v3 + (v7 + bS1 v4 + chI v4 v5 v6 + kk + ww) % 4294967296) % 4294967296 = rnd4 v0 v1 v2 v3 v4 v5 v6 v7 ((kk + ww) % 4294967296) := by
  unfold rnd4; omega

/-- The first k words of a sum. -/
def outL (h l : List Int) (k : Nat) : List Int := (List.range k).map fun i => (h.getD i 0 + l.getD i 0) % 4294967296
theorem outL_next (h l : List Int) (k : Nat) : outL h l (k + 1) = outL h l k ++ [(h.getD k 0 + l.getD k 0) % 4294967296] := by simp [outL, List.range_succ]
theorem outL_length (h l : List Int) (k : Nat) : (outL h l k).length = k := by simp [outL]

/-- What a block's call reads: the words h, the table k, the bytes b, all of them old. -/
structure BlkIn (w : World) (gh gk gb o : Nat) (h b : List Int) : Prop where
  lh : gh < w.heap.size
  lk : gk < w.heap.size
  lb : gb < w.heap.size
  hw : Words w gh h
  kw : Words w gk kL
  bw : w.rangeAt gb o (b.map (Value.int .u8))

theorem BlkIn.byte {w : World} {gh gk gb o : Nat} {h b : List Int} (H : BlkIn w gh gk gb o h b) {w' : World} (hb : Below w.heap.size w w') (hl : b.length = 64) (j : Nat) (hj : j < 64) : w'.cell? ⟨gb, o + j, none⟩ = some (.int .u8 (b.getD j 0)) := by
  rw [hb.cell (p := ⟨gb, o + j, none⟩) H.lb]
  exact H.bw j _ (by simp [List.getD, List.getElem?_eq_getElem (show j < b.length by omega)])

set_option maxRecDepth 10000 in
set_option maxHeartbeats 2000000 in
theorem l1Block_calls (gh gk gb o ch ck cb : Nat) (a0 a1 a2 a3 a4 a5 a6 a7 : Int) (b : List Int) (w : World) (HI : BlkIn w gh gk gb o [a0, a1, a2, a3, a4, a5, a6, a7] b) (hb : ByteL b) (hh : ∀ x ∈ [a0, a1, a2, a3, a4, a5, a6, a7], Word x) :
    Calls Tryz.prog 69 #[.slice (some ⟨gh, 0, none⟩) 8 ch, .slice (some ⟨gk, 0, none⟩) 64 ck, .slice (some ⟨gb, o, none⟩) 64 cb] w fun r w' =>
      ∃ g c, r = .returned (.slice (some ⟨g, 0, none⟩) 8 c) ∧ w.heap.size ≤ g ∧ g < w'.heap.size ∧ Words w' g (blockL [a0, a1, a2, a3, a4, a5, a6, a7] b) ∧ Below w.heap.size w w' := by
  have hmk := make26
  have HB := hide hb
  have HH := hide hh
  have HIN := hide HI
  clear hb hh HI
  go_enter Tryz.func69, Tryz.ntmps69
  go_wp2_with fail
  clear hmk
  go_loopw [8, 9, 10, 11, 12] (fun i _ _ _ _ wr => ∃ (k : Nat) (arr : Array Value), i = .int .i64 k ∧ k ≤ 64 ∧ Hid (RowTo arr 64 (wAt b) k) ∧ wr.heap[w.heap.size]? = some (.cells arr 93 (0, 0)) ∧ Below w.heap.size w wr) (fun i _ _ _ _ _ => 64 - (intOf i).toNat)
  case atStart => exact ⟨0, _, rfl, by omega, rowTo_start _ rfl (by decide +kernel), h_new _ _ rfl, (Below.refl _ _).alloc (Nat.le_refl _) _⟩
  case round =>
    obtain ⟨k, arr, rfl, hk, HT, hrow, hbel⟩ := hrel
    by_cases hlt : k < 16
    · have hl := (unhide HB).1
      have hc := fun j (hj : j < 64) => (unhide HIN).byte hbel hl j hj
      have hw := hide (wAt_low b k hlt)
      obtain ⟨p, hp⟩ : ∃ p, 4 * k = p := ⟨_, rfl⟩
      rw [hp] at hw
      have q0 := hc p (by omega)
      have q1 := hc (p + 1) (by omega)
      have q2 := hc (p + 2) (by omega)
      have q3 := hc (p + 3) (by omega)
      have b0 := (unhide HB).2 p
      have b1 := (unhide HB).2 (p + 1)
      have b2 := (unhide HB).2 (p + 2)
      have b3 := (unhide HB).2 (p + 3)
      generalize b.getD p 0 = x0 at q0 b0 hw
      generalize b.getD (p + 1) 0 = x1 at q1 b1 hw
      generalize b.getD (p + 2) 0 = x2 at q2 b2 hw
      generalize b.getD (p + 3) 0 = x3 at q3 b3 hw
      obtain ⟨u0, v0⟩ := b0
      obtain ⟨u1, v1⟩ := b1
      obtain ⟨u2, v2⟩ := b2
      obtain ⟨u3, v3⟩ := b3
      have hpi : 4 * (k : Int) = (p : Int) := by omega
      have hp60 : p ≤ 60 := by omega
      clear hp
      have hsz := (unhide HT).1
      obtain ⟨ov, hcell⟩ : ∃ ov, wr.cell? ⟨w.heap.size, k, none⟩ = some ov := ⟨arr[k], by rw [cell_of_row wr _ k arr _ _ hrow]; simp⟩
      have hfz : wr.frozen? ⟨w.heap.size, k, none⟩ = false := frozen_of_row wr _ k arr _ hrow
      have i0 : (0 : Int) ≤ (k : Int) := by omega
      have i1 : (k : Int) < 16 := by omega
      have j0 : IntKind.i64.wrap (p : Int) = (p : Int) := by rw [IntKind.wrap_i64]; omega
      have j1 : IntKind.i64.wrap ((p : Int) + 1) = (p : Int) + 1 := by rw [IntKind.wrap_i64]; omega
      have j2 : IntKind.i64.wrap ((p : Int) + 2) = (p : Int) + 2 := by rw [IntKind.wrap_i64]; omega
      have j3 : IntKind.i64.wrap ((p : Int) + 3) = (p : Int) + 3 := by rw [IntKind.wrap_i64]; omega
      have l0 : (0 : Int) ≤ (p : Int) := by omega
      have m0 : (p : Int) < 64 := by omega
      have m1 : (p : Int) + 1 < 64 := by omega
      have m2 : (p : Int) + 2 < 64 := by omega
      have m3 : (p : Int) + 3 < 64 := by omega
      have l1 : (0 : Int) ≤ (p : Int) + 1 := by omega
      have l2 : (0 : Int) ≤ (p : Int) + 2 := by omega
      have l3 : (0 : Int) ≤ (p : Int) + 3 := by omega
      have n1 : ((p : Int) + 1).toNat = p + 1 := by omega
      have n2 : ((p : Int) + 2).toNat = p + 2 := by omega
      have n3 : ((p : Int) + 3).toNat = p + 3 := by omega
      have i2 : (k : Int) < 64 := by omega
      have hne : ¬ w.heap.size = gb := by have := (unhide HIN).lb; omega
      have r0 : (wr.setCell ⟨w.heap.size, k, none⟩ (.int .u32 (hiI x0 x1 x2 x3))).cell? ⟨gb, o + p, none⟩ = some (.int .u8 x0) := (other_cell hne).trans q0
      have r1 : (wr.setCell ⟨w.heap.size, k, none⟩ (.int .u32 (hiI x0 x1 x2 x3))).cell? ⟨gb, o + (p + 1), none⟩ = some (.int .u8 x1) := (other_cell hne).trans q1
      have r2 : (wr.setCell ⟨w.heap.size, k, none⟩ (.int .u32 (hiI x0 x1 x2 x3))).cell? ⟨gb, o + (p + 2), none⟩ = some (.int .u8 x2) := (other_cell hne).trans q2
      have r3 : (wr.setCell ⟨w.heap.size, k, none⟩ (.int .u32 (hiI x0 x1 x2 x3))).cell? ⟨gb, o + (p + 3), none⟩ = some (.int .u8 x3) := (other_cell hne).trans q3
      clear hc hl
      go_wp2
      go_region_held3 (fun w' => w'.cell? ⟨gb, o + p, none⟩ = some (.int .u8 x0) ∧ w'.cell? ⟨gb, o + (p + 1), none⟩ = some (.int .u8 x1) ∧ w'.cell? ⟨gb, o + (p + 2), none⟩ = some (.int .u8 x2) ∧ w'.cell? ⟨gb, o + (p + 3), none⟩ = some (.int .u8 x3)) (go_keep) (fail)
      go_wp2
      go_roundw
      case rel =>
        refine ⟨k + 1, _, by go_num, by omega, (unhide HT).next (by omega) _ ?hx, heap_setCell_same wr _ k arr _ _ hrow, (hbel.setCell (Nat.le_refl _) _).drew⟩
        case hx => rw [unhide hw]; rfl
      case measure => simp [intOf]; omega
    · by_cases hlt2 : k < 64
      · have hg : ∀ j, j < k → wr.cell? ⟨w.heap.size, j, none⟩ = some (.int .u32 (wAt b j)) := fun j hj => (cell_of_row wr _ j arr _ _ hrow).trans ((unhide HT).2.2 j hj)
        have q15 := hg (k - 15) (by omega)
        have q2 := hg (k - 2) (by omega)
        have q7 := hg (k - 7) (by omega)
        have q16 := hg (k - 16) (by omega)
        have g15 := wAt_word b (k - 15)
        have g2 := wAt_word b (k - 2)
        have hw := hide (wAt_high b k (by omega))
        generalize wAt b (k - 15) = x at q15 g15 hw
        generalize wAt b (k - 2) = y at q2 g2 hw
        generalize wAt b (k - 7) = u at q7 hw
        generalize wAt b (k - 16) = v at q16 hw
        obtain ⟨x0, x1⟩ := g15
        obtain ⟨y0, y1⟩ := g2
        have hsz := (unhide HT).1
        obtain ⟨ov, hcell⟩ : ∃ ov, wr.cell? ⟨w.heap.size, k, none⟩ = some ov := ⟨arr[k], by rw [cell_of_row wr _ k arr _ _ hrow]; simp⟩
        have hfz : wr.frozen? ⟨w.heap.size, k, none⟩ = false := frozen_of_row wr _ k arr _ hrow
        have i0 : (16 : Int) ≤ (k : Int) := by omega
        have i1 : (k : Int) < 64 := by omega
        have n15 : ((k : Int) - 15).toNat = k - 15 := by omega
        have n2 : ((k : Int) - 2).toNat = k - 2 := by omega
        have n7 : ((k : Int) - 7).toNat = k - 7 := by omega
        have n16 : ((k : Int) - 16).toNat = k - 16 := by omega
        clear hg
        go_wp2_with (go_at_call 77; refine (spec_Rotate _ _ (by omega) (by omega) _).mono ?_; rintro e w' ⟨rfl, rfl⟩)
        go_region
        all_goals (try go_wp2)
        go_roundw
        case rel =>
          refine ⟨k + 1, _, by go_num, by omega, (unhide HT).next (by omega) _ ?hx, heap_setCell_same wr _ k arr _ _ hrow, (hbel.setCell (Nat.le_refl _) _).drew⟩
          case hx => rw [unhide hw]; rfl
        case measure => simp [intOf]; omega
      · obtain rfl : k = 64 := by omega
        have hz0 : w.heap.size < wr.heap.size := lt_of_cell ((cell_of_row wr _ 0 arr _ _ hrow).trans ((unhide HT).2.2 0 (by omega)))
        have HW : Hid (∀ j, j < 64 → wr.cell? ⟨w.heap.size, j, none⟩ = some (.int .u32 (wAt b j))) := hide (fun j hj => (cell_of_row wr _ j arr _ _ hrow).trans ((unhide HT).2.2 j hj))
        have HBl := hide hbel
        clear hrow hbel HT hlt hlt2
        rename World => wq
        have hhw := ((unhide HIN).hw.below (unhide HBl) (unhide HIN).lh).below ((Below.refl wq.heap.size wq).alloc (Nat.le_refl _) (.cells #[] 93)) (Nat.lt_trans (unhide HIN).lh hz0)
        have HHW := hide hhw
        clear hhw
        go_upto_region 13 with (at_builtin; go_must (refine appW rfl _ _ rfl (ownW_empty wq wq.heap.size (Nat.le_refl _)) rfl gh ch [a0, a1, a2, a3, a4, a5, a6, a7] rfl (unhide HHW) (by simp) (by simp) (by simp) ?_); intro g c w1 hown1 hb1 hg1 hl1)
        have HV1 := hide (hown1.words (by simp))
        have HB1 := hide (((Below.refl wq.heap.size wq).alloc (Nat.le_refl _) (.cells #[] 93)).trans hb1)
        have hc8 : ([] : List Int).length + [a0, a1, a2, a3, a4, a5, a6, a7].length = 8 := rfl
        clear hown1 hb1 HHW
        go_wp2_with fail
        clear hc8
        go_loopw [13, 14, 15, 16, 17, 18] (fun vv i _ _ _ _ wr => ∃ (k g c : Nat) (v : List Int), i = .int .i64 k ∧ k ≤ 64 ∧ vv = .slice (some ⟨g, 0, none⟩) 8 c ∧ wq.heap.size ≤ g ∧ g < wr.heap.size ∧ v.length = 8 ∧
            Hid (compTo (schedTo b 64) [a0, a1, a2, a3, a4, a5, a6, a7] k = v) ∧ Hid (Words wr g v) ∧ Hid (Below wq.heap.size wq wr)) (fun _ i _ _ _ _ _ => 64 - (intOf i).toNat)
        case atStart => exact ⟨0, g, c, _, rfl, by omega, rfl, hg1, hl1, rfl, rfl, HV1, HB1⟩
        case round =>
          clear hg1 hl1 HV1 HB1
          obtain ⟨k, g, c, v, rfl, hk, rfl, hg1, hl1, hv8, hcomp, HV, HB1⟩ := hrel
          obtain ⟨v0, v1, v2, v3, v4, v5, v6, v7, rfl⟩ := list8 hv8
          by_cases hlt : k < 64
          · have hvw := compTo_word (schedTo b 64) [a0, a1, a2, a3, a4, a5, a6, a7] k (unhide HH)
            rw [unhide hcomp] at hvw
            obtain ⟨x0, x1⟩ := hvw v0 (by simp)
            obtain ⟨y0, y1⟩ := hvw v4 (by simp)
            have hstep := hide (comp_step b [a0, a1, a2, a3, a4, a5, a6, a7] k hlt v0 v1 v2 v3 v4 v5 v6 v7 (unhide hcomp))
            have kc : wr.cell? ⟨gk, k, none⟩ = some (.int .u32 (kL.getD k 0)) := ((((unhide HIN).kw.below (unhide HBl) (unhide HIN).lk).below (unhide HB1) (Nat.lt_trans (unhide HIN).lk hz0)) k hlt).1
            have wc : wr.cell? ⟨w.heap.size, k, none⟩ = some (.int .u32 (wAt b k)) := ((unhide HB1).cell (p := ⟨w.heap.size, k, none⟩) hz0).trans (unhide HW k hlt)
            generalize kL.getD k 0 = kk at kc hstep
            generalize wAt b k = ww at wc hstep
            obtain ⟨⟨q0, q1, q2, q3, q4, q5, q6, q7⟩, -⟩ := words8 (unhide HV)
            have i0 : (0 : Int) ≤ (k : Int) := by omega
            have i1 : (k : Int) < 64 := by omega
            have hsg : IntKind.u32.signed = false := rfl
            clear hvw
            go_wp2_with fail
            go_quiet ((go_at_call 77; exact rotate_quiet _ _ y0 y1 _ _))
            go_wp2_with fail
            go_quiet ((go_at_call 77; exact rotate_quiet2 _ _ x0 x1 _ _ _))
            go_wp2_with fail
            go_region_held3 (fun w' => w'.cell? ⟨g, 1, none⟩ = some (.int .u32 v1) ∧ w'.cell? ⟨g, 2, none⟩ = some (.int .u32 v2) ∧ w'.cell? ⟨g, 3, none⟩ = some (.int .u32 v3) ∧ w'.cell? ⟨g, 5, none⟩ = some (.int .u32 v5) ∧ w'.cell? ⟨g, 6, none⟩ = some (.int .u32 v6)) (go_keep) (fail)
            go_wp2_with fail
            go_roundw
            case rel =>
              refine ⟨k + 1, wr.heap.size, 8, _, by go_num, by omega, rfl, (unhide HB1).size, by simp, rfl, hstep, hide ?hw8, hide ?hb8⟩
              case hw8 =>
                rw [← rnd0_spec, ← rnd4_spec]
                exact words_of_block (t := 93) (h_new _ _ rfl)
              case hb8 => exact (below_drewN (unhide HB1) _).alloc (unhide HB1).size _
            case measure => simp [intOf]; omega
          · obtain rfl : k = 64 := by omega
            have HH3 := hide (((unhide HIN).hw.below (unhide HBl) (unhide HIN).lh).below (unhide HB1) (Nat.lt_trans (unhide HIN).lh hz0))
            have hz3 := (unhide HB1).size
            have hlh : gh < wr.heap.size := Nat.lt_of_lt_of_le (Nat.lt_trans (unhide HIN).lh hz0) hz3
            have HB3 := hide ((unhide HBl).trans ((unhide HB1).mono (Nat.le_of_lt hz0)))
            have hend : outL [a0, a1, a2, a3, a4, a5, a6, a7] [v0, v1, v2, v3, v4, v5, v6, v7] 8 = blockL [a0, a1, a2, a3, a4, a5, a6, a7] b := by rw [← unhide hcomp]; rfl
            have HEND := hide hend
            have hzw : w.heap.size ≤ wr.heap.size := by omega
            clear HW HBl HB1 hcomp HIN hlt hend hz3 hz0 hg1 HB HH
            rename World => wv
            go_wp2_with fail
            go_loopw [19, 20] (fun oo i wr => ∃ (k : Nat), i = .int .i64 k ∧ k ≤ 8 ∧ Hid (OwnW wr wv.heap.size oo (outL [a0, a1, a2, a3, a4, a5, a6, a7] [v0, v1, v2, v3, v4, v5, v6, v7] k)) ∧ Hid (Below wv.heap.size wv wr)) (fun _ i _ => 8 - (intOf i).toNat)
            case atStart => exact ⟨0, rfl, by omega, ownW_empty wv _ (Nat.le_refl _), (Below.refl _ _).alloc (Nat.le_refl _) _⟩
            case round =>
              obtain ⟨k, rfl, hk, HO, HB4⟩ := hrel
              by_cases hlt : k < 8
              · have hx := ((unhide HH3).below (unhide HB4) hlh k (by simpa using hlt)).1
                have hy := ((unhide HV).below (unhide HB4) hl1 k (by simpa using hlt)).1
                have hnx := hide (outL_next [a0, a1, a2, a3, a4, a5, a6, a7] [v0, v1, v2, v3, v4, v5, v6, v7] k)
                have hol := outL_length [a0, a1, a2, a3, a4, a5, a6, a7] [v0, v1, v2, v3, v4, v5, v6, v7] k
                have hsz4 := (unhide HB4).size
                generalize [a0, a1, a2, a3, a4, a5, a6, a7].getD k 0 = x at hx hnx
                generalize [v0, v1, v2, v3, v4, v5, v6, v7].getD k 0 = y at hy hnx
                have i0 : (0 : Int) ≤ (k : Int) := by omega
                have i1 : (k : Int) < 8 := by omega
                go_wp2_with fail
                go_region_law ((refine stepW (w := wr.drew) (by rfl) _ _ (by rfl) (World.ownsRow.drew (unhide HO)) (by rfl) (by rfl) (by omega) hsz4 ?_; intro g2 c2 w2 hown2 hb2))
                all_goals go_wp2_with fail
                all_goals go_roundw
                all_goals first
                  | (simp [intOf]; omega)
                  | ((repeat apply Exists.intro); refine ⟨⟨k + 1, by go_num, by omega, ?_, (unhide HB4).trans (below_of_drew hb2)⟩, rfl⟩; rw [unhide hnx]; rw [hol] at hown2; exact hown2)
              · obtain rfl : k = 8 := by omega
                have hO := unhide HO
                rw [unhide HEND] at hO
                obtain ⟨g5, c5, rfl, hg5, hl5⟩ := World.ownsRow.form hO (by rw [blockL_length]; omega)
                rw [blockL_length] at hO
                have HO5 := hide hO
                clear hO HO
                go_wp2_with fail
                go_ret
                refine ⟨g5, c5, rfl, by omega, hl5, ?_, (unhide HB3).trans ((unhide HB4).mono hzw)⟩
                exact OwnW.words (unhide HO5) (blockL_length _ _)
end Go.Proofs.YtldgkpnlplfopaaGreatDoor
