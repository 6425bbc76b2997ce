/- Ways that cross a cut are deleted, by the program. -/
import Derived.Test.YtgdcamolpmjceaaPstI
import Derived.Deep.QuietTactic
import Derived.BigQuiet
namespace Go.Proofs.Ytgdcamolpmjceaa
open Go.RowKit Go.Maps Plain
open Go.ChangeMaps (setBlock heap_setBlock_same heap_setBlock_other)
set_option linter.unusedVariables false

namespace Plain
/-- Which nodes are inside: an array of 51 bools. -/
def InsAt (W : World) (I : Nat) (ins : Nat → Bool) : Prop := ∀ i, i < 51 → W.cell? ⟨I, i, none⟩ = some (.bool (ins i)) ∧ W.frozen? ⟨I, i, none⟩ = false
theorem InsAt.below {W W' : World} {I B : Nat} {ins : Nat → Bool} (h : InsAt W I ins) (hb : Below B W W') (hI : I < B) : InsAt W' I ins := fun i hi => ⟨bcl hb hI (h i hi).1, (hb.frozen (p := ⟨I, i, none⟩) hI).trans (h i hi).2⟩
theorem InsAt.gr {W W' : World} {I : Nat} {r : Option Nat} {ins : Nat → Bool} (h : InsAt W I ins) (hb : W.grownBy W' r) (hI : I < W.heap.size) (hr : some I ≠ r) : InsAt W' I ins := fun i hi => ⟨(World.cell?_of_block (a := ⟨I, i, none⟩) (hb.block I hI hr)).trans (h i hi).1, (World.frozen?_of_block (a := ⟨I, i, none⟩) (hb.block I hI hr)).trans (h i hi).2⟩
end Plain

set_option maxRecDepth 10000 in
theorem closC_calls (f t I : Nat) (v : Value) (ins : Nat → Bool) (W : World) (hI : InsAt W I ins) (hf : f < 51) (ht : t < 51) :
    Calls Try.prog 24 #[.agg #[.int .i64 f, .int .i64 t], v, .pointer (some ⟨I, 0, none⟩)] W fun e w' => e = .returned (.bool (ins f != ins t)) ∧ Below W.heap.size W w' := by
  obtain ⟨W1, hW1⟩ : ∃ W1, W1 = W.alloc (.cells #[.int .i64 f, .int .i64 t] 53) := ⟨_, rfl⟩
  have hb1 : Below W.heap.size W W1 := by rw [hW1]; exact bel1 _ _
  have hIl : I < W.heap.size := lt_of_cell (hI 0 (by omega)).1
  have k1 := bcl hb1 hIl (hI f hf).1
  have k2 := bcl hb1 hIl (hI t ht).1
  have a0 : W1.cell? ⟨W.heap.size, 0, none⟩ = some (.int .i64 f) := by rw [hW1]; simp [go_sem]
  have a1 : W1.cell? ⟨W.heap.size, 1, none⟩ = some (.int .i64 t) := by rw [hW1]; simp [go_sem]
  have i0 : (0 : Int) ≤ (f : Int) := by omega
  have i1 : (f : Int) < 51 := by omega
  have i2 : (0 : Int) ≤ (t : Int) := by omega
  have i3 : (t : Int) < 51 := by omega
  have HB1 := hide hb1
  have HW1 := hide hW1.symm
  generalize ins f = x at k1 ⊢
  generalize ins t = y at k2 ⊢
  clear hW1 hb1 hI
  go_enter Try.func24, Try.ntmps24
  go_wp2_with fail
  rw [unhide HW1]
  go_quiet (fail)
  all_goals (try go_wp2_with fail)
  all_goals (try go_ret)
  all_goals exact ⟨by cases x <;> cases y <;> rfl, ⟨(unhide HB1).os, (unhide HB1).tape, (unhide HB1).output, (unhide HB1).size, (unhide HB1).block⟩⟩

namespace Plain
/-- Does a way cross the cut? -/
def crsB (ins : Nat → Bool) (f t : Int) : Bool := ins f.toNat != ins t.toNat
def keepP (ins : Nat → Bool) (es : List Pkt) : List Pkt := es.filter fun p => !crsB ins p.src p.dst
theorem wayF_keep (ins : Nat → Bool) (es : List Pkt) : wayF (keepP ins es) = fun f t => if crsB ins f t = true then [] else wayF es f t := by
  funext f t
  unfold wayF keepP
  rw [List.filter_filter]
  by_cases h : crsB ins f t = true
  · rw [if_pos h, List.filter_eq_nil_iff]
    intro p _ hp
    simp at hp
    rw [hp.1.1, hp.1.2, h] at hp
    simp at hp
  · rw [if_neg h]
    refine List.filter_congr fun p _ => ?_
    by_cases e : p.src = f ∧ p.dst = t
    · rw [e.1, e.2]; simp [h]
    · have : (decide (p.src = f) && decide (p.dst = t)) = false := by simpa using e
      rw [this]; rfl
/-- What is under a way while crossing ones are being deleted. -/
def cutH (ins : Nat → Bool) (H : Int → Int → Option (Nat × Nat)) (left : Lit → Bool) (f t : Int) : Option (Nat × Nat) := if (crsB ins f t && !left (keyW f t)) = true then none else H f t
def CutK (D : DataW Unit) (G : Int → Int → Option (Nat × Nat)) (F : Int → Int → List Pkt) : Prop := ∀ f t, wfP f t → match G f t with
    | none => Maps.has D (keyW f t) = false
    | some y => Maps.has D (keyW f t) = true ∧ ∀ z, D.atKey (keyW f t) z = hdD y.1 (F f t).length y.2
end Plain
theorem Plain.CutK.start {D : DataW Unit} {H : Int → Int → Option (Nat × Nat)} {F : Int → Int → List Pkt} (h : CutK D H F) (ins : Nat → Bool) : CutK D (cutH ins H (Maps.has D)) F := by
  intro f t hft
  have hx := h f t hft
  unfold cutH
  cases hh : H f t with
  | none => rw [hh] at hx; simp only [ite_self]; exact hx
  | some y =>
    rw [hh] at hx
    rw [if_neg (by simp [hx.1])]
    exact hx
theorem Plain.CutK.keep {D : DataW Unit} {H : Int → Int → Option (Nat × Nat)} {F : Int → Int → List Pkt} {ins : Nat → Bool} {left : Lit → Bool} {f t : Int} (h : CutK D (cutH ins H left) F) (hft : wfP f t) (hc : crsB ins f t = false) : CutK D (cutH ins H (fun z => left z && !z.sameKey (keyW f t))) F := by
  intro f' t' hft'
  have hx := h f' t' hft'
  have e : cutH ins H (fun z => left z && !z.sameKey (keyW f t)) f' t' = cutH ins H left f' t' := by
    unfold cutH
    simp only [keyW_same hft hft']
    by_cases q : f' = f ∧ t' = t
    · rw [q.1, q.2, hc]; rfl
    · have : (decide (f' = f) && decide (t' = t)) = false := by simpa using q
      rw [this]; simp
  rw [e]; exact hx
theorem Plain.CutK.del {D : DataW Unit} {H : Int → Int → Option (Nat × Nat)} {F : Int → Int → List Pkt} {ins : Nat → Bool} {left : Lit → Bool} {f t : Int} (h : CutK D (cutH ins H left) F) (hft : wfP f t) (hc : crsB ins f t = true) : CutK (D.del (keyW f t)) (cutH ins H (fun z => left z && !z.sameKey (keyW f t))) F := by
  intro f' t' hft'
  have hx := h f' t' hft'
  by_cases q : f' = f ∧ t' = t
  · have e : cutH ins H (fun z => left z && !z.sameKey (keyW f t)) f' t' = none := by
      unfold cutH
      rw [q.1, q.2, if_pos]
      simp [hc, WideAt.sameKey_self (keyW_ok f t)]
    rw [e, q.1, q.2]
    exact has_del_same
  · have hne : keyW f' t' ≠ keyW f t := fun e => q (keyW_inj hft' hft e)
    have e : cutH ins H (fun z => left z && !z.sameKey (keyW f t)) f' t' = cutH ins H left f' t' := by
      unfold cutH
      simp only [keyW_same hft hft']
      have : (decide (f' = f) && decide (t' = t)) = false := by simpa using q
      rw [this]; simp
    rw [e]
    cases hh : cutH ins H left f' t' with
    | none => rw [hh] at hx; exact (has_del_other hne).trans hx
    | some y => rw [hh] at hx; exact ⟨(has_del_other hne).trans hx.1, fun z => (atKey_del_other hne z).trans (hx.2 z)⟩
theorem Plain.CutK.some' {D : DataW Unit} {G : Int → Int → Option (Nat × Nat)} {F : Int → Int → List Pkt} {f t : Int} {y : DataW Unit} (h : CutK D G F) (hft : wfP f t) (hat : ∀ z, D.atKey (keyW f t) z = y) : ∃ y0, G f t = some y0 := by
  have hx := h f t hft
  cases hh : G f t with
  | none =>
    rw [hh] at hx
    have a1 := hat (.agg [])
    have a2 := hat (.map [])
    rw [atKey_of_not_has hx] at a1 a2
    rw [← a1] at a2
    cases a2
  | some y0 => exact ⟨y0, rfl⟩
/-- The mesh behind the deleting. -/
theorem Plain.MshAt.cut {W W' : World} {B M b n : Nat} {nx : Int} {es : List Pkt} {H : Int → Int → Option (Nat × Nat)} (h : MshAt W B M b n nx (wayF es) H) (ins : Nat → Bool) {D : DataW Unit} {left : Lit → Bool} (hl : ∀ kl, left kl = false) (hg : W.grownBy W' (some b)) (ho : W'.ownsMap Try.prog 53 hdElem b n D) (hK : CutK D (cutH ins H left) (wayF es)) :
    MshAt W' B M b n nx (wayF (keepP ins es)) (fun f t => if crsB ins f t = true then none else H f t) := by
  have hlt := h.lt
  have hM := hg.block M hlt.1 (fun e => h.Mb (Option.some.inj e))
  rw [wayF_keep]
  refine ⟨⟨D, ho, fun f t hft => ?_⟩, ?_, ?_, ?_, ?_, ?_, h.Mb, h.BM, h.Bb, (World.cell?_of_block (a := ⟨M, 0, none⟩) hM).trans h.c0, (World.cell?_of_block (a := ⟨M, 1, none⟩) hM).trans h.c1, (World.frozen?_of_block (a := ⟨M, 0, none⟩) hM).trans h.z0, ?_⟩
  · have hx := hK f t hft
    unfold cutH at hx
    rw [hl] at hx
    simp only [Bool.not_false, Bool.and_true] at hx
    by_cases c : crsB ins f t = true
    · rw [if_pos c] at hx ⊢; exact hx
    · rw [if_neg c] at hx ⊢
      rw [if_neg c]
      exact hx
  · intro f t e
    by_cases c : crsB ins f t = true
    · simp only [if_pos c]
    · simp only [if_neg c] at e ⊢
      exact h.nil f t e
  · intro f t y e
    by_cases c : crsB ins f t = true
    · simp only [if_pos c] at e; cases e
    · simp only [if_neg c] at e; exact h.wf f t y e
  · intro f t y e
    by_cases c : crsB ins f t = true
    · simp only [if_pos c] at e; cases e
    · simp only [if_neg c] at e ⊢
      exact (h.row f t y e).otherN (fun k hk => by
        have hh := own_blkN hk
        subst hh
        have hh := h.blk (f := f) (t := t) (k := y.1) (by unfold rowV; rw [e]; rfl)
        exact hg.block _ hh.1 (fun q => hh.2.2 (Option.some.inj q)))
  · intro f t f' t' y y' e e' q
    by_cases c : crsB ins f t = true
    · simp only [if_pos c] at e; cases e
    · by_cases c' : crsB ins f' t' = true
      · simp only [if_pos c'] at e'; cases e'
      · simp only [if_neg c] at e
        simp only [if_neg c'] at e'
        exact h.apart f t f' t' y y' e e' q
  · intro f t y e
    by_cases c : crsB ins f t = true
    · simp only [if_pos c] at e; cases e
    · simp only [if_neg c] at e; exact h.off f t y e
  · intro f t y e
    by_cases c : crsB ins f t = true
    · simp only [if_pos c] at e; cases e
    · simp only [if_neg c] at e; exact h.rng f t y e

set_option maxRecDepth 10000 in
set_option maxHeartbeats 4000000 in
theorem delWays_calls {W : World} {B M b n I : Nat} {nx : Int} {es : List Pkt} {H : Int → Int → Option (Nat × Nat)} (ins : Nat → Bool) (h : MshAt W B M b n nx (wayF es) H) (hI : InsAt W I ins) (hIb : I ≠ b) :
    Calls Try.prog 23 #[.map (some b), .func (.func 24) #[] #[.pointer (some ⟨I, 0, none⟩)]] W fun e w' => e = .returned (.tuple #[]) ∧ (∃ H', MshAt w' B M b n nx (wayF (keepP ins es)) H') ∧ Below B W w' := by
  obtain ⟨D, hD, hK⟩ := h.map
  have hlt := h.lt
  have hIl : I < W.heap.size := lt_of_cell (hI 0 (by omega)).1
  have HH := hide h
  have HK := hide (show CutK D H (wayF es) from hK)
  have HI := hide hI
  have HR := hide h.rng
  have hBb := h.Bb
  clear h hK hI
  go_enter Try.func23, Try.ntmps23
  go_wp2_with (first
    | (at_range; refine wpList_range_own _ rfl _ 51 rfl 53 24 law_way Try.underlying51 _ b n _ rfl hD ?_; intro w0 hrg0 hg0 hs0)
    | go_in)
  go_frame
  go_loopw [5] (fun _ wr => ∃ (left : Lit → Bool) (cnt : Nat) (D' : DataW Unit), wr.ranges Try.prog 53 hdElem b W.heap.size n D' left cnt ∧ Hid (CutK D' (cutH ins H left) (wayF es)) ∧ Hid (W.grownBy wr (some b)) ∧ W.heap.size + 1 ≤ wr.heap.size)
    (fun _ wr => wr.rangeLeft b W.heap.size)
  case atStart => exact ⟨_, _, D, hrg0, hide ((unhide HK).start ins), hide (hg0.but _), by omega⟩
  case round =>
    obtain ⟨left, cnt, D', hrg, HC, HG, hz⟩ := hrel
    go_wp2_with (first
      | (at_next; refine wpList_next_ranges _ rfl _ rfl 53 law_way hdElem wayV hdV (fun _ _ hh => keyW_inv hh) (fun _ _ hh => hdV_inv hh) b W.heap.size n _ _ _ rfl hrg ?_ ?_)
      | go_in)
    · intro hc0 hl0
      have hM := (unhide HH).cut ins hl0 (unhide HG) hrg.owns (unhide HC)
      have hbl : Below B W wr := ⟨(unhide HG).os, (unhide HG).tape, (unhide HG).output, (unhide HG).size, fun k hk => (unhide HG).block k (by omega) (fun e => by cases e; omega)⟩
      have HM := hide hM
      have HBL := hide hbl
      clear hM hbl hrg
      go_wp2_with fail
      (try simp only [Exit.inBlock, Exit.then])
      exact bodyPost_end (results_none rfl _ _ _) rfl ⟨rfl, ⟨_, unhide HM⟩, unhide HBL⟩
    · intro xf xt ca cn cc kl y1 y2 w1 cnt1 hx hlk hvv hat hrg1 hcl1 hg1 hs1 hen
      have hwx : wfP xf xt := wayV_wf hx
      have hkl : kl = keyW xf xt := by
        have := keyW_of hwx
        unfold wayV at hx
        rw [this] at hx
        exact (Option.some.inj hx).symm
      subst hkl
      obtain ⟨y0, hy0⟩ := (unhide HC).some' hwx hat
      have hy1 : H xf xt = some y0 := by
        unfold cutH at hy0
        rw [hlk, Bool.not_true, Bool.and_false, if_neg (by decide)] at hy0
        exact hy0
      obtain ⟨⟨r1, r2⟩, r3, r4⟩ := (show (0 ≤ xf ∧ xf < 51) ∧ 0 ≤ xt ∧ xt < 51 from unhide HR _ _ _ hy1)
      obtain ⟨F, rfl⟩ := Int.eq_ofNat_of_zero_le r1
      obtain ⟨T, rfl⟩ := Int.eq_ofNat_of_zero_le r3
      have hG1 : W.grownBy w1 (some b) := ⟨hg1.os.trans (unhide HG).os, hg1.tape.trans (unhide HG).tape, hg1.output.trans (unhide HG).output, Nat.le_trans (unhide HG).size hg1.size, fun k hk hne => (hg1.block k (by omega) (fun e => by cases e; omega)).trans ((unhide HG).block k hk hne)⟩
      obtain ⟨W2, hW2⟩ : ∃ W2, W2 = w1.alloc (.cells #[.int .i64 F, .int .i64 T] 53) := ⟨_, rfl⟩
      have hb2 : Below w1.heap.size w1 W2 := by rw [hW2]; exact bel1 _ _
      have hz2 : W2.heap.size = w1.heap.size + 1 := by rw [hW2]; simp
      have k0 : W2.cell? ⟨w1.heap.size, 0, none⟩ = some (.int .i64 F) := by rw [hW2]; simp [go_sem]
      have k1 : W2.cell? ⟨w1.heap.size, 1, none⟩ = some (.int .i64 T) := by rw [hW2]; simp [go_sem]
      have hG2 : W.grownBy W2 (some b) := ⟨hb2.os.trans hG1.os, hb2.tape.trans hG1.tape, hb2.output.trans hG1.output, Nat.le_trans hG1.size hb2.size, fun k hk hne => (hb2.block k (by omega)).trans (hG1.block k hk hne)⟩
      have hI2 := (unhide HI).gr hG2 hIl (fun e => hIb (Option.some.inj e))
      have HCL := hide (fun v => closC_calls F T I v ins W2 hI2 (by omega) (by omega))
      have hcr : (ins F != ins T) = crsB ins (F : Int) (T : Int) := rfl
      rw [hcr] at HCL
      have HKX := hide hx
      have HRG2 := hide (ranges_below hrg1 hb2 (by omega) (by omega))
      unfold hdV wayV at hen
      have HG2 := hide hG2
      have HW2 := hide hW2.symm
      have HLF := hide hrg.left_eq
      clear hG1 hG2 hI2 hrg1 hcr hb2 hW2 hx hvv hat hy0 hy1 hrg
      cases hc : crsB ins (F : Int) (T : Int) with
      | false =>
        rw [hc] at HCL
        have HC2 := hide ((unhide HC).keep hwx hc)
        go_wp2_with fail
        rw [unhide HW2]
        refine (unhide HCL _).mono ?_
        rintro e w3 ⟨rfl, hb3⟩
        have hz3 := hb3.size
        have HRG3 := hide (ranges_below (unhide HRG2) hb3 (by omega) (by omega))
        have hG3 : W.grownBy w3 (some b) := ⟨hb3.os.trans (unhide HG2).os, hb3.tape.trans (unhide HG2).tape, hb3.output.trans (unhide HG2).output, Nat.le_trans (unhide HG2).size hb3.size, fun k hk hne => (hb3.block k (by omega)).trans ((unhide HG2).block k hk hne)⟩
        have HG3 := hide hG3
        have k2 := bcl hb3 (show w1.heap.size < W2.heap.size by omega) k0
        have k3 := bcl hb3 (show w1.heap.size < W2.heap.size by omega) k1
        clear hb3 hG3 k0 k1
        rw [hs1] at k2 k3
        go_wp2_with fail
        go_roundw
        case rel => exact ⟨_, cnt1, _, unhide HRG3, HC2, HG3, by omega⟩
        case measure => rw [(unhide HRG3).left_eq, unhide HLF]; exact hcl1
      | true =>
        rw [hc] at HCL
        have HC2 := hide ((unhide HC).del hwx hc)
        go_wp2_with fail
        rw [unhide HW2]
        refine (unhide HCL _).mono ?_
        rintro e w3 ⟨rfl, hb3⟩
        have hz3 := hb3.size
        have HRG3 := hide (ranges_below (unhide HRG2) hb3 (by omega) (by omega))
        have hG3 : W.grownBy w3 (some b) := ⟨hb3.os.trans (unhide HG2).os, hb3.tape.trans (unhide HG2).tape, hb3.output.trans (unhide HG2).output, Nat.le_trans (unhide HG2).size hb3.size, fun k hk hne => (hb3.block k (by omega)).trans ((unhide HG2).block k hk hne)⟩
        have HG3 := hide hG3
        have k2 := bcl hb3 (show w1.heap.size < W2.heap.size by omega) k0
        have k3 := bcl hb3 (show w1.heap.size < W2.heap.size by omega) k1
        clear hb3 hG3 k0 k1
        rw [hs1] at k2 k3
        have hrg3 := unhide HRG3
        go_wp2_with (first
          | (at_delete; go_must (refine wpList_delete_ranges _ rfl _ _ 51 53 rfl 24 law_way Try.underlying51 hdElem b W.heap.size n _ _ _ rfl hrg3 (wayV ((F : Int), (T : Int))) _ rfl (unhide HKX) ?_); intro w5 cnt2 hrg5 hle hturn; go_frame)
          | fail)
        rw [Maps.strike_twice] at hrg5
        have hG5 : W.grownBy w5 (some b) := by
          obtain ⟨_, _, _, _, _, rfl⟩ := hturn
          refine ⟨(unhide HG3).os, (unhide HG3).tape, (unhide HG3).output, ?_, fun k hk hne => ?_⟩
          · have := (unhide HG3).size
            simp [setBlock]; omega
          · have hb : b ≠ k := fun e => hne (by rw [e])
            unfold setBlock
            exact (Array.getElem?_setIfInBounds_ne hb).trans ((unhide HG3).block k hk hne)
        have hs5 := hG5.size
        have hz5 := hrg5.lt
        go_roundw
        case rel => exact ⟨_, cnt2, _, hrg5, HC2, hide hG5, by omega⟩
        case measure => rw [hrg5.left_eq, unhide HLF]; omega
end Go.Proofs.Ytgdcamolpmjceaa
