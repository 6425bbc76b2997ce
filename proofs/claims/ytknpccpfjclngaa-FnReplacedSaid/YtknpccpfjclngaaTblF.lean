/- Whether the program's table is too full. -/
import Derived.Test.YtknpccpfjclngaaFilI
import Derived.Maps.RangeWalk
import Derived.Sort.KeysCollected
namespace Go.Proofs.Ytknpccpfjclngaa
open Go.RowKit Go.Maps Plain
set_option linter.unusedVariables false

namespace Plain
def namesF (fs : List Fl) : List (List UInt8) := fs.map fun f => f.1.data.toList
theorem tabF_some (fs : List Fl) (hn : (namesF fs).Nodup) : ∀ n d, tabF fs n = some d ↔ (n, d) ∈ fs := by
  induction fs with
  | nil => intro n d; simp [tabF]
  | cons g t ih =>
    intro n d
    have hn2 := List.nodup_cons.1 hn
    have ih2 := ih hn2.2
    show (match tabF t n with | some d => some d | none => if n = g.1 then some g.2 else none) = some d ↔ _
    cases ht : tabF t n with
    | some x =>
      have hx := (ih2 n x).1 ht
      have hne : n ≠ g.1 := fun e => hn2.1 (by subst e; exact List.mem_map.2 ⟨(g.1, x), hx, rfl⟩)
      constructor
      · intro h
        obtain rfl : x = d := by simpa using h
        exact List.mem_cons_of_mem _ hx
      · intro h
        rcases List.mem_cons.1 h with e | h
        · exact absurd (congrArg Prod.fst e) hne
        · have := (ih2 n d).2 h; rw [ht] at this; exact this
    | none =>
      constructor
      · intro h
        by_cases e : n = g.1
        · simp only [if_pos e] at h
          obtain rfl : g.2 = d := by simpa using h
          rw [e]; simp
        · simp only [if_neg e] at h; simp at h
      · intro h
        rcases List.mem_cons.1 h with e | h
        · subst e; simp
        · have := (ih2 n d).2 h; rw [ht] at this; simp at this
theorem has_names {D : DataW Unit} {fs : List Fl} (hD : TabD D (tabF fs)) (hn : (namesF fs).Nodup) (x : List UInt8) : Maps.has D (.string x) = true ↔ x ∈ namesF fs := by
  have hx := hD (toB x)
  have hk : keyL (toB x) = .string x := rfl
  rw [hk] at hx
  cases ht : tabF fs (toB x) with
  | none =>
    rw [ht] at hx
    rw [hx]
    constructor
    · intro h; simp at h
    · intro h
      obtain ⟨g, hg, e⟩ := List.mem_map.1 h
      have e2 : g.1 = toB x := ByteArray.ext (Array.toList_inj.1 e)
      have := (tabF_some fs hn (toB x) g.2).2 (by rw [← e2]; exact hg)
      rw [ht] at this; simp at this
  | some d =>
    rw [ht] at hx
    rw [hx.1]
    have := (tabF_some fs hn _ d).1 ht
    exact ⟨fun _ => List.mem_map.2 ⟨_, this, rfl⟩, fun _ => rfl⟩
theorem tab_keys {w : World} {b m : Nat} {D : DataW Unit} {fs : List Fl} (hown : w.ownsMap Try.prog 9 flElem b m D) (hD : TabD D (tabF fs)) (hn : (namesF fs).Nodup) : (namesF fs).Perm (strKeys D) :=
  Collected.perm (left := fun _ => false) ⟨hn, fun x => by rw [has_names hD hn x]; simp⟩ hown (string_keyed Try.underlying9) Try.underlying9 (fun _ => rfl)
theorem tab_size {w : World} {b m : Nat} {D : DataW Unit} {fs : List Fl} (hown : w.ownsMap Try.prog 9 flElem b m D) (hD : TabD D (tabF fs)) (hn : (namesF fs).Nodup) : Maps.size D = fs.length := by
  have := (tab_keys hown hD hn).length_eq
  obtain ⟨es, rfl⟩ := hown.isMap
  simp [namesF, strKeys] at this
  exact this.symm
/-- The bytes of the files that are still to come. -/
def sumL2 (left : Lit → Bool) : List Fl → Nat
  | [] => 0
  | f :: t => (if left (keyL f.1) then f.2.size else 0) + sumL2 left t
theorem sumL2_all (left : Lit → Bool) (fs : List Fl) (h : ∀ f ∈ fs, left (keyL f.1) = true) : sumL2 left fs = sumF fs := by
  induction fs with
  | nil => rfl
  | cons f t ih => rw [sumL2, sumF, if_pos (h f (by simp)), ih (fun g hg => h g (by simp [hg]))]
theorem sumL2_none (left : Lit → Bool) (fs : List Fl) (h : ∀ k, left k = false) : sumL2 left fs = 0 := by
  induction fs with
  | nil => rfl
  | cons f t ih => rw [sumL2, ih, h]; simp
theorem sumL2_same (left : Lit → Bool) (fs : List Fl) (n : ByteArray) (h : n.data.toList ∉ namesF fs) : sumL2 (fun z => left z && !z.sameKey (keyL n)) fs = sumL2 left fs := by
  induction fs with
  | nil => rfl
  | cons f t ih =>
    have h1 : f.1 ≠ n := fun e => h (by subst e; simp [namesF])
    have hs : (keyL f.1).sameKey (keyL n) = false := by
      cases hh : (keyL f.1).sameKey (keyL n) with
      | false => rfl
      | true => exact absurd (keyL_inj (WideAt.sameKey_eq hh)) h1
    rw [sumL2, sumL2, ih (fun hh => h (by unfold namesF; rw [List.map_cons]; exact List.mem_cons_of_mem _ hh)), hs]
    simp
theorem sumL2_step (left : Lit → Bool) (fs : List Fl) (n d : ByteArray) (hn : (namesF fs).Nodup) (hm : (n, d) ∈ fs) (hl : left (keyL n) = true) : d.size + sumL2 (fun z => left z && !z.sameKey (keyL n)) fs = sumL2 left fs := by
  induction fs with
  | nil => simp at hm
  | cons f t ih =>
    have hn2 := List.nodup_cons.1 hn
    rcases List.mem_cons.1 hm with e | hm
    · subst e
      have hs : (keyL n).sameKey (keyL n) = true := WideAt.sameKey_self (key_ok n)
      rw [sumL2, sumL2, sumL2_same left t n hn2.1, hl, hs]
      simp
    · have h1 : f.1 ≠ n := fun e => hn2.1 (by subst e; exact List.mem_map.2 ⟨_, hm, rfl⟩)
      have hs : (keyL f.1).sameKey (keyL n) = false := by
        cases hh : (keyL f.1).sameKey (keyL n) with
        | false => rfl
        | true => exact absurd (keyL_inj (WideAt.sameKey_eq hh)) h1
      have := ih hn2.2 hm
      rw [sumL2, sumL2, hs]
      simp only [Bool.not_false, Bool.and_true]
      omega
end Plain

theorem Plain.below_grown {w w' : World} {B : Nat} (h : w.grownBy w' none) (hB : B ≤ w.heap.size) : Below B w w' := ⟨h.os, h.tape, h.output, h.size, fun k hk => h.block k (by omega) (by simp)⟩
theorem Plain.below_grown_at {w w' : World} {B r : Nat} (h : w.grownBy w' (some r)) (hB : B ≤ w.heap.size) (hr : B ≤ r) : Below B w w' := ⟨h.os, h.tape, h.output, h.size, fun k hk => h.block k (by omega) (by intro e; cases e; omega)⟩
theorem Plain.flElem_ex {v : Value} {y : DataW Unit × List MemPlace} (h : flElem v = some y) : ∃ p : Fl, v = .agg #[.string p.1, .string p.2] := by
  unfold flElem at h
  split at h
  · next cs =>
    split at h
    · next n d hcs => exact ⟨(n, d), by congr 1; exact Array.toList_inj.1 hcs⟩
    · simp at h
  · simp at h

theorem Plain.tab_mem {D : DataW Unit} {fs : List Fl} (hD : TabD D (tabF fs)) (hn : (namesF fs).Nodup) {x : List UInt8} {nm dt : ByteArray} (hat : ∀ z, D.atKey (.string x) z = flD (nm, dt)) : (nm, dt) ∈ fs ∧ keyL nm = .string x := by
  have hx := hD (toB x)
  have hk : keyL (toB x) = .string x := rfl
  rw [hk] at hx
  cases ht : tabF fs (toB x) with
  | none =>
    rw [ht] at hx
    have := (atKey_of_not_has hx (DataW.agg [])).symm.trans (hat (DataW.agg []))
    simp [flD] at this
  | some d =>
    rw [ht] at hx
    have e := (hx.2 (DataW.agg [])).symm.trans (hat (DataW.agg []))
    simp [flD] at e
    have e1 : toB x = nm := ByteArray.ext (Array.toList_inj.1 (by simpa using e.1))
    have e2 : d = dt := ByteArray.ext (Array.toList_inj.1 (by simpa using e.2))
    subst e1 e2
    exact ⟨(tabF_some fs hn _ _).1 ht, rfl⟩

set_option maxRecDepth 10000 in
set_option maxHeartbeats 4000000 in
theorem tooFull_calls (b m : Nat) (fs : List Fl) (w : World) (h : Tab w b m (tabF fs)) (hn : (namesF fs).Nodup) (hl : fs.length ≤ 1000000000000) (hs : sumF fs ≤ 1000000000000000) :
    Calls Try.prog 29 #[.map (some b)] w fun e w' => e = .returned (.bool (!(decide (fs.length ≤ 60) && decide (sumF fs ≤ 200000)))) ∧ Below w.heap.size w w' := by
  obtain ⟨D, hown, hD⟩ := h
  have hsz := tab_size hown hD hn
  have hall : ∀ f ∈ fs, Maps.has D (keyL f.1) = true := fun f hf => (has_names hD hn _).2 (List.mem_map.2 ⟨f, hf, rfl⟩)
  have HD := hide hD
  have HN := hide hn
  have HZ := hide hsz
  have HA := hide (sumL2_all (Maps.has D) fs hall)
  clear hD hn hsz hall
  generalize hln : fs.length = n at *
  generalize hsm : sumF fs = S at *
  have HL := hide hln
  have HM := hide hsm
  clear hln hsm
  go_enter Try.func29, Try.ntmps29
  go_wp2_with (first
    | (at_range; refine wpList_range_own _ rfl _ 56 rfl 9 65 law_str Try.underlying56 flElem b m D rfl hown ?_; intro w0 hrg0 hg0 hs0)
    | go_in)
  go_frame
  go_loopw [3] (fun sv wr => ∃ (s : Nat) (left : Lit → Bool) (cnt : Nat), sv = .int .i64 s ∧ s ≤ S ∧ wr.ranges Try.prog 9 flElem b w.heap.size m D left cnt ∧ Hid (s + sumL2 left fs = S) ∧ Hid (Below w.heap.size w wr)) (fun _ wr => wr.rangeLeft b w.heap.size)
  case atStart => exact ⟨0, _, _, rfl, by omega, hrg0, hide (by rw [unhide HA, Nat.zero_add]), hide (below_grown hg0 (Nat.le_refl _))⟩
  case round =>
    obtain ⟨s, left, cnt, rfl, hsS, hrg, HS, HBe⟩ := hrel
    go_wp2_with (first
      | (at_next; refine wpList_next_ranges (α := List UInt8) (β := Fl) _ rfl _ rfl 9 law_str flElem encStr (fun p => .agg #[.string p.1, .string p.2]) (fun key kl hk => by obtain ⟨x, e, _⟩ := Maps.keyOf_str Try.underlying9 hk; exact ⟨x, e⟩) (fun v y hv => flElem_ex hv) b w.heap.size m D left cnt rfl hrg ?_ ?_)
      | go_in)
    · intro hc0 hl0
      have hown2 := hrg.owns
      have hsS2 : s = S := by have := unhide HS; rw [sumL2_none left fs hl0] at this; omega
      subst hsS2
      clear HS hc0 hl0 hrg hrg0
      go_wp2_with (first
        | (at_len; refine wpList_len_own _ rfl _ 56 rfl 9 65 Try.underlying56 flElem b m D rfl hown2 ?_; rw [unhide HZ])
        | go_in)
      all_goals (try go_ret)
      all_goals refine ⟨?_, unhide HBe⟩
      all_goals (show Ending.returned (.bool _) = Ending.returned (.bool _); rcases Nat.lt_or_ge 60 n with h1 | h1 <;> rcases Nat.lt_or_ge 200000 s with h2 | h2 <;> first | (simp_all; done) | (simp_all; omega) | (congr 2; rw [decide_eq_false (by omega), decide_eq_true (by omega)]; simp [h1]; omega) | skip)
    · intro x nm dt kl yd yp w2 cnt2 hkey hlk hv hat hrg2 hlt hg2 hs2 hen
      have hb2 : Below w.heap.size wr w2 := below_grown_at hg2 (unhide HBe).size (Nat.le_refl _)
      have hb3 : Below w.heap.size w w2 := (unhide HBe).trans hb2
      obtain ⟨x2, ex, rfl, hx⟩ := Maps.keyOf_str Try.underlying9 hkey
      have hat2 : ∀ z, D.atKey (.string x2) z = flD (nm, dt) := by
        intro z; rw [hat z]
        have e : some (flD (nm, dt), []) = some (yd, yp) := (flElem_mk nm dt).symm.trans hv
        exact (congrArg Prod.fst (Option.some.inj e)).symm
      have hmem : (nm, dt) ∈ fs ∧ keyL nm = .string x2 := tab_mem (unhide HD) (unhide HN) hat2
      have hstep := sumL2_step left fs nm dt (unhide HN) hmem.1 (by rw [hmem.2]; exact hlk)
      have hds : s + dt.size ≤ S := by have := unhide HS; omega
      have HS2 := hide (show (s + dt.size) + sumL2 (fun z => left z && !z.sameKey (.string x2)) fs = S from by rw [← unhide HS, ← hstep, hmem.2]; omega)
      have HB3 := hide hb3
      have hs60 : s + dt.size ≤ 1000000000000000 := by omega
      clear hs2 hb2 hb3 hstep hmem hat2 hat hv HS hkey ex
      go_wp2_with fail
      all_goals exact ⟨⟨s + dt.size, _, cnt2, by go_num, hds, hrg2.alloc _, HS2, hide ((unhide HB3).trans ((bel1 _ _).mono (unhide HB3).size))⟩, by rw [(hrg2.alloc _).left_eq, hrg.left_eq]; exact hlt⟩
end Go.Proofs.Ytknpccpfjclngaa
