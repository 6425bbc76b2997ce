/- Whole of the program. -/
import Derived.Test.YtnkjdojpegmlcaaWhI
namespace Go.Proofs.Ytnkjdojpegmlcaa
open Go.RowKit Go.Maps Plain
set_option linter.unusedVariables false

namespace Plain
theorem whS_none {i : Nat} {c : Int} {L : List (Int × ByteArray)} {s : ByteArray} (h : pieceR s = none) : whS i c L s = none := by unfold whS; rw [h]
theorem whS_count {i : Nat} {c a n : Int} {L : List (Int × ByteArray)} {s x : ByteArray} (h : pieceR s = some (a, n, x)) (h2 : 0 < i ∧ n ≠ c) : whS i c L s = none := by unfold whS; rw [h]; exact if_pos h2
theorem whS_new {i : Nat} {c a n : Int} {L : List (Int × ByteArray)} {s x : ByteArray} (h : pieceR s = some (a, n, x)) (h2 : ¬ (0 < i ∧ n ≠ c)) (hl : lk L a = none) : whS i c L s = some (n, L ++ [(a, x)]) := by
  unfold whS
  rw [h]
  show (if 0 < i ∧ n ≠ c then none else _) = _
  rw [if_neg h2, hl]
theorem whS_old {i : Nat} {c a n : Int} {L : List (Int × ByteArray)} {s x y : ByteArray} (h : pieceR s = some (a, n, x)) (h2 : ¬ (0 < i ∧ n ≠ c)) (hl : lk L a = some y) : whS i c L s = if y = x then some (n, L) else none := by
  unfold whS
  rw [h]
  show (if 0 < i ∧ n ≠ c then none else _) = _
  rw [if_neg h2, hl]
theorem whG_step {ps : List ByteArray} {k : Nat} {c : Int} {L : List (Int × ByteArray)} {s : ByteArray} (hk : k < ps.length) (hs : ps[k] = s) : whG k c L (ps.drop k) = match whS k c L s with | none => none | some (n, M) => whG (k + 1) n M (ps.drop (k + 1)) := by
  rw [List.drop_eq_getElem_cons hk, whG, hs]
  cases whS k c L s <;> rfl
/-- What is known of the state of a reading. -/
structure WhSt (ps : List ByteArray) (k : Nat) (c : Int) (L : List (Int × ByteArray)) : Prop where
  run : whG k c L (ps.drop k) = whG 0 0 [] ps
  len : L.length ≤ k
  nil : k = 0 → L = []
  nod : (L.map (·.1)).Nodup
  sh : ShortL L
  cr : 0 ≤ c ∧ c ≤ 1000000000000
theorem WhSt.start (ps : List ByteArray) : WhSt ps 0 0 [] := ⟨rfl, Nat.le_refl _, fun _ => rfl, List.nodup_nil, fun a x h => (by cases h), by omega⟩
theorem WhSt.new {ps : List ByteArray} {k : Nat} {c a n : Int} {L : List (Int × ByteArray)} {s x : ByteArray} (h : WhSt ps k c L) (hk : k < ps.length) (hs : ps[k] = s) (hp : pieceR s = some (a, n, x)) (h2 : ¬ (0 < k ∧ n ≠ c)) (hl : lk L a = none) : WhSt ps (k + 1) n (L ++ [(a, x)]) := by
  have hr := pieceR_range hp
  have := h.len
  refine ⟨?_, by simp; omega, by omega, ?_, h.sh.snoc hr.2.2, hr.2.1⟩
  · rw [← h.run, whG_step hk hs, whS_new hp h2 hl]
  · rw [List.map_append, List.nodup_append]
    refine ⟨h.nod, by simp, ?_⟩
    intro u hu v hv e
    simp at hv
    subst hv
    rw [e] at hu
    exact lk_none hl hu
theorem WhSt.old {ps : List ByteArray} {k : Nat} {c a n : Int} {L : List (Int × ByteArray)} {s x : ByteArray} (h : WhSt ps k c L) (hk : k < ps.length) (hs : ps[k] = s) (hp : pieceR s = some (a, n, x)) (h2 : ¬ (0 < k ∧ n ≠ c)) (hl : lk L a = some x) : WhSt ps (k + 1) n L := by
  have hr := pieceR_range hp
  have := h.len
  refine ⟨?_, by omega, by omega, h.nod, h.sh, hr.2.1⟩
  rw [← h.run, whG_step hk hs, whS_old hp h2 hl, if_pos rfl]
theorem WhSt.fail {ps : List ByteArray} {k : Nat} {c : Int} {L : List (Int × ByteArray)} {s : ByteArray} (h : WhSt ps k c L) (hk : k < ps.length) (hs : ps[k] = s) (hf : whS k c L s = none) (hn : ps.length ≤ 2000) : wholeR ps = (⟨#[]⟩, false) := by
  unfold wholeR
  rw [if_pos hn, ← h.run, whG_step hk hs, hf]
  rfl
theorem WhSt.fin {ps : List ByteArray} {k : Nat} {c : Int} {L : List (Int × ByteArray)} (h : WhSt ps k c L) (hk : ps.length ≤ k) (hn : ps.length ≤ 2000) : wholeR ps = if (L.length : Int) = c then (joinL L L.length, true) else (⟨#[]⟩, false) := by
  unfold wholeR
  rw [if_pos hn, ← h.run, List.drop_of_length_le hk]
  rfl
end Plain

/-- What Whole leaves. -/
def Plain.WhPost (ps : List ByteArray) (w : World) (e : Ending) (w' : World) : Prop := e = .returned (.tuple #[.string (wholeR ps).1, .bool (wholeR ps).2]) ∧ Below w.heap.size w w'

set_option maxRecDepth 10000 in
set_option maxHeartbeats 4000000 in
theorem impl_Whole (ad : Option Addr) (n c0 : Nat) (ps : List ByteArray) (w : World) (hn : ps.length = n) (hn2 : n ≤ 1048576) (hz : ∀ s ∈ ps, s.size ≤ 1048576) (h : StrsAt w ad ps) :
    Calls Try.prog 11 #[.slice ad n c0] w (WhPost ps w) := by
  by_cases hbig : 2000 < n
  · have hr : wholeR ps = (⟨#[]⟩, false) := by unfold wholeR; rw [if_neg (by omega)]
    unfold WhPost
    rw [hr]
    clear hr h hz
    go_enter Try.func11, Try.ntmps11
    go_wp2_with fail
    go_ret2
    exact ⟨rfl, Below.refl _ _⟩
  · have hmm := make_pt w
    have HP0 := hide (PTab.made w)
    have HB0 := hide (bel1 w (.map #[] 0))
    have HN := hide hn
    have HZ := hide hz
    have HA := hide h
    have HST0 := hide (WhSt.start ps)
    obtain ⟨R, hR⟩ : ∃ R, wholeR ps = R := ⟨_, rfl⟩
    have HR := hide hR
    have HFAIL := hide (fun (k : Nat) (c : Int) (L : List (Int × ByteArray)) (s : ByteArray) (hh : WhSt ps k c L) (hk : k < ps.length) (hs : ps[k] = s) (hf : whS k c L s = none) => hR.symm.trans (hh.fail hk hs hf (by omega)))
    unfold WhPost
    rw [hR]
    clear hR hn hz h
    go_enter Try.func11, Try.ntmps11
    go_wp2_with fail
    clear hmm
    go_loopw [5, 18] (fun co i wr => ∃ (k : Nat) (c : Int) (L : List (Int × ByteArray)), co = .int .i64 c ∧ i = .int .i64 k ∧ k ≤ n ∧ Hid (WhSt ps k c L) ∧ Hid (PTab wr w.heap.size L.length (lkF L c)) ∧ Hid (Below w.heap.size w wr)) (fun _ i _ => n - (intOf i).toNat)
    case atStart => exact ⟨0, 0, [], rfl, rfl, by omega, HST0, HP0, HB0⟩
    case round =>
      clear HP0 HB0 HST0
      obtain ⟨k, c, L, rfl, rfl, hk, HST, HP, HB⟩ := hrel
      by_cases hkn : k < n
      · have hkl : k < ps.length := by rw [unhide HN]; exact hkn
        obtain ⟨g, o, eg, lg, pg⟩ := (unhide HA) k hkl
        have pg2 : wr.cell? ⟨g, o + k, none⟩ = some (.string ps[k]) := ((unhide HB).cell (p := ⟨g, o + k, none⟩) lg).trans pg
        have hsz := unhide HZ ps[k] (List.getElem_mem hkl)
        have HF := hide (fun s (hs : ps[k] = s) hf => unhide HFAIL k c L s (unhide HST) hkl hs hf)
        have HNEW := hide (fun s a m x (hs : ps[k] = s) hp h2 hl => (unhide HST).new (a := a) (n := m) (x := x) hkl hs hp h2 hl)
        have HOLD := hide (fun s a m x (hs : ps[k] = s) hp h2 hl => (unhide HST).old (a := a) (n := m) (x := x) hkl hs hp h2 hl)
        generalize ps[k] = s at pg2 hsz HF HNEW HOLD
        have HRP := hide (readPiece_calls s wr (by omega) (fun kk b hb => by have := readF_small s kk b hb; omega))
        subst eg
        have i0 : (0 : Int) ≤ (k : Int) := by omega
        have i1 : (k : Int) < (n : Int) := by omega
        clear pg lg hkl
        go_wp2_with fail
        refine (unhide HRP).mono ?_
        rintro e w2 ⟨a, m, x, g, rfl, hpc, hx, hb2⟩
        have HP2 := hide ((unhide HP).keep hb2)
        have HB2 := hide (belOn (unhide HB) hb2)
        unfold piV
        clear hb2
        rcases hpc with ⟨rfl, hpc⟩ | ⟨rfl, hpc⟩
        · have HX := hide (unhide HF s rfl (whS_none hpc))
          clear pg2 hpc
          go_wp2_with fail
          go_ret2
          exact ⟨by rw [unhide HX]; rfl, belOn (unhide HB2) (bel1 _ _)⟩
        · by_cases h2 : 0 < k ∧ m ≠ c
          · have HX := hide (unhide HF s rfl (whS_count hpc h2))
            obtain ⟨hk0, hmc⟩ := h2
            have hk0' : (0 : Int) < (k : Int) := by omega
            clear pg2 hpc
            go_wp2_with fail
            go_ret2
            exact ⟨by rw [unhide HX]; rfl, belOn (unhide HB2) (bel1 _ _)⟩
          · have hrg := pieceR_range hpc
            have hwf : (Lit.int .i64 a).wf = true := Go.WalkArith.wf_i64 ⟨by omega, by omega⟩
            have hll : L.length ≤ 5000 := by have := (unhide HST).len; omega
            have hcm : lkF L c = lkF L m := by
              by_cases e : m = c
              · rw [e]
              · rw [(unhide HST).nil (by omega)]; rfl
            have HPM : Hid (PTab w2 w.heap.size L.length (lkF L m)) := hide (by rw [← hcm]; exact unhide HP2)
            have hgd : (k = 0) ∨ (0 < k ∧ m = c) := by omega
            cases hl : lk L a with
            | none =>
              have hla : (pcAt (lkF L m) a) = .agg #[.int .i64 0, .int .i64 0, .string ⟨#[]⟩] ∧ (lkF L m a).isSome = false := by unfold pcAt lkF; rw [hl]; exact ⟨rfl, rfl⟩
              have HN2 := hide (unhide HNEW s a m x rfl hpc h2 hl)
              have HF2 := hide (lkF_new (c := m) (x := x) hl)
              have hlook := (PTab.keep (unhide HPM) (bel1 w2 (.cells #[.int .i64 a, .int .i64 m, .string x] 54))).look_ok hwf
              rw [hla.1, hla.2] at hlook
              have HNO := hide hla.2
              have HB3 := hide (belOn (unhide HB2) (belDrew (belOn (bel1 w2 (.cells #[.int .i64 a, .int .i64 m, .string x] 54)) (bel1 _ (.cells #[.int .i64 0, .int .i64 0, .string ⟨#[]⟩] 54)))))
              obtain ⟨w5, hupd, hp5, hg5⟩ := (PTab.keep (unhide HPM) (belDrew (belOn (bel1 w2 (.cells #[.int .i64 a, .int .i64 m, .string x] 54)) (bel1 _ (.cells #[.int .i64 0, .int .i64 0, .string ⟨#[]⟩] 54))))).upd a m x hll hwf
              have hlb := (unhide HPM).lt
              have hc5 : w5.cell? ⟨w2.heap.size, 1, none⟩ = some (.int .i64 m) := (World.cell?_of_block (a := ⟨w2.heap.size, 1, none⟩) (hg5.block w2.heap.size (by show w2.heap.size < (w2.alloc _ |>.alloc _).heap.size; simp; omega) (fun e => by have := Option.some.inj e; omega))).trans (by show ((w2.alloc _).alloc _).cell? _ = _; simp [go_sem])
              have HP5 := hide hp5
              have HG5 := hide hg5
              clear hp5 hg5
              clear hpc h2 hl hla hcm pg2 HP2 HRP HF HNEW HOLD hrg
              rcases hgd with rfl | ⟨hk0, rfl⟩
              all_goals
                go_wp2_with fail
                go_region
                all_goals (try go_wp2_with fail)
                all_goals go_roundw
                case rel => exact ⟨_ + 1, m, L ++ [(a, x)], rfl, by go_num, by omega, HN2, hide (by have hp5 := unhide HP5; rw [unhide HNO] at hp5; rw [List.length_append, ← unhide HF2]; exact hp5), hide ((unhide HB3).grown (unhide HG5) (unhide HB3).size (fun j hj => by cases hj; exact Nat.le_refl _))⟩
                case measure => simp [intOf]; omega
            | some y =>
              have hk0 : 0 < k := by
                rcases Nat.eq_zero_or_pos k with q | q
                · rw [(unhide HST).nil q] at hl; cases hl
                · exact q
              have hmc : m = c := by omega
              subst hmc
              have hla : (pcAt (lkF L m) a) = .agg #[.int .i64 a, .int .i64 m, .string y] ∧ (lkF L m a).isSome = true := by unfold pcAt lkF; rw [hl]; exact ⟨rfl, rfl⟩
              have hlook := (PTab.keep (unhide HPM) (bel1 w2 (.cells #[.int .i64 a, .int .i64 m, .string x] 54))).look_ok hwf
              rw [hla.1, hla.2] at hlook
              have HNO := hide hla.2
              have hk0' : (0 : Int) < (k : Int) := by omega
              by_cases hyx : y = x
              · subst hyx
                have HN2 := hide (unhide HOLD s a m y rfl hpc h2 hl)
                have HF2 := hide (lkF_old (c := m) hl)
                have HB3 := hide (belOn (unhide HB2) (belDrew (belOn (bel1 w2 (.cells #[.int .i64 a, .int .i64 m, .string y] 54)) (bel1 _ (.cells #[.int .i64 a, .int .i64 m, .string y] 54)))))
                obtain ⟨w5, hupd, hp5, hg5⟩ := (PTab.keep (unhide HPM) (belDrew (belOn (bel1 w2 (.cells #[.int .i64 a, .int .i64 m, .string y] 54)) (bel1 _ (.cells #[.int .i64 a, .int .i64 m, .string y] 54))))).upd a m y hll hwf
                have hlb := (unhide HPM).lt
                have hc5 : w5.cell? ⟨w2.heap.size, 1, none⟩ = some (.int .i64 m) := (World.cell?_of_block (a := ⟨w2.heap.size, 1, none⟩) (hg5.block w2.heap.size (by show w2.heap.size < (w2.alloc _ |>.alloc _).heap.size; simp; omega) (fun e => by have := Option.some.inj e; omega))).trans (by show ((w2.alloc _).alloc _).cell? _ = _; simp [go_sem])
                have HP5 := hide hp5
                have HG5 := hide hg5
                clear hp5 hg5
                clear hpc h2 hl hla hcm pg2 HP2 HRP HF HNEW HOLD hrg hgd
                go_wp2_with fail
                go_region
                all_goals (try go_wp2_with fail)
                all_goals go_roundw
                case rel => exact ⟨k + 1, m, L, rfl, by go_num, by omega, HN2, hide (by have hp5 := unhide HP5; rw [unhide HNO] at hp5; rw [← unhide HF2]; exact hp5), hide ((unhide HB3).grown (unhide HG5) (unhide HB3).size (fun j hj => by cases hj; exact Nat.le_refl _))⟩
                case measure => simp [intOf]; omega
              · have HX := hide (unhide HF s rfl (by rw [whS_old hpc h2 hl, if_neg hyx]))
                have hyx2 : ¬ y.toList = x.toList := fun q => hyx (by rw [ByteArray.toList_eq, ByteArray.toList_eq] at q; exact ByteArray.ext (Array.toList_inj.1 q))
                clear hpc h2 hl hla hcm pg2 HP2 HRP HF HNEW HOLD hrg hgd hyx
                go_wp2_with fail
                go_ret2
                exact ⟨by rw [unhide HX]; rfl, belOn (unhide HB2) (belOn (bel1 _ _) (bel1 _ _))⟩
      · obtain rfl : k = n := by omega
        have hfin := (unhide HST).fin (by rw [unhide HN]; exact Nat.le_refl _) (by rw [unhide HN]; omega)
        rw [unhide HR] at hfin
        have hll : L.length ≤ 2000 := by have := (unhide HST).len; omega
        have hlen := fun ty => (unhide HP).len ty
        by_cases hc : (L.length : Int) = c
        · rw [if_pos hc] at hfin
          have HX := hide hfin
          have HJ := hide (joined_calls w.heap.size L c wr (unhide HP) hll (unhide HST).sh)
          clear hfin
          go_wp2_with fail
          refine (unhide HJ).mono ?_
          rintro e w2 ⟨rfl, hb2⟩
          have HB2 := hide (belOn (unhide HB) hb2)
          clear hb2 hlen
          go_wp2_with fail
          go_ret2
          exact ⟨by rw [unhide HX]; rfl, unhide HB2⟩
        · rw [if_neg hc] at hfin
          have HX := hide hfin
          clear hfin
          go_wp2_with fail
          go_ret2
          exact ⟨by rw [unhide HX]; rfl, unhide HB⟩
end Go.Proofs.Ytnkjdojpegmlcaa
