/- Sets of digests: when they are right, by both. -/
import Derived.Test.YtldgkpnlplfopaaGreatDoorHzA
import Derived.Test.YtldgkpnlplfopaaGreatDoorRzE
import Derived.Maps.Own
import Derived.Maps.OwnSet
import Derived.DeepKeys4
namespace Go.Proofs.YtldgkpnlplfopaaGreatDoor
open Go.RowKit Go.Maps Plain
set_option linter.unusedVariables false

namespace Plain
theorem mapM_some {α β : Type} (f : α → Option β) (g : α → β) : ∀ l : List α, (∀ x ∈ l, f x = some (g x)) → l.mapM f = some (l.map g)
  | [], _ => rfl
  | x :: l, h => by
    rw [List.mapM_cons, h x (by simp), mapM_some f g l fun y hy => h y (by simp [hy])]
    rfl
end Plain

theorem laidOutS : laidOutB Tryz.prog = true := by kernel_rfl
theorem cellsK : Tryz.prog.cellsOf 63 = 32 := by kernel_rfl
theorem cellsU8 : Tryz.prog.cellsOf 5 = 1 := by kernel_rfl
theorem keyedK : Keyed Tryz.prog 63 := Keyed.of_law (deep_law_laid laidOutS (m := 3) (by omega) (of_decide_eq_true (by kernel_rfl)) (by kernel_rfl) (by kernel_rfl))
theorem keyLits_u8 (d : Nat) (n : Int) (h : 0 ≤ n ∧ n < 256) : Tryz.prog.keyLits (d + 1) 5 [.int .u8 n] = some [.int .u8 n] := by
  unfold Program.keyLits
  rw [Tryz.underlying5]
  have : (Lit.int .u8 n).wf = true := by simp [Lit.wf, IntKind.min, IntKind.max, IntKind.bits, IntKind.signed]; omega
  simp [this]
theorem keyLits_K (d : Nat) (xs : List Int) (h : Key xs) : ∃ ls, Tryz.prog.keyLits (d + 2) 63 (xs.map (Value.int .u8)) = some ls := by
  unfold Program.keyLits
  rw [Tryz.underlying63]
  simp only
  rw [if_pos (by rw [List.length_map, h.1, cellsK])]
  have := mapM_some (fun i => Tryz.prog.keyLits (d + 1) 5 (((xs.map (Value.int .u8)).drop (i * Tryz.prog.cellsOf 5)).take (Tryz.prog.cellsOf 5))) (fun i => [Lit.int .u8 (xs.getD i 0)]) (List.range 32) (fun i hi => by
    have hi2 : i < xs.length := by rw [h.1]; exact List.mem_range.1 hi
    have e : ((xs.map (Value.int .u8)).drop (i * Tryz.prog.cellsOf 5)).take (Tryz.prog.cellsOf 5) = [.int .u8 xs[i]] := by
      rw [cellsU8, Nat.mul_one, List.drop_eq_getElem_cons (by simpa using hi2)]
      simp
    rw [e, keyLits_u8 d _ (h.2 _ (by simp))]
    simp [List.getD, List.getElem?_eq_getElem hi2])
  rw [this]
  exact ⟨_, rfl⟩
theorem keyOf_K (xs : List Int) (h : Key xs) : ∃ kl, keyOf Tryz.prog 63 (.agg (keyC xs)) = some kl := by
  have h1 : (Tryz.prog.keyType 63 && (Value.agg (keyC xs)).formed Tryz.prog 63) = true := by
    rw [Bool.and_eq_true]
    refine ⟨by kernel_rfl, ?_⟩
    simp [Value.formed, Tryz.underlying63, cellsK, keyC_size h]
  obtain ⟨m, hm⟩ : ∃ m, Tryz.prog.types.size = m + 1 := ⟨Tryz.prog.types.size - 1, by have : 0 < Tryz.prog.types.size := of_decide_eq_true (by kernel_rfl); omega⟩
  obtain ⟨ls, hls⟩ := keyLits_K m xs h
  unfold keyOf
  rw [Tryz.underlying63]
  simp only
  rw [if_pos h1, hm]
  refine ⟨.string (keyBytes ls), ?_⟩
  · rw [show (Value.agg (keyC xs)).cells.toList = xs.map (Value.int .u8) from by simp [Value.cells, keyC], hls]
    rfl

namespace Plain
def ltO : Option ByteArray → ByteArray → Bool
  | none, _ => true
  | some q, s => Op.bytesLess q.toList s.toList
theorem le_not (s q : ByteArray) (b : Bool) (h : Op.bytesLess q.toList s.toList = b) : (Op.bytesLess s.toList q.toList || s.toList == q.toList) = !b := by
  cases b with
  | true =>
    have h1 := (less_ltB q s).1 h
    have h2 : Op.bytesLess s.toList q.toList = false := by
      rw [Bool.eq_false_iff]
      exact fun h3 => ltB_irrefl _ (ltB_trans h1 ((less_ltB s q).1 h3))
    have h3 : (s.toList == q.toList) = false := by
      rw [Bool.eq_false_iff]
      intro h4
      rw [(beq_bytes s q).1 h4] at h1
      exact ltB_irrefl _ h1
    rw [h2, h3]
    rfl
  | false =>
    have h1 : ¬ ltB q s := fun h2 => by rw [(less_ltB q s).2 h2] at h; cases h
    by_cases h2 : s = q
    · have := (beq_bytes s q).2 h2
      rw [this, Bool.or_true]
      rfl
    · have := (less_ltB s q).2 (ltB_tri h1 (fun e => h2 e.symm))
      rw [this]
      rfl
def okS : Option ByteArray → List ByteArray → Bool
  | _, [] => true
  | p, s :: r => (digB s && ltO p s) && okS (some s) r
def prevS (ls : List ByteArray) : Nat → Option ByteArray
  | 0 => none
  | k + 1 => ls[k]?
theorem okS_step (ls : List ByteArray) (k : Nat) (h : k < ls.length) : okS (prevS ls k) (ls.drop k) = ((digB ls[k] && ltO (prevS ls k) ls[k]) && okS (prevS ls (k + 1)) (ls.drop (k + 1))) := by
  rw [List.drop_eq_getElem_cons h, okS, prevS, List.getElem?_eq_getElem h]
def setB (ls : List ByteArray) : Bool := decide (ls.length ≤ 200) && okS none ls
/-- Texts in memory. -/
structure TxtsAt (W : World) (a : Option Addr) (n : Nat) (ls : List ByteArray) : Prop where
  row : RowAt strE W a ls
  len : ls.length = n
  bn : n ≤ 1048576
  fit : ∀ s ∈ ls, s.size ≤ 1000000000
theorem TxtsAt.below {W W' : World} {a : Option Addr} {n : Nat} {ls : List ByteArray} (h : TxtsAt W a n ls) (hb : Below W.heap.size W W') : TxtsAt W' a n ls := ⟨h.row.below hb, h.len, h.bn, h.fit⟩
/-- What stands in a map of digests: nothing. -/
def anyR : Value → Option (DataW Unit × List MemPlace) := unitElem
end Plain

theorem make_set (w : World) : (Instr.makeMap 44 none).run Tryz.prog w = .ok (.map (some w.heap.size)) (w.alloc (.map #[] 0)) := by
  simp [Instr.makeMap]
theorem keyB_new {w : World} {xs : List Int} : KeyB (w.alloc (.cells (keyC xs) 63)) w.heap.size xs := heap_alloc_new _ _

set_option maxRecDepth 10000 in
set_option maxHeartbeats 4000000 in
theorem readSet_calls (a : Option Addr) (n c : Nat) (ls : List ByteArray) (w : World) (h : TxtsAt w a n ls) :
    Calls Tryz.prog 21 #[.slice a n c] w fun e w' => ∃ m, e = .returned (.tuple #[m, .bool (setB ls)]) ∧ Below w.heap.size w w' := by
  have hbn := h.bn
  have HLN := hide h.len
  by_cases hbig : (200 : Int) < (n : Int)
  · have HX := hide (show setB ls = false from by unfold setB; rw [decide_eq_false (by have := h.len; omega)]; rfl)
    clear h
    go_enter Tryz.func21, Tryz.ntmps21
    go_wp2_with fail
    exact bodyPost_ret (v := .tuple #[.map none, .bool false]) (by simp [results, Tryz.results21, go_sem]) rfl ⟨_, by rw [unhide HX], Below.refl _ _⟩
  have HD := hide (fun (W : World) (hW : Below w.heap.size w W) => h.below hW)
  have HFIT := hide h.fit
  obtain ⟨R, hR⟩ : ∃ R, setB ls = R := ⟨_, rfl⟩
  have HR := hide (show okS none ls = R from by rw [← hR]; unfold setB; rw [decide_eq_true (by have := h.len; omega)]; rfl)
  rw [hR]
  clear h hR
  have HM0 := hide (World.ownsMap_made (H := Unit) w Tryz.prog 63 anyR)
  have HB0 := hide (show Below w.heap.size w (w.alloc (.map #[] 0)) from (Below.refl _ _).alloc (Nat.le_refl _) _)
  have hmk := make_set w
  go_enter Tryz.func21, Tryz.ntmps21
  go_wp2_with fail
  clear hmk
  go_loopw [15] (fun s15 wr => ∃ (k : Nat) (D : DataW Unit), s15 = .int .i64 k ∧ k ≤ n ∧ w.heap.size < wr.heap.size ∧ Hid (okS (prevS ls k) (ls.drop k) = R) ∧ Hid (wr.ownsMap Tryz.prog 63 anyR w.heap.size k D) ∧ Hid (Below w.heap.size w wr)) (fun s15 _ => n - (intOf s15).toNat)
  case atStart => exact ⟨0, _, rfl, by omega, by simp, HR, HM0, HB0⟩
  case round =>
    clear HM0 HB0
    obtain ⟨k, D, rfl, hk, hz, HO, HM, HB⟩ := hrel
    by_cases hkn : k < n
    · have hkl : k < ls.length := by rw [unhide HLN]; exact hkn
      obtain ⟨g, e1, l1, p0, -⟩ := (unhide HD wr (unhide HB)).row.str k hkl
      have hst := okS_step ls k hkl
      rw [unhide HO] at hst
      have hsz := unhide HFIT ls[k] (by simp)
      have HPV := hide (fun (j : Nat) (hj : k = j + 1) (W : World) (hW : Below w.heap.size w W) => (show ∃ q g', prevS ls k = some q ∧ a = some ⟨g', 0, none⟩ ∧ W.cell? ⟨g', j, none⟩ = some (.string q) from by
        subst hj
        have hjl : j < ls.length := by omega
        obtain ⟨g', e1, l1, p0, -⟩ := (unhide HD W hW).row.str j hjl
        exact ⟨ls[j], g', by rw [prevS, List.getElem?_eq_getElem hjl], e1, p0⟩))
      have HP0 := hide (show k = 0 → prevS ls k = none from fun h => by subst h; rfl)
      generalize ls[k] = s at p0 hst hsz
      have HKY := hide (keyOf_calls s wr (by omega))
      generalize prevS ls k = pv at hst HPV HP0
      subst e1
      have HST := hide hst
      have i0 : (0 : Int) ≤ (k : Int) := by omega
      have i1 : (k : Int) < (n : Int) := by omega
      clear hst HO
      cases hdg : digB s with
      | false =>
        rw [hdg] at HKY
        have HX := hide (show R = false from by rw [unhide HST, hdg]; rfl)
        clear hdg
        go_wp2_with fail
        refine (unhide HKY).mono ?_
        rintro e w1 ⟨xs, rfl, hkx, hb1⟩
        have HI := hide (show (Tryz.prog.info? 63).map (·.size) = some (keyC xs).size from by rw [keyC_size hkx]; exact infoK)
        have HS32 := hide (show (32 : Nat) = (keyC xs).size from (keyC_size hkx).symm)
        have HB1 := hide ((unhide HB).trans (hb1.mono (Nat.le_of_lt hz)))
        have hz1 := hb1.size
        clear hb1
        go_wp2_with (refine wpList_store_any rfl 63 (.tmp 7) (.tmp 23) rfl w1.heap.size (keyC xs) rfl rfl 63 _ (heap_alloc_new w1 _) (unhide HI) (unhide HS32) (keyC_one _) ?_; intro w3 hrow3 hgr3 hsz3)
        have HB3 := hide ((unhide HB1).trans (((Below.refl _ _).alloc (by omega) _).trans ((Below.refl _ _).grown hgr3 (by simp; omega) (fun i hi => by simp at hi; omega))))
        clear hgr3 hsz3 hrow3
        go_wp2_with fail
        exact bodyPost_ret (v := .tuple #[.map none, .bool false]) (by simp [results, Tryz.results21, go_sem]) rfl ⟨_, by rw [unhide HX], unhide HB3⟩
      | true =>
        rw [hdg] at HKY
        have HX := hide (show R = (ltO pv s && okS (prevS ls (k + 1)) (ls.drop (k + 1))) from by rw [unhide HST, hdg]; rfl)
        clear hdg HST
        obtain ⟨lt, hlt⟩ : ∃ lt, ltO pv s = lt := ⟨_, rfl⟩
        have HLT := hide hlt
        rw [hlt] at HX
        clear hlt
        go_wp2_with fail
        refine (unhide HKY).mono ?_
        rintro e w1 ⟨xs, rfl, hkx, hb1⟩
        have HI := hide (show (Tryz.prog.info? 63).map (·.size) = some (keyC xs).size from by rw [keyC_size hkx]; exact infoK)
        have HS32 := hide (show (32 : Nat) = (keyC xs).size from (keyC_size hkx).symm)
        have HB1 := hide ((unhide HB).trans (hb1.mono (Nat.le_of_lt hz)))
        have hz1 := hb1.size
        have HM1 := hide ((unhide HM).kept (row := none) ⟨hb1.os, hb1.tape, hb1.output, hb1.size, fun i hi _ => hb1.block i hi⟩ (by simp))
        obtain ⟨kl, hkl2⟩ := keyOf_K xs hkx
        have HKL := hide hkl2
        clear hb1 hkl2 HM
        by_cases hk0 : k = 0
        · subst hk0
          have hpv := unhide HP0 rfl
          subst hpv
          obtain rfl : lt = true := (unhide HLT).symm
          go_wp2_with (first
            | (refine wpList_store_any rfl 63 (.tmp 7) (.tmp 23) rfl w1.heap.size (keyC xs) rfl rfl 63 _ (heap_alloc_new w1 _) (unhide HI) (unhide HS32) (keyC_one _) ?_; intro w3 hrow3 hgr3 hsz3; have HG3 := hide (And.intro hgr3 hsz3); have HM3 := hide (((unhide HM1).alloc (.cells _ 63)).kept hgr3 (by simp; omega)))
            | (refine wpList_load_row rfl 63 (.tmp 7) rfl w1.heap.size rfl 63 (keyC xs) (0, 0) _ hrow3 Tryz.underlying63 rfl (unhide HI) ?_)
            | (at_mapUpdate; refine wpList_mapUpdate_own _ rfl _ _ _ 44 rfl 63 71 keyedK Tryz.underlying44 anyR w.heap.size 0 D rfl (unhide HM3) (by unfold maxLen; omega) _ _ kl rfl rfl (unhide HKL) (.agg []) [] rfl ?_; intro w4 hown4 hgr4))
          have HB4 := hide (((unhide HB1).trans ((((Below.refl _ _).alloc (by omega) _)).trans ((Below.refl _ _).grown (unhide HG3).1 (by simp; omega) (fun i hi => by simp at hi; omega)))).trans ((Below.refl _ _).grown hgr4 (by have := (unhide HG3).2; simp at this; omega) (fun i hi => by simp at hi; omega)))
          have hz4 := hgr4.size
          have hz3 := (unhide HG3).2
          have HO4 := hide hown4
          have HX2 := hide (show okS (prevS ls (0 + 1)) (ls.drop (0 + 1)) = R from by rw [unhide HX, Bool.true_and])
          clear hgr4 hown4 hrow3 hsz3 hgr3
          go_roundw
          case rel => exact ⟨0 + 1, _, by go_num, by omega, by simp at hz3; omega, HX2, HO4, HB4⟩
          case measure => simp [intOf]; omega
        · obtain ⟨j, hj⟩ : ∃ j, k = j + 1 := ⟨k - 1, by omega⟩
          have HPW := hide (fun (W : World) (hW : Below w.heap.size w W) => unhide HPV j hj W hW)
          obtain ⟨q, g', hpq, hga, -⟩ := unhide HPW wr (unhide HB)
          cases hga
          have HPC := hide (fun (W : World) (hW : Below w.heap.size w W) => (show W.cell? ⟨g, j, none⟩ = some (.string q) from by
            obtain ⟨q', g2, h1, h2, h3⟩ := unhide HPW W hW
            cases h2
            rw [hpq] at h1
            cases h1
            exact h3))
          have hlt := unhide HLT
          rw [hpq] at hlt
          change Op.bytesLess q.toList s.toList = lt at hlt
          subst hj
          have j0 : (0 : Int) ≤ (j : Int) := by omega
          have j1 : (j : Int) < (n : Int) := by omega
          have j2 : (0 : Int) < ((j + 1 : Nat) : Int) := by omega
          have hle := le_not s q lt hlt
          clear HPV HP0 HPW hpq HLT hlt
          cases lt with
          | false =>
            rw [Bool.not_false] at hle
            have HXF := hide (show R = false from by rw [unhide HX]; rfl)
            go_wp2_with (refine wpList_store_any rfl 63 (.tmp 7) (.tmp 23) rfl w1.heap.size (keyC xs) rfl rfl 63 _ (heap_alloc_new w1 _) (unhide HI) (unhide HS32) (keyC_one _) ?_; intro w3 hrow3 hgr3 hsz3; have HB3 := hide ((unhide HB1).trans (((Below.refl _ _).alloc (by omega) _).trans ((Below.refl _ _).grown hgr3 (by simp; omega) (fun i hi => by simp at hi; omega)))); have hpc := unhide HPC w3 (unhide HB3))
            exact bodyPost_ret (v := .tuple #[.map none, .bool false]) (by simp [results, Tryz.results21, go_sem]) rfl ⟨_, by rw [unhide HXF], unhide HB3⟩
          | true =>
            rw [Bool.not_true] at hle
            go_wp2_with (first
              | (refine wpList_store_any rfl 63 (.tmp 7) (.tmp 23) rfl w1.heap.size (keyC xs) rfl rfl 63 _ (heap_alloc_new w1 _) (unhide HI) (unhide HS32) (keyC_one _) ?_; intro w3 hrow3 hgr3 hsz3; have HG3 := hide (And.intro hgr3 hsz3); have HB3 := hide ((unhide HB1).trans (((Below.refl _ _).alloc (by omega) _).trans ((Below.refl _ _).grown hgr3 (by simp; omega) (fun i hi => by simp at hi; omega)))); have hpc := unhide HPC w3 (unhide HB3); have HM3 := hide (((unhide HM1).alloc (.cells _ 63)).kept hgr3 (by simp; omega)))
              | (refine wpList_load_row rfl 63 (.tmp 7) rfl w1.heap.size rfl 63 (keyC xs) (0, 0) _ hrow3 Tryz.underlying63 rfl (unhide HI) ?_)
              | (at_mapUpdate; refine wpList_mapUpdate_own _ rfl _ _ _ 44 rfl 63 71 keyedK Tryz.underlying44 anyR w.heap.size (j + 1) D rfl (unhide HM3) (by unfold maxLen; omega) _ _ kl rfl rfl (unhide HKL) (.agg []) [] rfl ?_; intro w4 hown4 hgr4))
            have HB4 := hide (((unhide HB1).trans ((((Below.refl _ _).alloc (by omega) _)).trans ((Below.refl _ _).grown (unhide HG3).1 (by simp; omega) (fun i hi => by simp at hi; omega)))).trans ((Below.refl _ _).grown hgr4 (by have := (unhide HG3).2; simp at this; omega) (fun i hi => by simp at hi; omega)))
            have hz4 := hgr4.size
            have hz3 := (unhide HG3).2
            have HO4 := hide hown4
            have HX2 := hide (show okS (prevS ls (j + 1 + 1)) (ls.drop (j + 1 + 1)) = R from by rw [unhide HX, Bool.true_and])
            clear hgr4 hown4 hrow3 hsz3 hgr3
            go_roundw
            case rel => exact ⟨j + 1 + 1, _, by go_num, by omega, by simp at hz3; omega, HX2, HO4, HB4⟩
            case measure => simp [intOf]; omega
    · obtain rfl : k = n := by omega
      have hO := unhide HO
      rw [List.drop_of_length_le (by rw [unhide HLN]; exact Nat.le_refl _)] at hO
      have HX := hide (show R = true from hO.symm)
      clear hO HO
      go_wp2_with fail
      exact bodyPost_ret (v := .tuple #[.map (some w.heap.size), .bool true]) (by simp [results, Tryz.results21, go_sem]) rfl ⟨_, by rw [unhide HX], unhide HB⟩
end Go.Proofs.YtldgkpnlplfopaaGreatDoor
