/- Rows of entries, as the exact laws copy, measure and compare them. -/
import Derived.Test.YtiakhgafibgpgaaDoorRowK
import Derived.Test.YtiakhgafibgpgaaDoorPrs
import Derived.Deep.QuietTactic
import Derived.BigQuiet
namespace Go.Proofs.YtiakhgafibgpgaaDoor
open Go.RowKit Plain
set_option linter.unusedVariables false

/-- Entries as elements. -/
def entE : Elem Ent where
  E := 45
  S := 30
  n := 3
  bytes := 32
  zero := .agg #[.int .i64 0, .int .i64 0, .string ⟨#[]⟩]
  enc := fun e => [.int .i64 e.term, .int .i64 e.kind, .string e.body]
  hund := Tryd.underlying30
  hinfo := by kernel_rfl
  hz := rfl
  hn := by decide
  hb := by decide
  hlen := fun _ => rfl
  hone := fun x u hu => by simp at hu; rcases hu with rfl | rfl | rfl <;> rfl

namespace Plain
def totE (fs : List Ent) : Nat := (fs.map fun f => f.body.size).sum
theorem totE_drop (fs : List Ent) (k : Nat) (h : k < fs.length) : totE (fs.drop k) = (fs[k].body.size) + totE (fs.drop (k + 1)) := by rw [totE, List.drop_eq_getElem_cons h, List.map_cons, List.sum_cons]; rfl
theorem totE_end (fs : List Ent) (k : Nat) (h : fs.length ≤ k) : totE (fs.drop k) = 0 := by rw [List.drop_of_length_le h]; rfl
theorem totE_mem (fs : List Ent) (f : Ent) (h : f ∈ fs) : f.body.size ≤ totE fs := by
  induction fs with
  | nil => simp at h
  | cons g t ih =>
    have e : totE (g :: t) = (g.body.size) + totE t := by rw [totE, List.map_cons, List.sum_cons]; rfl
    rw [e]
    rcases List.mem_cons.1 h with rfl | h
    · omega
    · have := ih h; omega
theorem ArgAt.e {W : World} {a : Option Addr} {xs : List Ent} (h : ArgAt 3 entL W a xs) (i : Nat) (hi : i < xs.length) : ∃ g o, a = some ⟨g, o, none⟩ ∧ g < W.heap.size ∧ W.cell? ⟨g, o + i * 3, none⟩ = some (.int .i64 xs[i].term) ∧ W.cell? ⟨g, o + i * 3 + 1, none⟩ = some (.int .i64 xs[i].kind) ∧ W.cell? ⟨g, o + i * 3 + 2, none⟩ = some (.string xs[i].body) := by
  obtain ⟨g, o, e, hl, hc⟩ := h i hi
  exact ⟨g, o, e, hl, hc 0 (by decide), hc 1 (by decide), hc 2 (by decide)⟩
end Plain
theorem RowAt.ex {W : World} {a : Option Addr} {xs : List Ent} (h : RowAt entE W a xs) (i : Nat) (hi : i < xs.length) : ∃ g, a = some ⟨g, 0, none⟩ ∧ g < W.heap.size ∧ W.cell? ⟨g, i * 3, none⟩ = some (.int .i64 xs[i].term) ∧ W.cell? ⟨g, i * 3 + 1, none⟩ = some (.int .i64 xs[i].kind) ∧ W.cell? ⟨g, i * 3 + 2, none⟩ = some (.string xs[i].body) := by
  obtain ⟨g, e, hl, hc⟩ := h i hi
  exact ⟨g, e, hl, (hc 0 (by decide)).1, (hc 1 (by decide)).1, (hc 2 (by decide)).1⟩

theorem toEntry_calls (tm : Int) (kd : Int) (bd : ByteArray) (w : World) : Calls Tryd.prog 36 #[.agg #[.int .i64 tm, .int .i64 kd, .string bd]] w fun e w' => e = .returned (.agg #[.int .i64 tm, .int .i64 kd, .string bd]) ∧ Below w.heap.size w w' := by
  go_enter Tryd.func36, Tryd.ntmps36
  go_wp2
  exact bodyPost_ret (v := .agg #[.int .i64 tm, .int .i64 kd, .string bd]) (by simp [results, Tryd.results36, go_sem]) rfl ⟨rfl, (((Below.refl _ _).alloc (Nat.le_refl _) _).alloc (by simp) _).alloc (by simp; omega) _⟩

theorem szEntry_calls (tm : Int) (kd : Int) (bd : ByteArray) (left : Nat) (w : World) (hl : left ≤ 10000000) (s0 : bd.size ≤ maxLen) :
    Calls Tryd.prog 30 #[.agg #[.int .i64 tm, .int .i64 kd, .string bd], .int .i64 left] w fun e w' => e = .returned (.int .i64 (purse left (bd.size))) ∧ Below w.heap.size w w' := by
  unfold maxLen at s0
  have HB := hide (bel1 w (.cells #[.int .i64 tm, .int .i64 kd, .string bd] 63))
  by_cases h0 : left < bd.size
  · rw [purse_no (by omega)]
    go_enter Tryd.func30, Tryd.ntmps30
    go_wp2
    go_ret
    exact ⟨rfl, unhide HB⟩
  · rw [purse_yes (by omega)]
    go_enter Tryd.func30, Tryd.ntmps30
    go_wp2
    go_ret
    exact ⟨rfl, unhide HB⟩

theorem eqEntry_calls (tm : Int) (kd : Int) (bd : ByteArray) (w : World) : Calls Tryd.prog 46 #[.agg #[.int .i64 tm, .int .i64 kd, .string bd], .agg #[.int .i64 tm, .int .i64 kd, .string bd]] w fun e w' => e = .returned (.bool true) ∧ Below w.heap.size w w' := by
  have HB := hide (belOn (bel1 w (.cells #[.int .i64 tm, .int .i64 kd, .string bd] 45)) (bel1 _ (.cells #[.int .i64 tm, .int .i64 kd, .string bd] 45)))
  go_enter Tryd.func46, Tryd.ntmps46
  go_wp2_with fail
  go_ret
  exact ⟨rfl, unhide HB⟩

set_option maxRecDepth 10000 in
set_option maxHeartbeats 1000000 in
theorem toEntryS_calls (a : Option Addr) (n c : Nat) (ls : List Ent) (w : World) (hn : ls.length = n) (hn2 : n ≤ 1048576) (h : ArgAt 3 entL w a ls) :
    Calls Tryd.prog 16 #[.slice a n c] w fun e w' => ∃ g, e = .returned (.slice (some ⟨g, 0, none⟩) n n) ∧ OwnR entE w' w.heap.size (.slice (some ⟨g, 0, none⟩) n n) ls ∧ Below w.heap.size w w' := by
  have H := hide h
  have HN := hide hn
  have hmk : (Instr.makeSlice 30 (.int .i64 n) (.int .i64 n)).run Tryd.prog w = _ := make_row entE n w (by omega)
  have HO := hide (own_made entE ⟨0, 0, ⟨#[]⟩⟩ rfl n w (by omega))
  have hba : Below w.heap.size w (w.alloc (.cells (madeCells entE.zero.cells (n * entE.n)) entE.E)) := bel1 _ _
  have HBA := hide hba
  have hlt : w.heap.size < (w.alloc (.cells (madeCells entE.zero.cells (n * entE.n)) entE.E)).heap.size := by simp
  generalize w.alloc (.cells (madeCells entE.zero.cells (n * entE.n)) entE.E) = wa at hmk HO HBA hlt hba
  clear h hn hba
  go_enter Tryd.func16, Tryd.ntmps16
  go_wp2_with fail
  go_loopw [4] (fun i wr => ∃ k : Nat, i = .int .i64 k ∧ k ≤ n ∧ Hid (OwnR entE wr w.heap.size (.slice (some ⟨w.heap.size, 0, none⟩) n n) (ls.take k ++ List.replicate (n - k) ⟨0, 0, ⟨#[]⟩⟩)) ∧ Hid (Below w.heap.size w wr)) (fun i _ => n - (intOf i).toNat)
  case atStart => exact ⟨0, rfl, by omega, hide (by simpa using unhide HO), HBA⟩
  case round =>
    obtain ⟨k, rfl, hk, HR, HB⟩ := hrel
    by_cases hlk : k < n
    · have hkl : k < ls.length := by rw [unhide HN]; exact hlk
      obtain ⟨g, o, e1, l1, p0, p1, p2⟩ := ((unhide H).below (unhide HB)).e k hkl
      have hlen : (ls.take k ++ List.replicate (n - k) (⟨0, 0, ⟨#[]⟩⟩ : Ent)).length = n := by rw [List.length_append, List.length_take, List.length_replicate, unhide HN]; omega
      have hset : (ls.take k ++ List.replicate (n - k) (⟨0, 0, ⟨#[]⟩⟩ : Ent)).set k ls[k] = ls.take (k + 1) ++ List.replicate (n - (k + 1)) ⟨0, 0, ⟨#[]⟩⟩ := by
        rw [List.set_append_right _ _ (by rw [List.length_take]; omega), List.length_take, show k - min k ls.length = 0 from by omega, show n - k = (n - (k + 1)) + 1 from by omega, List.replicate_succ, List.set_cons_zero, List.take_succ_eq_append_getElem hkl, List.append_assoc]
        rfl
      generalize (ls.take k ++ List.replicate (n - k) (⟨0, 0, ⟨#[]⟩⟩ : Ent)) = cur at HR hlen hset
      generalize ls[k] = x at p0 p1 p2 hset
      obtain ⟨tm, kd, bd⟩ := x
      simp only at p0 p1 p2
      clear H hkl
      subst e1
      have i0 : (0 : Int) ≤ (k : Int) := by omega
      have i1 : (k : Int) < (n : Int) := by omega
      go_wp2_with fail
      refine (toEntry_calls tm kd bd wr).mono ?_
      rintro e w1 ⟨rfl, hb1⟩
      have hR1 := (unhide HR).keep hb1
      have HB1 := hide (belOn (unhide HB) hb1)
      have hkc : k < cur.length := by omega
      obtain ⟨g', e2, l2, q0, q1, q2⟩ := hR1.at.ex k hkc
      obtain ⟨g'', e3, l3, z⟩ := hR1.at k hkc
      have hg : w.heap.size = g' := by simpa using e2
      subst hg
      have hg : w.heap.size = g'' := by simpa using e3
      subst hg
      have z0 : w1.frozen? ⟨w.heap.size, k * 3, none⟩ = false := (z 0 (by decide)).2
      have z1 : w1.frozen? ⟨w.heap.size, k * 3 + 1, none⟩ = false := (z 1 (by decide)).2
      have z2 : w1.frozen? ⟨w.heap.size, k * 3 + 2, none⟩ = false := (z 2 (by decide)).2
      have hS0 := hR1.setJ hlen k hkc 0 (by decide) (.int .i64 tm) ⟨tm, cur[k].kind, cur[k].body⟩ rfl
      have hS1 := hS0.setJ (by rw [List.length_set]; exact hlen) k (by rw [List.length_set]; exact hkc) 1 (by decide) (.int .i64 kd) ⟨tm, kd, cur[k].body⟩ (by rw [List.getElem_set_self]; rfl)
      rw [List.set_set] at hS1
      have hS2 := hS1.setJ (by rw [List.length_set]; exact hlen) k (by rw [List.length_set]; exact hkc) 2 (by decide) (.string bd) ⟨tm, kd, bd⟩ (by rw [List.getElem_set_self]; rfl)
      rw [List.set_set] at hS2
      have hR3 := hS2
      rw [hset] at hR3
      have HR3 := hide hR3
      generalize cur[k] = y at q0 q1 q2
      clear hb1 hR1 hS0 hS1 hS2 hR3 HR HB z
      go_wp2_with fail
      go_roundw
      case rel => exact ⟨k + 1, by go_num, by omega, HR3, hide ((((unhide HB1).setCell (Nat.le_refl _) _).setCell (Nat.le_refl _) _).setCell (Nat.le_refl _) _)⟩
      case measure => simp [intOf]; omega
    · obtain rfl : k = n := by omega
      have HF := hide (unhide HR)
      rw [show ls.take k ++ List.replicate (k - k) (⟨0, 0, ⟨#[]⟩⟩ : Ent) = ls from by rw [Nat.sub_self, List.replicate_zero, List.append_nil]; exact List.take_of_length_le (by rw [unhide HN]; exact Nat.le_refl _)] at HF
      clear HR
      go_wp2_with fail
      go_ret
      exact ⟨_, rfl, unhide HF, unhide HB⟩

set_option maxRecDepth 10000 in
set_option maxHeartbeats 1000000 in
theorem szEntryS_calls (a : Option Addr) (n c : Nat) (ls : List Ent) (left : Nat) (w : World) (hn : ls.length = n) (hn2 : n ≤ 9223372036854775807) (hs : ∀ l ∈ ls, goodE l) (h1 : left ≤ 10000000) (h : ArgAt 3 entL w a ls) :
    Calls Tryd.prog 9 #[.slice a n c, .int .i64 left] w fun e w' => e = .returned (.int .i64 (purse left (n + totE ls))) ∧ Below w.heap.size w w' := by
  have H := hide h
  have HN := hide hn
  have HS := hide hs
  clear h hn hs
  by_cases hlt : left < n
  · rw [purse_no (by omega)]
    go_enter Tryd.func9, Tryd.ntmps9
    go_wp2_with fail
    go_ret
    exact ⟨rfl, Below.refl _ _⟩
  · obtain ⟨L, hL⟩ : ∃ L : Nat, (left : Int) - (n : Int) = (L : Int) := ⟨left - n, by omega⟩
    rw [purse_step (by omega), hL]
    obtain ⟨R, hR⟩ : ∃ R, purse L (totE ls) = R := ⟨_, rfl⟩
    rw [hR]
    have HR0 := hide hR
    clear hR
    go_enter Tryd.func9, Tryd.ntmps9
    go_wp2_with fail
    go_loopw [1, 5] (fun l i wr => ∃ (k r : Nat), l = .int .i64 r ∧ i = .int .i64 k ∧ k ≤ n ∧ r ≤ 10000000 ∧ Hid (R = purse r (totE (ls.drop k))) ∧ Hid (Below w.heap.size w wr)) (fun _ i _ => n - (intOf i).toNat)
    case atStart => exact ⟨0, L, by rw [← hL], rfl, by omega, by omega, hide (unhide HR0).symm, hide (Below.refl _ _)⟩
    case round =>
      obtain ⟨k, r, rfl, rfl, hk, hr, HR, HB⟩ := hrel
      by_cases hlk : k < n
      · have hkl : k < ls.length := by rw [unhide HN]; exact hlk
        obtain ⟨g, o, e1, l1, p0, p1, p2⟩ := ((unhide H).below (unhide HB)).e k hkl
        have hsz := unhide HS ls[k] (by simp)
        have hst := totE_drop ls k hkl
        generalize ls[k] = x at p0 p1 p2 hsz hst
        obtain ⟨tm, kd, bd⟩ := x
        simp only at p0 p1 p2 hst
        have i0 : (0 : Int) ≤ (k : Int) := by omega
        have i1 : (k : Int) < (n : Int) := by omega
        have HR2 := unhide HR
        rw [hst] at HR2
        obtain ⟨s, hs⟩ : ∃ s, bd.size = s := ⟨_, rfl⟩
        have HZ := hide (fun W => szEntry_calls tm kd bd r W hr hsz.2.2)
        rw [hs] at HR2 HZ
        clear HR hst hsz hs
        by_cases hrx : r < s
        · rw [purse_no (by omega)] at HR2
          have HF := hide HR2
          rw [purse_no (show (r : Int) < (s : Int) by omega)] at HZ
          clear HR2
          subst e1
          go_wp2_with fail
          refine (unhide HZ _).mono ?_
          rintro e w1 ⟨rfl, hb1⟩
          have HB1 := hide (belOn (unhide HB) hb1)
          clear hb1
          go_wp2_with fail
          go_ret
          exact ⟨by rw [unhide HF]; rfl, unhide HB1⟩
        · obtain ⟨r', hr'⟩ : ∃ r' : Nat, (r : Int) - (s : Int) = (r' : Int) := ⟨r - s, by omega⟩
          rw [purse_step (by omega), hr'] at HR2
          have HF := hide HR2
          rw [purse_yes (show ¬ (r : Int) < (s : Int) by omega), hr'] at HZ
          clear HR2
          subst e1
          go_wp2_with fail
          refine (unhide HZ _).mono ?_
          rintro e w1 ⟨rfl, hb1⟩
          have HB1 := hide (belOn (unhide HB) hb1)
          clear hb1
          go_wp2_with fail
          go_roundw
          case rel => exact ⟨k + 1, r', rfl, by go_num, by omega, by omega, HF, HB1⟩
          case measure => simp [intOf]; omega
      · have HF := unhide HR
        rw [totE_end ls k (by rw [unhide HN]; omega), purse_yes (by omega)] at HF
        have HF2 := hide HF
        clear HF HR
        go_wp2_with fail
        go_ret
        exact ⟨by rw [unhide HF2]; simp, unhide HB⟩

set_option maxRecDepth 10000 in
set_option maxHeartbeats 1000000 in
theorem eqEntryS_calls (a1 a2 : Option Addr) (c1 c2 n : Nat) (ls : List Ent) (w : World) (hn : ls.length = n) (hn2 : n ≤ 100000000) (h1 : RowAt entE w a1 ls) (h2 : RowAt entE w a2 ls) :
    Calls Tryd.prog 28 #[.slice a1 n c1, .slice a2 n c2] w fun e w' => e = .returned (.bool true) ∧ Below w.heap.size w w' := by
  have H1 := hide h1
  have H2 := hide h2
  have HN := hide hn
  clear h1 h2 hn
  go_enter Tryd.func28, Tryd.ntmps28
  go_wp2_with fail
  go_loopw [5] (fun i wr => ∃ (k : Nat), i = .int .i64 k ∧ k ≤ n ∧ Hid (Below w.heap.size w wr)) (fun i _ => n - (intOf i).toNat)
  case atStart => exact ⟨0, rfl, by omega, Below.refl _ _⟩
  case round =>
    obtain ⟨k, rfl, hk, HB⟩ := hrel
    by_cases hlt : k < n
    · have hkl : k < ls.length := by rw [unhide HN]; exact hlt
      obtain ⟨g1, e1, l1, p0, p1, p2⟩ := ((unhide H1).below (unhide HB)).ex k hkl
      obtain ⟨g2, e2, l2, q0, q1, q2⟩ := ((unhide H2).below (unhide HB)).ex k hkl
      generalize ls[k] = x at p0 p1 p2 p2 q0 q1 q2
      obtain ⟨tm, kd, bd⟩ := x
      simp only at p0 p1 p2 p2 q0 q1 q2
      clear H1 H2 hkl
      subst e1 e2
      have i0 : (0 : Int) ≤ (k : Int) := by omega
      have i1 : (k : Int) < (n : Int) := by omega
      go_wp2_with fail
      go_region_with (go_at_call 46; refine (eqEntry_calls tm kd bd _).mono ?_; rintro e w1 ⟨rfl, hb1⟩)
      all_goals (try go_wp2_with fail)
      all_goals exact ⟨⟨k + 1, by go_num, by omega, hide (belOn (unhide HB) (bOfDrew hb1))⟩, by simp [intOf]; omega⟩
    · obtain rfl : k = n := by omega
      go_wp2_with fail
      go_ret
      exact ⟨rfl, unhide HB⟩
end Go.Proofs.YtiakhgafibgpgaaDoor
