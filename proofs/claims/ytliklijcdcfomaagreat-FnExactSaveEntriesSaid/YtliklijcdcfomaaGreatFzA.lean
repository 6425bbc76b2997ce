/- Texts of one kind, put together. -/
import Derived.Test.YtliklijcdcfomaaGreatAzC
import Derived.Test.YtliklijcdcfomaaGreatAzB
import Derived.Test.YtliklijcdcfomaaGreatDskV
import Derived.Test.YtliklijcdcfomaaGreatDskW

/- What is left of a purse. -/
namespace Go.Proofs.YtliklijcdcfomaaGreat.Plain
open Go.RowKit
set_option linter.unusedVariables false
/-- What is left of a purse behind n. -/
def purse (left : Int) (n : Nat) : Int := if left < n then -1 else left - n
theorem purse_no {left : Int} {n : Nat} (h : left < n) : purse left n = -1 := if_pos h
theorem purse_yes {left : Int} {n : Nat} (h : ¬ left < n) : purse left n = left - n := if_neg h
theorem purse_step {r : Int} {a b : Nat} (h : ¬ r < (a : Int)) : purse r (a + b) = purse (r - a) b := by
  unfold purse
  by_cases h2 : r - a < (b : Int)
  · rw [if_pos h2, if_pos (by omega)]
  · rw [if_neg h2, if_neg (by omega)]; omega
theorem belQ {B : Nat} {w w' : World} (h : Below B w w') (k : Nat) : Below B w (w'.drewN k) := ⟨h.os, h.tape, h.output, h.size, h.block⟩
end Go.Proofs.YtliklijcdcfomaaGreat.Plain


/- Rows of files, as the exact laws copy, measure and compare them. -/
namespace Go.Proofs.YtliklijcdcfomaaGreat
open Go.RowKit Plain
set_option linter.unusedVariables false

namespace Plain
def totF (fs : List Fl) : Nat := (fs.map fun f => f.1.size + f.2.size).sum
theorem totF_drop (fs : List Fl) (k : Nat) (h : k < fs.length) : totF (fs.drop k) = (fs[k].1.size + fs[k].2.size) + totF (fs.drop (k + 1)) := by rw [totF, List.drop_eq_getElem_cons h, List.map_cons, List.sum_cons]; rfl
theorem totF_end (fs : List Fl) (k : Nat) (h : fs.length ≤ k) : totF (fs.drop k) = 0 := by rw [List.drop_of_length_le h]; rfl
theorem totF_mem (fs : List Fl) (f : Fl) (h : f ∈ fs) : f.1.size + f.2.size ≤ totF fs := by
  induction fs with
  | nil => simp at h
  | cons g t ih =>
    have e : totF (g :: t) = (g.1.size + g.2.size) + totF t := by simp [totF]
    rw [e]
    rcases List.mem_cons.1 h with rfl | h
    · omega
    · have := ih h; omega
theorem ArgAt.file {W : World} {a : Option Addr} {xs : List Fl} (h : ArgAt 2 fileL W a xs) (i : Nat) (hi : i < xs.length) : ∃ g o, a = some ⟨g, o, none⟩ ∧ g < W.heap.size ∧ W.cell? ⟨g, o + i * 2, none⟩ = some (.string xs[i].1) ∧ W.cell? ⟨g, o + i * 2 + 1, none⟩ = some (.string xs[i].2) := by
  obtain ⟨g, o, e, hl, hc⟩ := h i hi
  exact ⟨g, o, e, hl, hc 0 (by decide), hc 1 (by decide)⟩
end Plain

theorem toFile_calls (nm dt : ByteArray) (w : World) : Calls Tryz.prog 68 #[.agg #[.string nm, .string dt]] w fun e w' => e = .returned (.agg #[.string nm, .string dt]) ∧ Below w.heap.size w w' := by
  go_enter Tryz.func68, Tryz.ntmps68
  go_wp2
  exact bodyPost_ret (v := .agg #[.string nm, .string dt]) (by simp [results, Tryz.results68, go_sem]) rfl ⟨rfl, (((Below.refl _ _).alloc (Nat.le_refl _) _).alloc (by simp) _).alloc (by simp; omega) _⟩

theorem szFile_calls (nm dt : ByteArray) (left : Nat) (w : World) (hl : left ≤ 10000000) (s1 : nm.size ≤ maxLen) (s2 : dt.size ≤ maxLen) :
    Calls Tryz.prog 57 #[.agg #[.string nm, .string dt], .int .i64 left] w fun e w' => e = .returned (.int .i64 (purse left (nm.size + dt.size))) ∧ Below w.heap.size w w' := by
  unfold maxLen at s1 s2
  have HB := hide (bel1 w (.cells #[.string nm, .string dt] 90))
  by_cases h1 : left < nm.size
  · rw [purse_no (by omega)]
    go_enter Tryz.func57, Tryz.ntmps57
    go_wp2
    go_ret
    exact ⟨rfl, unhide HB⟩
  · obtain ⟨r, hr⟩ : ∃ r : Nat, (left : Int) - (nm.size : Int) = (r : Int) := ⟨left - nm.size, by omega⟩
    rw [purse_step (by omega), hr]
    by_cases h2 : r < dt.size
    · rw [purse_no (by omega)]
      go_enter Tryz.func57, Tryz.ntmps57
      go_wp2
      go_ret
      exact ⟨rfl, unhide HB⟩
    · rw [purse_yes (by omega)]
      go_enter Tryz.func57, Tryz.ntmps57
      go_wp2
      go_ret
      exact ⟨rfl, unhide HB⟩

theorem eqFile_calls (nm dt : ByteArray) (w : World) : Calls Tryz.prog 85 #[.agg #[.string nm, .string dt], .agg #[.string nm, .string dt]] w fun e w' => e = .returned (.bool true) ∧ Below w.heap.size w w' := by
  have HB := hide (belOn (bel1 w (.cells #[.string nm, .string dt] 73)) (bel1 _ (.cells #[.string nm, .string dt] 73)))
  go_enter Tryz.func85, Tryz.ntmps85
  go_wp2_with fail
  go_ret
  exact ⟨rfl, unhide HB⟩

set_option maxRecDepth 10000 in
set_option maxHeartbeats 1000000 in
theorem toFileS_calls (a : Option Addr) (n c : Nat) (ls : List Fl) (w : World) (hn : ls.length = n) (hn2 : n ≤ 1048576) (h : ArgAt 2 fileL w a ls) :
    Calls Tryz.prog 27 #[.slice a n c] w fun e w' => ∃ g, e = .returned (.slice (some ⟨g, 0, none⟩) n n) ∧ OwnR fileE w' w.heap.size (.slice (some ⟨g, 0, none⟩) n n) ls ∧ Below w.heap.size w w' := by
  have H := hide h
  have HN := hide hn
  have hmk : (Instr.makeSlice 27 (.int .i64 n) (.int .i64 n)).run Tryz.prog w = _ := make_row fileE n w (by omega)
  have HO := hide (own_made fileE (⟨#[]⟩, ⟨#[]⟩) rfl n w (by omega))
  have hba : Below w.heap.size w (w.alloc (.cells (madeCells fileE.zero.cells (n * fileE.n)) fileE.E)) := bel1 _ _
  have HBA := hide hba
  have hlt : w.heap.size < (w.alloc (.cells (madeCells fileE.zero.cells (n * fileE.n)) fileE.E)).heap.size := by simp
  generalize w.alloc (.cells (madeCells fileE.zero.cells (n * fileE.n)) fileE.E) = wa at hmk HO HBA hlt hba
  clear h hn hba
  go_enter Tryz.func27, Tryz.ntmps27
  go_wp2_with fail
  go_loopw [4] (fun i wr => ∃ k : Nat, i = .int .i64 k ∧ k ≤ n ∧ Hid (OwnR fileE wr w.heap.size (.slice (some ⟨w.heap.size, 0, none⟩) n n) (ls.take k ++ List.replicate (n - k) (⟨#[]⟩, ⟨#[]⟩))) ∧ Hid (Below w.heap.size w wr)) (fun i _ => n - (intOf i).toNat)
  case atStart => exact ⟨0, rfl, by omega, hide (by simpa using unhide HO), HBA⟩
  case round =>
    obtain ⟨k, rfl, hk, HR, HB⟩ := hrel
    by_cases hlk : k < n
    · have hkl : k < ls.length := by rw [unhide HN]; exact hlk
      obtain ⟨g, o, e1, l1, p0, p1⟩ := ((unhide H).below (unhide HB)).file k hkl
      have hlen : (ls.take k ++ List.replicate (n - k) ((⟨#[]⟩, ⟨#[]⟩) : Fl)).length = n := by rw [List.length_append, List.length_take, List.length_replicate, unhide HN]; omega
      have hset : (ls.take k ++ List.replicate (n - k) ((⟨#[]⟩, ⟨#[]⟩) : Fl)).set k ls[k] = ls.take (k + 1) ++ List.replicate (n - (k + 1)) (⟨#[]⟩, ⟨#[]⟩) := by
        rw [List.set_append_right _ _ (by rw [List.length_take]; omega), List.length_take, show k - min k ls.length = 0 from by omega, show n - k = (n - (k + 1)) + 1 from by omega, List.replicate_succ, List.set_cons_zero, List.take_succ_eq_append_getElem hkl, List.append_assoc]
        rfl
      generalize (ls.take k ++ List.replicate (n - k) ((⟨#[]⟩, ⟨#[]⟩) : Fl)) = cur at HR hlen hset
      generalize ls[k] = x at p0 p1 hset
      obtain ⟨nm, dt⟩ := x
      simp only at p0 p1
      clear H hkl
      subst e1
      have i0 : (0 : Int) ≤ (k : Int) := by omega
      have i1 : (k : Int) < (n : Int) := by omega
      go_wp2_with fail
      refine (toFile_calls nm dt wr).mono ?_
      rintro e w1 ⟨rfl, hb1⟩
      have hR1 := (unhide HR).keep hb1
      have HB1 := hide (belOn (unhide HB) hb1)
      have hkc : k < cur.length := by omega
      obtain ⟨g', e2, l2, q0, q1⟩ := hR1.at.file k hkc
      obtain ⟨g'', e3, l3, z⟩ := hR1.at k hkc
      have hg : w.heap.size = g' := by simpa using e2
      subst hg
      have hg : w.heap.size = g'' := by simpa using e3
      subst hg
      have z0 : w1.frozen? ⟨w.heap.size, k * 2, none⟩ = false := (z 0 (by decide)).2
      have z1 : w1.frozen? ⟨w.heap.size, k * 2 + 1, none⟩ = false := (z 1 (by decide)).2
      have hR2 := hR1.setJ hlen k hkc 0 (by decide) (.string nm) (nm, cur[k].2) rfl
      have hR3 := hR2.setJ (by rw [List.length_set]; exact hlen) k (by rw [List.length_set]; exact hkc) 1 (by decide) (.string dt) (nm, dt) (by rw [List.getElem_set_self]; rfl)
      rw [List.set_set, hset] at hR3
      have HR3 := hide hR3
      generalize cur[k] = y at q0 q1
      clear hb1 hR1 hR2 hR3 HR HB z
      go_wp2_with fail
      go_roundw
      case rel => exact ⟨k + 1, by go_num, by omega, HR3, hide (((unhide HB1).setCell (Nat.le_refl _) _).setCell (Nat.le_refl _) _)⟩
      case measure => simp [intOf]; omega
    · obtain rfl : k = n := by omega
      have HF := hide (unhide HR)
      rw [show ls.take k ++ List.replicate (k - k) ((⟨#[]⟩, ⟨#[]⟩) : Fl) = ls from by rw [Nat.sub_self, List.replicate_zero, List.append_nil]; exact List.take_of_length_le (by rw [unhide HN]; exact Nat.le_refl _)] at HF
      clear HR
      go_wp2_with fail
      go_ret
      exact ⟨_, rfl, unhide HF, unhide HB⟩

set_option maxRecDepth 10000 in
set_option maxHeartbeats 1000000 in
theorem szFileS_calls (a : Option Addr) (n c : Nat) (ls : List Fl) (left : Nat) (w : World) (hn : ls.length = n) (hn2 : n ≤ 9223372036854775807) (hs : ∀ l ∈ ls, goodF l) (h1 : left ≤ 10000000) (h : ArgAt 2 fileL w a ls) :
    Calls Tryz.prog 18 #[.slice a n c, .int .i64 left] w fun e w' => e = .returned (.int .i64 (purse left (n + totF ls))) ∧ Below w.heap.size w w' := by
  have H := hide h
  have HN := hide hn
  have HS := hide hs
  clear h hn hs
  by_cases hlt : left < n
  · rw [purse_no (by omega)]
    go_enter Tryz.func18, Tryz.ntmps18
    go_wp2_with fail
    go_ret
    exact ⟨rfl, Below.refl _ _⟩
  · obtain ⟨L, hL⟩ : ∃ L : Nat, (left : Int) - (n : Int) = (L : Int) := ⟨left - n, by omega⟩
    rw [purse_step (by omega), hL]
    obtain ⟨R, hR⟩ : ∃ R, purse L (totF ls) = R := ⟨_, rfl⟩
    rw [hR]
    have HR0 := hide hR
    clear hR
    go_enter Tryz.func18, Tryz.ntmps18
    go_wp2_with fail
    go_loopw [1, 5] (fun l i wr => ∃ (k r : Nat), l = .int .i64 r ∧ i = .int .i64 k ∧ k ≤ n ∧ r ≤ 10000000 ∧ Hid (R = purse r (totF (ls.drop k))) ∧ Hid (Below w.heap.size w wr)) (fun _ i _ => n - (intOf i).toNat)
    case atStart => exact ⟨0, L, by rw [← hL], rfl, by omega, by omega, hide (unhide HR0).symm, hide (Below.refl _ _)⟩
    case round =>
      obtain ⟨k, r, rfl, rfl, hk, hr, HR, HB⟩ := hrel
      by_cases hlk : k < n
      · have hkl : k < ls.length := by rw [unhide HN]; exact hlk
        obtain ⟨g, o, e1, l1, p0, p1⟩ := ((unhide H).below (unhide HB)).file k hkl
        have hsz := unhide HS ls[k] (by simp)
        have hst := totF_drop ls k hkl
        generalize ls[k] = x at p0 p1 hsz hst
        obtain ⟨nm, dt⟩ := x
        simp only at p0 p1 hst
        have i0 : (0 : Int) ≤ (k : Int) := by omega
        have i1 : (k : Int) < (n : Int) := by omega
        have HR2 := unhide HR
        rw [hst] at HR2
        obtain ⟨s, hs⟩ : ∃ s, nm.size + dt.size = s := ⟨_, rfl⟩
        have HZ := hide (fun W => szFile_calls nm dt r W hr hsz.1 hsz.2)
        rw [hs] at HR2 HZ
        clear HR hst hsz hs
        by_cases hrx : r < s
        · rw [purse_no (by omega)] at HR2
          have HF := hide HR2
          rw [purse_no (show (r : Int) < (s : Int) by omega)] at HZ
          clear HR2
          subst e1
          go_wp2_with fail
          refine (unhide HZ _).mono ?_
          rintro e w1 ⟨rfl, hb1⟩
          have HB1 := hide (belOn (unhide HB) hb1)
          clear hb1
          go_wp2_with fail
          go_ret
          exact ⟨by rw [unhide HF]; rfl, unhide HB1⟩
        · obtain ⟨r', hr'⟩ : ∃ r' : Nat, (r : Int) - (s : Int) = (r' : Int) := ⟨r - s, by omega⟩
          rw [purse_step (by omega), hr'] at HR2
          have HF := hide HR2
          rw [purse_yes (show ¬ (r : Int) < (s : Int) by omega), hr'] at HZ
          clear HR2
          subst e1
          go_wp2_with fail
          refine (unhide HZ _).mono ?_
          rintro e w1 ⟨rfl, hb1⟩
          have HB1 := hide (belOn (unhide HB) hb1)
          clear hb1
          go_wp2_with fail
          go_roundw
          case rel => exact ⟨k + 1, r', rfl, by go_num, by omega, by omega, HF, HB1⟩
          case measure => simp [intOf]; omega
      · have HF := unhide HR
        rw [totF_end ls k (by rw [unhide HN]; omega), purse_yes (by omega)] at HF
        have HF2 := hide HF
        clear HF HR
        go_wp2_with fail
        go_ret
        exact ⟨by rw [unhide HF2]; simp, unhide HB⟩

set_option maxRecDepth 10000 in
set_option maxHeartbeats 1000000 in
theorem eqFileS_calls (a1 a2 : Option Addr) (c1 c2 n : Nat) (ls : List Fl) (w : World) (hn : ls.length = n) (hn2 : n ≤ 100000000) (h1 : RowAt fileE w a1 ls) (h2 : RowAt fileE w a2 ls) :
    Calls Tryz.prog 37 #[.slice a1 n c1, .slice a2 n c2] w fun e w' => e = .returned (.bool true) ∧ Below w.heap.size w w' := by
  have H1 := hide h1
  have H2 := hide h2
  have HN := hide hn
  clear h1 h2 hn
  go_enter Tryz.func37, Tryz.ntmps37
  go_wp2_with fail
  go_loopw [5] (fun i wr => ∃ (k : Nat), i = .int .i64 k ∧ k ≤ n ∧ Hid (Below w.heap.size w wr)) (fun i _ => n - (intOf i).toNat)
  case atStart => exact ⟨0, rfl, by omega, Below.refl _ _⟩
  case round =>
    obtain ⟨k, rfl, hk, HB⟩ := hrel
    by_cases hlt : k < n
    · have hkl : k < ls.length := by rw [unhide HN]; exact hlt
      obtain ⟨g1, e1, l1, p0, p1⟩ := ((unhide H1).below (unhide HB)).file k hkl
      obtain ⟨g2, e2, l2, q0, q1⟩ := ((unhide H2).below (unhide HB)).file k hkl
      generalize ls[k] = x at p0 p1 q0 q1
      obtain ⟨nm, dt⟩ := x
      simp only at p0 p1 q0 q1
      clear H1 H2 hkl
      subst e1 e2
      have i0 : (0 : Int) ≤ (k : Int) := by omega
      have i1 : (k : Int) < (n : Int) := by omega
      go_wp2_with fail
      go_region_with (go_at_call 85; refine (eqFile_calls nm dt _).mono ?_; rintro e w1 ⟨rfl, hb1⟩)
      all_goals (try go_wp2_with fail)
      all_goals exact ⟨⟨k + 1, by go_num, by omega, hide (belOn (unhide HB) (bOfDrew hb1))⟩, by simp [intOf]; omega⟩
    · obtain rfl : k = n := by omega
      go_wp2_with fail
      go_ret
      exact ⟨rfl, unhide HB⟩
end Go.Proofs.YtliklijcdcfomaaGreat


/- Rows of ops, as the exact laws copy, measure and compare them. -/
namespace Go.Proofs.YtliklijcdcfomaaGreat
open Go.RowKit Plain
set_option linter.unusedVariables false


namespace Plain
def totO (fs : List Dop) : Nat := (fs.map fun f => f.name.size + f.to.size + f.data.size).sum
theorem totO_drop (fs : List Dop) (k : Nat) (h : k < fs.length) : totO (fs.drop k) = (fs[k].name.size + fs[k].to.size + fs[k].data.size) + totO (fs.drop (k + 1)) := by rw [totO, List.drop_eq_getElem_cons h, List.map_cons, List.sum_cons]; rfl
theorem totO_end (fs : List Dop) (k : Nat) (h : fs.length ≤ k) : totO (fs.drop k) = 0 := by rw [List.drop_of_length_le h]; rfl
theorem totO_mem (fs : List Dop) (f : Dop) (h : f ∈ fs) : f.name.size + f.to.size + f.data.size ≤ totO fs := by
  induction fs with
  | nil => simp at h
  | cons g t ih =>
    have e : totO (g :: t) = (g.name.size + g.to.size + g.data.size) + totO t := by rw [totO, List.map_cons, List.sum_cons]; rfl
    rw [e]
    rcases List.mem_cons.1 h with rfl | h
    · omega
    · have := ih h; omega
theorem ArgAt.o {W : World} {a : Option Addr} {xs : List Dop} (h : ArgAt 4 dopL W a xs) (i : Nat) (hi : i < xs.length) : ∃ g o, a = some ⟨g, o, none⟩ ∧ g < W.heap.size ∧ W.cell? ⟨g, o + i * 4, none⟩ = some (.int .i64 xs[i].kind) ∧ W.cell? ⟨g, o + i * 4 + 1, none⟩ = some (.string xs[i].name) ∧ W.cell? ⟨g, o + i * 4 + 2, none⟩ = some (.string xs[i].to) ∧ W.cell? ⟨g, o + i * 4 + 3, none⟩ = some (.string xs[i].data) := by
  obtain ⟨g, o, e, hl, hc⟩ := h i hi
  exact ⟨g, o, e, hl, hc 0 (by decide), hc 1 (by decide), hc 2 (by decide), hc 3 (by decide)⟩
end Plain
theorem RowAt.ox {W : World} {a : Option Addr} {xs : List Dop} (h : RowAt dopE W a xs) (i : Nat) (hi : i < xs.length) : ∃ g, a = some ⟨g, 0, none⟩ ∧ g < W.heap.size ∧ W.cell? ⟨g, i * 4, none⟩ = some (.int .i64 xs[i].kind) ∧ W.cell? ⟨g, i * 4 + 1, none⟩ = some (.string xs[i].name) ∧ W.cell? ⟨g, i * 4 + 2, none⟩ = some (.string xs[i].to) ∧ W.cell? ⟨g, i * 4 + 3, none⟩ = some (.string xs[i].data) := by
  obtain ⟨g, e, hl, hc⟩ := h i hi
  exact ⟨g, e, hl, (hc 0 (by decide)).1, (hc 1 (by decide)).1, (hc 2 (by decide)).1, (hc 3 (by decide)).1⟩

theorem toDOp_calls (kd : Int) (nm : ByteArray) (to : ByteArray) (dt : ByteArray) (w : World) : Calls Tryz.prog 69 #[.agg #[.int .i64 kd, .string nm, .string to, .string dt]] w fun e w' => e = .returned (.agg #[.int .i64 kd, .string nm, .string to, .string dt]) ∧ Below w.heap.size w w' := by
  go_enter Tryz.func69, Tryz.ntmps69
  go_wp2
  exact bodyPost_ret (v := .agg #[.int .i64 kd, .string nm, .string to, .string dt]) (by simp [results, Tryz.results69, go_sem]) rfl ⟨rfl, (((Below.refl _ _).alloc (Nat.le_refl _) _).alloc (by simp) _).alloc (by simp; omega) _⟩

theorem szDOp_calls (kd : Int) (nm : ByteArray) (to : ByteArray) (dt : ByteArray) (left : Nat) (w : World) (hl : left ≤ 10000000) (s0 : nm.size ≤ maxLen) (s1 : to.size ≤ maxLen) (s2 : dt.size ≤ maxLen) :
    Calls Tryz.prog 58 #[.agg #[.int .i64 kd, .string nm, .string to, .string dt], .int .i64 left] w fun e w' => e = .returned (.int .i64 (purse left (nm.size + to.size + dt.size))) ∧ Below w.heap.size w w' := by
  unfold maxLen at s0 s1 s2
  have HB := hide (bel1 w (.cells #[.int .i64 kd, .string nm, .string to, .string dt] 92))
  rw [Nat.add_assoc]
  by_cases h0 : left < nm.size
  · rw [purse_no (by omega)]
    go_enter Tryz.func58, Tryz.ntmps58
    go_wp2
    go_ret
    exact ⟨rfl, unhide HB⟩
  · obtain ⟨r0, hr0⟩ : ∃ r0 : Nat, (left : Int) - (nm.size : Int) = (r0 : Int) := ⟨left - nm.size, by omega⟩
    rw [purse_step (by omega), hr0]
    by_cases h1 : r0 < to.size
    · rw [purse_no (by omega)]
      go_enter Tryz.func58, Tryz.ntmps58
      go_wp2
      go_ret
      exact ⟨rfl, unhide HB⟩
    · obtain ⟨r1, hr1⟩ : ∃ r1 : Nat, (r0 : Int) - (to.size : Int) = (r1 : Int) := ⟨r0 - to.size, by omega⟩
      rw [purse_step (by omega), hr1]
      by_cases h2 : r1 < dt.size
      · rw [purse_no (by omega)]
        go_enter Tryz.func58, Tryz.ntmps58
        go_wp2
        go_ret
        exact ⟨rfl, unhide HB⟩
      · rw [purse_yes (by omega)]
        go_enter Tryz.func58, Tryz.ntmps58
        go_wp2
        go_ret
        exact ⟨rfl, unhide HB⟩

theorem eqDOp_calls (kd : Int) (nm : ByteArray) (to : ByteArray) (dt : ByteArray) (w : World) : Calls Tryz.prog 86 #[.agg #[.int .i64 kd, .string nm, .string to, .string dt], .agg #[.int .i64 kd, .string nm, .string to, .string dt]] w fun e w' => e = .returned (.bool true) ∧ Below w.heap.size w w' := by
  have HB := hide (belOn (bel1 w (.cells #[.int .i64 kd, .string nm, .string to, .string dt] 78)) (bel1 _ (.cells #[.int .i64 kd, .string nm, .string to, .string dt] 78)))
  go_enter Tryz.func86, Tryz.ntmps86
  go_wp2_with fail
  go_ret
  exact ⟨rfl, unhide HB⟩

set_option maxRecDepth 10000 in
set_option maxHeartbeats 1000000 in
theorem toDOpS_calls (a : Option Addr) (n c : Nat) (ls : List Dop) (w : World) (hn : ls.length = n) (hn2 : n ≤ 1048576) (h : ArgAt 4 dopL w a ls) :
    Calls Tryz.prog 28 #[.slice a n c] w fun e w' => ∃ g, e = .returned (.slice (some ⟨g, 0, none⟩) n n) ∧ OwnR dopE w' w.heap.size (.slice (some ⟨g, 0, none⟩) n n) ls ∧ Below w.heap.size w w' := by
  have H := hide h
  have HN := hide hn
  have hmk : (Instr.makeSlice 28 (.int .i64 n) (.int .i64 n)).run Tryz.prog w = _ := make_row dopE n w (by omega)
  have HO := hide (own_made dopE ⟨0, ⟨#[]⟩, ⟨#[]⟩, ⟨#[]⟩⟩ rfl n w (by omega))
  have hba : Below w.heap.size w (w.alloc (.cells (madeCells dopE.zero.cells (n * dopE.n)) dopE.E)) := bel1 _ _
  have HBA := hide hba
  have hlt : w.heap.size < (w.alloc (.cells (madeCells dopE.zero.cells (n * dopE.n)) dopE.E)).heap.size := by simp
  generalize w.alloc (.cells (madeCells dopE.zero.cells (n * dopE.n)) dopE.E) = wa at hmk HO HBA hlt hba
  clear h hn hba
  go_enter Tryz.func28, Tryz.ntmps28
  go_wp2_with fail
  go_loopw [4] (fun i wr => ∃ k : Nat, i = .int .i64 k ∧ k ≤ n ∧ Hid (OwnR dopE wr w.heap.size (.slice (some ⟨w.heap.size, 0, none⟩) n n) (ls.take k ++ List.replicate (n - k) ⟨0, ⟨#[]⟩, ⟨#[]⟩, ⟨#[]⟩⟩)) ∧ Hid (Below w.heap.size w wr)) (fun i _ => n - (intOf i).toNat)
  case atStart => exact ⟨0, rfl, by omega, hide (by simpa using unhide HO), HBA⟩
  case round =>
    obtain ⟨k, rfl, hk, HR, HB⟩ := hrel
    by_cases hlk : k < n
    · have hkl : k < ls.length := by rw [unhide HN]; exact hlk
      obtain ⟨g, o, e1, l1, p0, p1, p2, p3⟩ := ((unhide H).below (unhide HB)).o k hkl
      have hlen : (ls.take k ++ List.replicate (n - k) (⟨0, ⟨#[]⟩, ⟨#[]⟩, ⟨#[]⟩⟩ : Dop)).length = n := by rw [List.length_append, List.length_take, List.length_replicate, unhide HN]; omega
      have hset : (ls.take k ++ List.replicate (n - k) (⟨0, ⟨#[]⟩, ⟨#[]⟩, ⟨#[]⟩⟩ : Dop)).set k ls[k] = ls.take (k + 1) ++ List.replicate (n - (k + 1)) ⟨0, ⟨#[]⟩, ⟨#[]⟩, ⟨#[]⟩⟩ := by
        rw [List.set_append_right _ _ (by rw [List.length_take]; omega), List.length_take, show k - min k ls.length = 0 from by omega, show n - k = (n - (k + 1)) + 1 from by omega, List.replicate_succ, List.set_cons_zero, List.take_succ_eq_append_getElem hkl, List.append_assoc]
        rfl
      generalize (ls.take k ++ List.replicate (n - k) (⟨0, ⟨#[]⟩, ⟨#[]⟩, ⟨#[]⟩⟩ : Dop)) = cur at HR hlen hset
      generalize ls[k] = x at p0 p1 p2 p3 hset
      obtain ⟨kd, nm, to, dt⟩ := x
      simp only at p0 p1 p2 p3
      clear H hkl
      subst e1
      have i0 : (0 : Int) ≤ (k : Int) := by omega
      have i1 : (k : Int) < (n : Int) := by omega
      go_wp2_with fail
      refine (toDOp_calls kd nm to dt wr).mono ?_
      rintro e w1 ⟨rfl, hb1⟩
      have hR1 := (unhide HR).keep hb1
      have HB1 := hide (belOn (unhide HB) hb1)
      have hkc : k < cur.length := by omega
      obtain ⟨g', e2, l2, q0, q1, q2, q3⟩ := hR1.at.ox k hkc
      obtain ⟨g'', e3, l3, z⟩ := hR1.at k hkc
      have hg : w.heap.size = g' := by simpa using e2
      subst hg
      have hg : w.heap.size = g'' := by simpa using e3
      subst hg
      have z0 : w1.frozen? ⟨w.heap.size, k * 4, none⟩ = false := (z 0 (by decide)).2
      have z1 : w1.frozen? ⟨w.heap.size, k * 4 + 1, none⟩ = false := (z 1 (by decide)).2
      have z2 : w1.frozen? ⟨w.heap.size, k * 4 + 2, none⟩ = false := (z 2 (by decide)).2
      have z3 : w1.frozen? ⟨w.heap.size, k * 4 + 3, none⟩ = false := (z 3 (by decide)).2
      have hS0 := hR1.setJ hlen k hkc 0 (by decide) (.int .i64 kd) ⟨kd, cur[k].name, cur[k].to, cur[k].data⟩ rfl
      have hS1 := hS0.setJ (by rw [List.length_set]; exact hlen) k (by rw [List.length_set]; exact hkc) 1 (by decide) (.string nm) ⟨kd, nm, cur[k].to, cur[k].data⟩ (by rw [List.getElem_set_self]; rfl)
      rw [List.set_set] at hS1
      have hS2 := hS1.setJ (by rw [List.length_set]; exact hlen) k (by rw [List.length_set]; exact hkc) 2 (by decide) (.string to) ⟨kd, nm, to, cur[k].data⟩ (by rw [List.getElem_set_self]; rfl)
      rw [List.set_set] at hS2
      have hS3 := hS2.setJ (by rw [List.length_set]; exact hlen) k (by rw [List.length_set]; exact hkc) 3 (by decide) (.string dt) ⟨kd, nm, to, dt⟩ (by rw [List.getElem_set_self]; rfl)
      rw [List.set_set] at hS3
      have hR3 := hS3
      rw [hset] at hR3
      have HR3 := hide hR3
      generalize cur[k] = y at q0 q1 q2 q3
      clear hb1 hR1 hS0 hS1 hS2 hS3 hR3 HR HB z
      go_wp2_with fail
      go_roundw
      case rel => exact ⟨k + 1, by go_num, by omega, HR3, hide (((((unhide HB1).setCell (Nat.le_refl _) _).setCell (Nat.le_refl _) _).setCell (Nat.le_refl _) _).setCell (Nat.le_refl _) _)⟩
      case measure => simp [intOf]; omega
    · obtain rfl : k = n := by omega
      have HF := hide (unhide HR)
      rw [show ls.take k ++ List.replicate (k - k) (⟨0, ⟨#[]⟩, ⟨#[]⟩, ⟨#[]⟩⟩ : Dop) = ls from by rw [Nat.sub_self, List.replicate_zero, List.append_nil]; exact List.take_of_length_le (by rw [unhide HN]; exact Nat.le_refl _)] at HF
      clear HR
      go_wp2_with fail
      go_ret
      exact ⟨_, rfl, unhide HF, unhide HB⟩

set_option maxRecDepth 10000 in
set_option maxHeartbeats 1000000 in
theorem szDOpS_calls (a : Option Addr) (n c : Nat) (ls : List Dop) (left : Nat) (w : World) (hn : ls.length = n) (hn2 : n ≤ 9223372036854775807) (hs : ∀ l ∈ ls, goodO l) (h1 : left ≤ 10000000) (h : ArgAt 4 dopL w a ls) :
    Calls Tryz.prog 19 #[.slice a n c, .int .i64 left] w fun e w' => e = .returned (.int .i64 (purse left (n + totO ls))) ∧ Below w.heap.size w w' := by
  have H := hide h
  have HN := hide hn
  have HS := hide hs
  clear h hn hs
  by_cases hlt : left < n
  · rw [purse_no (by omega)]
    go_enter Tryz.func19, Tryz.ntmps19
    go_wp2_with fail
    go_ret
    exact ⟨rfl, Below.refl _ _⟩
  · obtain ⟨L, hL⟩ : ∃ L : Nat, (left : Int) - (n : Int) = (L : Int) := ⟨left - n, by omega⟩
    rw [purse_step (by omega), hL]
    obtain ⟨R, hR⟩ : ∃ R, purse L (totO ls) = R := ⟨_, rfl⟩
    rw [hR]
    have HR0 := hide hR
    clear hR
    go_enter Tryz.func19, Tryz.ntmps19
    go_wp2_with fail
    go_loopw [1, 5] (fun l i wr => ∃ (k r : Nat), l = .int .i64 r ∧ i = .int .i64 k ∧ k ≤ n ∧ r ≤ 10000000 ∧ Hid (R = purse r (totO (ls.drop k))) ∧ Hid (Below w.heap.size w wr)) (fun _ i _ => n - (intOf i).toNat)
    case atStart => exact ⟨0, L, by rw [← hL], rfl, by omega, by omega, hide (unhide HR0).symm, hide (Below.refl _ _)⟩
    case round =>
      obtain ⟨k, r, rfl, rfl, hk, hr, HR, HB⟩ := hrel
      by_cases hlk : k < n
      · have hkl : k < ls.length := by rw [unhide HN]; exact hlk
        obtain ⟨g, o, e1, l1, p0, p1, p2, p3⟩ := ((unhide H).below (unhide HB)).o k hkl
        have hsz := unhide HS ls[k] (by simp)
        have hst := totO_drop ls k hkl
        generalize ls[k] = x at p0 p1 p2 p3 hsz hst
        obtain ⟨kd, nm, to, dt⟩ := x
        simp only at p0 p1 p2 p3 hst
        have i0 : (0 : Int) ≤ (k : Int) := by omega
        have i1 : (k : Int) < (n : Int) := by omega
        have HR2 := unhide HR
        rw [hst] at HR2
        obtain ⟨s, hs⟩ : ∃ s, nm.size + to.size + dt.size = s := ⟨_, rfl⟩
        have HZ := hide (fun W => szDOp_calls kd nm to dt r W hr hsz.2.1 hsz.2.2.1 hsz.2.2.2)
        rw [hs] at HR2 HZ
        clear HR hst hsz hs
        by_cases hrx : r < s
        · rw [purse_no (by omega)] at HR2
          have HF := hide HR2
          rw [purse_no (show (r : Int) < (s : Int) by omega)] at HZ
          clear HR2
          subst e1
          go_wp2_with fail
          refine (unhide HZ _).mono ?_
          rintro e w1 ⟨rfl, hb1⟩
          have HB1 := hide (belOn (unhide HB) hb1)
          clear hb1
          go_wp2_with fail
          go_ret
          exact ⟨by rw [unhide HF]; rfl, unhide HB1⟩
        · obtain ⟨r', hr'⟩ : ∃ r' : Nat, (r : Int) - (s : Int) = (r' : Int) := ⟨r - s, by omega⟩
          rw [purse_step (by omega), hr'] at HR2
          have HF := hide HR2
          rw [purse_yes (show ¬ (r : Int) < (s : Int) by omega), hr'] at HZ
          clear HR2
          subst e1
          go_wp2_with fail
          refine (unhide HZ _).mono ?_
          rintro e w1 ⟨rfl, hb1⟩
          have HB1 := hide (belOn (unhide HB) hb1)
          clear hb1
          go_wp2_with fail
          go_roundw
          case rel => exact ⟨k + 1, r', rfl, by go_num, by omega, by omega, HF, HB1⟩
          case measure => simp [intOf]; omega
      · have HF := unhide HR
        rw [totO_end ls k (by rw [unhide HN]; omega), purse_yes (by omega)] at HF
        have HF2 := hide HF
        clear HF HR
        go_wp2_with fail
        go_ret
        exact ⟨by rw [unhide HF2]; simp, unhide HB⟩

set_option maxRecDepth 10000 in
set_option maxHeartbeats 1000000 in
theorem eqDOpS_calls (a1 a2 : Option Addr) (c1 c2 n : Nat) (ls : List Dop) (w : World) (hn : ls.length = n) (hn2 : n ≤ 100000000) (h1 : RowAt dopE w a1 ls) (h2 : RowAt dopE w a2 ls) :
    Calls Tryz.prog 38 #[.slice a1 n c1, .slice a2 n c2] w fun e w' => e = .returned (.bool true) ∧ Below w.heap.size w w' := by
  have H1 := hide h1
  have H2 := hide h2
  have HN := hide hn
  clear h1 h2 hn
  go_enter Tryz.func38, Tryz.ntmps38
  go_wp2_with fail
  go_loopw [5] (fun i wr => ∃ (k : Nat), i = .int .i64 k ∧ k ≤ n ∧ Hid (Below w.heap.size w wr)) (fun i _ => n - (intOf i).toNat)
  case atStart => exact ⟨0, rfl, by omega, Below.refl _ _⟩
  case round =>
    obtain ⟨k, rfl, hk, HB⟩ := hrel
    by_cases hlt : k < n
    · have hkl : k < ls.length := by rw [unhide HN]; exact hlt
      obtain ⟨g1, e1, l1, p0, p1, p2, p3⟩ := ((unhide H1).below (unhide HB)).ox k hkl
      obtain ⟨g2, e2, l2, q0, q1, q2, q3⟩ := ((unhide H2).below (unhide HB)).ox k hkl
      generalize ls[k] = x at p0 p1 p2 p3 p2 p3 q0 q1 q2 q3
      obtain ⟨kd, nm, to, dt⟩ := x
      simp only at p0 p1 p2 p3 p2 p3 q0 q1 q2 q3
      clear H1 H2 hkl
      subst e1 e2
      have i0 : (0 : Int) ≤ (k : Int) := by omega
      have i1 : (k : Int) < (n : Int) := by omega
      go_wp2_with fail
      go_region_with (go_at_call 86; refine (eqDOp_calls kd nm to dt _).mono ?_; rintro e w1 ⟨rfl, hb1⟩)
      all_goals (try go_wp2_with fail)
      all_goals exact ⟨⟨k + 1, by go_num, by omega, hide (belOn (unhide HB) (bOfDrew hb1))⟩, by simp [intOf]; omega⟩
    · obtain rfl : k = n := by omega
      go_wp2_with fail
      go_ret
      exact ⟨rfl, unhide HB⟩
end Go.Proofs.YtliklijcdcfomaaGreat


/- Disks, as the exact laws copy, measure and compare them. -/
namespace Go.Proofs.YtliklijcdcfomaaGreat
open Go.RowKit Plain
set_option linter.unusedVariables false

theorem OwnR.other {α : Type} {e : Elem α} {W W' : World} {B : Nat} {v : Value} {xs : List α} (h : OwnR e W B v xs) (hh : ∀ g, v.ownBlock = some g → W'.heap[g]? = W.heap[g]?) : OwnR e W' B v xs := by
  refine ⟨h.1, ?_⟩
  rcases h.2 with ⟨a, c⟩ | ⟨g, cap, cur, rfl, c, d, r⟩
  · exact .inl ⟨a, c⟩
  · exact .inr ⟨g, cap, cur, rfl, c, (hh g rfl).trans d, r⟩
theorem Plain.own_blk {g g' n c : Nat} (h : (Value.slice (some ⟨g, 0, none⟩) n c).ownBlock = some g') : g = g' := Option.some.inj h
theorem Plain.heap_set {W : World} {b i g : Nat} {u : Value} (h : b ≠ g) : (W.setCell ⟨b, i, none⟩ u).heap[g]? = W.heap[g]? := Below.heap_setCell _ _ _ _ (fun e => h (by simp at e; exact e.symm))
theorem Plain.cell_set {W : World} {b i : Nat} {u v : Value} (h : W.cell? ⟨b, i, none⟩ = some v) : (W.setCell ⟨b, i, none⟩ u).cell? ⟨b, i, none⟩ = some u := World.cell?_setCell_same' _ _ _ (by rw [h]; rfl)
theorem Plain.cell_off {W : World} {b i g j : Nat} {u : Value} (h : b ≠ g ∨ i ≠ j) : (W.setCell ⟨b, i, none⟩ u).cell? ⟨g, j, none⟩ = W.cell? ⟨g, j, none⟩ := World.cell?_setCell_other _ ⟨b, i, none⟩ ⟨g, j, none⟩ _ (fun q => by have h1 := congrArg Addr.block q; have h2 := congrArg Addr.off q; simp at h1 h2; omega)

/-- A disk among the arguments. -/
structure Plain.DskArg (W : World) (aL : Option Addr) (nL cL : Nat) (live : List Fl) (aS : Option Addr) (nS cS : Nat) (safe : List Fl) (aO : Option Addr) (nO cO : Nat) (ops : List Dop) : Prop where
  l : ArgRow 2 fileL goodF W aL nL cL live
  s : ArgRow 2 fileL goodF W aS nS cS safe
  o : ArgRow 4 dopL goodO W aO nO cO ops
theorem Plain.DskArg.below {W W' : World} {aL : Option Addr} {nL cL : Nat} {live : List Fl} {aS : Option Addr} {nS cS : Nat} {safe : List Fl} {aO : Option Addr} {nO cO : Nat} {ops : List Dop}
    (h : DskArg W aL nL cL live aS nS cS safe aO nO cO ops) (hb : Below W.heap.size W W') : DskArg W' aL nL cL live aS nS cS safe aO nO cO ops :=
  ⟨⟨h.l.len, h.l.le, h.l.good, h.l.row.below hb⟩, ⟨h.s.len, h.s.le, h.s.good, h.s.row.below hb⟩, ⟨h.o.len, h.o.le, h.o.good, h.o.row.below hb⟩⟩
/-- How many bytes and elements a disk has. -/
def Plain.totD (live safe : List Fl) (ops : List Dop) : Nat := (live.length + totF live) + ((safe.length + totF safe) + (ops.length + totO ops))
/-- A disk of the call's own. -/
structure Plain.DskOwn (W : World) (B : Nat) (vL vS vO : Value) (live safe : List Fl) (ops : List Dop) : Prop where
  l : OwnR fileE W B vL live
  s : OwnR fileE W B vS safe
  o : OwnR dopE W B vO ops
  ls : ∀ g, vL.ownBlock = some g → vS.ownBlock ≠ some g
  lo : ∀ g, vL.ownBlock = some g → vO.ownBlock ≠ some g
  so : ∀ g, vS.ownBlock = some g → vO.ownBlock ≠ some g
/-- What toDisk leaves. -/
def ToPost (nL nS nO : Nat) (live safe : List Fl) (ops : List Dop) (w : World) (e : Ending) (w' : World) : Prop := ∃ g1 g2 g3, e = .returned (.agg #[.slice (some ⟨g1, 0, none⟩) nL nL, .slice (some ⟨g2, 0, none⟩) nS nS, .slice (some ⟨g3, 0, none⟩) nO nO]) ∧ g1 < g2 ∧ g2 < g3 ∧ OwnR fileE w' w.heap.size (.slice (some ⟨g1, 0, none⟩) nL nL) live ∧ OwnR fileE w' w.heap.size (.slice (some ⟨g2, 0, none⟩) nS nS) safe ∧ OwnR dopE w' w.heap.size (.slice (some ⟨g3, 0, none⟩) nO nO) ops ∧ Below w.heap.size w w'

set_option maxRecDepth 10000 in
set_option maxHeartbeats 2000000 in
theorem toDisk_calls (aL : Option Addr) (nL cL : Nat) (live : List Fl) (aS : Option Addr) (nS cS : Nat) (safe : List Fl) (aO : Option Addr) (nO cO : Nat) (ops : List Dop) (w : World) (h : DskArg w aL nL cL live aS nS cS safe aO nO cO ops) (hl : nL ≤ 1048576) (hs : nS ≤ 1048576) (ho : nO ≤ 1048576) :
    Calls Tryz.prog 7 #[.agg #[.slice aL nL cL, .slice aS nS cS, .slice aO nO cO]] w (ToPost nL nS nO live safe ops w) := by
  obtain ⟨Wa, hWa⟩ : ∃ Wa, Wa = w.alloc (.cells #[.slice aL nL cL, .slice aS nS cS, .slice aO nO cO] 25) := ⟨_, rfl⟩
  obtain ⟨W3, hW3⟩ : ∃ W3, W3 = (Wa.alloc (.cells #[.slice none 0 0, .slice none 0 0, .slice none 0 0] 30)).alloc (.cells #[.slice none 0 0, .slice none 0 0, .slice none 0 0] 30) := ⟨_, rfl⟩
  have hba : Below w.heap.size w Wa := by rw [hWa]; exact bel1 _ _
  have hsa : Wa.heap.size = w.heap.size + 1 := by rw [hWa]; simp
  have hs3 : W3.heap.size = w.heap.size + 3 := by rw [hW3]; simp [hsa]
  have hb3 : Below Wa.heap.size Wa W3 := by rw [hW3]; exact belOn (bel1 _ _) (bel1 _ _)
  have c0 : Wa.cell? ⟨w.heap.size, 0, none⟩ = some (.slice aL nL cL) := by rw [hWa]; simp [go_sem]
  have c1 : Wa.cell? ⟨w.heap.size, 1, none⟩ = some (.slice aS nS cS) := by rw [hWa]; simp [go_sem]
  have c2 : Wa.cell? ⟨w.heap.size, 2, none⟩ = some (.slice aO nO cO) := by rw [hWa]; simp [go_sem]
  have hr : ∀ i, i < 3 → W3.cell? ⟨w.heap.size + 1, i, none⟩ = some (.slice none 0 0) ∧ W3.frozen? ⟨w.heap.size + 1, i, none⟩ = false := by
    intro i hi
    rw [hW3, ← hsa]
    rcases i with _ | _ | _ | i
    all_goals first | omega | simp [go_sem]
  have hu : ∀ i, i < 3 → W3.cell? ⟨w.heap.size + 2, i, none⟩ = some (.slice none 0 0) ∧ W3.frozen? ⟨w.heap.size + 2, i, none⟩ = false := by
    intro i hi
    rw [hW3, show w.heap.size + 2 = Wa.heap.size + 1 by omega]
    rcases i with _ | _ | _ | i
    all_goals first | omega | simp [go_sem]
  have HW3 := hide (hW3.trans (by rw [hWa])).symm
  have HQ := hide (fun (W : World) (hW : Below (w.heap.size + 2) W3 W) => (And.intro (bcl hW (by omega) (bcl hb3 (by omega) c0)) (And.intro (bcl hW (by omega) (bcl hb3 (by omega) c1)) (bcl hW (by omega) (bcl hb3 (by omega) c2)))))
  have HR := hide (fun (W : World) (hW : Below (w.heap.size + 2) W3 W) (i : Nat) (hi : i < 3) => And.intro (bcl hW (show w.heap.size + 1 < w.heap.size + 2 by omega) (hr i hi).1) ((hW.frozen (p := ⟨w.heap.size + 1, i, none⟩) (show w.heap.size + 1 < w.heap.size + 2 by omega)).trans (hr i hi).2))
  have HF := hide (fun (W : World) (hW : Below (w.heap.size + 2) W3 W) => (hba.trans (hb3.mono hba.size)).trans (hW.mono (show w.heap.size ≤ w.heap.size + 2 by omega)))
  have HU := hide hu
  have H := hide h
  have hz3 : w.heap.size + 2 ≤ W3.heap.size := by omega
  clear hr hu hba hb3 c0 c1 c2 hWa hW3 hsa h
  go_enter Tryz.func7, Tryz.ntmps7
  go_wp2_with fail
  rw [unhide HW3]
  refine (toFileS_calls aL nL cL live W3 (unhide H).l.len (by omega) ((unhide H).below (unhide HF _ (Below.refl _ _))).l.row).mono ?_
  rintro e w4 ⟨g1, rfl, hO4, hb4⟩
  have hK4 := (hb4.mono hz3)
  obtain ⟨q0, q1, q2⟩ := unhide HQ _ hK4
  have u0 := bcl hb4 (show w.heap.size + 2 < W3.heap.size by omega) (unhide HU 0 (by decide)).1
  have u1 := bcl hb4 (show w.heap.size + 2 < W3.heap.size by omega) (unhide HU 1 (by decide)).1
  have u2 := bcl hb4 (show w.heap.size + 2 < W3.heap.size by omega) (unhide HU 2 (by decide)).1
  have y0 := (hb4.frozen (p := ⟨w.heap.size + 2, 0, none⟩) (show w.heap.size + 2 < W3.heap.size by omega)).trans (unhide HU 0 (by decide)).2
  have y1 := (hb4.frozen (p := ⟨w.heap.size + 2, 1, none⟩) (show w.heap.size + 2 < W3.heap.size by omega)).trans (unhide HU 1 (by decide)).2
  have y2 := (hb4.frozen (p := ⟨w.heap.size + 2, 2, none⟩) (show w.heap.size + 2 < W3.heap.size by omega)).trans (unhide HU 2 (by decide)).2
  go_wp2_with fail
  have hg1 := World.ownsRow.lt hO4 g1 rfl
  obtain ⟨W5, hW5⟩ : ∃ W5, W5 = w4.setCell ⟨w.heap.size + 1 + 1, 0, none⟩ (.slice (some ⟨g1, 0, none⟩) nL nL) := ⟨_, rfl⟩
  rw [← hW5]
  have hK5 : Below (w.heap.size + 2) W3 W5 := by rw [hW5]; exact hK4.setCell (Nat.le_refl _) _
  have v0 : W5.cell? ⟨w.heap.size + 2, 0, none⟩ = some (.slice (some ⟨g1, 0, none⟩) nL nL) := by rw [hW5]; exact cell_set u0
  have v1 : W5.cell? ⟨w.heap.size + 2, 1, none⟩ = some (.slice none 0 0) := by rw [hW5]; exact (cell_off (.inr (by decide))).trans u1
  have v2 : W5.cell? ⟨w.heap.size + 2, 2, none⟩ = some (.slice none 0 0) := by rw [hW5]; exact (cell_off (.inr (by decide))).trans u2
  have x1 : W5.frozen? ⟨w.heap.size + 2, 1, none⟩ = false := by rw [hW5, World.frozen?_setCell]; exact y1
  have x2 : W5.frozen? ⟨w.heap.size + 2, 2, none⟩ = false := by rw [hW5, World.frozen?_setCell]; exact y2
  have hz5 : W5.heap.size = w4.heap.size := by rw [hW5]; simp
  have hO5 : OwnR fileE W5 W3.heap.size (.slice (some ⟨g1, 0, none⟩) nL nL) live := by rw [hW5]; exact hO4.other (fun g hg => by obtain rfl := own_blk hg; exact heap_set (by omega))
  have hz4 := hb4.size
  clear hW5 u0 u1 u2 y0 y1 y2 q0 q1 q2 hO4 hb4 hK4
  refine (toFileS_calls aS nS cS safe W5 (unhide H).s.len (by omega) ((unhide H).below (unhide HF _ hK5)).s.row).mono ?_
  rintro e w6 ⟨g2, rfl, hO6, hb6⟩
  have hz6 := hb6.size
  have hK6 := hK5.trans (hb6.mono (show w.heap.size + 2 ≤ W5.heap.size by omega))
  obtain ⟨q0, q1, q2⟩ := unhide HQ _ hK6
  have hl5 : w.heap.size + 2 < W5.heap.size := by omega
  have u0 := bcl hb6 hl5 v0
  have u1 := bcl hb6 hl5 v1
  have u2 := bcl hb6 hl5 v2
  have y1 := (hb6.frozen (p := ⟨w.heap.size + 2, 1, none⟩) hl5).trans x1
  have y2 := (hb6.frozen (p := ⟨w.heap.size + 2, 2, none⟩) hl5).trans x2
  have hO6b := hO5.keep hb6
  have hg2 := World.ownsRow.lt hO6 g2 rfl
  clear v0 v1 v2 x1 x2 hO5 hb6 hK5
  go_wp2_with fail
  obtain ⟨W7, hW7⟩ : ∃ W7, W7 = w6.setCell ⟨w.heap.size + 1 + 1, 1, none⟩ (.slice (some ⟨g2, 0, none⟩) nS nS) := ⟨_, rfl⟩
  rw [← hW7]
  have hK7 : Below (w.heap.size + 2) W3 W7 := by rw [hW7]; exact hK6.setCell (Nat.le_refl _) _
  have v0 : W7.cell? ⟨w.heap.size + 2, 0, none⟩ = some (.slice (some ⟨g1, 0, none⟩) nL nL) := by rw [hW7]; exact (cell_off (.inr (by decide))).trans u0
  have v1 : W7.cell? ⟨w.heap.size + 2, 1, none⟩ = some (.slice (some ⟨g2, 0, none⟩) nS nS) := by rw [hW7]; exact cell_set u1
  have v2 : W7.cell? ⟨w.heap.size + 2, 2, none⟩ = some (.slice none 0 0) := by rw [hW7]; exact (cell_off (.inr (by decide))).trans u2
  have x2 : W7.frozen? ⟨w.heap.size + 2, 2, none⟩ = false := by rw [hW7, World.frozen?_setCell]; exact y2
  have hz7 : W7.heap.size = w6.heap.size := by rw [hW7]; simp
  have hO7 : OwnR fileE W7 W3.heap.size (.slice (some ⟨g1, 0, none⟩) nL nL) live := by rw [hW7]; exact hO6b.other (fun g hg => by obtain rfl := own_blk hg; exact heap_set (by omega))
  have hO7b : OwnR fileE W7 W5.heap.size (.slice (some ⟨g2, 0, none⟩) nS nS) safe := by rw [hW7]; exact hO6.other (fun g hg => by obtain rfl := own_blk hg; exact heap_set (by omega))
  clear hW7 u0 u1 u2 y1 y2 q0 q1 q2 hO6 hO6b hK6
  refine (toDOpS_calls aO nO cO ops W7 (unhide H).o.len (by omega) ((unhide H).below (unhide HF _ hK7)).o.row).mono ?_
  rintro e w8 ⟨g3, rfl, hO8, hb8⟩
  have hz8 := hb8.size
  have hK8 := hK7.trans (hb8.mono (show w.heap.size + 2 ≤ W7.heap.size by omega))
  have hl7 : w.heap.size + 2 < W7.heap.size := by omega
  have u0 := bcl hb8 hl7 v0
  have u1 := bcl hb8 hl7 v1
  have u2 := bcl hb8 hl7 v2
  have y2 := (hb8.frozen (p := ⟨w.heap.size + 2, 2, none⟩) hl7).trans x2
  have hP1 := hO7.keep hb8
  have hP2 := hO7b.keep hb8
  have hg3 := World.ownsRow.lt hO8 g3 rfl
  obtain ⟨r0, s0⟩ := unhide HR _ hK8 0 (by decide)
  obtain ⟨r1, s1⟩ := unhide HR _ hK8 1 (by decide)
  obtain ⟨r2, s2⟩ := unhide HR _ hK8 2 (by decide)
  have HB8 := hide (unhide HF _ hK8)
  have HP1 := hide hP1
  have HP2 := hide hP2
  have HP3 := hide hO8
  clear v0 v1 v2 x2 hO7 hO7b hb8 hK7 hP1 hP2 hO8 hK8
  go_wp2_with fail
  refine bodyPost_ret (v := .agg #[.slice (some ⟨g1, 0, none⟩) nL nL, .slice (some ⟨g2, 0, none⟩) nS nS, .slice (some ⟨g3, 0, none⟩) nO nO]) (by simp [results, Tryz.results7, go_sem, r0, r1, r2]) rfl ?_
  refine ⟨g1, g2, g3, rfl, by omega, by omega, ((unhide HP1).other ?_).le (by omega), ((unhide HP2).other ?_).le (by omega), ((unhide HP3).other ?_).le (by omega), ?_⟩
  · intro g hg; obtain rfl := own_blk hg; rw [heap_set (by omega), heap_set (by omega), heap_set (by omega), heap_set (by omega)]
  · intro g hg; obtain rfl := own_blk hg; rw [heap_set (by omega), heap_set (by omega), heap_set (by omega), heap_set (by omega)]
  · intro g hg; obtain rfl := own_blk hg; rw [heap_set (by omega), heap_set (by omega), heap_set (by omega), heap_set (by omega)]
  · exact ((((unhide HB8).setCell (show w.heap.size ≤ w.heap.size + 1 + 1 by omega) _).setCell (show w.heap.size ≤ w.heap.size + 1 by omega) _).setCell (show w.heap.size ≤ w.heap.size + 1 by omega) _).setCell (show w.heap.size ≤ w.heap.size + 1 by omega) _

set_option maxRecDepth 10000 in
set_option maxHeartbeats 1000000 in
theorem szDisk_calls (aL : Option Addr) (nL cL : Nat) (live : List Fl) (aS : Option Addr) (nS cS : Nat) (safe : List Fl) (aO : Option Addr) (nO cO : Nat) (ops : List Dop) (left : Nat) (w : World) (h : DskArg w aL nL cL live aS nS cS safe aO nO cO ops) (hl : left ≤ 10000000) :
    Calls Tryz.prog 5 #[.agg #[.slice aL nL cL, .slice aS nS cS, .slice aO nO cO], .int .i64 left] w fun e w' => e = .returned (.int .i64 (purse left (totD live safe ops))) ∧ Below w.heap.size w w' := by
  obtain ⟨W0, hW0⟩ : ∃ W0, W0 = w.alloc (.cells #[.slice aL nL cL, .slice aS nS cS, .slice aO nO cO] 25) := ⟨_, rfl⟩
  have hb0 : Below w.heap.size w W0 := by rw [hW0]; exact bel1 _ _
  have hlt : w.heap.size < W0.heap.size := by rw [hW0]; simp
  have c0 : W0.cell? ⟨w.heap.size, 0, none⟩ = some (.slice aL nL cL) := by rw [hW0]; simp [go_sem]
  have c1 : W0.cell? ⟨w.heap.size, 1, none⟩ = some (.slice aS nS cS) := by rw [hW0]; simp [go_sem]
  have c2 : W0.cell? ⟨w.heap.size, 2, none⟩ = some (.slice aO nO cO) := by rw [hW0]; simp [go_sem]
  have HD := hide (fun (W : World) (hW : Below W0.heap.size W0 W) => (h.below hb0).below hW)
  have HC := hide (fun (W : World) (hW : Below W0.heap.size W0 W) => And.intro (bcl hW hlt c0) (And.intro (bcl hW hlt c1) (bcl hW hlt c2)))
  have HFIN := hide (fun (W : World) (hW : Below W0.heap.size W0 W) => belOn hb0 hW)
  have HW0 := hide hW0.symm
  have hbl := h.l.le
  have hbs := h.s.le
  have hbo := h.o.le
  unfold maxLen at hbl hbs hbo
  unfold totD
  rw [h.l.len, h.s.len, h.o.len]
  have HH := hide h
  obtain ⟨A, hA⟩ : ∃ A, nL + totF live = A := ⟨_, rfl⟩
  obtain ⟨B, hB⟩ : ∃ B, nS + totF safe = B := ⟨_, rfl⟩
  obtain ⟨C, hC⟩ : ∃ C, nO + totO ops = C := ⟨_, rfl⟩
  have H1 := hide (fun (W : World) (hW : Below W0.heap.size W0 W) (r : Nat) (hr : r ≤ 10000000) => szFileS_calls aL nL cL live r W (unhide HH).l.len (by omega) (unhide HH).l.good hr (unhide HD _ hW).l.row)
  have H2 := hide (fun (W : World) (hW : Below W0.heap.size W0 W) (r : Nat) (hr : r ≤ 10000000) => szFileS_calls aS nS cS safe r W (unhide HH).s.len (by omega) (unhide HH).s.good hr (unhide HD _ hW).s.row)
  have H3 := hide (fun (W : World) (hW : Below W0.heap.size W0 W) (r : Nat) (hr : r ≤ 10000000) => szDOpS_calls aO nO cO ops r W (unhide HH).o.len (by omega) (unhide HH).o.good hr (unhide HD _ hW).o.row)
  rw [hA, hB, hC]
  rw [hA] at H1
  rw [hB] at H2
  rw [hC] at H3
  clear h hb0 hlt c0 c1 c2 hW0 hA hB hC HH HD
  by_cases h1 : left < A
  · rw [purse_no (show (left : Int) < ((A + (B + C) : Nat) : Int) by omega)]
    have H1' := hide (unhide H1 _ (Below.refl _ _) left hl)
    rw [purse_no (show (left : Int) < (A : Int) by omega)] at H1'
    go_enter Tryz.func5, Tryz.ntmps5
    go_wp2_with fail
    rw [unhide HW0]
    refine (unhide H1').mono ?_
    rintro e w1 ⟨rfl, hb1⟩
    have HB1 := hide (unhide HFIN _ hb1)
    clear hb1
    go_wp2_with fail
    go_ret
    exact ⟨rfl, unhide HB1⟩
  · obtain ⟨r1, hr1⟩ : ∃ r1 : Nat, (left : Int) - (A : Int) = (r1 : Int) := ⟨left - A, by omega⟩
    rw [purse_step (by omega), hr1]
    have H1' := hide (unhide H1 _ (Below.refl _ _) left hl)
    rw [purse_yes (show ¬ (left : Int) < (A : Int) by omega), hr1] at H1'
    have hr1b : r1 ≤ 10000000 := by omega
    clear H1
    by_cases h2 : r1 < B
    · rw [purse_no (show (r1 : Int) < ((B + C : Nat) : Int) by omega)]
      have H2' := hide (fun W hW => unhide H2 W hW r1 hr1b)
      rw [purse_no (show (r1 : Int) < (B : Int) by omega)] at H2'
      go_enter Tryz.func5, Tryz.ntmps5
      go_wp2_with fail
      rw [unhide HW0]
      refine (unhide H1').mono ?_
      rintro e w1 ⟨rfl, hb1⟩
      have HB1 := hide hb1
      obtain ⟨q0, q1, q2⟩ := unhide HC _ hb1
      clear hb1
      go_wp2_with fail
      refine (unhide H2' _ (unhide HB1)).mono ?_
      rintro e w2 ⟨rfl, hb2⟩
      have HB2 := hide (unhide HFIN _ (belOn (unhide HB1) hb2))
      clear hb2
      go_wp2_with fail
      go_ret
      exact ⟨rfl, unhide HB2⟩
    · obtain ⟨r2, hr2⟩ : ∃ r2 : Nat, (r1 : Int) - (B : Int) = (r2 : Int) := ⟨r1 - B, by omega⟩
      rw [purse_step (by omega), hr2]
      have H2' := hide (fun W hW => unhide H2 W hW r1 hr1b)
      rw [purse_yes (show ¬ (r1 : Int) < (B : Int) by omega), hr2] at H2'
      have hr2b : r2 ≤ 10000000 := by omega
      clear H2
      have H3' := hide (fun W hW => unhide H3 W hW r2 hr2b)
      clear H3
      by_cases h3 : r2 < C
      · rw [purse_no (show (r2 : Int) < (C : Int) by omega)] at H3' ⊢
        go_enter Tryz.func5, Tryz.ntmps5
        go_wp2_with fail
        rw [unhide HW0]
        refine (unhide H1').mono ?_
        rintro e w1 ⟨rfl, hb1⟩
        have HB1 := hide hb1
        obtain ⟨q0, q1, q2⟩ := unhide HC _ hb1
        clear hb1
        go_wp2_with fail
        refine (unhide H2' _ (unhide HB1)).mono ?_
        rintro e w2 ⟨rfl, hb2⟩
        have HB2 := hide (belOn (unhide HB1) hb2)
        clear hb2 q0 q1 q2
        obtain ⟨q0, q1, q2⟩ := unhide HC _ (unhide HB2)
        go_wp2_with fail
        refine (unhide H3' _ (unhide HB2)).mono ?_
        rintro e w3 ⟨rfl, hb3⟩
        have HB3 := hide (unhide HFIN _ (belOn (unhide HB2) hb3))
        clear hb3
        go_wp2_with fail
        go_ret
        exact ⟨rfl, unhide HB3⟩
      · obtain ⟨r3, hr3⟩ : ∃ r3 : Nat, (r2 : Int) - (C : Int) = (r3 : Int) := ⟨r2 - C, by omega⟩
        rw [purse_yes (show ¬ (r2 : Int) < (C : Int) by omega), hr3] at H3' ⊢
        go_enter Tryz.func5, Tryz.ntmps5
        go_wp2_with fail
        rw [unhide HW0]
        refine (unhide H1').mono ?_
        rintro e w1 ⟨rfl, hb1⟩
        have HB1 := hide hb1
        obtain ⟨q0, q1, q2⟩ := unhide HC _ hb1
        clear hb1
        go_wp2_with fail
        refine (unhide H2' _ (unhide HB1)).mono ?_
        rintro e w2 ⟨rfl, hb2⟩
        have HB2 := hide (belOn (unhide HB1) hb2)
        clear hb2 q0 q1 q2
        obtain ⟨q0, q1, q2⟩ := unhide HC _ (unhide HB2)
        go_wp2_with fail
        refine (unhide H3' _ (unhide HB2)).mono ?_
        rintro e w3 ⟨rfl, hb3⟩
        have HB3 := hide (unhide HFIN _ (belOn (unhide HB2) hb3))
        clear hb3
        go_wp2_with fail
        go_ret
        exact ⟨rfl, unhide HB3⟩

/-- The three rows of a disk that is read. -/
structure Plain.DskRow (W : World) (aL aS aO : Option Addr) (live safe : List Fl) (ops : List Dop) : Prop where
  l : RowAt fileE W aL live
  s : RowAt fileE W aS safe
  o : RowAt dopE W aO ops
theorem Plain.DskRow.below {W W' : World} {aL aS aO : Option Addr} {live safe : List Fl} {ops : List Dop} (h : DskRow W aL aS aO live safe ops) (hb : Below W.heap.size W W') : DskRow W' aL aS aO live safe ops := ⟨h.l.below hb, h.s.below hb, h.o.below hb⟩

set_option maxRecDepth 10000 in
set_option maxHeartbeats 1000000 in
theorem eqDisk_calls (aL aS aO bL bS bO : Option Addr) (nL nS nO cL cS cO dL dS dO : Nat) (live safe : List Fl) (ops : List Dop) (w : World) (hl : live.length = nL) (hs : safe.length = nS) (ho : ops.length = nO) (zl : nL ≤ 10000000) (zs : nS ≤ 10000000) (zo : nO ≤ 10000000)
    (h1 : DskRow w aL aS aO live safe ops) (h2 : DskRow w bL bS bO live safe ops) :
    Calls Tryz.prog 9 #[.agg #[.slice aL nL cL, .slice aS nS cS, .slice aO nO cO], .agg #[.slice bL nL dL, .slice bS nS dS, .slice bO nO dO]] w fun e w' => e = .returned (.bool true) ∧ Below w.heap.size w w' := by
  obtain ⟨W0, hW0⟩ : ∃ W0, W0 = (w.alloc (.cells #[.slice aL nL cL, .slice aS nS cS, .slice aO nO cO] 30)).alloc (.cells #[.slice bL nL dL, .slice bS nS dS, .slice bO nO dO] 30) := ⟨_, rfl⟩
  have hb0 : Below w.heap.size w W0 := by rw [hW0]; exact belOn (bel1 _ _) (bel1 _ _)
  have hlt : w.heap.size < W0.heap.size := by rw [hW0]; simp; omega
  have hlt2 : w.heap.size + 1 < W0.heap.size := by rw [hW0]; simp
  have c0 : W0.cell? ⟨w.heap.size, 0, none⟩ = some (.slice aL nL cL) := by rw [hW0]; simp [go_sem]
  have c1 : W0.cell? ⟨w.heap.size, 1, none⟩ = some (.slice aS nS cS) := by rw [hW0]; simp [go_sem]
  have c2 : W0.cell? ⟨w.heap.size, 2, none⟩ = some (.slice aO nO cO) := by rw [hW0]; simp [go_sem]
  have d0 : W0.cell? ⟨w.heap.size + 1, 0, none⟩ = some (.slice bL nL dL) := by rw [hW0]; simp [go_sem]
  have d1 : W0.cell? ⟨w.heap.size + 1, 1, none⟩ = some (.slice bS nS dS) := by rw [hW0]; simp [go_sem]
  have d2 : W0.cell? ⟨w.heap.size + 1, 2, none⟩ = some (.slice bO nO dO) := by rw [hW0]; simp [go_sem]
  have HC := hide (fun (W : World) (hW : Below W0.heap.size W0 W) => And.intro (And.intro (bcl hW hlt c0) (And.intro (bcl hW hlt c1) (bcl hW hlt c2))) (And.intro (bcl hW hlt2 d0) (And.intro (bcl hW hlt2 d1) (bcl hW hlt2 d2))))
  have HD := hide (fun (W : World) (hW : Below W0.heap.size W0 W) => And.intro (h1.below (belOn hb0 hW)) (h2.below (belOn hb0 hW)))
  have HFIN := hide (fun (W : World) (hW : Below W0.heap.size W0 W) => belOn hb0 hW)
  have HW0 := hide hW0.symm
  have HL := hide hl
  have HS := hide hs
  have HO := hide ho
  clear h1 h2 hb0 hlt hlt2 c0 c1 c2 d0 d1 d2 hW0 hl hs ho
  go_enter Tryz.func9, Tryz.ntmps9
  go_wp2_with fail
  rw [unhide HW0]
  refine (eqFileS_calls aL bL cL dL nL live W0 (unhide HL) (by omega) (unhide HD _ (Below.refl _ _)).1.l (unhide HD _ (Below.refl _ _)).2.l).mono ?_
  rintro e w1 ⟨rfl, hb1⟩
  have HB1 := hide hb1
  obtain ⟨⟨q0, q1, q2⟩, p0, p1, p2⟩ := unhide HC _ hb1
  clear hb1
  go_wp2_with fail
  refine (eqFileS_calls aS bS cS dS nS safe w1 (unhide HS) (by omega) (unhide HD _ (unhide HB1)).1.s (unhide HD _ (unhide HB1)).2.s).mono ?_
  rintro e w2 ⟨rfl, hb2⟩
  have HB2 := hide (belOn (unhide HB1) hb2)
  clear hb2 q0 q1 q2 p0 p1 p2
  obtain ⟨⟨q0, q1, q2⟩, p0, p1, p2⟩ := unhide HC _ (unhide HB2)
  go_wp2_with fail
  refine (eqDOpS_calls aO bO cO dO nO ops w2 (unhide HO) (by omega) (unhide HD _ (unhide HB2)).1.o (unhide HD _ (unhide HB2)).2.o).mono ?_
  rintro e w3 ⟨rfl, hb3⟩
  have HB3 := hide (unhide HFIN _ (belOn (unhide HB2) hb3))
  clear hb3 q0 q1 q2 p0 p1 p2
  go_wp2_with fail
  go_ret
  exact ⟨rfl, unhide HB3⟩
end Go.Proofs.YtliklijcdcfomaaGreat


/- Rows of files and ops marked and looked at again, as the exact laws do it. -/
namespace Go.Proofs.YtliklijcdcfomaaGreat
open Go.RowKit Plain
set_option linter.unusedVariables false

namespace Plain
/-- What the marking of files leaves. -/
def mkF (b n : Nat) : List Fl := (List.range n).map fun i : Nat => (mtx (b + i * 2), mtx (b + i * 2 + 1))
theorem mkF_length (b n : Nat) : (mkF b n).length = n := by simp [mkF]
theorem mkF_get (b n k : Nat) (h : k < (mkF b n).length) : (mkF b n)[k] = (mtx (b + k * 2), mtx (b + k * 2 + 1)) := by simp [mkF]
def mixF (b : Nat) (fs : List Fl) (k : Nat) : List Fl := mkF b k ++ fs.drop k
theorem mixF_length (b : Nat) (fs : List Fl) (k : Nat) (h : k ≤ fs.length) : (mixF b fs k).length = fs.length := by simp [mixF, mkF_length]; omega
theorem mixF_zero (b : Nat) (fs : List Fl) : mixF b fs 0 = fs := by simp [mixF, mkF]
theorem mixF_end (b : Nat) (fs : List Fl) : mixF b fs fs.length = mkF b fs.length := by simp [mixF]
theorem mixF_next (b : Nat) (fs : List Fl) (k : Nat) (h : k < fs.length) : (mixF b fs k).set k (mtx (b + k * 2), mtx (b + k * 2 + 1)) = mixF b fs (k + 1) := by
  have hl := mkF_length b k
  unfold mixF
  rw [List.set_append_right _ _ (by omega), hl, Nat.sub_self, List.drop_eq_getElem_cons h, List.set_cons_zero]
  simp [mkF, List.range_succ]
end Plain
theorem RowAt.filez {W : World} {a : Option Addr} {xs : List Fl} (h : RowAt fileE W a xs) (i : Nat) (hi : i < xs.length) : ∃ g, a = some ⟨g, 0, none⟩ ∧ g < W.heap.size ∧ W.cell? ⟨g, i * 2, none⟩ = some (.string xs[i].1) ∧ W.cell? ⟨g, i * 2 + 1, none⟩ = some (.string xs[i].2) ∧ W.frozen? ⟨g, i * 2, none⟩ = false ∧ W.frozen? ⟨g, i * 2 + 1, none⟩ = false := by
  obtain ⟨g, e1, hl, h1⟩ := h i hi
  exact ⟨g, e1, hl, (h1 0 (by decide)).1, (h1 1 (by decide)).1, (h1 0 (by decide)).2, (h1 1 (by decide)).2⟩

set_option maxRecDepth 10000 in
set_option maxHeartbeats 1000000 in
theorem markFileS_calls (b : Nat) (a : Option Addr) (c n : Nat) (fs : List Fl) (w : World) (hb1 : 1 ≤ b) (hb2 : b ≤ 100000000) (hn : fs.length = n) (hn2 : n ≤ 100000000) (h1 : RowAt fileE w a fs) :
    Calls Tryz.prog 39 #[.slice a n c, .int .i64 b] w fun e w' => e = .returned (.int .i64 ((b + n * 2 : Nat) : Int)) ∧ RowAt fileE w' a (mkF b n) ∧ OnlyRow a w w' := by
  have H1 := hide h1
  have HN := hide hn
  clear h1 hn
  go_enter Tryz.func39, Tryz.ntmps39
  go_wp2_with fail
  go_loopw [1, 5] (fun m i wr => ∃ (k : Nat), i = .int .i64 k ∧ m = .int .i64 ((b + k * 2 : Nat) : Int) ∧ k ≤ n ∧ Hid (RowAt fileE wr a (mixF b fs k)) ∧ Hid (OnlyRow a w wr)) (fun _ i _ => n - (intOf i).toNat)
  case atStart => exact ⟨0, rfl, rfl, by omega, hide (by rw [mixF_zero]; exact unhide H1), OnlyRow.refl _ _⟩
  case round =>
    clear H1
    obtain ⟨k, rfl, rfl, hk, HF, HB⟩ := hrel
    by_cases hlt : k < n
    · have hfl : k < fs.length := by rw [unhide HN]; exact hlt
      have hml := mixF_length b fs k (by omega)
      have hkl : k < (mixF b fs k).length := by omega
      obtain ⟨g, e1, l1, p1, p2, z1, z2⟩ := (unhide HF).filez k hkl
      subst e1
      have hnx := hide (mixF_next b fs k hfl)
      have i0 : (0 : Int) ≤ (k : Int) := by omega
      have i1 : (k : Int) < (n : Int) := by omega
      obtain ⟨M, hM⟩ : ∃ M, b + k * 2 = M := ⟨_, rfl⟩
      rw [hM] at hnx ⊢
      generalize mixF b fs k = cur at HF hkl p1 p2 hnx hml
      clear p1 p2 z1 z2
      go_wp2_with fail
      refine (markText_calls M _ (by omega) (by omega)).mono ?_
      rintro e w2 ⟨rfl, hb2⟩
      have hf2 := (unhide HF).below hb2
      obtain ⟨g', e1, l2, r1, r2, y1, y2⟩ := hf2.filez k hkl
      cases e1
      have hf3 := hf2.setJ k hkl 0 (by decide) (.string (mtx M)) (mtx M, cur[k].2) rfl
      obtain ⟨W3, hW3⟩ : ∃ W3, W3 = w2.setCell ⟨g, k * 2, none⟩ (.string (mtx M)) := ⟨_, rfl⟩
      have HF3 := hide (show RowAt fileE W3 (some ⟨g, 0, none⟩) (cur.set k (mtx M, cur[k].2)) from by rw [hW3]; exact hf3)
      have HB3 := hide (show OnlyRow (some ⟨g, 0, none⟩) w W3 from by rw [hW3]; exact ((unhide HB).trans (OnlyRow.of hb2)).trans (OnlyRow.set _ _))
      have HW3 := hide hW3.symm
      have hkl3 : k < (cur.set k (mtx M, cur[k].2)).length := by rw [List.length_set]; exact hkl
      generalize hy : cur[k].2 = y at HF3 hf3 hkl3
      generalize cur[k].1 = x at r1
      generalize cur[k].2 = x2 at r2 hy
      clear hb2 hf2 HF hf3 hW3 HB
      go_wp2_with fail
      rw [unhide HW3]
      refine (markText_calls (M + 1) _ (by omega) (by omega)).mono ?_
      rintro e w4 ⟨rfl, hb4⟩
      have hf4 := (unhide HF3).below hb4
      obtain ⟨g', e1, l4, s1, s2, v1, v2⟩ := hf4.filez k hkl3
      cases e1
      have hf5 := hf4.setJ k hkl3 1 (by decide) (.string (mtx (M + 1))) (mtx M, mtx (M + 1)) (by rw [List.getElem_set_self]; rfl)
      rw [List.set_set, unhide hnx] at hf5
      have HF5 := hide hf5
      have HB4 := hide ((unhide HB3).trans (OnlyRow.of hb4))
      clear hb4 hf4 HF3 hf5 HB3 s1 hy
      generalize (cur.set k (mtx M, y))[k] = q at s2
      go_wp2_with fail
      go_roundw
      case rel => exact ⟨k + 1, by go_num, by rw [show b + (k + 1) * 2 = M + 2 from by omega]; go_num, by omega, HF5, hide ((unhide HB4).trans (OnlyRow.set _ _))⟩
      case measure => simp [intOf]; omega
    · obtain rfl : k = n := by omega
      have hF := unhide HF
      rw [← unhide HN, mixF_end, unhide HN] at hF
      have HF2 := hide hF
      clear hF HF
      go_wp2_with fail
      go_ret
      exact ⟨rfl, unhide HF2, unhide HB⟩

set_option maxRecDepth 10000 in
set_option maxHeartbeats 2000000 in
theorem heldFileS_calls (b : Nat) (a : Option Addr) (c n : Nat) (w : World) (hb1 : 1 ≤ b) (hb2 : b ≤ 100000000) (hn2 : n ≤ 100000000) (h1 : RowAt fileE w a (mkF b n)) :
    Calls Tryz.prog 41 #[.slice a n c, .int .i64 b] w fun e w' => e = .returned (.int .i64 ((b + n * 2 : Nat) : Int)) ∧ Below w.heap.size w w' := by
  have H1 := hide h1
  clear h1
  go_enter Tryz.func41, Tryz.ntmps41
  go_wp2_with fail
  go_loopw [1, 5] (fun m i wr => ∃ (k : Nat), i = .int .i64 k ∧ m = .int .i64 ((b + k * 2 : Nat) : Int) ∧ k ≤ n ∧ Hid (Below w.heap.size w wr)) (fun _ i _ => n - (intOf i).toNat)
  case atStart => exact ⟨0, rfl, rfl, by omega, Below.refl _ _⟩
  case round =>
    obtain ⟨k, rfl, rfl, hk, HB⟩ := hrel
    by_cases hlt : k < n
    · have hkl : k < (mkF b n).length := by rw [mkF_length]; exact hlt
      obtain ⟨g, e1, l1, p1, p2, -, -⟩ := ((unhide H1).below (unhide HB)).filez k hkl
      rw [mkF_get b n k hkl] at p1 p2
      clear H1
      subst e1
      have i0 : (0 : Int) ≤ (k : Int) := by omega
      have i1 : (k : Int) < (n : Int) := by omega
      obtain ⟨M, hM⟩ : ∃ M, b + k * 2 = M := ⟨_, rfl⟩
      simp only [hM] at p1 p2
      rw [hM]
      have hM2 : M ≤ 1000000000 := by omega
      have hM1 : 1 ≤ M := by omega
      have hM3 : M + 1 ≤ 1000000000 := by omega
      have hM4 : 1 ≤ M + 1 := by omega
      go_wp2_with fail
      go_region_with (go_at_call 56; refine (markText_calls M _ hM1 hM2).mono ?_; rintro e w2 ⟨rfl, hb2⟩; have r1 := bcl (bOfDrew hb2) l1 p1; have r2 := bcl (bOfDrew hb2) l1 p2)
      all_goals (have l2 := lt_of_cell r1)
      all_goals (have HB2 := hide (belOn (unhide HB) (bOfDrew hb2)))
      all_goals clear hb2 p1 p2
      all_goals (try go_wp2_with fail)
      all_goals go_region_with (go_at_call 56; refine (markText_calls (M + 1) _ hM4 hM3).mono ?_; rintro e w3 ⟨rfl, hb3⟩; have s2 := bcl (bOfDrew hb3) l2 r2)
      all_goals (try go_wp2_with fail)
      all_goals exact ⟨⟨k + 1, by go_num, by rw [show b + (k + 1) * 2 = M + 2 from by omega]; go_num, by omega, hide (belOn (unhide HB2) (bOfDrew hb3))⟩, by simp [intOf]; omega⟩
    · obtain rfl : k = n := by omega
      go_wp2_with fail
      go_ret
      exact ⟨rfl, unhide HB⟩
end Go.Proofs.YtliklijcdcfomaaGreat

