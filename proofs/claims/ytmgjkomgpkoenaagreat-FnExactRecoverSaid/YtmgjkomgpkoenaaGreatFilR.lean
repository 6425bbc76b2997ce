/- Rows of files, as the exact laws copy, measure and compare them. -/
import Derived.Test.YtmgjkomgpkoenaaGreatRowK
import Derived.Test.YtmgjkomgpkoenaaGreatDskV
import Derived.Test.YtmgjkomgpkoenaaGreatPrs
namespace Go.Proofs.YtmgjkomgpkoenaaGreat
open Go.RowKit Plain
set_option linter.unusedVariables false

namespace Plain
def totF (fs : List Fl) : Nat := (fs.map fun f => f.1.size + f.2.size).sum
theorem totF_drop (fs : List Fl) (k : Nat) (h : k < fs.length) : totF (fs.drop k) = (fs[k].1.size + fs[k].2.size) + totF (fs.drop (k + 1)) := by rw [totF, List.drop_eq_getElem_cons h, List.map_cons, List.sum_cons]; rfl
theorem totF_end (fs : List Fl) (k : Nat) (h : fs.length ≤ k) : totF (fs.drop k) = 0 := by rw [List.drop_of_length_le h]; rfl
theorem totF_mem (fs : List Fl) (f : Fl) (h : f ∈ fs) : f.1.size + f.2.size ≤ totF fs := by
  induction fs with
  | nil => simp at h
  | cons g t ih =>
    have e : totF (g :: t) = (g.1.size + g.2.size) + totF t := by simp [totF]
    rw [e]
    rcases List.mem_cons.1 h with rfl | h
    · omega
    · have := ih h; omega
theorem ArgAt.file {W : World} {a : Option Addr} {xs : List Fl} (h : ArgAt 2 fileL W a xs) (i : Nat) (hi : i < xs.length) : ∃ g o, a = some ⟨g, o, none⟩ ∧ g < W.heap.size ∧ W.cell? ⟨g, o + i * 2, none⟩ = some (.string xs[i].1) ∧ W.cell? ⟨g, o + i * 2 + 1, none⟩ = some (.string xs[i].2) := by
  obtain ⟨g, o, e, hl, hc⟩ := h i hi
  exact ⟨g, o, e, hl, hc 0 (by decide), hc 1 (by decide)⟩
end Plain

theorem toFile_calls (nm dt : ByteArray) (w : World) : Calls Tryz.prog 74 #[.agg #[.string nm, .string dt]] w fun e w' => e = .returned (.agg #[.string nm, .string dt]) ∧ Below w.heap.size w w' := by
  go_enter Tryz.func74, Tryz.ntmps74
  go_wp2
  exact bodyPost_ret (v := .agg #[.string nm, .string dt]) (by simp [results, Tryz.results74, go_sem]) rfl ⟨rfl, (((Below.refl _ _).alloc (Nat.le_refl _) _).alloc (by simp) _).alloc (by simp; omega) _⟩

theorem szFile_calls (nm dt : ByteArray) (left : Nat) (w : World) (hl : left ≤ 10000000) (s1 : nm.size ≤ maxLen) (s2 : dt.size ≤ maxLen) :
    Calls Tryz.prog 65 #[.agg #[.string nm, .string dt], .int .i64 left] w fun e w' => e = .returned (.int .i64 (purse left (nm.size + dt.size))) ∧ Below w.heap.size w w' := by
  unfold maxLen at s1 s2
  have HB := hide (bel1 w (.cells #[.string nm, .string dt] 97))
  by_cases h1 : left < nm.size
  · rw [purse_no (by omega)]
    go_enter Tryz.func65, Tryz.ntmps65
    go_wp2
    go_ret
    exact ⟨rfl, unhide HB⟩
  · obtain ⟨r, hr⟩ : ∃ r : Nat, (left : Int) - (nm.size : Int) = (r : Int) := ⟨left - nm.size, by omega⟩
    rw [purse_step (by omega), hr]
    by_cases h2 : r < dt.size
    · rw [purse_no (by omega)]
      go_enter Tryz.func65, Tryz.ntmps65
      go_wp2
      go_ret
      exact ⟨rfl, unhide HB⟩
    · rw [purse_yes (by omega)]
      go_enter Tryz.func65, Tryz.ntmps65
      go_wp2
      go_ret
      exact ⟨rfl, unhide HB⟩

theorem eqFile_calls (nm dt : ByteArray) (w : World) : Calls Tryz.prog 88 #[.agg #[.string nm, .string dt], .agg #[.string nm, .string dt]] w fun e w' => e = .returned (.bool true) ∧ Below w.heap.size w w' := by
  have HB := hide (belOn (bel1 w (.cells #[.string nm, .string dt] 63)) (bel1 _ (.cells #[.string nm, .string dt] 63)))
  go_enter Tryz.func88, Tryz.ntmps88
  go_wp2_with fail
  go_ret
  exact ⟨rfl, unhide HB⟩

set_option maxRecDepth 10000 in
set_option maxHeartbeats 1000000 in
theorem toFileS_calls (a : Option Addr) (n c : Nat) (ls : List Fl) (w : World) (hn : ls.length = n) (hn2 : n ≤ 1048576) (h : ArgAt 2 fileL w a ls) :
    Calls Tryz.prog 28 #[.slice a n c] w fun e w' => ∃ g, e = .returned (.slice (some ⟨g, 0, none⟩) n n) ∧ OwnR fileE w' w.heap.size (.slice (some ⟨g, 0, none⟩) n n) ls ∧ Below w.heap.size w w' := by
  have H := hide h
  have HN := hide hn
  have hmk : (Instr.makeSlice 32 (.int .i64 n) (.int .i64 n)).run Tryz.prog w = _ := make_row fileE n w (by omega)
  have HO := hide (own_made fileE (⟨#[]⟩, ⟨#[]⟩) rfl n w (by omega))
  have hba : Below w.heap.size w (w.alloc (.cells (madeCells fileE.zero.cells (n * fileE.n)) fileE.E)) := bel1 _ _
  have HBA := hide hba
  have hlt : w.heap.size < (w.alloc (.cells (madeCells fileE.zero.cells (n * fileE.n)) fileE.E)).heap.size := by simp
  generalize w.alloc (.cells (madeCells fileE.zero.cells (n * fileE.n)) fileE.E) = wa at hmk HO HBA hlt hba
  clear h hn hba
  go_enter Tryz.func28, Tryz.ntmps28
  go_wp2_with fail
  go_loopw [4] (fun i wr => ∃ k : Nat, i = .int .i64 k ∧ k ≤ n ∧ Hid (OwnR fileE wr w.heap.size (.slice (some ⟨w.heap.size, 0, none⟩) n n) (ls.take k ++ List.replicate (n - k) (⟨#[]⟩, ⟨#[]⟩))) ∧ Hid (Below w.heap.size w wr)) (fun i _ => n - (intOf i).toNat)
  case atStart => exact ⟨0, rfl, by omega, hide (by simpa using unhide HO), HBA⟩
  case round =>
    obtain ⟨k, rfl, hk, HR, HB⟩ := hrel
    by_cases hlk : k < n
    · have hkl : k < ls.length := by rw [unhide HN]; exact hlk
      obtain ⟨g, o, e1, l1, p0, p1⟩ := ((unhide H).below (unhide HB)).file k hkl
      have hlen : (ls.take k ++ List.replicate (n - k) ((⟨#[]⟩, ⟨#[]⟩) : Fl)).length = n := by rw [List.length_append, List.length_take, List.length_replicate, unhide HN]; omega
      have hset : (ls.take k ++ List.replicate (n - k) ((⟨#[]⟩, ⟨#[]⟩) : Fl)).set k ls[k] = ls.take (k + 1) ++ List.replicate (n - (k + 1)) (⟨#[]⟩, ⟨#[]⟩) := by
        rw [List.set_append_right _ _ (by rw [List.length_take]; omega), List.length_take, show k - min k ls.length = 0 from by omega, show n - k = (n - (k + 1)) + 1 from by omega, List.replicate_succ, List.set_cons_zero, List.take_succ_eq_append_getElem hkl, List.append_assoc]
        rfl
      generalize (ls.take k ++ List.replicate (n - k) ((⟨#[]⟩, ⟨#[]⟩) : Fl)) = cur at HR hlen hset
      generalize ls[k] = x at p0 p1 hset
      obtain ⟨nm, dt⟩ := x
      simp only at p0 p1
      clear H hkl
      subst e1
      have i0 : (0 : Int) ≤ (k : Int) := by omega
      have i1 : (k : Int) < (n : Int) := by omega
      go_wp2_with fail
      refine (toFile_calls nm dt wr).mono ?_
      rintro e w1 ⟨rfl, hb1⟩
      have hR1 := (unhide HR).keep hb1
      have HB1 := hide (belOn (unhide HB) hb1)
      have hkc : k < cur.length := by omega
      obtain ⟨g', e2, l2, q0, q1⟩ := hR1.at.file k hkc
      obtain ⟨g'', e3, l3, z⟩ := hR1.at k hkc
      have hg : w.heap.size = g' := by simpa using e2
      subst hg
      have hg : w.heap.size = g'' := by simpa using e3
      subst hg
      have z0 : w1.frozen? ⟨w.heap.size, k * 2, none⟩ = false := (z 0 (by decide)).2
      have z1 : w1.frozen? ⟨w.heap.size, k * 2 + 1, none⟩ = false := (z 1 (by decide)).2
      have hR2 := hR1.setJ hlen k hkc 0 (by decide) (.string nm) (nm, cur[k].2) rfl
      have hR3 := hR2.setJ (by rw [List.length_set]; exact hlen) k (by rw [List.length_set]; exact hkc) 1 (by decide) (.string dt) (nm, dt) (by rw [List.getElem_set_self]; rfl)
      rw [List.set_set, hset] at hR3
      have HR3 := hide hR3
      generalize cur[k] = y at q0 q1
      clear hb1 hR1 hR2 hR3 HR HB z
      go_wp2_with fail
      go_roundw
      case rel => exact ⟨k + 1, by go_num, by omega, HR3, hide (((unhide HB1).setCell (Nat.le_refl _) _).setCell (Nat.le_refl _) _)⟩
      case measure => simp [intOf]; omega
    · obtain rfl : k = n := by omega
      have HF := hide (unhide HR)
      rw [show ls.take k ++ List.replicate (k - k) ((⟨#[]⟩, ⟨#[]⟩) : Fl) = ls from by rw [Nat.sub_self, List.replicate_zero, List.append_nil]; exact List.take_of_length_le (by rw [unhide HN]; exact Nat.le_refl _)] at HF
      clear HR
      go_wp2_with fail
      go_ret
      exact ⟨_, rfl, unhide HF, unhide HB⟩

set_option maxRecDepth 10000 in
set_option maxHeartbeats 1000000 in
theorem szFileS_calls (a : Option Addr) (n c : Nat) (ls : List Fl) (left : Nat) (w : World) (hn : ls.length = n) (hn2 : n ≤ 9223372036854775807) (hs : ∀ l ∈ ls, goodF l) (h1 : left ≤ 10000000) (h : ArgAt 2 fileL w a ls) :
    Calls Tryz.prog 24 #[.slice a n c, .int .i64 left] w fun e w' => e = .returned (.int .i64 (purse left (n + totF ls))) ∧ Below w.heap.size w w' := by
  have H := hide h
  have HN := hide hn
  have HS := hide hs
  clear h hn hs
  by_cases hlt : left < n
  · rw [purse_no (by omega)]
    go_enter Tryz.func24, Tryz.ntmps24
    go_wp2_with fail
    go_ret
    exact ⟨rfl, Below.refl _ _⟩
  · obtain ⟨L, hL⟩ : ∃ L : Nat, (left : Int) - (n : Int) = (L : Int) := ⟨left - n, by omega⟩
    rw [purse_step (by omega), hL]
    obtain ⟨R, hR⟩ : ∃ R, purse L (totF ls) = R := ⟨_, rfl⟩
    rw [hR]
    have HR0 := hide hR
    clear hR
    go_enter Tryz.func24, Tryz.ntmps24
    go_wp2_with fail
    go_loopw [1, 5] (fun l i wr => ∃ (k r : Nat), l = .int .i64 r ∧ i = .int .i64 k ∧ k ≤ n ∧ r ≤ 10000000 ∧ Hid (R = purse r (totF (ls.drop k))) ∧ Hid (Below w.heap.size w wr)) (fun _ i _ => n - (intOf i).toNat)
    case atStart => exact ⟨0, L, by rw [← hL], rfl, by omega, by omega, hide (unhide HR0).symm, hide (Below.refl _ _)⟩
    case round =>
      obtain ⟨k, r, rfl, rfl, hk, hr, HR, HB⟩ := hrel
      by_cases hlk : k < n
      · have hkl : k < ls.length := by rw [unhide HN]; exact hlk
        obtain ⟨g, o, e1, l1, p0, p1⟩ := ((unhide H).below (unhide HB)).file k hkl
        have hsz := unhide HS ls[k] (by simp)
        have hst := totF_drop ls k hkl
        generalize ls[k] = x at p0 p1 hsz hst
        obtain ⟨nm, dt⟩ := x
        simp only at p0 p1 hst
        have i0 : (0 : Int) ≤ (k : Int) := by omega
        have i1 : (k : Int) < (n : Int) := by omega
        have HR2 := unhide HR
        rw [hst] at HR2
        obtain ⟨s, hs⟩ : ∃ s, nm.size + dt.size = s := ⟨_, rfl⟩
        have HZ := hide (fun W => szFile_calls nm dt r W hr hsz.1 hsz.2)
        rw [hs] at HR2 HZ
        clear HR hst hsz hs
        by_cases hrx : r < s
        · rw [purse_no (by omega)] at HR2
          have HF := hide HR2
          rw [purse_no (show (r : Int) < (s : Int) by omega)] at HZ
          clear HR2
          subst e1
          go_wp2_with fail
          refine (unhide HZ _).mono ?_
          rintro e w1 ⟨rfl, hb1⟩
          have HB1 := hide (belOn (unhide HB) hb1)
          clear hb1
          go_wp2_with fail
          go_ret
          exact ⟨by rw [unhide HF]; rfl, unhide HB1⟩
        · obtain ⟨r', hr'⟩ : ∃ r' : Nat, (r : Int) - (s : Int) = (r' : Int) := ⟨r - s, by omega⟩
          rw [purse_step (by omega), hr'] at HR2
          have HF := hide HR2
          rw [purse_yes (show ¬ (r : Int) < (s : Int) by omega), hr'] at HZ
          clear HR2
          subst e1
          go_wp2_with fail
          refine (unhide HZ _).mono ?_
          rintro e w1 ⟨rfl, hb1⟩
          have HB1 := hide (belOn (unhide HB) hb1)
          clear hb1
          go_wp2_with fail
          go_roundw
          case rel => exact ⟨k + 1, r', rfl, by go_num, by omega, by omega, HF, HB1⟩
          case measure => simp [intOf]; omega
      · have HF := unhide HR
        rw [totF_end ls k (by rw [unhide HN]; omega), purse_yes (by omega)] at HF
        have HF2 := hide HF
        clear HF HR
        go_wp2_with fail
        go_ret
        exact ⟨by rw [unhide HF2]; simp, unhide HB⟩

set_option maxRecDepth 10000 in
set_option maxHeartbeats 1000000 in
theorem eqFileS_calls (a1 a2 : Option Addr) (c1 c2 n : Nat) (ls : List Fl) (w : World) (hn : ls.length = n) (hn2 : n ≤ 100000000) (h1 : RowAt fileE w a1 ls) (h2 : RowAt fileE w a2 ls) :
    Calls Tryz.prog 34 #[.slice a1 n c1, .slice a2 n c2] w fun e w' => e = .returned (.bool true) ∧ Below w.heap.size w w' := by
  have H1 := hide h1
  have H2 := hide h2
  have HN := hide hn
  clear h1 h2 hn
  go_enter Tryz.func34, Tryz.ntmps34
  go_wp2_with fail
  go_loopw [5] (fun i wr => ∃ (k : Nat), i = .int .i64 k ∧ k ≤ n ∧ Hid (Below w.heap.size w wr)) (fun i _ => n - (intOf i).toNat)
  case atStart => exact ⟨0, rfl, by omega, Below.refl _ _⟩
  case round =>
    obtain ⟨k, rfl, hk, HB⟩ := hrel
    by_cases hlt : k < n
    · have hkl : k < ls.length := by rw [unhide HN]; exact hlt
      obtain ⟨g1, e1, l1, p0, p1⟩ := ((unhide H1).below (unhide HB)).file k hkl
      obtain ⟨g2, e2, l2, q0, q1⟩ := ((unhide H2).below (unhide HB)).file k hkl
      generalize ls[k] = x at p0 p1 q0 q1
      obtain ⟨nm, dt⟩ := x
      simp only at p0 p1 q0 q1
      clear H1 H2 hkl
      subst e1 e2
      have i0 : (0 : Int) ≤ (k : Int) := by omega
      have i1 : (k : Int) < (n : Int) := by omega
      go_wp2_with fail
      go_region_with (go_at_call 88; refine (eqFile_calls nm dt _).mono ?_; rintro e w1 ⟨rfl, hb1⟩)
      all_goals (try go_wp2_with fail)
      all_goals exact ⟨⟨k + 1, by go_num, by omega, hide (belOn (unhide HB) (bOfDrew hb1))⟩, by simp [intOf]; omega⟩
    · obtain rfl : k = n := by omega
      go_wp2_with fail
      go_ret
      exact ⟨rfl, unhide HB⟩
end Go.Proofs.YtmgjkomgpkoenaaGreat
