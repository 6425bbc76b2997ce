/- Frames compared, marked and looked at again, as the exact laws do it. -/
import Derived.Test.YtlkkhhelonbcbaaRdK
import Derived.Test.YtlkkhhelonbcbaaFour
import Derived.Deep.RegionWith
namespace Go.Proofs.Ytlkkhhelonbcbaa
open Go.RowKit Plain
set_option linter.unusedVariables false

namespace Plain
/-- A number's decimal digits ahead of out. -/
def decB : Nat → Nat → ByteArray → ByteArray
  | 0, _, out => out
  | f + 1, k, out => if k = 0 then out else decB f (k / 10) (strOfNums [((48 + k % 10 : Nat) : Int)] ++ out)
def mtx (k : Nat) : ByteArray := ⟨#[109]⟩ ++ decB k k ⟨#[]⟩
theorem decB_zero (f : Nat) (out : ByteArray) : decB f 0 out = out := by cases f <;> simp [decB]
theorem decB_step (f k : Nat) (out : ByteArray) (h : 0 < k) (hf : k ≤ f) : ∃ f', f = f' + 1 ∧ k / 10 ≤ f' ∧ decB f k out = decB f' (k / 10) (strOfNums [((48 + k % 10 : Nat) : Int)] ++ out) := by
  obtain ⟨f', rfl⟩ : ∃ f', f = f' + 1 := ⟨f - 1, by omega⟩
  exact ⟨f', rfl, by omega, by rw [decB, if_neg (by omega)]⟩
end Plain

set_option maxHeartbeats 1000000 in
theorem markText_calls (k : Nat) (w : World) (h1 : 1 ≤ k) (h2 : k ≤ 1000000) :
    Calls Try.prog 73 #[.int .i64 k] w fun e w' => e = .returned (.string (mtx k)) ∧ Below w.heap.size w w' := by
  have hm : mtx k = ⟨#[109]⟩ ++ decB k k ⟨#[]⟩ := rfl
  have HM := hide hm
  clear hm
  have i1 : (1 : Int) ≤ (k : Int) := by omega
  go_enter Try.func73, Try.ntmps73
  go_wp2_with fail
  go_loopw [0, 3] (fun n t wr => ∃ (j f : Nat) (out : ByteArray), n = .int .i64 j ∧ t = .string out ∧ j + out.size ≤ k ∧ j ≤ f ∧ Hid (decB f j out = decB k k ⟨#[]⟩) ∧ Hid (Below w.heap.size w wr)) (fun n _ _ => (intOf n).toNat)
  case atStart => exact ⟨k, k, ⟨#[]⟩, rfl, rfl, Nat.le_refl _, Nat.le_refl _, rfl, Below.refl _ _⟩
  case round =>
    obtain ⟨j, f, out, rfl, rfl, hj, hf, HD, HB⟩ := hrel
    by_cases hj0 : 0 < j
    · obtain ⟨f', rfl, hf', hst⟩ := decB_step f j out hj0 hf
      have hnx := hide (hst.symm.trans (unhide HD))
      clear hst HD
      obtain ⟨d, hd⟩ : ∃ d, j % 10 = d := ⟨_, rfl⟩
      obtain ⟨q, hq⟩ : ∃ q, j / 10 = q := ⟨_, rfl⟩
      rw [hd, hq] at hnx
      rw [hq] at hf'
      have t1 : Int.tmod (j : Int) 10 = (d : Int) := by rw [← hd]; rfl
      have t2 : Int.tdiv (j : Int) 10 = (q : Int) := by rw [← hq]; rfl
      have hd10 : d < 10 := by omega
      have hqj : q < j := by omega
      have j0 : (0 : Int) < (j : Int) := by omega
      have hcv : ∀ W : World, (convert 22 9 (.slice (some ⟨W.heap.size, 0, none⟩) 1 1)).run Try.prog (W.alloc (.cells #[.int .u8 (48 + (d : Int))] 5)) = .ok (.string (strOfNums [48 + (d : Int)])) (W.alloc (.cells #[.int .u8 (48 + (d : Int))] 5)) := fun W => conv1 W _
      have hs1 : (strOfNums [48 + (d : Int)]).size = 1 := strOfNums_size _
      clear hd hq
      go_wp2_with fail
      go_roundw
      case rel => exact ⟨q, f', _, rfl, rfl, by rw [ByteArray.size_append, hs1]; omega, hf', hnx, hide ((unhide HB).alloc (unhide HB).size _)⟩
      case measure => simp [intOf]; omega
    · obtain rfl : j = 0 := by omega
      have hfin := unhide HD
      rw [decB_zero] at hfin
      have HF := hide hfin
      clear HD hfin
      go_wp2_with fail
      go_ret
      exact ⟨by rw [unhide HM, ← unhide HF]; rfl, unhide HB⟩

theorem markText_at (x : Int) (k : Nat) (w : World) (hx : x = (k : Int)) (h1 : 1 ≤ k) (h2 : k ≤ 1000000) :
    Calls Try.prog 73 #[.int .i64 x] w fun e w' => e = .returned (.string (mtx k)) ∧ Below w.heap.size w w' := by
  subst hx
  exact markText_calls k w h1 h2

theorem eqFrame_calls (k : Int) (b : ByteArray) (w : World) :
    Calls Try.prog 72 #[.agg #[.int .i64 k, .string b], .agg #[.int .i64 k, .string b]] w fun e w' => e = .returned (.bool true) ∧ Below w.heap.size w w' := by
  go_enter Try.func72, Try.ntmps72
  go_wp2_with fail
  go_ret
  exact ⟨rfl, ((Below.refl _ _).alloc (Nat.le_refl _) _).alloc (by simp) _⟩

namespace Plain
/-- The slice at a holds the frames fs, which may be written. -/
def FrAt (W : World) (a : Option Addr) (fs : List (Int × ByteArray)) : Prop := ∀ i (h : i < fs.length), ∃ g, a = some ⟨g, 0, none⟩ ∧ g < W.heap.size ∧
  W.cell? ⟨g, i * 2, none⟩ = some (.int .i64 (fs[i]).1) ∧ W.cell? ⟨g, i * 2 + 1, none⟩ = some (.string (fs[i]).2) ∧ W.frozen? ⟨g, i * 2, none⟩ = false ∧ W.frozen? ⟨g, i * 2 + 1, none⟩ = false
theorem FrAt.below {W W' : World} {a : Option Addr} {fs : List (Int × ByteArray)} (h : FrAt W a fs) (hb : Below W.heap.size W W') : FrAt W' a fs := fun i hi => by
  obtain ⟨g, e, hl, h1, h2, h3, h4⟩ := h i hi
  exact ⟨g, e, Nat.lt_of_lt_of_le hl hb.size, (hb.cell (p := ⟨g, i * 2, none⟩) hl).trans h1, (hb.cell (p := ⟨g, i * 2 + 1, none⟩) hl).trans h2, (hb.frozen (p := ⟨g, i * 2, none⟩) hl).trans h3, (hb.frozen (p := ⟨g, i * 2 + 1, none⟩) hl).trans h4⟩
end Plain
theorem OwnF.at {W : World} {B : Nat} {a : Option Addr} {n c : Nat} {fs : List (Int × ByteArray)} (h : OwnF W B (.slice a n c) fs) (hn : fs.length = n) : FrAt W a fs := by
  intro i hi
  subst hn
  rcases h.2 with ⟨e, h0⟩ | ⟨g, cap, cur, e, hg, hc, _⟩
  · omega
  · cases e
    have hlt : g < W.heap.size := by
      rcases Nat.lt_or_ge g W.heap.size with h | h
      · exact h
      · rw [Array.getElem?_eq_none h] at hc; cases hc
    have hf := fcells_get fs i hi
    exact ⟨g, rfl, hlt, (h.cellAt (i * 2) (by omega)).trans hf.1, (h.cellAt (i * 2 + 1) (by omega)).trans hf.2, h.frozenAt _, h.frozenAt _⟩

set_option maxHeartbeats 1000000 in
theorem eqFrames_calls (a1 a2 : Option Addr) (c1 c2 n : Nat) (fs : List (Int × ByteArray)) (w : World) (hn : fs.length = n) (hn2 : n ≤ 2000) (h1 : FrAt w a1 fs) (h2 : FrAt w a2 fs) :
    Calls Try.prog 46 #[.slice a1 n c1, .slice a2 n c2] w fun e w' => e = .returned (.bool true) ∧ Below w.heap.size w w' := by
  have H1 := hide h1
  have H2 := hide h2
  have HN := hide hn
  clear h1 h2 hn
  go_enter Try.func46, Try.ntmps46
  go_wp2_with fail
  go_loopw [5] (fun i wr => ∃ (k : Nat), i = .int .i64 k ∧ k ≤ n ∧ Hid (Below w.heap.size w wr)) (fun i _ => n - (intOf i).toNat)
  case atStart => exact ⟨0, rfl, by omega, Below.refl _ _⟩
  case round =>
    obtain ⟨k, rfl, hk, HB⟩ := hrel
    by_cases hlt : k < n
    · obtain ⟨g1, e1, l1, p1, p2, -, -⟩ := (unhide H1).below (unhide HB) k (by rw [unhide HN]; exact hlt)
      obtain ⟨g2, e2, l2, q1, q2, -, -⟩ := (unhide H2).below (unhide HB) k (by rw [unhide HN]; exact hlt)
      generalize (fs[k]'(by rw [unhide HN]; exact hlt)).1 = kd at p1 q1
      generalize (fs[k]'(by rw [unhide HN]; exact hlt)).2 = bd at p2 q2
      clear H1 H2
      subst e1 e2
      have i0 : (0 : Int) ≤ (k : Int) := by omega
      have i1 : (k : Int) < (n : Int) := by omega
      go_wp2_with fail
      go_region_with (go_at_call 72; refine (eqFrame_calls _ _ _).mono ?_; rintro e w2 ⟨rfl, hb2⟩)
      all_goals (try go_wp2_with fail)
      all_goals exact ⟨⟨k + 1, by go_num, by omega, hide ((unhide HB).trans ((below_of_drew hb2).mono (unhide HB).size))⟩, by simp [intOf]; omega⟩
    · obtain rfl : k = n := by omega
      go_wp2_with fail
      go_ret
      exact ⟨rfl, unhide HB⟩

namespace Plain
theorem FrAt.set1 {W : World} {g : Nat} {L : List (Int × ByteArray)} (h : FrAt W (some ⟨g, 0, none⟩) L) (k : Nat) (hk : k < L.length) (x : Int) : FrAt (W.setCell ⟨g, k * 2, none⟩ (.int .i64 x)) (some ⟨g, 0, none⟩) (L.set k (x, L[k].2)) := by
  intro i hi
  rw [List.length_set] at hi
  obtain ⟨g', e, hl, h1, h2, h3, h4⟩ := h i hi
  cases e
  refine ⟨g, rfl, by simpa using hl, ?_, ?_, by simpa using h3, by simpa using h4⟩
  · by_cases e : k = i
    · subst e
      rw [World.cell?_setCell_same' _ _ _ (by rw [h1]; rfl)]
      simp
    · rw [World.cell?_setCell_other _ ⟨g, k * 2, none⟩ ⟨g, i * 2, none⟩ _ (fun q => e (by have := congrArg Addr.off q; simp at this; omega)), h1]
      simp [e]
  · rw [World.cell?_setCell_other _ ⟨g, k * 2, none⟩ ⟨g, i * 2 + 1, none⟩ _ (fun q => by have := congrArg Addr.off q; simp at this; omega), h2]
    by_cases e : k = i
    · subst e; simp
    · simp [e]
theorem FrAt.set2 {W : World} {g : Nat} {L : List (Int × ByteArray)} (h : FrAt W (some ⟨g, 0, none⟩) L) (k : Nat) (hk : k < L.length) (y : ByteArray) : FrAt (W.setCell ⟨g, k * 2 + 1, none⟩ (.string y)) (some ⟨g, 0, none⟩) (L.set k (L[k].1, y)) := by
  intro i hi
  rw [List.length_set] at hi
  obtain ⟨g', e, hl, h1, h2, h3, h4⟩ := h i hi
  cases e
  refine ⟨g, rfl, by simpa using hl, ?_, ?_, by simpa using h3, by simpa using h4⟩
  · rw [World.cell?_setCell_other _ ⟨g, k * 2 + 1, none⟩ ⟨g, i * 2, none⟩ _ (fun q => by have := congrArg Addr.off q; simp at this; omega), h1]
    by_cases e : k = i
    · subst e; simp
    · simp [e]
  · by_cases e : k = i
    · subst e
      rw [World.cell?_setCell_same' _ _ _ (by rw [h2]; rfl)]
      simp
    · rw [World.cell?_setCell_other _ ⟨g, k * 2 + 1, none⟩ ⟨g, i * 2 + 1, none⟩ _ (fun q => e (by have := congrArg Addr.off q; simp at this; omega)), h2]
      simp [e]

/-- What the marking leaves. -/
def mkF (n : Nat) : List (Int × ByteArray) := (List.range n).map fun i : Nat => (2 * (i : Int) + 1, mtx (2 * i + 2))
theorem mkF_length (n : Nat) : (mkF n).length = n := by simp [mkF]
theorem mkF_get (n k : Nat) (h : k < (mkF n).length) : (mkF n)[k] = (2 * (k : Int) + 1, mtx (2 * k + 2)) := by simp [mkF]
def mixF (fs : List (Int × ByteArray)) (k : Nat) : List (Int × ByteArray) := mkF k ++ fs.drop k
theorem mixF_length (fs : List (Int × ByteArray)) (k : Nat) (h : k ≤ fs.length) : (mixF fs k).length = fs.length := by simp [mixF, mkF_length]; omega
theorem mixF_zero (fs : List (Int × ByteArray)) : mixF fs 0 = fs := by simp [mixF, mkF]
theorem mixF_end (fs : List (Int × ByteArray)) : mixF fs fs.length = mkF fs.length := by simp [mixF]
theorem mixF_next (fs : List (Int × ByteArray)) (k : Nat) (h : k < fs.length) : (mixF fs k).set k (2 * (k : Int) + 1, mtx (2 * k + 2)) = mixF fs (k + 1) := by
  have hl := mkF_length k
  unfold mixF
  rw [List.set_append_right _ _ (by omega), hl, Nat.sub_self, List.drop_eq_getElem_cons h, List.set_cons_zero]
  simp [mkF, List.range_succ]
end Plain

set_option maxHeartbeats 1000000 in
theorem markFrames_calls (a : Option Addr) (c n B : Nat) (fs : List (Int × ByteArray)) (w : World) (hn : fs.length = n) (hn2 : n ≤ 2000) (h1 : FrAt w a fs) (hB : ∀ g, a = some ⟨g, 0, none⟩ → 0 < n → B ≤ g) (hBw : B ≤ w.heap.size) :
    Calls Try.prog 47 #[.slice a n c, .int .i64 1] w fun e w' => e = .returned (.int .i64 (2 * (n : Int) + 1)) ∧ FrAt w' a (mkF n) ∧ Below B w w' := by
  have H1 := hide h1
  have HN := hide hn
  have HBG := hide hB
  clear h1 hn hB
  go_enter Try.func47, Try.ntmps47
  go_wp2_with fail
  go_loopw [1, 5] (fun m i wr => ∃ (k : Nat), i = .int .i64 k ∧ m = .int .i64 (2 * (k : Int) + 1) ∧ k ≤ n ∧ Hid (FrAt wr a (mixF fs k)) ∧ Hid (Below B w wr)) (fun _ i _ => n - (intOf i).toNat)
  case atStart => exact ⟨0, rfl, rfl, by omega, hide (by rw [mixF_zero]; exact unhide H1), Below.refl _ _⟩
  case round =>
    clear H1
    obtain ⟨k, rfl, rfl, hk, HF, HB⟩ := hrel
    by_cases hlt : k < n
    · have hfl : k < fs.length := by rw [unhide HN]; exact hlt
      have hml := mixF_length fs k (by omega)
      have hkl : k < (mixF fs k).length := by omega
      obtain ⟨g, e1, l1, p1, p2, z1, z2⟩ := unhide HF k hkl
      subst e1
      have hBg := unhide HBG g rfl (by omega)
      have hs1 := (unhide HF).set1 k hkl (2 * (k : Int) + 1)
      have hnx := hide (mixF_next fs k hfl)
      have HS1 := hide hs1
      clear hs1
      generalize ((mixF fs k)[k]).1 = x0 at p1
      have hbx : ∃ y0, ((mixF fs k)[k]).2 = y0 := ⟨_, rfl⟩
      obtain ⟨y0, hy0⟩ := hbx
      rw [hy0] at p2 HS1
      have i0 : (0 : Int) ≤ (k : Int) := by omega
      have i1 : (k : Int) < (n : Int) := by omega
      have i2 : (k : Int) ≤ 2000 := by omega
      have hset : ∀ y : ByteArray, (((mixF fs k).set k (2 * (k : Int) + 1, y0)).set k ((((mixF fs k).set k (2 * (k : Int) + 1, y0))[k]'(by simpa using hkl)).1, y)) = (mixF fs k).set k (2 * (k : Int) + 1, y) := fun y => by simp
      have HSET := hide hset
      clear hset hy0
      go_wp2_with fail
      rw [show (2 * (k : Int) + 1 + 1) = ((2 * k + 2 : Nat) : Int) from by omega]
      refine (markText_calls (2 * k + 2) _ (by omega) (by omega)).mono ?_
      rintro e w2 ⟨rfl, hb2⟩
      have hf2 := (unhide HS1).below hb2
      obtain ⟨g', e1, l2, r1, r2, y1, y2⟩ := hf2 k (by simpa using hkl)
      cases e1
      have HF2 := hide hf2
      have HB2 := hide (((unhide HB).setCell (p := ⟨g, k * 2, none⟩) hBg (.int .i64 (2 * (k : Int) + 1))).trans (hb2.mono (by simp; exact Nat.le_trans hBg (Nat.le_of_lt l1))))
      clear hb2 hf2 HS1 p1 p2 z1 z2 r1
      simp at r2
      go_wp2_with fail
      go_roundw
      case rel =>
        refine ⟨k + 1, by go_num, by go_num, by omega, hide ?_, hide ((unhide HB2).setCell (p := ⟨g, k * 2 + 1, none⟩) hBg _)⟩
        have h := (unhide HF2).set2 k (by simpa using hkl) (mtx (2 * k + 2))
        rw [unhide HSET, unhide hnx] at h
        exact h
      case measure => simp [intOf]; omega
    · obtain rfl : k = n := by omega
      have hF := unhide HF
      rw [← unhide HN, mixF_end, unhide HN] at hF
      have HF2 := hide hF
      clear hF HF
      go_wp2_with fail
      go_ret
      exact ⟨rfl, unhide HF2, unhide HB⟩

set_option maxHeartbeats 1000000 in
theorem heldFrames_calls (a : Option Addr) (c n : Nat) (w : World) (hn2 : n ≤ 2000) (h1 : FrAt w a (mkF n)) :
    Calls Try.prog 48 #[.slice a n c, .int .i64 1] w fun e w' => e = .returned (.int .i64 (2 * (n : Int) + 1)) ∧ Below w.heap.size w w' := by
  have H1 := hide h1
  clear h1
  go_enter Try.func48, Try.ntmps48
  go_wp2_with fail
  go_loopw [1, 5] (fun m i wr => ∃ (k : Nat), i = .int .i64 k ∧ m = .int .i64 (2 * (k : Int) + 1) ∧ k ≤ n ∧ Hid (Below w.heap.size w wr)) (fun _ i _ => n - (intOf i).toNat)
  case atStart => exact ⟨0, rfl, rfl, by omega, Below.refl _ _⟩
  case round =>
    obtain ⟨k, rfl, rfl, hk, HB⟩ := hrel
    by_cases hlt : k < n
    · have hkl : k < (mkF n).length := by rw [mkF_length]; exact hlt
      obtain ⟨g, e1, l1, p1, p2, -, -⟩ := (unhide H1).below (unhide HB) k hkl
      rw [mkF_get n k hkl] at p1 p2
      simp only at p1 p2
      clear H1
      subst e1
      have i0 : (0 : Int) ≤ (k : Int) := by omega
      have i1 : (k : Int) < (n : Int) := by omega
      have i2 : (k : Int) ≤ 2000 := by omega
      go_wp2_with fail
      go_region_with (go_at_call 73; refine (markText_at _ (2 * k + 2) _ (by omega) (by omega) (by omega)).mono ?_; rintro e w2 ⟨rfl, hb2⟩; have r2 := ((below_of_drew hb2).cell (p := ⟨g, k * 2 + 1, none⟩) l1).trans p2)
      all_goals (try go_wp2_with fail)
      all_goals exact ⟨⟨k + 1, by go_num, by go_num, by omega, hide ((unhide HB).trans ((below_of_drew hb2).mono (unhide HB).size))⟩, by simp [intOf]; omega⟩
    · obtain rfl : k = n := by omega
      go_wp2_with fail
      go_ret
      exact ⟨rfl, unhide HB⟩
end Go.Proofs.Ytlkkhhelonbcbaa
