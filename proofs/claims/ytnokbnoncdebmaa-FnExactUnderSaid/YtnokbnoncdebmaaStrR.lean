/- Rows of texts, as the exact laws copy, measure and compare them. -/
import Derived.Test.YtnokbnoncdebmaaGen
import Derived.Test.YtnokbnoncdebmaaCut
import Derived.Laws.OwnMore
import Derived.Laws.MakeOwn
namespace Go.Proofs.Ytnokbnoncdebmaa
open Go.RowKit Plain
set_option linter.unusedVariables false

namespace Plain
/-- The slice at a holds the texts ls. -/
def StrsAt (W : World) (a : Option Addr) (ls : List ByteArray) : Prop := ∀ i (h : i < ls.length), ∃ g o, a = some ⟨g, o, none⟩ ∧ g < W.heap.size ∧ W.cell? ⟨g, o + i, none⟩ = some (.string ls[i])
theorem StrsAt.below {W W' : World} {a : Option Addr} {ls : List ByteArray} (h : StrsAt W a ls) (hb : Below W.heap.size W W') : StrsAt W' a ls := fun i hi => by
  obtain ⟨g, o, e, hl, hc⟩ := h i hi
  exact ⟨g, o, e, Nat.lt_of_lt_of_le hl hb.size, (hb.cell (p := ⟨g, o + i, none⟩) hl).trans hc⟩
theorem StrsAt.via {W W' : World} {B : Nat} {a : Option Addr} {ls : List ByteArray} (h : StrsAt W a ls) (hb : Below B W W') (hB : W.heap.size ≤ B) : StrsAt W' a ls := h.below (hb.mono hB)
/-- An argument that is a slice of texts. -/
def StrsRow (W : World) (a : Option Addr) (n c : Nat) (ls : List ByteArray) : Prop := ls.length = n ∧ n ≤ maxLen ∧ (∀ l ∈ ls, l.size ≤ maxLen) ∧ StrsAt W a ls
theorem StrsAt.of_cells {W : World} {x : Addr} {ss : List ByteArray} {n : Nat} (hn : n ≤ ss.length) (h : ∀ i, i < ss.length → W.cell? (x.add i) = some (.string (ss.getD i ByteArray.empty))) : StrsAt W (some x) (ss.take n) := by
  intro i hi
  rw [List.length_take] at hi
  have hc := h i (by omega)
  obtain ⟨b, off, spot⟩ := x
  have hspot : spot = none := by simpa [Addr.add] using World.cell?_spot (h 0 (by omega))
  subst hspot
  rw [show (⟨b, off, none⟩ : Addr).add i = ⟨b, off + i, none⟩ from by unfold Addr.add; split <;> simp_all] at hc
  refine ⟨b, off, rfl, lt_of_cell hc, ?_⟩
  rw [hc, List.getElem_take, List.getD, List.getElem?_eq_getElem (show i < ss.length by omega), Option.getD_some]
theorem StrsAt.nil (W : World) (a : Option Addr) : StrsAt W a [] := fun i h => by simp at h
end Plain
theorem RowAt.strs {W : World} {a : Option Addr} {xs : List ByteArray} (h : RowAt strE W a xs) : StrsAt W a xs := fun i hi => by
  obtain ⟨g, e, hl, hc, hf⟩ := h.str i hi
  exact ⟨g, 0, e, hl, by rw [Nat.zero_add]; exact hc⟩

theorem flat_str (xs : List ByteArray) : xs.flatMap strE.enc = xs.map Value.string := by
  show xs.flatMap (fun s => [Value.string s]) = _
  induction xs with
  | nil => rfl
  | cons x l ih => rw [List.flatMap_cons, ih]; rfl
theorem OwnR.setS {W : World} {B g n cap k : Nat} {xs : List ByteArray} (h : OwnR strE W B (.slice (some ⟨g, 0, none⟩) n cap) xs) (hn : xs.length = n) (y : ByteArray) :
    OwnR strE (W.setCell ⟨g, k, none⟩ (.string y)) B (.slice (some ⟨g, 0, none⟩) n cap) (xs.set k y) := by
  unfold OwnR at h ⊢
  rw [flat_str] at h ⊢
  rw [List.length_set]
  subst hn
  rw [List.map_set]
  exact (World.ownsRow.stored h k (.string y)).1
def zerosS (n : Nat) : Array Value := madeCells #[.string ⟨#[]⟩] (n * 1)
theorem make_strs (n : Nat) (w : World) (hn : n ≤ 10000000) : (Instr.makeSlice 22 (.int .i64 n) (.int .i64 n)).run Try.prog w = .ok (.slice (some ⟨w.heap.size, 0, none⟩) n n) (w.alloc (.cells (zerosS n) 9)) := by
  obtain ⟨i0, hi, hz0, hz1, hz2⟩ := info_parts strE.hinfo
  have hb : i0.bytes = 16 := hz2
  have := run_make w 22 9 i0 (.string ⟨#[]⟩) Try.underlying22 hi hz0 .i64 .i64 n n (by omega) (by omega) (by rw [hb]; omega) (by omega)
  have hs : i0.size = 1 := hz1
  rw [hs] at this
  exact this
theorem own_zerosS (n : Nat) (w : World) (hn : n ≤ 10000000) : OwnR strE (w.alloc (.cells (zerosS n) 9)) w.heap.size (.slice (some ⟨w.heap.size, 0, none⟩) n n) (List.replicate n ⟨#[]⟩) := by
  unfold OwnR
  rw [flat_str, List.length_replicate]
  have := World.ownsRow_lit (base := w.heap.size) (e := 9) (size := 1) w (zerosS n) n (Nat.le_refl _) (by unfold maxLen; omega) (by simp [zerosS, size_madeCells])
  rw [show (zerosS n).toList = (List.replicate n (⟨#[]⟩ : ByteArray)).map Value.string from by
    unfold zerosS; rw [toList_madeCells_one, Nat.mul_one, List.map_replicate]] at this
  exact this

set_option maxHeartbeats 1000000 in
theorem toStringS_calls (a : Option Addr) (n c : Nat) (ls : List ByteArray) (w : World) (hn : ls.length = n) (hn2 : n ≤ 1048576) (h : StrsAt w a ls) :
    Calls Try.prog 8 #[.slice a n c] w fun e w' => ∃ g, e = .returned (.slice (some ⟨g, 0, none⟩) n n) ∧ OwnR strE w' w.heap.size (.slice (some ⟨g, 0, none⟩) n n) ls ∧ Below w.heap.size w w' := by
  have H := hide h
  have HN := hide hn
  have hmk := make_strs n w (by omega)
  have HO := hide (own_zerosS n w (by omega))
  have hba : Below w.heap.size w (w.alloc (.cells (zerosS n) 9)) := (Below.refl _ _).alloc (Nat.le_refl _) _
  have HBA := hide hba
  have hlt : w.heap.size < (w.alloc (.cells (zerosS n) 9)).heap.size := by simp
  generalize w.alloc (.cells (zerosS n) 9) = wa at hmk HO HBA hlt hba
  clear h hn hba
  go_enter Try.func8, Try.ntmps8
  go_wp2_with fail
  go_loopw [4] (fun i wr => ∃ k : Nat, i = .int .i64 k ∧ k ≤ n ∧ Hid (OwnR strE wr w.heap.size (.slice (some ⟨w.heap.size, 0, none⟩) n n) (ls.take k ++ List.replicate (n - k) ⟨#[]⟩)) ∧ Hid (Below w.heap.size w wr)) (fun i _ => n - (intOf i).toNat)
  case atStart => exact ⟨0, rfl, by omega, hide (by simpa using unhide HO), HBA⟩
  case round =>
    obtain ⟨k, rfl, hk, HR, HB⟩ := hrel
    by_cases hlk : k < n
    · obtain ⟨g, o, e1, l1, p1⟩ := (unhide H).below (unhide HB) k (by rw [unhide HN]; exact hlk)
      have hkl : k < ls.length := by rw [unhide HN]; exact hlk
      have hlen : (ls.take k ++ List.replicate (n - k) (⟨#[]⟩ : ByteArray)).length = n := by rw [List.length_append, List.length_take, List.length_replicate, unhide HN]; omega
      have hset : (ls.take k ++ List.replicate (n - k) (⟨#[]⟩ : ByteArray)).set k ls[k] = ls.take (k + 1) ++ List.replicate (n - (k + 1)) ⟨#[]⟩ := by
        rw [List.set_append_right _ _ (by rw [List.length_take]; omega), List.length_take, show k - min k ls.length = 0 from by omega, show n - k = (n - (k + 1)) + 1 from by omega, List.replicate_succ, List.set_cons_zero, List.take_succ_eq_append_getElem hkl, List.append_assoc]
        rfl
      obtain ⟨g', e2, l2, p2, p3⟩ := (unhide HR).at.str k (by rw [hlen]; exact hlk)
      have hg : w.heap.size = g' := by simpa using e2
      subst hg
      have HR2 := hide ((unhide HR).setS (k := k) hlen ls[k])
      rw [hset] at HR2
      generalize ls[k] = x at p1 HR2
      generalize (ls.take k ++ List.replicate (n - k) (⟨#[]⟩ : ByteArray))[k]'(by rw [hlen]; exact hlk) = y at p2
      clear H HR hset hlen hkl
      subst e1
      have i0 : (0 : Int) ≤ (k : Int) := by omega
      have i1 : (k : Int) < (n : Int) := by omega
      go_wp2_with fail
      go_roundw
      case rel => exact ⟨k + 1, by go_num, by omega, HR2, hide ((unhide HB).setCell (Nat.le_refl _) _)⟩
      case measure => simp [intOf]; omega
    · obtain rfl : k = n := by omega
      have HF := hide (unhide HR)
      rw [show ls.take k ++ List.replicate (k - k) (⟨#[]⟩ : ByteArray) = ls from by rw [Nat.sub_self, List.replicate_zero, List.append_nil]; exact List.take_of_length_le (by rw [unhide HN]; exact Nat.le_refl _)] at HF
      clear HR
      go_wp2_with fail
      go_ret
      exact ⟨_, rfl, unhide HF, unhide HB⟩

namespace Plain
def sumZ (ls : List ByteArray) : Nat := (ls.map fun l => l.size).sum
/-- What is left of a purse behind a row of texts; less than nought: it was too small. -/
def szL (ls : List ByteArray) (left : Int) : Int := if left < ls.length + sumZ ls then -1 else left - (ls.length + sumZ ls)
theorem sumZ_cons (x : ByteArray) (ls : List ByteArray) : sumZ (x :: ls) = x.size + sumZ ls := by simp [sumZ]
theorem sumZ_drop (ls : List ByteArray) (k : Nat) (h : k < ls.length) : sumZ (ls.drop k) = ls[k].size + sumZ (ls.drop (k + 1)) := by rw [List.drop_eq_getElem_cons h, sumZ_cons]
theorem sumZ_end (ls : List ByteArray) (k : Nat) (h : ls.length ≤ k) : sumZ (ls.drop k) = 0 := by rw [List.drop_of_length_le h]; rfl
theorem sumZ_mem (ls : List ByteArray) (x : ByteArray) (h : x ∈ ls) : x.size ≤ sumZ ls := by
  induction ls with
  | nil => simp at h
  | cons y l ih =>
    rw [sumZ_cons]
    rcases List.mem_cons.1 h with rfl | h
    · omega
    · have := ih h; omega
end Plain

set_option maxHeartbeats 1000000 in
theorem szStringS_calls (a : Option Addr) (n c : Nat) (ls : List ByteArray) (left : Int) (w : World) (hn : ls.length = n) (hn2 : n ≤ 9223372036854775807) (hs : ∀ l ∈ ls, l.size ≤ 9223372036854775807) (h0 : 0 ≤ left) (h1 : left ≤ 10000000) (h : StrsAt w a ls) :
    Calls Try.prog 6 #[.slice a n c, .int .i64 left] w fun e w' => e = .returned (.int .i64 (szL ls left)) ∧ Below w.heap.size w w' := by
  have H := hide h
  have HN := hide hn
  have HS := hide hs
  have HZ : szL ls left = if left < ((n + sumZ ls : Nat) : Int) then -1 else left - ((n + sumZ ls : Nat) : Int) := by unfold szL; rw [hn]; rfl
  clear h hn hs
  by_cases hlt : left < (n : Int)
  · rw [show szL ls left = -1 from by rw [HZ, if_pos (by omega)]]
    clear HZ
    go_enter Try.func6, Try.ntmps6
    go_wp2_with fail
    go_ret
    exact ⟨rfl, Below.refl _ _⟩
  · have HZZ := hide HZ
    clear HZ
    obtain ⟨L, hL⟩ : ∃ L : Nat, left - (n : Int) = (L : Int) := ⟨(left - n).toNat, by omega⟩
    go_enter Try.func6, Try.ntmps6
    go_wp2_with fail
    go_loopw [1, 5] (fun l i wr => ∃ (k r : Nat), l = .int .i64 r ∧ i = .int .i64 k ∧ k ≤ n ∧ r ≤ 10000000 ∧ Hid (szL ls left = if (r : Int) < ((sumZ (ls.drop k) : Nat) : Int) then -1 else (r : Int) - ((sumZ (ls.drop k) : Nat) : Int)) ∧ Hid (Below w.heap.size w wr)) (fun _ i _ => n - (intOf i).toNat)
    case atStart =>
      refine ⟨0, L, by rw [← hL], rfl, by omega, by omega, hide ?_, hide (Below.refl _ _)⟩
      rw [unhide HZZ, List.drop_zero]
      by_cases hc : left < ((n + sumZ ls : Nat) : Int)
      · rw [if_pos hc, if_pos (by omega)]
      · rw [if_neg hc, if_neg (by omega)]
        omega
    case round =>
      obtain ⟨k, r, rfl, rfl, hk, hr, HR, HB⟩ := hrel
      by_cases hlk : k < n
      · have hkl : k < ls.length := by rw [unhide HN]; exact hlk
        obtain ⟨g, o, e1, l1, p1⟩ := (unhide H).below (unhide HB) k hkl
        have hsz := unhide HS ls[k] (by simp)
        have hst := sumZ_drop ls k hkl
        generalize ls[k] = x at p1 hsz hst
        have i0 : (0 : Int) ≤ (k : Int) := by omega
        have i1 : (k : Int) < (n : Int) := by omega
        have HR2 := unhide HR
        rw [hst] at HR2
        clear HR hst
        by_cases hrx : r < x.size
        · rw [if_pos (by omega)] at HR2
          have HF := hide HR2
          clear HR2
          subst e1
          go_wp2_with fail
          go_ret
          exact ⟨by rw [unhide HF]; rfl, unhide HB⟩
        · obtain ⟨r', hr'⟩ : ∃ r' : Nat, (r : Int) - (x.size : Int) = (r' : Int) := ⟨r - x.size, by omega⟩
          have HF := hide (show szL ls left = if (r' : Int) < ((sumZ (ls.drop (k + 1)) : Nat) : Int) then -1 else (r' : Int) - ((sumZ (ls.drop (k + 1)) : Nat) : Int) from by
            rw [HR2]
            by_cases hc : (r : Int) < ((x.size + sumZ (ls.drop (k + 1)) : Nat) : Int)
            · rw [if_pos hc, if_pos (by omega)]
            · rw [if_neg hc, if_neg (by omega)]; omega)
          clear HR2
          subst e1
          go_wp2_with fail
          go_roundw
          case rel => exact ⟨k + 1, r', by rw [← hr'], by go_num, by omega, by omega, HF, HB⟩
          case measure => simp [intOf]; omega
      · have HF := unhide HR
        rw [sumZ_end ls k (by rw [unhide HN]; omega), if_neg (by omega)] at HF
        have HF2 := hide HF
        clear HF HR
        go_wp2_with fail
        go_ret
        exact ⟨by rw [unhide HF2]; simp, unhide HB⟩

set_option maxHeartbeats 1000000 in
theorem eqStringS_calls (a1 a2 : Option Addr) (c1 c2 n : Nat) (ls : List ByteArray) (w : World) (hn : ls.length = n) (hn2 : n ≤ 100000000) (h1 : StrsAt w a1 ls) (h2 : StrsAt w a2 ls) :
    Calls Try.prog 10 #[.slice a1 n c1, .slice a2 n c2] w fun e w' => e = .returned (.bool true) ∧ Below w.heap.size w w' := by
  have H1 := hide h1
  have H2 := hide h2
  have HN := hide hn
  clear h1 h2 hn
  go_enter Try.func10, Try.ntmps10
  go_wp2_with fail
  go_loopw [5] (fun i wr => ∃ (k : Nat), i = .int .i64 k ∧ k ≤ n ∧ Hid (Below w.heap.size w wr)) (fun i _ => n - (intOf i).toNat)
  case atStart => exact ⟨0, rfl, by omega, Below.refl _ _⟩
  case round =>
    obtain ⟨k, rfl, hk, HB⟩ := hrel
    by_cases hlt : k < n
    · obtain ⟨g1, o1, e1, l1, p1⟩ := (unhide H1).below (unhide HB) k (by rw [unhide HN]; exact hlt)
      obtain ⟨g2, o2, e2, l2, p2⟩ := (unhide H2).below (unhide HB) k (by rw [unhide HN]; exact hlt)
      generalize (ls[k]'(by rw [unhide HN]; exact hlt)) = x at p1 p2
      clear H1 H2
      subst e1 e2
      have i0 : (0 : Int) ≤ (k : Int) := by omega
      have i1 : (k : Int) < (n : Int) := by omega
      go_wp2_with fail
      go_region
      all_goals (try go_wp2_with fail)
      all_goals exact ⟨⟨k + 1, by go_num, by omega, hide (belDrew (unhide HB))⟩, by simp [intOf]; omega⟩
    · obtain rfl : k = n := by omega
      go_wp2_with fail
      go_ret
      exact ⟨rfl, unhide HB⟩
end Go.Proofs.Ytnokbnoncdebmaa
