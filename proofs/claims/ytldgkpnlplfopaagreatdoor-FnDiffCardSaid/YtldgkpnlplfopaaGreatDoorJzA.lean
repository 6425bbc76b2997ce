/- Texts of one kind, put together. -/
import Derived.Test.YtldgkpnlplfopaaGreatDoorRzA
import Derived.Test.YtldgkpnlplfopaaGreatDoorHzA
import Derived.Test.YtldgkpnlplfopaaGreatDoorShlJ
import Derived.Lib.Builder
import Derived.Lib.AppendStr
import Derived.Laws.Externs
import Derived.Lib.Join
import Derived.Test.YtldgkpnlplfopaaGreatDoorNzA

/- Manifests as plain mathematics: when one is right, its text, what is read of a text. -/
namespace Go.Proofs.YtldgkpnlplfopaaGreatDoor
open Go.RowKit Plain
set_option linter.unusedVariables false
namespace Plain
def cfgH : ByteArray := ⟨#[99, 111, 110, 102, 105, 103, 32]⟩
def layH : ByteArray := ⟨#[108, 97, 121, 101, 114, 32]⟩
def nlB : ByteArray := ⟨#[10]⟩
def manB (c : ByteArray) (ls : List ByteArray) : Bool := digB c && (decide (1 ≤ ls.length) && decide (ls.length ≤ 40)) && ls.all digB
def laysS : ByteArray → List ByteArray → ByteArray
  | acc, [] => acc
  | acc, l :: ls => laysS (acc ++ (layH ++ l ++ nlB)) ls
def manS (c : ByteArray) (ls : List ByteArray) : ByteArray := if manB c ls then laysS (cfgH ++ c ++ nlB) ls else ⟨#[]⟩
theorem laysS_snoc (acc : ByteArray) (ls : List ByteArray) (x : ByteArray) : laysS acc (ls ++ [x]) = laysS acc ls ++ (layH ++ x ++ nlB) := by
  induction ls generalizing acc with
  | nil => rfl
  | cons l ls ih => rw [List.cons_append, laysS, laysS, ih]
theorem digB_71 {s : ByteArray} (h : digB s = true) : s.size = 71 := by
  unfold digB at h
  simp at h
  exact h.1.1
theorem laysS_size (acc : ByteArray) (ls : List ByteArray) (h : ∀ l ∈ ls, l.size ≤ 71) : (laysS acc ls).size ≤ acc.size + 78 * ls.length := by
  induction ls generalizing acc with
  | nil => simp [laysS]
  | cons l ls ih =>
    rw [laysS]
    have := ih (acc ++ (layH ++ l ++ nlB)) (fun x hx => h x (by simp [hx]))
    have h1 := h l (by simp)
    rw [ByteArray.size_append, ByteArray.size_append, ByteArray.size_append, show layH.size = 6 from rfl, show nlB.size = 1 from rfl] at this
    rw [List.length_cons]
    omega
theorem manB_lays {c : ByteArray} {ls : List ByteArray} (h : manB c ls = true) : digB c = true ∧ 1 ≤ ls.length ∧ ls.length ≤ 40 ∧ ∀ l ∈ ls, digB l = true := by
  unfold manB at h
  simp at h
  exact ⟨h.1.1, h.1.2.1, h.1.2.2, h.2⟩
theorem manB_mk {c : ByteArray} {ls : List ByteArray} (h1 : digB c = true) (h2 : 1 ≤ ls.length) (h3 : ls.length ≤ 40) (h4 : ∀ l ∈ ls, digB l = true) : manB c ls = true := by
  unfold manB
  simp
  exact ⟨⟨h1, h2, h3⟩, h4⟩
theorem manS_size (c : ByteArray) (ls : List ByteArray) : (manS c ls).size ≤ 4000 := by
  unfold manS
  split
  · next h =>
    obtain ⟨h1, h2, h3, h4⟩ := manB_lays h
    have := laysS_size (cfgH ++ c ++ nlB) ls (fun l hl => by have := digB_71 (h4 l hl); omega)
    rw [ByteArray.size_append, ByteArray.size_append, show cfgH.size = 7 from rfl, show nlB.size = 1 from rfl, digB_71 h1] at this
    omega
  · decide
theorem all_step {α : Type} (p : α → Bool) (l : List α) (k : Nat) (h : k < l.length) : (l.drop k).all p = (p l[k] && (l.drop (k + 1)).all p) := by
  rw [List.drop_eq_getElem_cons h, List.all_cons]
theorem all_end {α : Type} (p : α → Bool) (l : List α) (k : Nat) (h : l.length ≤ k) : (l.drop k).all p = true := by
  rw [List.drop_of_length_le h, List.all_nil]
theorem take_snoc {α : Type} (l : List α) (k : Nat) (h : k < l.length) : l.take (k + 1) = l.take k ++ [l[k]] := List.take_succ_eq_append_getElem h

/-- A line of its head and a digest. -/
def okL (h p : ByteArray) : Bool := decide (h.size ≤ p.size) && ((p.extract 0 h.size).toList == h.toList) && digB (p.extract h.size p.size)
def laysOk : List ByteArray → Bool
  | [] => false
  | [q] => emp q
  | q :: q' :: qs => okL layH q && laysOk (q' :: qs)
def laysOf : List ByteArray → List ByteArray
  | [] => []
  | [_] => []
  | q :: q' :: qs => q.extract 6 q.size :: laysOf (q' :: qs)
def rmV : List ByteArray → ByteArray × List ByteArray × Int
  | [] => (⟨#[]⟩, [], 1)
  | p :: qs => if okL cfgH p && laysOk qs then (if 1 ≤ (laysOf qs).length ∧ (laysOf qs).length ≤ 40 then (p.extract 7 p.size, laysOf qs, 0) else (⟨#[]⟩, [], 2)) else (⟨#[]⟩, [], 1)
theorem laysOk_cons (q : ByteArray) (qs : List ByteArray) (h : qs ≠ []) : laysOk (q :: qs) = (okL layH q && laysOk qs) := by
  cases qs with
  | nil => exact absurd rfl h
  | cons a b => rfl
theorem laysOf_cons (q : ByteArray) (qs : List ByteArray) (h : qs ≠ []) : laysOf (q :: qs) = q.extract 6 q.size :: laysOf qs := by
  cases qs with
  | nil => exact absurd rfl h
  | cons a b => rfl
theorem laysOf_dig (qs : List ByteArray) (h : laysOk qs = true) : ∀ l ∈ laysOf qs, digB l = true := by
  induction qs with
  | nil => simp [laysOf]
  | cons q qs ih =>
    by_cases hq : qs = []
    · subst hq; simp [laysOf]
    · rw [laysOk_cons q qs hq] at h
      rw [laysOf_cons q qs hq]
      simp at h
      intro l hl
      rcases List.mem_cons.1 hl with rfl | hl
      · have := h.1; unfold okL at this; simp at this; exact this.2
      · exact ih h.2 l hl
theorem laysOf_len (qs : List ByteArray) : (laysOf qs).length = qs.length - 1 := by
  induction qs with
  | nil => rfl
  | cons q qs ih =>
    by_cases hq : qs = []
    · subst hq; rfl
    · rw [laysOf_cons q qs hq, List.length_cons, ih, List.length_cons]
      have : 0 < qs.length := List.length_pos_iff.2 hq
      omega
theorem laysOk_last (qs : List ByteArray) (h : laysOk qs = true) : ∃ (hk : qs.length - 1 < qs.length), emp (qs[qs.length - 1]'hk) = true := by
  induction qs with
  | nil => simp [laysOk] at h
  | cons q qs ih =>
    by_cases hq : qs = []
    · subst hq; exact ⟨by simp, by simpa [laysOk] using h⟩
    · rw [laysOk_cons q qs hq] at h
      simp at h
      obtain ⟨hk, he⟩ := ih h.2
      have hp : 0 < qs.length := List.length_pos_iff.2 hq
      refine ⟨by simp, ?_⟩
      simp only [List.length_cons]
      have e : qs.length + 1 - 1 = (qs.length - 1) + 1 := by omega
      rw [show (q :: qs)[qs.length + 1 - 1]'(by simp) = qs[qs.length - 1] from by simp only [e, List.getElem_cons_succ]]
      exact he
/-- The text's first line and the rest, at the first newline. -/
theorem cutB_at (s : ByteArray) (j : Nat) (hj : fd 10 10 s.data.toList = j) (hlt : j < s.size) : cutB 10 s = s.extract 0 j :: cutB 10 (s.extract (j + 1) s.size) := by
  have hl : j < s.data.toList.length := by rw [len_data]; exact hlt
  have e : s.data.toList = s.data.toList.take j ++ s.data.toList[j] :: s.data.toList.drop (j + 1) := by
    have := mid_cons s.data.toList 0 j hl (Nat.zero_le _)
    simpa using this
  unfold cutB
  conv => lhs; rw [e]
  rw [splt_at 10 _ _ _ (by have := fd_at 10 10 s.data.toList (by rw [hj]; exact hl); simp only [hj] at this; omega) (fun x hx => by
    obtain ⟨i, hi, rfl⟩ := List.getElem_of_mem hx
    rw [List.length_take] at hi
    rw [List.getElem_take]
    have := fd_ahead 10 10 s.data.toList i (by omega) (by omega)
    omega), List.map_cons, ext_mid, ext_mid]
  simp only [List.drop_zero, Nat.sub_zero, toB_list]
  rw [List.take_of_length_le (show (s.data.toList.drop (j + 1)).length ≤ s.size - (j + 1) from by rw [List.length_drop, len_data]; omega)]
theorem cutB_end (s : ByteArray) (hj : s.size ≤ fd 10 10 s.data.toList) : cutB 10 s = [s] := by
  unfold cutB
  rw [splt_end 10 _ (fun x hx => by
    obtain ⟨i, hi, rfl⟩ := List.getElem_of_mem hx
    have := fd_ahead 10 10 s.data.toList i (by rw [len_data] at hi; omega) hi
    omega)]
  rfl
theorem cutB_ne (s : ByteArray) : cutB 10 s ≠ [] := by
  unfold cutB
  obtain ⟨h, t, e⟩ := splt_ne 10 s.data.toList
  rw [e]
  simp
theorem cutB_emp (s : ByteArray) (h : emp s = true) : cutB 10 s = [⟨#[]⟩] := by
  rw [emp_eq h]; rfl
end Plain
end Go.Proofs.YtldgkpnlplfopaaGreatDoor


/- Manifests: when one is right, and its text: both programs by their contracts. -/
namespace Go.Proofs.YtldgkpnlplfopaaGreatDoor
open Go.RowKit Plain
set_option linter.unusedVariables false

namespace Plain
theorem bel1 (w : World) (o : Obj) : Below w.heap.size w (w.alloc o) := (Below.refl _ _).alloc (Nat.le_refl _) _
theorem bcl {w w' : World} {B : Nat} (h : Below B w w') {g i : Nat} {v : Value} (hg : g < B) (hc : w.cell? ⟨g, i, none⟩ = some v) : w'.cell? ⟨g, i, none⟩ = some v := (h.cell (p := ⟨g, i, none⟩) hg).trans hc
theorem belOn {w W W' : World} (h0 : Below w.heap.size w W) (h1 : Below W.heap.size W W') : Below w.heap.size w W' := h0.trans (h1.mono h0.size)
end Plain









end Go.Proofs.YtldgkpnlplfopaaGreatDoor

/- A strings.Builder that grows and is written to, by this program. -/
namespace Go.Proofs.YtldgkpnlplfopaaGreatDoor
open Go.RowKit Plain
set_option linter.unusedVariables false

theorem sizeBld : (Tryz.prog.info? 111).map (·.size) = some 2 := by kernel_rfl
theorem liesBld : liesAt Tryz.prog Tryz.prog.depth 111 (2 / Tryz.prog.cellsOf 111) 0 111 1 = true := by kernel_rfl
theorem infoU8 : (Tryz.prog.info? 5).map (fun i => (i.zero, i.size, i.bytes)) = some (some (.int .u8 0), 1, 1) := by kernel_rfl

set_option maxHeartbeats 1000000 in
set_option maxRecDepth 100000 in
theorem copyCheck_calls (B b : Nat) (bs : List Value) (w : World) (h : Lib.IsBuilder 111 5 B b bs w) :
    Calls Tryz.prog 97 #[.pointer (some ⟨b, 0, none⟩)] w fun e w' => e = .returned (.tuple #[]) ∧ (Lib.BuilderAt 111 5 B b (.pointer (some ⟨b, 0, none⟩)) bs w' ∧ Below B w w') := by
  obtain ⟨j, hj, hjs⟩ := Option.map_eq_some_iff.1 sizeBld
  rcases h with h | h
  · have h0 := h.cell0
    have hsh := h.shape
    have hfz := h.frozen0
    have HH := hide h
    clear h
    go_enter Tryz.func97, Tryz.ntmps97
    go_wp2
    rw [Lib.run_to_unsafe w ⟨b, 0, none⟩ Tryz.underlying109 Tryz.underlying146 hj (by rw [hjs]; decide) hsh (Nat.zero_lt_succ 1)]
    simp only [Result.andThen]
    rw [Oper.upon_value]
    go_wp2
    rw [run_callFunc_extern Tryz.func106 (by kernel_rfl) (by kernel_rfl) (by kernel_rfl) (e := Extern.AbiNoEscape.same) (by kernel_rfl)]
    rw [Lib.run_noEscape]
    simp only [Result.andThen]
    rw [Oper.upon_value]
    go_wp2
    rw [Lib.run_from_unsafe w ⟨b, 0, none⟩ Tryz.underlying146 Tryz.underlying109 hj hsh liesBld]
    simp only [Result.andThen]
    rw [Oper.upon_value]
    go_wp2
    go_end0
    exact ⟨rfl, (unhide HH).used _, (Below.refl B w).setCell (p := ⟨b, 0, none⟩) (unhide HH).1 _⟩
  · have h0 := h.cell0
    have HH := hide h
    clear h
    go_enter Tryz.func97, Tryz.ntmps97
    go_wp2
    rw [Lib.run_neq_ptr_same w _ Tryz.underlying109 hj]
    go_wp2
    go_end0
    exact ⟨rfl, unhide HH, Below.refl B _⟩

set_option maxHeartbeats 1000000 in
set_option maxRecDepth 100000 in
theorem WriteString_calls (B b : Nat) (bs : List Value) (s : ByteArray) (w : World) (h : Lib.IsBuilder 111 5 B b bs w) (hlen : bs.length + s.size ≤ 100000000) (hBw : B ≤ w.heap.size) :
    Calls Tryz.prog 81 #[.pointer (some ⟨b, 0, none⟩), .string s] w fun e w' => e = .returned (.tuple #[.int .i64 s.size, .nilIface]) ∧ (Lib.BuilderAt 111 5 B b (.pointer (some ⟨b, 0, none⟩)) (bs ++ Lib.strCells s) w' ∧ Below B w w') := by
  obtain ⟨i0, hi, hz0, hz1, hz2⟩ := info_parts infoU8
  have HC := hide (copyCheck_calls B b bs w h)
  clear h
  go_enter Tryz.func81, Tryz.ntmps81
  go_wp2_with fail
  refine (unhide HC).mono ?_
  rintro e w1 ⟨rfl, h1, hb1⟩
  obtain ⟨hB, v, hbk, hown, hne⟩ := h1
  have c0 : w1.cell? ⟨b, 0, none⟩ = some (.pointer (some ⟨b, 0, none⟩)) := by rw [Lib.cell_of_heap hbk]; rfl
  have c1 : w1.cell? ⟨b, 1, none⟩ = some v := by rw [Lib.cell_of_heap hbk]; rfl
  have hz := hb1.size
  go_wp2_with (at_builtin; refine Lib.wpList_append_own_string _ rfl _ _ 22 9 rfl B 5 i0 Tryz.underlying22 Tryz.underlying9 hi hz0 hz1 hz2 _ _ _ rfl hown s rfl ?c3 ?c4 ?c5 ?_)
  case c3 => unfold maxLen; omega
  case c4 => omega
  case c5 => omega
  intro v' w2 hown2 hgrow _
  have hlt : b < w1.heap.size := by
    rcases Nat.lt_or_ge b w1.heap.size with h' | h'
    · exact h'
    · simp [Array.getElem?_eq_none h'] at hbk
  have hb2 : w2.heap[b]? = some (.cells #[.pointer (some ⟨b, 0, none⟩), v] 111 (0, 0)) := (hgrow.block b hlt (fun e => hne e.symm)).trans hbk
  have d0 : w2.cell? ⟨b, 0, none⟩ = some (.pointer (some ⟨b, 0, none⟩)) := by rw [Lib.cell_of_heap hb2]; rfl
  have d1 : w2.cell? ⟨b, 1, none⟩ = some v := by rw [Lib.cell_of_heap hb2]; rfl
  have f1 : w2.frozen? ⟨b, 1, none⟩ = false := Lib.frozen_of_heap hb2 1
  obtain ⟨ao, n2, cap, rfl⟩ : ∃ ao n2 cap, v' = .slice ao n2 cap := by
    rcases hown2.2 with ⟨hv, _⟩ | ⟨g, cap, cur, hv, _⟩
    · exact ⟨_, _, _, hv⟩
    · exact ⟨_, _, _, hv⟩
  go_wp2
  go_ret2
  refine ⟨rfl, Lib.BuilderAt.put (T := 111) (e := 5) hB hb2 (bs' := bs ++ Lib.strCells s) (by simpa [Lib.strCells_length] using hown2) (by decide), ?_⟩
  exact (hb1.grown hgrow (by omega) (fun k hk => (hown.lt k hk).1)).setCell (p := ⟨b, 1, none⟩) hB _

theorem bldExtra : Builder.Extra Tryz.prog Tryz.lays169_ren where
  sizeBuilder := by kernel_rfl
  liesBuilder := by kernel_rfl
  t5 := Tryz.underlying5
  a5 := Tryz.isAgg5
  z5 := Tryz.sizeOf5
  v5 := Tryz.zeroValue5
  infoByte := by kernel_rfl
  cellsByte := by kernel_rfl
  sizeByte := by kernel_rfl
  neB5 := by decide
theorem BString_calls (B b : Nat) (l : List UInt8) (w : World) (h : Lib.IsBuilder 111 5 B b (Lib.byteCells l) w) (hBw : B ≤ w.heap.size) :
    Calls Tryz.prog 82 #[.pointer (some ⟨b, 0, none⟩)] w fun e w' => e = .returned (.string ⟨l.toArray⟩) ∧ Below B w w' := Any.Builder_String_any Tryz.lays169 bldExtra B b l w h hBw

theorem bldExtraG : Builder.Extra Tryz.prog Tryz.lays241_ren where
  sizeBuilder := by kernel_rfl
  liesBuilder := by kernel_rfl
  t5 := Tryz.underlying5
  a5 := Tryz.isAgg5
  z5 := Tryz.sizeOf5
  v5 := Tryz.zeroValue5
  infoByte := by kernel_rfl
  cellsByte := by kernel_rfl
  sizeByte := by kernel_rfl
  neB5 := by decide
theorem Bgrow_calls (B b n : Nat) (w : World) (hB : B ≤ b) (hbk : w.heap[b]? = some (.cells #[.pointer (some ⟨b, 0, none⟩), .slice none 0 0] 111 (0, 0))) (hBw : B ≤ w.heap.size) (hn : n ≤ 281474976710656) :
    Calls Tryz.prog 98 #[.pointer (some ⟨b, 0, none⟩), .int .i64 n] w fun e w' => e = .returned (.tuple #[]) ∧ (Lib.BuilderAt 111 5 B b (.pointer (some ⟨b, 0, none⟩)) [] w' ∧ Below B w w') := Any.Builder_grow_fresh Tryz.lays241 bldExtraG B b n w hB hbk hBw hn

set_option maxHeartbeats 1000000 in
set_option maxRecDepth 100000 in
theorem copyFresh_calls (b : Nat) (w : World) (hbk : w.heap[b]? = some (.cells #[.pointer none, .slice none 0 0] 111 (0, 0))) :
    Calls Tryz.prog 97 #[.pointer (some ⟨b, 0, none⟩)] w fun e w' => e = .returned (.tuple #[]) ∧ w' = w.setCell ⟨b, 0, none⟩ (.pointer (some ⟨b, 0, none⟩)) := by
  obtain ⟨j, hj, hjs⟩ := Option.map_eq_some_iff.1 sizeBld
  have h : Lib.BuilderAt 111 5 b b (.pointer none) [] w := ⟨Nat.le_refl _, _, hbk, World.ownsRow_nil _ _ _ _, by simp [Value.ownBlock]⟩
  have h0 := h.cell0
  have hsh := h.shape
  have hfz := h.frozen0
  clear h hbk
  go_enter Tryz.func97, Tryz.ntmps97
  go_wp2
  rw [Lib.run_to_unsafe w ⟨b, 0, none⟩ Tryz.underlying109 Tryz.underlying146 hj (by rw [hjs]; decide) hsh (Nat.zero_lt_succ 1)]
  simp only [Result.andThen]
  rw [Oper.upon_value]
  go_wp2
  rw [run_callFunc_extern Tryz.func106 (by kernel_rfl) (by kernel_rfl) (by kernel_rfl) (e := Extern.AbiNoEscape.same) (by kernel_rfl)]
  rw [Lib.run_noEscape]
  simp only [Result.andThen]
  rw [Oper.upon_value]
  go_wp2
  rw [Lib.run_from_unsafe w ⟨b, 0, none⟩ Tryz.underlying146 Tryz.underlying109 hj hsh liesBld]
  simp only [Result.andThen]
  rw [Oper.upon_value]
  go_wp2
  go_end0
  exact ⟨rfl, rfl⟩

set_option maxHeartbeats 1000000 in
set_option maxRecDepth 100000 in
theorem BGrow_calls (b n : Nat) (w : World) (hbk : w.heap[b]? = some (.cells #[.pointer none, .slice none 0 0] 111 (0, 0))) (hn : n ≤ 1000000000) (hbw : b < w.heap.size) :
    Calls Tryz.prog 80 #[.pointer (some ⟨b, 0, none⟩), .int .i64 n] w fun e w' => e = .returned (.tuple #[]) ∧ (Lib.IsBuilder 111 5 b b [] w' ∧ Below b w w') := by
  have HC := hide (copyFresh_calls b w hbk)
  obtain ⟨W1, hW1⟩ : ∃ W1, W1 = w.setCell ⟨b, 0, none⟩ (.pointer (some ⟨b, 0, none⟩)) := ⟨_, rfl⟩
  have hbk1 : W1.heap[b]? = some (.cells #[.pointer (some ⟨b, 0, none⟩), .slice none 0 0] 111 (0, 0)) := by rw [hW1]; simp [World.setCell, Array.getElem?_modify, hbk]
  have hb1 : Below b w W1 := by rw [hW1]; exact (Below.refl b w).setCell (p := ⟨b, 0, none⟩) (Nat.le_refl _) _
  have c1 : W1.cell? ⟨b, 1, none⟩ = some (.slice none 0 0) := by rw [Lib.cell_of_heap hbk1]; rfl
  have hz1 : b < W1.heap.size := Nat.lt_of_lt_of_le hbw hb1.size
  rw [← hW1] at HC
  have HB1 := hide hb1
  have HK := hide hbk1
  have HG := hide (fun q => Bgrow_calls b b n (W1.drewN q) (Nat.le_refl _) (unhide HK) (by simp; omega) (by omega))
  clear hW1 hbk hb1 hbk1
  go_enter Tryz.func80, Tryz.ntmps80
  go_wp2_with fail
  refine (unhide HC).mono ?_
  rintro e w1 ⟨rfl, rfl⟩
  by_cases h0 : 0 < n
  · have h1 : (0 : Int) < (n : Int) := by omega
    go_wp2_with fail
    go_region
    all_goals (try go_wp2_with fail)
    all_goals
      refine (unhide HG 1).mono ?_
      rintro e w2 ⟨rfl, hA, hb2⟩
      have HB2 := hide ((belDrew (unhide HB1)).trans hb2)
      have HA := hide hA
      clear hA hb2
      go_wp2_with fail
      go_end0
      exact ⟨rfl, .inr (unhide HA), unhide HB2⟩
  · obtain rfl : n = 0 := by omega
    go_wp2_with fail
    go_region
    all_goals (try go_wp2_with fail)
    all_goals
      go_end0
      exact ⟨rfl, .inr ⟨Nat.le_refl _, _, unhide HK, World.ownsRow_nil _ _ _ _, by simp [Value.ownBlock]⟩, belDrew (unhide HB1)⟩
end Go.Proofs.YtldgkpnlplfopaaGreatDoor


/- strings.Join, by this program. -/
namespace Go.Proofs.YtldgkpnlplfopaaGreatDoor
open Go.RowKit Plain
set_option linter.unusedVariables false

namespace Plain
def lsL (xs : List ByteArray) : List (List UInt8) := xs.map fun x => x.data.toList
/-- Texts with a mark between each two. -/
def joinT (xs : List ByteArray) (sep : ByteArray) : ByteArray := ⟨(Lib.join (lsL xs) sep.data.toList).toArray⟩
theorem mk_toList (x : ByteArray) : (⟨x.data.toList.toArray⟩ : ByteArray) = x := ByteArray.ext (by simp)
end Plain

set_option maxRecDepth 100000 in
set_option maxHeartbeats 2000000 in
theorem join1_calls (g c : Nat) (x sep : ByteArray) (w : World) (hr : w.cell? ⟨g, 0, none⟩ = some (.string x)) :
    Calls Tryz.prog 72 #[.slice (some ⟨g, 0, none⟩) 1 c, .string sep] w fun e w' => e = .returned (.string (joinT [x] sep)) ∧ Below w.heap.size w w' := by
  have HE := hide (show joinT [x] sep = x from by unfold joinT lsL; rw [List.map_cons, List.map_nil, Lib.join_one, mk_toList])
  rw [unhide HE]
  go_enter Tryz.func72, Tryz.ntmps72
  go_wp2_with fail
  go_ret
  exact ⟨rfl, Below.refl _ _⟩

set_option maxRecDepth 100000 in
set_option maxHeartbeats 4000000 in
theorem join2_calls (g n c : Nat) (x0 : ByteArray) (r : List ByteArray) (sep : ByteArray) (w : World) (hn : r.length + 1 = n) (h2 : 2 ≤ n) (hn2 : n ≤ 1000) (hc : n ≤ c) (hs1 : 1 ≤ sep.size) (hs2 : sep.size ≤ 10) (hl : (Lib.join (lsL (x0 :: r)) sep.data.toList).length ≤ 10000000) (hr : RowAt strE w (some ⟨g, 0, none⟩) (x0 :: r)) :
    Calls Tryz.prog 72 #[.slice (some ⟨g, 0, none⟩) n c, .string sep] w fun e w' => e = .returned (.string (joinT (x0 :: r) sep)) ∧ Below w.heap.size w w' := by
  have hss : sep.data.toList.length = sep.size := by simp
  have hwhole : Lib.join (lsL (x0 :: r)) sep.data.toList = x0.data.toList ++ Lib.joinTail sep.data.toList (lsL r) := by unfold lsL; rw [List.map_cons, Lib.join_cons]
  have hjl := Lib.join_length x0.data.toList (lsL r) sep.data.toList
  have hll : (lsL r).length = n - 1 := by unfold lsL; rw [List.length_map]; omega
  have hxs : lsL (x0 :: r) = x0.data.toList :: lsL r := rfl
  rw [hxs] at hl
  rw [hss, hll] at hjl
  obtain ⟨M, hM⟩ : ∃ M, sep.size * (n - 1) = M := ⟨_, rfl⟩
  rw [hM] at hjl
  have hMb : M + Lib.lens (x0.data.toList :: lsL r) ≤ 10000000 := by omega
  have hcast : ((n : Int) - 1) = ((n - 1 : Nat) : Int) := by omega
  have hdv : ¬ (9223372036854775807 / ((n : Int) - 1) ≤ (sep.size : Int)) := by
    have h3 : (9223372036854775807 : Int) / ((n : Int) - 1) ≥ 9223372036854775807 / 1000 := by
      apply Int.le_ediv_of_mul_le (by omega)
      have : (9223372036854775807 : Int) / 1000 * ((n : Int) - 1) ≤ 9223372036854775807 / 1000 * 1000 := Int.mul_le_mul_of_nonneg_left (by omega) (by decide)
      exact Int.le_trans this (by decide)
    omega
  have hprod : wrap64 ((sep.size : Int) * ((n : Int) - 1)) = (M : Int) := by
    have e : (sep.size : Int) * ((n - 1 : Nat) : Int) = ((sep.size * (n - 1) : Nat) : Int) := (Int.natCast_mul _ _).symm
    rw [hcast, e, hM]
    unfold wrap64
    omega
  have hne0 : ((n : Int) == 0) = false := by rw [beq_eq_false_iff_ne]; omega
  have hne1 : ((n : Int) == 1) = false := by rw [beq_eq_false_iff_ne]; omega
  have HC := hide (fun (W : World) (hW : Below w.heap.size w W) (k : Nat) (x : ByteArray) (hk : (x0 :: r)[k]? = some x) => (show W.cell? ⟨g, k, none⟩ = some (.string x) from by
    obtain ⟨h1, h3⟩ := List.getElem?_eq_some_iff.1 hk
    obtain ⟨g', e1, _, p0, _⟩ := (hr.below hW).str k h1
    cases e1
    rw [p0, h3]))
  have HLX := hide (fun (k : Nat) (x : ByteArray) (hk : (x0 :: r)[k]? = some x) => (show Lib.lens ((x0.data.toList :: lsL r).take (k + 1)) = Lib.lens ((x0.data.toList :: lsL r).take k) + x.size from by
    have := Lib.lens_take_succ (lsL (x0 :: r)) k x.data.toList (by unfold lsL; rw [List.getElem?_map, hk]; rfl)
    rw [hxs] at this
    rw [this]
    simp))
  have HLE := hide (fun (k : Nat) => Lib.lens_take_le (x0.data.toList :: lsL r) k)
  have HTT := hide (show (x0.data.toList :: lsL r).take n = x0.data.toList :: lsL r from List.take_of_length_le (by rw [List.length_cons, hll]; omega))
  have HWH := hide hwhole
  have HL := hide hl
  have hdvd := decide_eq_false hdv
  have HN := hide hn
  clear hjl hwhole hss hM hl hcast hr hll hxs hn
  go_enter Tryz.func72, Tryz.ntmps72
  go_wp2_with fail
  go_loop [5, 41] (fun a i => ∃ k : Nat, k ≤ n ∧ i = .int .i64 k ∧ a = .int .i64 ((M + Lib.lens ((x0.data.toList :: lsL r).take k) : Nat) : Int)) (fun _ i => n - (intOf i).toNat)
  case atStart => exact ⟨0, by omega, rfl, by first | (simp [Lib.lens]; done) | skip⟩
  case round =>
    obtain ⟨k, hk, rfl, rfl⟩ := hrel
    by_cases hkn : k < n
    · have hkl : k < (x0 :: r).length := by rw [List.length_cons, unhide HN]; exact hkn
      have hxk : (x0 :: r)[k]? = some (x0 :: r)[k] := List.getElem?_eq_getElem hkl
      generalize (x0 :: r)[k] = x at hxk
      have hcx := unhide HC _ (Below.refl _ _) k x hxk
      have hst := unhide HLX k x hxk
      have hle := unhide HLE (k + 1)
      generalize hA1 : Lib.lens ((x0.data.toList :: lsL r).take (k + 1)) = A1 at hst hle
      have HA1 := hide hA1
      clear hA1
      generalize Lib.lens ((x0.data.toList :: lsL r).take k) = A0 at hst
      generalize Lib.lens (x0.data.toList :: lsL r) = AA at hle hMb
      have i0 : (0 : Int) ≤ (k : Int) := by omega
      have i1 : (k : Int) < (n : Int) := by omega
      have hA : ((M + A0 : Nat) : Int) + (x.size : Int) = ((M + A1 : Nat) : Int) := by omega
      have hgt : ¬ ((9223372036854775807 : Int) - ((M + A0 : Nat) : Int) < (x.size : Int)) := by omega
      generalize M + A0 = B0 at hA hgt ⊢
      generalize hB1 : M + A1 = B1 at hA
      have HB1 := hide hB1
      have hb1 : B1 ≤ 10000000 := by omega
      clear hB1 hst hle hxk hkl
      go_wp2_with fail
      go_round
      case rel => exact ⟨k + 1, by omega, by go_num, by rw [unhide HA1, unhide HB1]⟩
      case measure => simp [intOf]; omega
    · obtain rfl : k = n := by omega
      rw [unhide HTT]
      generalize M + Lib.lens (x0.data.toList :: lsL r) = T at hMb
      have hx0 := unhide HC _ (Below.refl _ _) 0 x0 rfl
      have HBA := hide (show Below w.heap.size w (w.alloc (.cells #[.pointer none, .slice none 0 0] 111)) from (Below.refl _ _).alloc (Nat.le_refl _) _)
      have HGR := hide (BGrow_calls w.heap.size T (w.alloc (.cells #[.pointer none, .slice none 0 0] 111)) (MapKept.heap_alloc w _).1 (by omega) (by simp))
      clear hMb hdv hprod hdvd hkn hk HLX HLE
      go_wp2_with fail
      refine (unhide HGR).mono ?_
      rintro e w1 ⟨rfl, hB1, hb1⟩
      have HB1 := hide hB1
      have HW1 := hide ((unhide HBA).trans hb1)
      have hc0 := unhide HC _ (unhide HW1) 0 x0 rfl
      have hz1 : w.heap.size ≤ w1.heap.size := (unhide HW1).size
      have HTL := hide (fun (q : Nat) => (show (x0.data.toList ++ Lib.joinTail sep.data.toList ((lsL r).take q)).length ≤ 10000000 from by
        have h3 := unhide HL
        have h4 := unhide HWH
        have h5 : lsL (x0 :: r) = x0.data.toList :: lsL r := rfl
        rw [h5] at h4
        rw [h4, List.length_append] at h3
        have h6 := Lib.joinTail_take_le sep.data.toList (lsL r) q
        rw [List.length_append]
        omega))
      have HS1 := hide (WriteString_calls w.heap.size w.heap.size [] x0 w1 (unhide HB1) (by have := unhide HTL 0; rw [List.length_append] at this; simp at this ⊢; omega) hz1)
      clear hB1 hb1 hx0 HGR HBA HTT
      go_wp2_with fail
      refine (unhide HS1).mono ?_
      rintro e w2 ⟨rfl, hB2, hb2⟩
      have hst0 : ([] : List Value) ++ Lib.strCells x0 = Lib.byteCells (x0.data.toList ++ Lib.joinTail sep.data.toList ((lsL r).take 0)) := by simp [Lib.joinTail, Lib.strCells_eq]
      rw [hst0] at hB2
      have HB2 := hide (Or.inr hB2 : Lib.IsBuilder 111 5 w.heap.size w.heap.size _ w2)
      have HW2 := hide ((unhide HW1).trans hb2)
      clear hB2 hb2 hst0 HS1 hc0 HB1 HW1 hz1
      obtain ⟨m, hm⟩ : ∃ m : Nat, (k : Int) - 1 = (m : Int) := ⟨k - 1, by omega⟩
      have hmr : r.length = m := by have := unhide HN; omega
      have HMR := hide hmr
      have hmb : m ≤ 1000 := by omega
      obtain ⟨c', hc'⟩ : ∃ c' : Nat, (c : Int) - 1 = (c' : Int) := ⟨c - 1, by omega⟩
      have hcc : ((c : Int) == 1) = false := by rw [beq_eq_false_iff_ne]; omega
      have hk1 : (1 : Int) ≤ (k : Int) := by omega
      have hkc : (k : Int) ≤ (c : Int) := by omega
      clear hmr
      go_wp2_with fail
      go_loopw [65] (fun i wr => ∃ q : Nat, q ≤ m ∧ i = .int .i64 q ∧ Hid (Lib.IsBuilder 111 5 w.heap.size w.heap.size (Lib.byteCells (x0.data.toList ++ Lib.joinTail sep.data.toList ((lsL r).take q))) wr) ∧ Hid (Below w.heap.size w wr)) (fun i _ => m - (intOf i).toNat)
      case atStart => exact ⟨0, by omega, rfl, HB2, HW2⟩
      case round =>
        obtain ⟨q, hq, rfl, HBq, HWq⟩ := hrel
        by_cases hqm : q < m
        · have hql : q < r.length := by rw [unhide HMR]; exact hqm
          have hyq : r[q]? = some r[q] := List.getElem?_eq_getElem hql
          generalize r[q] = y at hyq
          have hcy := unhide HC _ (unhide HWq) (q + 1) y (by rw [List.getElem?_cons_succ]; exact hyq)
          have hcy2 : wr.cell? ⟨g, 1 + q, none⟩ = some (.string y) := by rw [Nat.add_comm]; exact hcy
          have hts := Lib.joinTail_take_succ sep.data.toList (lsL r) q y.data.toList (by unfold lsL; rw [List.getElem?_map, hyq]; rfl)
          have hln := unhide HTL (q + 1)
          have HNX := hide (show Lib.byteCells (x0.data.toList ++ Lib.joinTail sep.data.toList ((lsL r).take q)) ++ Lib.strCells sep ++ Lib.strCells y = Lib.byteCells (x0.data.toList ++ Lib.joinTail sep.data.toList ((lsL r).take (q + 1))) from by
            rw [hts, Lib.strCells_eq, Lib.strCells_eq, ← Lib.byteCells_append, ← Lib.byteCells_append]
            congr 1
            simp [List.append_assoc])
          rw [hts] at hln
          have hl2 : (Lib.byteCells (x0.data.toList ++ Lib.joinTail sep.data.toList ((lsL r).take q))).length + sep.size + y.size ≤ 10000000 := by
            rw [Lib.byteCells_length]
            simp only [List.length_append, ← Lib.size_eq] at hln ⊢
            omega
          have hzq : w.heap.size ≤ wr.heap.size := (unhide HWq).size
          generalize Lib.byteCells (x0.data.toList ++ Lib.joinTail sep.data.toList ((lsL r).take q)) = cs at HBq HNX hl2
          have HS1 := hide (WriteString_calls w.heap.size w.heap.size cs sep wr (unhide HBq) (by omega) hzq)
          have i0 : (0 : Int) ≤ (q : Int) := by omega
          have i1 : (q : Int) < (m : Int) := by omega
          clear hts hln hyq hql
          go_wp2_with fail
          refine (unhide HS1).mono ?_
          rintro e w3 ⟨rfl, hB3, hb3⟩
          have HW3 := hide ((unhide HWq).trans hb3)
          have HS2 := hide (WriteString_calls w.heap.size w.heap.size (cs ++ Lib.strCells sep) y w3 (.inr hB3) (by rw [List.length_append, Lib.strCells_length]; omega) (Nat.le_trans hzq hb3.size))
          clear hB3 hb3 HS1
          go_wp2_with fail
          refine (unhide HS2).mono ?_
          rintro e w4 ⟨rfl, hB4, hb4⟩
          rw [unhide HNX] at hB4
          have HB4 := hide (Or.inr hB4 : Lib.IsBuilder 111 5 w.heap.size w.heap.size _ w4)
          have HW4 := hide ((unhide HW3).trans hb4)
          clear hB4 hb4 HS2
          go_wp2_with fail
          go_roundw
          case rel => exact ⟨q + 1, by omega, by go_num, HB4, HW4⟩
          case measure => simp [intOf]; omega
        · obtain rfl : q = m := by omega
          have hB5 := unhide HBq
          rw [show (lsL r).take q = lsL r from List.take_of_length_le (by unfold lsL; rw [List.length_map, unhide HMR]; exact Nat.le_refl _), ← unhide HWH] at hB5
          have HS3 := hide (BString_calls w.heap.size w.heap.size _ wr hB5 (unhide HWq).size)
          clear hB5 HBq
          go_wp2_with fail
          refine (unhide HS3).mono ?_
          rintro e w5 ⟨rfl, hb5⟩
          have HW5 := hide ((unhide HWq).trans hb5)
          clear hb5
          go_wp2_with fail
          go_ret
          exact ⟨rfl, unhide HW5⟩
end Go.Proofs.YtldgkpnlplfopaaGreatDoor


/- strings.Join with nothing between, by this program. -/
namespace Go.Proofs.YtldgkpnlplfopaaGreatDoor
open Go.RowKit Plain
set_option linter.unusedVariables false

set_option maxRecDepth 100000 in
set_option maxHeartbeats 4000000 in
theorem join2z_calls (g n c : Nat) (x0 : ByteArray) (r : List ByteArray) (sep : ByteArray) (w : World) (hn : r.length + 1 = n) (h2 : 2 ≤ n) (hn2 : n ≤ 1000) (hc : n ≤ c) (hs0 : sep.size = 0) (hl : (Lib.join (lsL (x0 :: r)) sep.data.toList).length ≤ 10000000) (hr : RowAt strE w (some ⟨g, 0, none⟩) (x0 :: r)) :
    Calls Tryz.prog 72 #[.slice (some ⟨g, 0, none⟩) n c, .string sep] w fun e w' => e = .returned (.string (joinT (x0 :: r) sep)) ∧ Below w.heap.size w w' := by
  have hss : sep.data.toList.length = sep.size := by simp
  have hwhole : Lib.join (lsL (x0 :: r)) sep.data.toList = x0.data.toList ++ Lib.joinTail sep.data.toList (lsL r) := by unfold lsL; rw [List.map_cons, Lib.join_cons]
  have hjl := Lib.join_length x0.data.toList (lsL r) sep.data.toList
  have hll : (lsL r).length = n - 1 := by unfold lsL; rw [List.length_map]; omega
  have hxs : lsL (x0 :: r) = x0.data.toList :: lsL r := rfl
  rw [hxs] at hl
  rw [hss, hll] at hjl
  obtain ⟨M, hM⟩ : ∃ M, sep.size * (n - 1) = M := ⟨_, rfl⟩
  rw [hM] at hjl
  have hMb : M + Lib.lens (x0.data.toList :: lsL r) ≤ 10000000 := by omega
  have hM0 : M = 0 := by rw [← hM, hs0]; simp
  have hsep : ¬ ((0 : Int) < (sep.size : Int)) := by omega
  subst hM0
  have hne0 : ((n : Int) == 0) = false := by rw [beq_eq_false_iff_ne]; omega
  have hne1 : ((n : Int) == 1) = false := by rw [beq_eq_false_iff_ne]; omega
  have HC := hide (fun (W : World) (hW : Below w.heap.size w W) (k : Nat) (x : ByteArray) (hk : (x0 :: r)[k]? = some x) => (show W.cell? ⟨g, k, none⟩ = some (.string x) from by
    obtain ⟨h1, h3⟩ := List.getElem?_eq_some_iff.1 hk
    obtain ⟨g', e1, _, p0, _⟩ := (hr.below hW).str k h1
    cases e1
    rw [p0, h3]))
  have HLX := hide (fun (k : Nat) (x : ByteArray) (hk : (x0 :: r)[k]? = some x) => (show Lib.lens ((x0.data.toList :: lsL r).take (k + 1)) = Lib.lens ((x0.data.toList :: lsL r).take k) + x.size from by
    have := Lib.lens_take_succ (lsL (x0 :: r)) k x.data.toList (by unfold lsL; rw [List.getElem?_map, hk]; rfl)
    rw [hxs] at this
    rw [this]
    simp))
  have HLE := hide (fun (k : Nat) => Lib.lens_take_le (x0.data.toList :: lsL r) k)
  have HTT := hide (show (x0.data.toList :: lsL r).take n = x0.data.toList :: lsL r from List.take_of_length_le (by rw [List.length_cons, hll]; omega))
  have HWH := hide hwhole
  have HL := hide hl
  have HN := hide hn
  clear hjl hwhole hss hM hl hr hll hxs hn
  go_enter Tryz.func72, Tryz.ntmps72
  go_wp2_with fail
  go_loop [5, 41] (fun a i => ∃ k : Nat, k ≤ n ∧ i = .int .i64 k ∧ a = .int .i64 ((0 + Lib.lens ((x0.data.toList :: lsL r).take k) : Nat) : Int)) (fun _ i => n - (intOf i).toNat)
  case atStart => exact ⟨0, by omega, rfl, by first | (simp [Lib.lens]; done) | skip⟩
  case round =>
    obtain ⟨k, hk, rfl, rfl⟩ := hrel
    by_cases hkn : k < n
    · have hkl : k < (x0 :: r).length := by rw [List.length_cons, unhide HN]; exact hkn
      have hxk : (x0 :: r)[k]? = some (x0 :: r)[k] := List.getElem?_eq_getElem hkl
      generalize (x0 :: r)[k] = x at hxk
      have hcx := unhide HC _ (Below.refl _ _) k x hxk
      have hst := unhide HLX k x hxk
      have hle := unhide HLE (k + 1)
      generalize hA1 : Lib.lens ((x0.data.toList :: lsL r).take (k + 1)) = A1 at hst hle
      have HA1 := hide hA1
      clear hA1
      generalize Lib.lens ((x0.data.toList :: lsL r).take k) = A0 at hst
      generalize Lib.lens (x0.data.toList :: lsL r) = AA at hle hMb
      have i0 : (0 : Int) ≤ (k : Int) := by omega
      have i1 : (k : Int) < (n : Int) := by omega
      have hA : ((0 + A0 : Nat) : Int) + (x.size : Int) = ((0 + A1 : Nat) : Int) := by omega
      have hgt : ¬ ((9223372036854775807 : Int) - ((0 + A0 : Nat) : Int) < (x.size : Int)) := by omega
      generalize 0 + A0 = B0 at hA hgt ⊢
      generalize hB1 : 0 + A1 = B1 at hA
      have HB1 := hide hB1
      have hb1 : B1 ≤ 10000000 := by omega
      clear hB1 hst hle hxk hkl
      go_wp2_with fail
      go_round
      case rel => exact ⟨k + 1, by omega, by go_num, by rw [unhide HA1, unhide HB1]⟩
      case measure => simp [intOf]; omega
    · obtain rfl : k = n := by omega
      rw [unhide HTT]
      generalize 0 + Lib.lens (x0.data.toList :: lsL r) = T at hMb
      have hx0 := unhide HC _ (Below.refl _ _) 0 x0 rfl
      have HBA := hide (show Below w.heap.size w (w.alloc (.cells #[.pointer none, .slice none 0 0] 111)) from (Below.refl _ _).alloc (Nat.le_refl _) _)
      have HGR := hide (BGrow_calls w.heap.size T (w.alloc (.cells #[.pointer none, .slice none 0 0] 111)) (MapKept.heap_alloc w _).1 (by omega) (by simp))
      clear hMb hkn hk HLX HLE
      go_wp2_with fail
      refine (unhide HGR).mono ?_
      rintro e w1 ⟨rfl, hB1, hb1⟩
      have HB1 := hide hB1
      have HW1 := hide ((unhide HBA).trans hb1)
      have hc0 := unhide HC _ (unhide HW1) 0 x0 rfl
      have hz1 : w.heap.size ≤ w1.heap.size := (unhide HW1).size
      have HTL := hide (fun (q : Nat) => (show (x0.data.toList ++ Lib.joinTail sep.data.toList ((lsL r).take q)).length ≤ 10000000 from by
        have h3 := unhide HL
        have h4 := unhide HWH
        have h5 : lsL (x0 :: r) = x0.data.toList :: lsL r := rfl
        rw [h5] at h4
        rw [h4, List.length_append] at h3
        have h6 := Lib.joinTail_take_le sep.data.toList (lsL r) q
        rw [List.length_append]
        omega))
      have HS1 := hide (WriteString_calls w.heap.size w.heap.size [] x0 w1 (unhide HB1) (by have := unhide HTL 0; rw [List.length_append] at this; simp at this ⊢; omega) hz1)
      clear hB1 hb1 hx0 HGR HBA HTT
      go_wp2_with fail
      refine (unhide HS1).mono ?_
      rintro e w2 ⟨rfl, hB2, hb2⟩
      have hst0 : ([] : List Value) ++ Lib.strCells x0 = Lib.byteCells (x0.data.toList ++ Lib.joinTail sep.data.toList ((lsL r).take 0)) := by simp [Lib.joinTail, Lib.strCells_eq]
      rw [hst0] at hB2
      have HB2 := hide (Or.inr hB2 : Lib.IsBuilder 111 5 w.heap.size w.heap.size _ w2)
      have HW2 := hide ((unhide HW1).trans hb2)
      clear hB2 hb2 hst0 HS1 hc0 HB1 HW1 hz1
      obtain ⟨m, hm⟩ : ∃ m : Nat, (k : Int) - 1 = (m : Int) := ⟨k - 1, by omega⟩
      have hmr : r.length = m := by have := unhide HN; omega
      have HMR := hide hmr
      have hmb : m ≤ 1000 := by omega
      obtain ⟨c', hc'⟩ : ∃ c' : Nat, (c : Int) - 1 = (c' : Int) := ⟨c - 1, by omega⟩
      have hcc : ((c : Int) == 1) = false := by rw [beq_eq_false_iff_ne]; omega
      have hk1 : (1 : Int) ≤ (k : Int) := by omega
      have hkc : (k : Int) ≤ (c : Int) := by omega
      clear hmr
      go_wp2_with fail
      go_loopw [65] (fun i wr => ∃ q : Nat, q ≤ m ∧ i = .int .i64 q ∧ Hid (Lib.IsBuilder 111 5 w.heap.size w.heap.size (Lib.byteCells (x0.data.toList ++ Lib.joinTail sep.data.toList ((lsL r).take q))) wr) ∧ Hid (Below w.heap.size w wr)) (fun i _ => m - (intOf i).toNat)
      case atStart => exact ⟨0, by omega, rfl, HB2, HW2⟩
      case round =>
        obtain ⟨q, hq, rfl, HBq, HWq⟩ := hrel
        by_cases hqm : q < m
        · have hql : q < r.length := by rw [unhide HMR]; exact hqm
          have hyq : r[q]? = some r[q] := List.getElem?_eq_getElem hql
          generalize r[q] = y at hyq
          have hcy := unhide HC _ (unhide HWq) (q + 1) y (by rw [List.getElem?_cons_succ]; exact hyq)
          have hcy2 : wr.cell? ⟨g, 1 + q, none⟩ = some (.string y) := by rw [Nat.add_comm]; exact hcy
          have hts := Lib.joinTail_take_succ sep.data.toList (lsL r) q y.data.toList (by unfold lsL; rw [List.getElem?_map, hyq]; rfl)
          have hln := unhide HTL (q + 1)
          have HNX := hide (show Lib.byteCells (x0.data.toList ++ Lib.joinTail sep.data.toList ((lsL r).take q)) ++ Lib.strCells sep ++ Lib.strCells y = Lib.byteCells (x0.data.toList ++ Lib.joinTail sep.data.toList ((lsL r).take (q + 1))) from by
            rw [hts, Lib.strCells_eq, Lib.strCells_eq, ← Lib.byteCells_append, ← Lib.byteCells_append]
            congr 1
            simp [List.append_assoc])
          rw [hts] at hln
          have hl2 : (Lib.byteCells (x0.data.toList ++ Lib.joinTail sep.data.toList ((lsL r).take q))).length + sep.size + y.size ≤ 10000000 := by
            rw [Lib.byteCells_length]
            simp only [List.length_append, ← Lib.size_eq] at hln ⊢
            omega
          have hzq : w.heap.size ≤ wr.heap.size := (unhide HWq).size
          generalize Lib.byteCells (x0.data.toList ++ Lib.joinTail sep.data.toList ((lsL r).take q)) = cs at HBq HNX hl2
          have HS1 := hide (WriteString_calls w.heap.size w.heap.size cs sep wr (unhide HBq) (by omega) hzq)
          have i0 : (0 : Int) ≤ (q : Int) := by omega
          have i1 : (q : Int) < (m : Int) := by omega
          clear hts hln hyq hql
          go_wp2_with fail
          refine (unhide HS1).mono ?_
          rintro e w3 ⟨rfl, hB3, hb3⟩
          have HW3 := hide ((unhide HWq).trans hb3)
          have HS2 := hide (WriteString_calls w.heap.size w.heap.size (cs ++ Lib.strCells sep) y w3 (.inr hB3) (by rw [List.length_append, Lib.strCells_length]; omega) (Nat.le_trans hzq hb3.size))
          clear hB3 hb3 HS1
          go_wp2_with fail
          refine (unhide HS2).mono ?_
          rintro e w4 ⟨rfl, hB4, hb4⟩
          rw [unhide HNX] at hB4
          have HB4 := hide (Or.inr hB4 : Lib.IsBuilder 111 5 w.heap.size w.heap.size _ w4)
          have HW4 := hide ((unhide HW3).trans hb4)
          clear hB4 hb4 HS2
          go_wp2_with fail
          go_roundw
          case rel => exact ⟨q + 1, by omega, by go_num, HB4, HW4⟩
          case measure => simp [intOf]; omega
        · obtain rfl : q = m := by omega
          have hB5 := unhide HBq
          rw [show (lsL r).take q = lsL r from List.take_of_length_le (by unfold lsL; rw [List.length_map, unhide HMR]; exact Nat.le_refl _), ← unhide HWH] at hB5
          have HS3 := hide (BString_calls w.heap.size w.heap.size _ wr hB5 (unhide HWq).size)
          clear hB5 HBq
          go_wp2_with fail
          refine (unhide HS3).mono ?_
          rintro e w5 ⟨rfl, hb5⟩
          have HW5 := hide ((unhide HWq).trans hb5)
          clear hb5
          go_wp2_with fail
          go_ret
          exact ⟨rfl, unhide HW5⟩

namespace Plain
theorem jt_cat : ∀ r : List ByteArray, Lib.joinTail [] (lsL r) = (catB r).data.toList
  | [] => by simp [lsL, Lib.joinTail, catB]
  | x :: r => by
    have := jt_cat r
    rw [catB_cons]
    simp [lsL, Lib.joinTail] at this ⊢
    rw [this]
theorem joinT_cat (x : ByteArray) (r : List ByteArray) : joinT (x :: r) ByteArray.empty = catB (x :: r) := by
  unfold joinT
  apply ByteArray.ext
  rw [show lsL (x :: r) = x.data.toList :: lsL r from rfl, Lib.join_cons, show (ByteArray.empty).data.toList = [] from rfl, jt_cat, catB_cons]
  simp
end Plain

set_option maxRecDepth 100000 in
set_option maxHeartbeats 2000000 in
theorem join_cat (a : Option Addr) (n c : Nat) (xs : List ByteArray) (w : World) (hn : xs.length = n) (hn2 : n ≤ 1000) (hc : n ≤ c) (h71 : ∀ s ∈ xs, s.size = 71) (hr : RowAt strE w a xs) :
    Calls Tryz.prog 72 #[.slice a n c, .string ByteArray.empty] w fun e w' => e = .returned (.string (catB xs)) ∧ Below w.heap.size w w' := by
  match xs, hn, h71, hr with
  | [], hn, h71, hr =>
    have hn0 : n = 0 := by simpa using hn.symm
    subst hn0
    have HE := hide (show catB [] = ByteArray.empty from rfl)
    rw [unhide HE]
    clear hr h71 hn
    go_enter Tryz.func72, Tryz.ntmps72
    go_wp2_with fail
    go_ret
    exact ⟨rfl, Below.refl _ _⟩
  | [x], hn, h71, hr =>
    have hn0 : n = 1 := by simpa using hn.symm
    subst hn0
    obtain ⟨g, e1, _, p0, _⟩ := hr.str 0 (by simp)
    subst e1
    have := join1_calls g c x ByteArray.empty w (by simpa using p0)
    rw [joinT_cat] at this
    exact this
  | x :: y :: r, hn, h71, hr =>
    obtain ⟨g, e1, _, p0, _⟩ := hr.str 0 (by simp)
    subst e1
    have := join2z_calls g n c x (y :: r) ByteArray.empty w hn (by rw [← hn]; simp) hn2 hc rfl (by
      have h1 := joinT_cat x (y :: r)
      have h2 := congrArg ByteArray.size h1
      have h3 := catB_size (x :: y :: r) h71
      rw [hn] at h3
      rw [h3] at h2
      unfold joinT at h2
      simp [ByteArray.size] at h2
      have : (Lib.join (lsL (x :: y :: r)) (ByteArray.empty).data.toList).length = 71 * n := h2
      omega) hr
    rw [joinT_cat] at this
    exact this
end Go.Proofs.YtldgkpnlplfopaaGreatDoor

