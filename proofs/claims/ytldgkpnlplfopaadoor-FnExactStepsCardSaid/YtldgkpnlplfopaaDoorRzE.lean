/- Texts of one kind, put together. -/
import Derived.Test.YtldgkpnlplfopaaDoorMem
import Derived.Deep.RegionWith
import Derived.Test.YtldgkpnlplfopaaDoorRzA
import Derived.Sort.Walk0

/- A word in four bytes, the lowest first: both programs by their contracts. -/
namespace Go.Proofs.YtldgkpnlplfopaaDoor
open Go.RowKit Plain
set_option linter.unusedVariables false

namespace Plain
def fourL (x : Int) : List Int := [x % 256, x / 256 % 256, x / 65536 % 256, x / 16777216]
end Plain

theorem conv_lit (W : World) (xs : List Int) (h : xs.length ≤ 1000) :
    (convert 71 9 (.slice (some ⟨W.heap.size, 0, none⟩) xs.length xs.length)).run Tryd.prog (W.alloc (.cells (xs.map (Value.int .u8)).toArray 5)) = .ok (.string (strOfNums xs)) (W.alloc (.cells (xs.map (Value.int .u8)).toArray 5)) := by
  refine conv_ownB _ W.heap.size _ xs ?_
  refine ⟨by simp, .inr ⟨W.heap.size, xs.length, (xs.map (Value.int .u8)).toArray, rfl, Nat.le_refl _, heap_alloc_new _ _, Nat.le_refl _, by unfold maxLen; omega, by simp, ?_⟩⟩
  rw [Nat.mul_one]
  exact List.take_of_length_le (by simp)

theorem conv4 (W : World) (a b c d : Int) :
    (convert 71 9 (.slice (some ⟨W.heap.size, 0, none⟩) 4 4)).run Tryd.prog (W.alloc (.cells #[.int .u8 a, .int .u8 b, .int .u8 c, .int .u8 d] 5)) = .ok (.string (strOfNums [a, b, c, d])) (W.alloc (.cells #[.int .u8 a, .int .u8 b, .int .u8 c, .int .u8 d] 5)) :=
  conv_lit W [a, b, c, d] (by simp)
theorem conv1 (W : World) (a : Int) :
    (convert 71 9 (.slice (some ⟨W.heap.size, 0, none⟩) 1 1)).run Tryd.prog (W.alloc (.cells #[.int .u8 a] 5)) = .ok (.string (strOfNums [a])) (W.alloc (.cells #[.int .u8 a] 5)) :=
  conv_lit W [a] (by simp)







end Go.Proofs.YtldgkpnlplfopaaDoor

/- The texts by which the exact laws mark memory. -/
namespace Go.Proofs.YtldgkpnlplfopaaDoor
open Go.RowKit Plain
set_option linter.unusedVariables false

namespace Plain
/-- A number's decimal digits ahead of out. -/
def decB : Nat → Nat → ByteArray → ByteArray
  | 0, _, out => out
  | f + 1, k, out => if k = 0 then out else decB f (k / 10) (strOfNums [((48 + k % 10 : Nat) : Int)] ++ out)
def mtx (k : Nat) : ByteArray := ⟨#[109]⟩ ++ decB k k ⟨#[]⟩
theorem decB_zero (f : Nat) (out : ByteArray) : decB f 0 out = out := by cases f <;> simp [decB]
theorem decB_step (f k : Nat) (out : ByteArray) (h : 0 < k) (hf : k ≤ f) : ∃ f', f = f' + 1 ∧ k / 10 ≤ f' ∧ decB f k out = decB f' (k / 10) (strOfNums [((48 + k % 10 : Nat) : Int)] ++ out) := by
  obtain ⟨f', rfl⟩ : ∃ f', f = f' + 1 := ⟨f - 1, by omega⟩
  exact ⟨f', rfl, by omega, by rw [decB, if_neg (by omega)]⟩
end Plain

set_option maxHeartbeats 1000000 in
theorem markText_calls (k : Nat) (w : World) (h1 : 1 ≤ k) (h2 : k ≤ 1000000000) :
    Calls Tryd.prog 29 #[.int .i64 k] w fun e w' => e = .returned (.string (mtx k)) ∧ Below w.heap.size w w' := by
  have hm : mtx k = ⟨#[109]⟩ ++ decB k k ⟨#[]⟩ := rfl
  have HM := hide hm
  clear hm
  have i1 : (1 : Int) ≤ (k : Int) := by omega
  go_enter Tryd.func29, Tryd.ntmps29
  go_wp2_with fail
  go_loopw [0, 3] (fun n t wr => ∃ (j f : Nat) (out : ByteArray), n = .int .i64 j ∧ t = .string out ∧ j + out.size ≤ k ∧ j ≤ f ∧ Hid (decB f j out = decB k k ⟨#[]⟩) ∧ Hid (Below w.heap.size w wr)) (fun n _ _ => (intOf n).toNat)
  case atStart => exact ⟨k, k, ⟨#[]⟩, rfl, rfl, Nat.le_refl _, Nat.le_refl _, rfl, Below.refl _ _⟩
  case round =>
    obtain ⟨j, f, out, rfl, rfl, hj, hf, HD, HB⟩ := hrel
    by_cases hj0 : 0 < j
    · obtain ⟨f', rfl, hf', hst⟩ := decB_step f j out hj0 hf
      have hnx := hide (hst.symm.trans (unhide HD))
      clear hst HD
      obtain ⟨d, hd⟩ : ∃ d, j % 10 = d := ⟨_, rfl⟩
      obtain ⟨q, hq⟩ : ∃ q, j / 10 = q := ⟨_, rfl⟩
      rw [hd, hq] at hnx
      rw [hq] at hf'
      have t1 : Int.tmod (j : Int) 10 = (d : Int) := by rw [← hd]; rfl
      have t2 : Int.tdiv (j : Int) 10 = (q : Int) := by rw [← hq]; rfl
      have hd10 : d < 10 := by omega
      have hqj : q < j := by omega
      have j0 : (0 : Int) < (j : Int) := by omega
      have hcv : ∀ W : World, (convert 71 9 (.slice (some ⟨W.heap.size, 0, none⟩) 1 1)).run Tryd.prog (W.alloc (.cells #[.int .u8 (48 + (d : Int))] 5)) = .ok (.string (strOfNums [48 + (d : Int)])) (W.alloc (.cells #[.int .u8 (48 + (d : Int))] 5)) := fun W => conv1 W _
      have hs1 : (strOfNums [48 + (d : Int)]).size = 1 := strOfNums_size _
      clear hd hq
      go_wp2_with fail
      go_roundw
      case rel => exact ⟨q, f', _, rfl, rfl, by rw [ByteArray.size_append, hs1]; omega, hf', hnx, hide ((unhide HB).alloc (unhide HB).size _)⟩
      case measure => simp [intOf]; omega
    · obtain rfl : j = 0 := by omega
      have hfin := unhide HD
      rw [decB_zero] at hfin
      have HF := hide hfin
      clear HD hfin
      go_wp2_with fail
      go_ret
      exact ⟨by rw [unhide HM, ← unhide HF]; rfl, unhide HB⟩

theorem markText_at (x : Int) (k : Nat) (w : World) (hx : x = (k : Int)) (h1 : 1 ≤ k) (h2 : k ≤ 1000000000) :
    Calls Tryd.prog 29 #[.int .i64 x] w fun e w' => e = .returned (.string (mtx k)) ∧ Below w.heap.size w w' := by
  subst hx
  exact markText_calls k w h1 h2
end Go.Proofs.YtldgkpnlplfopaaDoor


/- Rows of texts marked and looked at again, as the exact laws do it. -/
namespace Go.Proofs.YtldgkpnlplfopaaDoor
open Go.RowKit Plain
set_option linter.unusedVariables false

theorem RowAt.ofS {W : World} {a : Option Addr} {xs : List ByteArray} (h : ∀ i (hi : i < xs.length), ∃ g, a = some ⟨g, 0, none⟩ ∧ g < W.heap.size ∧ W.cell? ⟨g, i, none⟩ = some (.string xs[i]) ∧ W.frozen? ⟨g, i, none⟩ = false) : RowAt strE W a xs := by
  intro i hi
  obtain ⟨g, e, hl, hc, hf⟩ := h i hi
  refine ⟨g, e, hl, fun j hj => ?_⟩
  obtain rfl : j = 0 := by have : strE.n = 1 := rfl; omega
  rw [show i * strE.n + 0 = i from Nat.mul_one i]
  exact ⟨hc, hf⟩
theorem RowAt.setS {W : World} {g : Nat} {L : List ByteArray} (h : RowAt strE W (some ⟨g, 0, none⟩) L) (k : Nat) (hk : k < L.length) (y : ByteArray) : RowAt strE (W.setCell ⟨g, k, none⟩ (.string y)) (some ⟨g, 0, none⟩) (L.set k y) := by
  apply RowAt.ofS
  intro i hi
  rw [List.length_set] at hi
  obtain ⟨g', e, hl, hc, hf⟩ := h.str i hi
  cases e
  refine ⟨g, rfl, by simpa using hl, ?_, by simpa using hf⟩
  by_cases e : k = i
  · subst e
    rw [World.cell?_setCell_same' _ _ _ (by rw [hc]; rfl)]
    simp
  · rw [World.cell?_setCell_other _ ⟨g, k, none⟩ ⟨g, i, none⟩ _ (fun q => e (by have := congrArg Addr.off q; simpa using this)), hc]
    simp [e]

namespace Plain
/-- What the marking leaves. -/
def mkS (b n : Nat) : List ByteArray := (List.range n).map fun i : Nat => mtx (b + i)
theorem mkS_length (b n : Nat) : (mkS b n).length = n := by simp [mkS]
theorem mkS_get (b n k : Nat) (h : k < (mkS b n).length) : (mkS b n)[k] = mtx (b + k) := by simp [mkS]
def mixS (b : Nat) (fs : List ByteArray) (k : Nat) : List ByteArray := mkS b k ++ fs.drop k
theorem mixS_length (b : Nat) (fs : List ByteArray) (k : Nat) (h : k ≤ fs.length) : (mixS b fs k).length = fs.length := by simp [mixS, mkS_length]; omega
theorem mixS_zero (b : Nat) (fs : List ByteArray) : mixS b fs 0 = fs := by simp [mixS, mkS]
theorem mixS_end (b : Nat) (fs : List ByteArray) : mixS b fs fs.length = mkS b fs.length := by simp [mixS]
theorem mixS_next (b : Nat) (fs : List ByteArray) (k : Nat) (h : k < fs.length) : (mixS b fs k).set k (mtx (b + k)) = mixS b fs (k + 1) := by
  have hl := mkS_length b k
  unfold mixS
  rw [List.set_append_right _ _ (by omega), hl, Nat.sub_self, List.drop_eq_getElem_cons h, List.set_cons_zero]
  simp [mkS, List.range_succ]
end Plain

set_option maxHeartbeats 1000000 in
theorem markStringS_calls (b : Nat) (a : Option Addr) (c n : Nat) (fs : List ByteArray) (w : World) (hb1 : 1 ≤ b) (hb2 : b ≤ 100000000) (hn : fs.length = n) (hn2 : n ≤ 100000000) (h1 : RowAt strE w a fs) :
    Calls Tryd.prog 12 #[.slice a n c, .int .i64 b] w fun e w' => e = .returned (.int .i64 ((b + n : Nat) : Int)) ∧ RowAt strE w' a (mkS b n) ∧ OnlyRow a w w' := by
  have H1 := hide h1
  have HN := hide hn
  clear h1 hn
  go_enter Tryd.func12, Tryd.ntmps12
  go_wp2_with fail
  go_loopw [1, 5] (fun m i wr => ∃ (k : Nat), i = .int .i64 k ∧ m = .int .i64 ((b + k : Nat) : Int) ∧ k ≤ n ∧ Hid (RowAt strE wr a (mixS b fs k)) ∧ Hid (OnlyRow a w wr)) (fun _ i _ => n - (intOf i).toNat)
  case atStart => exact ⟨0, rfl, rfl, by omega, hide (by rw [mixS_zero]; exact unhide H1), OnlyRow.refl _ _⟩
  case round =>
    clear H1
    obtain ⟨k, rfl, rfl, hk, HF, HB⟩ := hrel
    by_cases hlt : k < n
    · have hfl : k < fs.length := by rw [unhide HN]; exact hlt
      have hml := mixS_length b fs k (by omega)
      have hkl : k < (mixS b fs k).length := by omega
      obtain ⟨g, e1, l1, p1, z1⟩ := (unhide HF).str k hkl
      subst e1
      have hnx := hide (mixS_next b fs k hfl)
      have i0 : (0 : Int) ≤ (k : Int) := by omega
      have i1 : (k : Int) < (n : Int) := by omega
      obtain ⟨M, hM⟩ : ∃ M, b + k = M := ⟨_, rfl⟩
      rw [hM] at hnx ⊢
      clear p1 z1
      go_wp2_with fail
      refine (markText_calls M _ (by omega) (by omega)).mono ?_
      rintro e w2 ⟨rfl, hb2⟩
      have hf2 := (unhide HF).below hb2
      obtain ⟨g', e1, l2, r1, y1⟩ := hf2.str k hkl
      cases e1
      have HF2 := hide (hf2.setS k hkl (mtx M))
      rw [unhide hnx] at HF2
      have HB2 := hide ((unhide HB).trans (OnlyRow.of hb2))
      generalize (mixS b fs k)[k] = x at r1
      clear hb2 hf2 HF
      go_wp2_with fail
      go_roundw
      case rel => exact ⟨k + 1, by go_num, by rw [show b + (k + 1) = M + 1 from by omega]; go_num, by omega, HF2, hide ((unhide HB2).trans (OnlyRow.set _ _))⟩
      case measure => simp [intOf]; omega
    · obtain rfl : k = n := by omega
      have hF := unhide HF
      rw [← unhide HN, mixS_end, unhide HN] at hF
      have HF2 := hide hF
      clear hF HF
      go_wp2_with fail
      go_ret
      exact ⟨rfl, unhide HF2, unhide HB⟩

set_option maxHeartbeats 1000000 in
theorem heldStringS_calls (b : Nat) (a : Option Addr) (c n : Nat) (w : World) (hb1 : 1 ≤ b) (hb2 : b ≤ 100000000) (hn2 : n ≤ 100000000) (h1 : RowAt strE w a (mkS b n)) :
    Calls Tryd.prog 13 #[.slice a n c, .int .i64 b] w fun e w' => e = .returned (.int .i64 ((b + n : Nat) : Int)) ∧ Below w.heap.size w w' := by
  have H1 := hide h1
  clear h1
  go_enter Tryd.func13, Tryd.ntmps13
  go_wp2_with fail
  go_loopw [1, 5] (fun m i wr => ∃ (k : Nat), i = .int .i64 k ∧ m = .int .i64 ((b + k : Nat) : Int) ∧ k ≤ n ∧ Hid (Below w.heap.size w wr)) (fun _ i _ => n - (intOf i).toNat)
  case atStart => exact ⟨0, rfl, rfl, by omega, Below.refl _ _⟩
  case round =>
    obtain ⟨k, rfl, rfl, hk, HB⟩ := hrel
    by_cases hlt : k < n
    · have hkl : k < (mkS b n).length := by rw [mkS_length]; exact hlt
      obtain ⟨g, e1, l1, p1, -⟩ := ((unhide H1).below (unhide HB)).str k hkl
      rw [mkS_get b n k hkl] at p1
      clear H1
      subst e1
      have i0 : (0 : Int) ≤ (k : Int) := by omega
      have i1 : (k : Int) < (n : Int) := by omega
      obtain ⟨M, hM⟩ : ∃ M, b + k = M := ⟨_, rfl⟩
      rw [hM] at p1 ⊢
      have hM2 : M ≤ 1000000000 := by omega
      have hM1 : 1 ≤ M := by omega
      go_wp2_with fail
      go_region_with (go_at_call 29; refine (markText_calls M _ hM1 hM2).mono ?_; rintro e w2 ⟨rfl, hb2⟩; have r2 := ((bOfDrew hb2).cell (p := ⟨g, k, none⟩) l1).trans p1)
      all_goals (try go_wp2_with fail)
      all_goals exact ⟨⟨k + 1, by go_num, by rw [show b + (k + 1) = M + 1 from by omega]; go_num, by omega, hide ((unhide HB).trans ((bOfDrew hb2).mono (unhide HB).size))⟩, by simp [intOf]; omega⟩
    · obtain rfl : k = n := by omega
      go_wp2_with fail
      go_ret
      exact ⟨rfl, unhide HB⟩
end Go.Proofs.YtldgkpnlplfopaaDoor


/- Texts rising, each once: the specification's l1Rising by its contract. -/
namespace Go.Proofs.YtldgkpnlplfopaaDoor
open Go.RowKit Plain
set_option linter.unusedVariables false

namespace Plain
def ltB (a b : ByteArray) : Prop := a.data.toList < b.data.toList
theorem ltB_irrefl (a : ByteArray) : ¬ ltB a a := List.lt_irrefl _
theorem ltB_trans {a b c : ByteArray} (h : ltB a b) (h2 : ltB b c) : ltB a c := List.lt_trans h h2
theorem ltB_tri {a b : ByteArray} (h : ¬ ltB a b) (h2 : a ≠ b) : ltB b a := by
  rcases Classical.em (ltB b a) with h3 | h3
  · exact h3
  · exact absurd (ByteArray.ext (Array.toList_inj.1 (List.le_antisymm h3 h))) h2
theorem less_ltB (a b : ByteArray) : Op.bytesLess a.toList b.toList = true ↔ ltB a b := by
  rw [bytesLess_eq, ByteArray.toList_eq, ByteArray.toList_eq, decide_eq_true_iff]; rfl
theorem beq_bytes (a b : ByteArray) : (a.toList == b.toList) = true ↔ a = b := by
  rw [beq_iff_eq, ByteArray.toList_eq, ByteArray.toList_eq]
  exact ⟨fun h => ByteArray.ext (Array.toList_inj.1 h), fun h => by rw [h]⟩
def Strict (l : List ByteArray) : Prop := l.Pairwise ltB
theorem strict_ext {l1 l2 : List ByteArray} (h1 : Strict l1) (h2 : Strict l2) (h : ∀ x, x ∈ l1 ↔ x ∈ l2) : l1 = l2 := by
  induction l1 generalizing l2 with
  | nil =>
    cases l2 with
    | nil => rfl
    | cons b t => have := (h b).2 (by simp); simp at this
  | cons a t ih =>
    cases l2 with
    | nil => have := (h a).1 (by simp); simp at this
    | cons b t2 =>
      unfold Strict at h1 h2
      rw [List.pairwise_cons] at h1 h2
      have e : a = b := by
        rcases List.mem_cons.1 ((h a).1 (by simp)) with e | e
        · exact e
        · rcases List.mem_cons.1 ((h b).2 (by simp)) with e2 | e2
          · exact e2.symm
          · exact absurd (ltB_trans (h1.1 b e2) (h2.1 a e)) (ltB_irrefl a)
      subst e
      rw [ih h1.2 h2.2 (fun x => ?_)]
      constructor
      · intro hx
        rcases List.mem_cons.1 ((h x).1 (by simp [hx])) with e | e
        · subst e; exact absurd (h1.1 x hx) (ltB_irrefl x)
        · exact e
      · intro hx
        rcases List.mem_cons.1 ((h x).2 (by simp [hx])) with e | e
        · subst e; exact absurd (h2.1 x hx) (ltB_irrefl x)
        · exact e
theorem strict_ins {acc : List ByteArray} {x : ByteArray} {k : Nat} (h : Strict acc) (hlo : ∀ y ∈ acc.take k, ltB y x) (hhi : ∀ y ∈ acc.drop k, ltB x y) : Strict (acc.take k ++ x :: acc.drop k) := by
  unfold Strict at h ⊢
  rw [← List.take_append_drop k acc, List.pairwise_append] at h
  rw [List.pairwise_append, List.pairwise_cons]
  refine ⟨h.1, ⟨hhi, h.2.1⟩, fun a ha b hb => ?_⟩
  rcases List.mem_cons.1 hb with rfl | hb
  · exact hlo a ha
  · exact h.2.2 a ha b hb
theorem mem_ins {acc : List ByteArray} {x y : ByteArray} {k : Nat} : y ∈ acc.take k ++ x :: acc.drop k ↔ y ∈ acc ∨ y = x := by
  rw [List.mem_append, List.mem_cons]
  constructor
  · rintro (h | h | h)
    · exact .inl (List.mem_of_mem_take h)
    · exact .inr h
    · exact .inl (List.mem_of_mem_drop h)
  · rintro (h | h)
    · rw [← List.take_append_drop k acc, List.mem_append] at h
      rcases h with h | h
      · exact .inl h
      · exact .inr (.inr h)
    · exact .inr (.inl h)
theorem take_low {acc : List ByteArray} {x : ByteArray} {k : Nat} (h : Strict acc) (hk : k < acc.length) (hx : ltB acc[k] x) : ∀ y ∈ acc.take (k + 1), ltB y x := by
  intro y hy
  rw [List.take_succ_eq_append_getElem hk, List.mem_append, List.mem_singleton] at hy
  rcases hy with hy | rfl
  · have hm : acc[k] ∈ acc.drop k := List.mem_drop_iff_getElem.2 ⟨0, by omega, by simp⟩
    unfold Strict at h
    rw [← List.take_append_drop k acc, List.pairwise_append] at h
    exact ltB_trans (h.2.2 y hy acc[k] hm) hx
  · exact hx
theorem drop_high {acc : List ByteArray} {x : ByteArray} {k : Nat} (hk : k < acc.length) (hx : ltB x acc[k]) (h : ∀ y ∈ acc.drop (k + 1), ltB x y) : ∀ y ∈ acc.drop k, ltB x y := by
  intro y hy
  rw [List.drop_eq_getElem_cons hk, List.mem_cons] at hy
  rcases hy with rfl | hy
  · exact hx
  · exact h y hy
theorem shift_row (acc : List ByteArray) (y : ByteArray) (k : Nat) (hk : k < acc.length) : (acc.take (k + 1) ++ y :: acc.drop (k + 1)).set (k + 1) acc[k] = acc.take k ++ acc[k] :: acc.drop k := by
  rw [List.set_append_right _ _ (by rw [List.length_take]; omega), List.length_take, show k + 1 - min (k + 1) acc.length = 0 from by omega, List.set_cons_zero, List.take_succ_eq_append_getElem hk, List.append_assoc]
  conv => rhs; rw [List.drop_eq_getElem_cons hk]
  rfl
theorem put_row (acc : List ByteArray) (x y : ByteArray) (k : Nat) (hk : k ≤ acc.length) : (acc.take k ++ y :: acc.drop k).set k x = acc.take k ++ x :: acc.drop k := by
  rw [List.set_append_right _ _ (by rw [List.length_take]; omega), List.length_take, show k - min k acc.length = 0 from by omega, List.set_cons_zero]
def anyB (ls : List ByteArray) (s : ByteArray) : Bool := ls.any fun x => x.toList == s.toList
theorem anyB_mem (ls : List ByteArray) (s : ByteArray) : anyB ls s = true ↔ s ∈ ls := by
  unfold anyB
  rw [List.any_eq_true]
  constructor
  · rintro ⟨x, hx, h⟩
    rw [beq_bytes] at h
    rw [← h]; exact hx
  · intro h
    exact ⟨s, h, (beq_bytes s s).2 rfl⟩
theorem any_step {α : Type} (p : α → Bool) (l : List α) (k : Nat) (h : k < l.length) : (l.drop k).any p = (p l[k] || (l.drop (k + 1)).any p) := by
  rw [List.drop_eq_getElem_cons h, List.any_cons]
end Plain

set_option maxHeartbeats 1000000 in
theorem l1Has_calls (a : Option Addr) (n c : Nat) (ls : List ByteArray) (s : ByteArray) (w : World) (hn : ls.length = n) (hn2 : n ≤ 100000000) (h : StrsAt w a ls) :
    Calls Tryd.prog 42 #[.slice a n c, .string s] w fun e w' => e = .returned (.bool (anyB ls s)) ∧ w = w' := by
  have H := hide h
  have HN := hide hn
  clear h hn
  go_enter Tryd.func42, Tryd.ntmps42
  go_wp2_with fail
  go_loop [5] (fun i => ∃ k : Nat, i = .int .i64 k ∧ k ≤ n ∧ Hid ((ls.drop k).any (fun x => x.toList == s.toList) = anyB ls s)) (fun i => n - (intOf i).toNat)
  case atStart => exact ⟨0, rfl, by omega, hide (by rw [List.drop_zero]; rfl)⟩
  case round =>
    obtain ⟨k, rfl, hk, HR⟩ := hrel
    by_cases hlk : k < n
    · have hkl : k < ls.length := by rw [unhide HN]; exact hlk
      obtain ⟨g, o, e1, l1, p1⟩ := unhide H k hkl
      have hst := any_step (fun x => x.toList == s.toList) ls k hkl
      generalize ls[k] = x at p1 hst
      have i0 : (0 : Int) ≤ (k : Int) := by omega
      have i1 : (k : Int) < (n : Int) := by omega
      subst e1
      cases hx : (x.toList == s.toList) with
      | true =>
        have HF := hide (show anyB ls s = true from by rw [← unhide HR, hst, hx]; rfl)
        clear hst HR
        go_wp2_with fail
        go_ret
        exact ⟨by rw [unhide HF]; rfl, rfl⟩
      | false =>
        have HF := hide (show (ls.drop (k + 1)).any (fun x => x.toList == s.toList) = anyB ls s from by rw [← unhide HR, hst, hx]; rfl)
        clear hst HR
        go_wp2_with fail
        go_round
        case rel => exact ⟨k + 1, by go_num, by omega, HF⟩
        case measure => simp [intOf]; omega
    · have HF := unhide HR
      rw [List.drop_of_length_le (by rw [unhide HN]; omega)] at HF
      have HFF := hide HF
      clear HR HF
      go_wp2_with fail
      go_ret
      exact ⟨by rw [← unhide HFF]; rfl, rfl⟩

end Go.Proofs.YtldgkpnlplfopaaDoor
