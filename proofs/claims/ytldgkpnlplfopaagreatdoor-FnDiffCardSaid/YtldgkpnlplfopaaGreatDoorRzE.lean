/- Texts of one kind, put together. -/
import Derived.Test.YtldgkpnlplfopaaGreatDoorMem
import Derived.Deep.RegionWith
import Derived.Test.YtldgkpnlplfopaaGreatDoorRzA
import Derived.Sort.Walk0

/- A word in four bytes, the lowest first: both programs by their contracts. -/
namespace Go.Proofs.YtldgkpnlplfopaaGreatDoor
open Go.RowKit Plain
set_option linter.unusedVariables false

namespace Plain
def fourL (x : Int) : List Int := [x % 256, x / 256 % 256, x / 65536 % 256, x / 16777216]
end Plain

theorem conv_lit (W : World) (xs : List Int) (h : xs.length ≤ 1000) :
    (convert 22 9 (.slice (some ⟨W.heap.size, 0, none⟩) xs.length xs.length)).run Tryz.prog (W.alloc (.cells (xs.map (Value.int .u8)).toArray 5)) = .ok (.string (strOfNums xs)) (W.alloc (.cells (xs.map (Value.int .u8)).toArray 5)) := by
  refine conv_ownB _ W.heap.size _ xs ?_
  refine ⟨by simp, .inr ⟨W.heap.size, xs.length, (xs.map (Value.int .u8)).toArray, rfl, Nat.le_refl _, heap_alloc_new _ _, Nat.le_refl _, by unfold maxLen; omega, by simp, ?_⟩⟩
  rw [Nat.mul_one]
  exact List.take_of_length_le (by simp)

theorem conv4 (W : World) (a b c d : Int) :
    (convert 22 9 (.slice (some ⟨W.heap.size, 0, none⟩) 4 4)).run Tryz.prog (W.alloc (.cells #[.int .u8 a, .int .u8 b, .int .u8 c, .int .u8 d] 5)) = .ok (.string (strOfNums [a, b, c, d])) (W.alloc (.cells #[.int .u8 a, .int .u8 b, .int .u8 c, .int .u8 d] 5)) :=
  conv_lit W [a, b, c, d] (by simp)
theorem conv1 (W : World) (a : Int) :
    (convert 22 9 (.slice (some ⟨W.heap.size, 0, none⟩) 1 1)).run Tryz.prog (W.alloc (.cells #[.int .u8 a] 5)) = .ok (.string (strOfNums [a])) (W.alloc (.cells #[.int .u8 a] 5)) :=
  conv_lit W [a] (by simp)







end Go.Proofs.YtldgkpnlplfopaaGreatDoor

/- The texts by which the exact laws mark memory. -/
namespace Go.Proofs.YtldgkpnlplfopaaGreatDoor
open Go.RowKit Plain
set_option linter.unusedVariables false

namespace Plain
/-- A number's decimal digits ahead of out. -/
def decB : Nat → Nat → ByteArray → ByteArray
  | 0, _, out => out
  | f + 1, k, out => if k = 0 then out else decB f (k / 10) (strOfNums [((48 + k % 10 : Nat) : Int)] ++ out)
def mtx (k : Nat) : ByteArray := ⟨#[109]⟩ ++ decB k k ⟨#[]⟩
theorem decB_zero (f : Nat) (out : ByteArray) : decB f 0 out = out := by cases f <;> simp [decB]
theorem decB_step (f k : Nat) (out : ByteArray) (h : 0 < k) (hf : k ≤ f) : ∃ f', f = f' + 1 ∧ k / 10 ≤ f' ∧ decB f k out = decB f' (k / 10) (strOfNums [((48 + k % 10 : Nat) : Int)] ++ out) := by
  obtain ⟨f', rfl⟩ : ∃ f', f = f' + 1 := ⟨f - 1, by omega⟩
  exact ⟨f', rfl, by omega, by rw [decB, if_neg (by omega)]⟩
end Plain



end Go.Proofs.YtldgkpnlplfopaaGreatDoor

/- Rows of texts marked and looked at again, as the exact laws do it. -/
namespace Go.Proofs.YtldgkpnlplfopaaGreatDoor
open Go.RowKit Plain
set_option linter.unusedVariables false

theorem RowAt.ofS {W : World} {a : Option Addr} {xs : List ByteArray} (h : ∀ i (hi : i < xs.length), ∃ g, a = some ⟨g, 0, none⟩ ∧ g < W.heap.size ∧ W.cell? ⟨g, i, none⟩ = some (.string xs[i]) ∧ W.frozen? ⟨g, i, none⟩ = false) : RowAt strE W a xs := by
  intro i hi
  obtain ⟨g, e, hl, hc, hf⟩ := h i hi
  refine ⟨g, e, hl, fun j hj => ?_⟩
  obtain rfl : j = 0 := by have : strE.n = 1 := rfl; omega
  rw [show i * strE.n + 0 = i from Nat.mul_one i]
  exact ⟨hc, hf⟩
theorem RowAt.setS {W : World} {g : Nat} {L : List ByteArray} (h : RowAt strE W (some ⟨g, 0, none⟩) L) (k : Nat) (hk : k < L.length) (y : ByteArray) : RowAt strE (W.setCell ⟨g, k, none⟩ (.string y)) (some ⟨g, 0, none⟩) (L.set k y) := by
  apply RowAt.ofS
  intro i hi
  rw [List.length_set] at hi
  obtain ⟨g', e, hl, hc, hf⟩ := h.str i hi
  cases e
  refine ⟨g, rfl, by simpa using hl, ?_, by simpa using hf⟩
  by_cases e : k = i
  · subst e
    rw [World.cell?_setCell_same' _ _ _ (by rw [hc]; rfl)]
    simp
  · rw [World.cell?_setCell_other _ ⟨g, k, none⟩ ⟨g, i, none⟩ _ (fun q => e (by have := congrArg Addr.off q; simpa using this)), hc]
    simp [e]

namespace Plain
/-- What the marking leaves. -/
def mkS (b n : Nat) : List ByteArray := (List.range n).map fun i : Nat => mtx (b + i)
theorem mkS_length (b n : Nat) : (mkS b n).length = n := by simp [mkS]
theorem mkS_get (b n k : Nat) (h : k < (mkS b n).length) : (mkS b n)[k] = mtx (b + k) := by simp [mkS]
def mixS (b : Nat) (fs : List ByteArray) (k : Nat) : List ByteArray := mkS b k ++ fs.drop k
theorem mixS_length (b : Nat) (fs : List ByteArray) (k : Nat) (h : k ≤ fs.length) : (mixS b fs k).length = fs.length := by simp [mixS, mkS_length]; omega
theorem mixS_zero (b : Nat) (fs : List ByteArray) : mixS b fs 0 = fs := by simp [mixS, mkS]
theorem mixS_end (b : Nat) (fs : List ByteArray) : mixS b fs fs.length = mkS b fs.length := by simp [mixS]
theorem mixS_next (b : Nat) (fs : List ByteArray) (k : Nat) (h : k < fs.length) : (mixS b fs k).set k (mtx (b + k)) = mixS b fs (k + 1) := by
  have hl := mkS_length b k
  unfold mixS
  rw [List.set_append_right _ _ (by omega), hl, Nat.sub_self, List.drop_eq_getElem_cons h, List.set_cons_zero]
  simp [mkS, List.range_succ]
end Plain



end Go.Proofs.YtldgkpnlplfopaaGreatDoor

/- Texts rising, each once: the specification's l1Rising by its contract. -/
namespace Go.Proofs.YtldgkpnlplfopaaGreatDoor
open Go.RowKit Plain
set_option linter.unusedVariables false

namespace Plain
def ltB (a b : ByteArray) : Prop := a.data.toList < b.data.toList
theorem ltB_irrefl (a : ByteArray) : ¬ ltB a a := List.lt_irrefl _
theorem ltB_trans {a b c : ByteArray} (h : ltB a b) (h2 : ltB b c) : ltB a c := List.lt_trans h h2
theorem ltB_tri {a b : ByteArray} (h : ¬ ltB a b) (h2 : a ≠ b) : ltB b a := by
  rcases Classical.em (ltB b a) with h3 | h3
  · exact h3
  · exact absurd (ByteArray.ext (Array.toList_inj.1 (List.le_antisymm h3 h))) h2
theorem less_ltB (a b : ByteArray) : Op.bytesLess a.toList b.toList = true ↔ ltB a b := by
  rw [bytesLess_eq, ByteArray.toList_eq, ByteArray.toList_eq, decide_eq_true_iff]; rfl
theorem beq_bytes (a b : ByteArray) : (a.toList == b.toList) = true ↔ a = b := by
  rw [beq_iff_eq, ByteArray.toList_eq, ByteArray.toList_eq]
  exact ⟨fun h => ByteArray.ext (Array.toList_inj.1 h), fun h => by rw [h]⟩
def Strict (l : List ByteArray) : Prop := l.Pairwise ltB
theorem strict_ext {l1 l2 : List ByteArray} (h1 : Strict l1) (h2 : Strict l2) (h : ∀ x, x ∈ l1 ↔ x ∈ l2) : l1 = l2 := by
  induction l1 generalizing l2 with
  | nil =>
    cases l2 with
    | nil => rfl
    | cons b t => have := (h b).2 (by simp); simp at this
  | cons a t ih =>
    cases l2 with
    | nil => have := (h a).1 (by simp); simp at this
    | cons b t2 =>
      unfold Strict at h1 h2
      rw [List.pairwise_cons] at h1 h2
      have e : a = b := by
        rcases List.mem_cons.1 ((h a).1 (by simp)) with e | e
        · exact e
        · rcases List.mem_cons.1 ((h b).2 (by simp)) with e2 | e2
          · exact e2.symm
          · exact absurd (ltB_trans (h1.1 b e2) (h2.1 a e)) (ltB_irrefl a)
      subst e
      rw [ih h1.2 h2.2 (fun x => ?_)]
      constructor
      · intro hx
        rcases List.mem_cons.1 ((h x).1 (by simp [hx])) with e | e
        · subst e; exact absurd (h1.1 x hx) (ltB_irrefl x)
        · exact e
      · intro hx
        rcases List.mem_cons.1 ((h x).2 (by simp [hx])) with e | e
        · subst e; exact absurd (h2.1 x hx) (ltB_irrefl x)
        · exact e
theorem strict_ins {acc : List ByteArray} {x : ByteArray} {k : Nat} (h : Strict acc) (hlo : ∀ y ∈ acc.take k, ltB y x) (hhi : ∀ y ∈ acc.drop k, ltB x y) : Strict (acc.take k ++ x :: acc.drop k) := by
  unfold Strict at h ⊢
  rw [← List.take_append_drop k acc, List.pairwise_append] at h
  rw [List.pairwise_append, List.pairwise_cons]
  refine ⟨h.1, ⟨hhi, h.2.1⟩, fun a ha b hb => ?_⟩
  rcases List.mem_cons.1 hb with rfl | hb
  · exact hlo a ha
  · exact h.2.2 a ha b hb
theorem mem_ins {acc : List ByteArray} {x y : ByteArray} {k : Nat} : y ∈ acc.take k ++ x :: acc.drop k ↔ y ∈ acc ∨ y = x := by
  rw [List.mem_append, List.mem_cons]
  constructor
  · rintro (h | h | h)
    · exact .inl (List.mem_of_mem_take h)
    · exact .inr h
    · exact .inl (List.mem_of_mem_drop h)
  · rintro (h | h)
    · rw [← List.take_append_drop k acc, List.mem_append] at h
      rcases h with h | h
      · exact .inl h
      · exact .inr (.inr h)
    · exact .inr (.inl h)
theorem take_low {acc : List ByteArray} {x : ByteArray} {k : Nat} (h : Strict acc) (hk : k < acc.length) (hx : ltB acc[k] x) : ∀ y ∈ acc.take (k + 1), ltB y x := by
  intro y hy
  rw [List.take_succ_eq_append_getElem hk, List.mem_append, List.mem_singleton] at hy
  rcases hy with hy | rfl
  · have hm : acc[k] ∈ acc.drop k := List.mem_drop_iff_getElem.2 ⟨0, by omega, by simp⟩
    unfold Strict at h
    rw [← List.take_append_drop k acc, List.pairwise_append] at h
    exact ltB_trans (h.2.2 y hy acc[k] hm) hx
  · exact hx
theorem drop_high {acc : List ByteArray} {x : ByteArray} {k : Nat} (hk : k < acc.length) (hx : ltB x acc[k]) (h : ∀ y ∈ acc.drop (k + 1), ltB x y) : ∀ y ∈ acc.drop k, ltB x y := by
  intro y hy
  rw [List.drop_eq_getElem_cons hk, List.mem_cons] at hy
  rcases hy with rfl | hy
  · exact hx
  · exact h y hy
theorem shift_row (acc : List ByteArray) (y : ByteArray) (k : Nat) (hk : k < acc.length) : (acc.take (k + 1) ++ y :: acc.drop (k + 1)).set (k + 1) acc[k] = acc.take k ++ acc[k] :: acc.drop k := by
  rw [List.set_append_right _ _ (by rw [List.length_take]; omega), List.length_take, show k + 1 - min (k + 1) acc.length = 0 from by omega, List.set_cons_zero, List.take_succ_eq_append_getElem hk, List.append_assoc]
  conv => rhs; rw [List.drop_eq_getElem_cons hk]
  rfl
theorem put_row (acc : List ByteArray) (x y : ByteArray) (k : Nat) (hk : k ≤ acc.length) : (acc.take k ++ y :: acc.drop k).set k x = acc.take k ++ x :: acc.drop k := by
  rw [List.set_append_right _ _ (by rw [List.length_take]; omega), List.length_take, show k - min k acc.length = 0 from by omega, List.set_cons_zero]
def anyB (ls : List ByteArray) (s : ByteArray) : Bool := ls.any fun x => x.toList == s.toList
theorem anyB_mem (ls : List ByteArray) (s : ByteArray) : anyB ls s = true ↔ s ∈ ls := by
  unfold anyB
  rw [List.any_eq_true]
  constructor
  · rintro ⟨x, hx, h⟩
    rw [beq_bytes] at h
    rw [← h]; exact hx
  · intro h
    exact ⟨s, h, (beq_bytes s s).2 rfl⟩
theorem any_step {α : Type} (p : α → Bool) (l : List α) (k : Nat) (h : k < l.length) : (l.drop k).any p = (p l[k] || (l.drop (k + 1)).any p) := by
  rw [List.drop_eq_getElem_cons h, List.any_cons]
end Plain

set_option maxHeartbeats 1000000 in
theorem l1Has_calls (a : Option Addr) (n c : Nat) (ls : List ByteArray) (s : ByteArray) (w : World) (hn : ls.length = n) (hn2 : n ≤ 100000000) (h : StrsAt w a ls) :
    Calls Tryz.prog 37 #[.slice a n c, .string s] w fun e w' => e = .returned (.bool (anyB ls s)) ∧ w = w' := by
  have H := hide h
  have HN := hide hn
  clear h hn
  go_enter Tryz.func37, Tryz.ntmps37
  go_wp2_with fail
  go_loop [5] (fun i => ∃ k : Nat, i = .int .i64 k ∧ k ≤ n ∧ Hid ((ls.drop k).any (fun x => x.toList == s.toList) = anyB ls s)) (fun i => n - (intOf i).toNat)
  case atStart => exact ⟨0, rfl, by omega, hide (by rw [List.drop_zero]; rfl)⟩
  case round =>
    obtain ⟨k, rfl, hk, HR⟩ := hrel
    by_cases hlk : k < n
    · have hkl : k < ls.length := by rw [unhide HN]; exact hlk
      obtain ⟨g, o, e1, l1, p1⟩ := unhide H k hkl
      have hst := any_step (fun x => x.toList == s.toList) ls k hkl
      generalize ls[k] = x at p1 hst
      have i0 : (0 : Int) ≤ (k : Int) := by omega
      have i1 : (k : Int) < (n : Int) := by omega
      subst e1
      cases hx : (x.toList == s.toList) with
      | true =>
        have HF := hide (show anyB ls s = true from by rw [← unhide HR, hst, hx]; rfl)
        clear hst HR
        go_wp2_with fail
        go_ret
        exact ⟨by rw [unhide HF]; rfl, rfl⟩
      | false =>
        have HF := hide (show (ls.drop (k + 1)).any (fun x => x.toList == s.toList) = anyB ls s from by rw [← unhide HR, hst, hx]; rfl)
        clear hst HR
        go_wp2_with fail
        go_round
        case rel => exact ⟨k + 1, by go_num, by omega, HF⟩
        case measure => simp [intOf]; omega
    · have HF := unhide HR
      rw [List.drop_of_length_le (by rw [unhide HN]; omega)] at HF
      have HFF := hide HF
      clear HR HF
      go_wp2_with fail
      go_ret
      exact ⟨by rw [← unhide HFF]; rfl, rfl⟩

set_option maxRecDepth 10000 in
set_option maxHeartbeats 4000000 in
theorem l1Rising_calls (a : Option Addr) (n c : Nat) (ls : List ByteArray) (w : World) (hn : ls.length = n) (hn2 : n ≤ 1000000) (h : StrsAt w a ls) :
    Calls Tryz.prog 54 #[.slice a n c] w fun e w' => ∃ v out, e = .returned v ∧ OwnR strE w' w.heap.size v out ∧ Hid (Strict out ∧ ∀ x, x ∈ out ↔ x ∈ ls) ∧ Below w.heap.size w w' := by
  have H := hide h
  have HN := hide hn
  clear h hn
  go_enter Tryz.func54, Tryz.ntmps54
  go_wp2_with fail
  go_loopw [3, 4] (fun v i wr => ∃ (k : Nat) (acc : List ByteArray), i = .int .i64 k ∧ k ≤ n ∧ acc.length ≤ k ∧ Hid (OwnR strE wr w.heap.size v acc) ∧ Hid (Below w.heap.size w wr) ∧ w.heap.size ≤ wr.heap.size ∧ Hid (Strict acc ∧ ∀ x, x ∈ acc ↔ x ∈ ls.take k)) (fun _ i _ => n - (intOf i).toNat)
  case atStart => exact ⟨0, [], rfl, by omega, by simp, hide (ownR_empty strE w _ (Nat.le_refl _)), hide ((Below.refl _ _).alloc (Nat.le_refl _) _), by simp, hide ⟨List.Pairwise.nil, by simp⟩⟩
  case round =>
    obtain ⟨k, acc, rfl, hk, hacc, HO, HB, hz, HS⟩ := hrel
    by_cases hlk : k < n
    · have hkl : k < ls.length := by rw [unhide HN]; exact hlk
      obtain ⟨g, o, e1, l0, p0⟩ := unhide H k hkl
      have hmem : ∀ y, y ∈ ls.take (k + 1) ↔ y ∈ ls.take k ∨ y = ls[k] := fun y => by rw [List.take_succ_eq_append_getElem hkl, List.mem_append, List.mem_singleton]
      generalize ls[k] = x at p0 hmem
      have HMEM := hide hmem
      have HP := hide (fun (W : World) (hW : Below w.heap.size w W) => (hW.cell (p := ⟨g, o + k, none⟩) l0).trans p0)
      have p1 := unhide HP wr (unhide HB)
      clear p0 l0
      have i0 : (0 : Int) ≤ (k : Int) := by omega
      have i1 : (k : Int) < (n : Int) := by omega
      obtain ⟨av, cv, hv⟩ := (unhide HO).form
      subst hv
      subst e1
      clear hmem
      cases hA : anyB acc x with
      | true =>
        have hin := (anyB_mem acc x).1 hA
        have HS2 := hide (show Strict acc ∧ ∀ y, y ∈ acc ↔ y ∈ ls.take (k + 1) from ⟨(unhide HS).1, fun y => by
          rw [unhide HMEM y, (unhide HS).2 y]
          exact ⟨fun h => .inl h, fun h => h.elim id (fun e => by rw [e]; exact ((unhide HS).2 x).1 hin)⟩⟩)
        have HA := hide hA
        clear hA hin HS
        go_wp2_with fail
        refine (l1Has_calls av acc.length cv acc x _ rfl (by omega) (unhide HO).at.strs).mono ?_
        rintro e w2 ⟨rfl, rfl⟩
        rw [unhide HA]
        go_wp2_with fail
        go_roundw
        case rel => exact ⟨k + 1, acc, by go_num, by omega, by omega, HO, HB, hz, HS2⟩
        case measure => simp [intOf]; omega
      | false =>
        have hnin : x ∉ acc := fun h => by rw [(anyB_mem acc x).2 h] at hA; simp at hA
        have HNIN := hide hnin
        have HA := hide hA
        clear hA hnin
        go_wp2_with fail
        refine (l1Has_calls av acc.length cv acc x _ rfl (by omega) (unhide HO).at.strs).mono ?_
        rintro e w2 ⟨rfl, rfl⟩
        rw [unhide HA]
        go_wp2_with (at_builtin; go_must (refine appR (e := strE) rfl _ _ rfl (unhide HO) rfl x rfl _ rfl rfl (by omega) hz ?_); intro v' w6 hown6 hb6 hg6)
        obtain ⟨gv, cv2, hvf⟩ : ∃ gv cv2, v' = .slice (some ⟨gv, 0, none⟩) (acc.length + 1) cv2 := by
          obtain ⟨g', c', e', _⟩ := World.ownsRow.form hown6 (by simp)
          exact ⟨g', c', by rw [e']; simp⟩
        subst hvf
        have HO6 := hide hown6
        have HB6 := hide ((unhide HB).trans hb6)
        have hz6 : w.heap.size ≤ w6.heap.size := Nat.le_trans hz hb6.size
        have hgv : w.heap.size ≤ gv := (World.ownsRow.lt hown6 gv rfl).1
        clear hown6 hb6 hg6 p1 HB HO hz
        go_loopw [5] (fun kk wr2 => ∃ (q : Nat) (y : ByteArray), kk = .int .i64 q ∧ q ≤ acc.length ∧ Hid (OwnR strE wr2 w.heap.size (.slice (some ⟨gv, 0, none⟩) (acc.length + 1) cv2) (acc.take q ++ y :: acc.drop q)) ∧ Hid (∀ z ∈ acc.drop q, ltB x z) ∧ Hid (Below w.heap.size w wr2) ∧ w.heap.size ≤ wr2.heap.size) (fun kk _ => (intOf kk).toNat)
        case atStart => exact ⟨acc.length, x, rfl, Nat.le_refl _, hide (by rw [List.take_length, List.drop_length]; exact unhide HO6), hide (by simp), HB6, hz6⟩
        case round =>
          obtain ⟨q, y, rfl, hq, HOQ, HHI, HBQ, hzq⟩ := hrel
          have p1 := unhide HP _ (unhide HBQ)
          have hlen : (acc.take q ++ y :: acc.drop q).length = acc.length + 1 := by rw [List.length_append, List.length_cons, List.length_take, List.length_drop]; omega
          have hrow := (unhide HOQ).at
          obtain ⟨gq, eq, lq, rq, fq⟩ := hrow.str q (by rw [hlen]; omega)
          obtain rfl : gv = gq := by simpa using eq
          have hyy : (acc.take q ++ y :: acc.drop q)[q]'(by rw [hlen]; omega) = y := by
            rw [List.getElem_append_right (by rw [List.length_take]; omega)]
            simp only [List.length_take, show q - min q acc.length = 0 from by omega, List.getElem_cons_zero]
          rw [hyy] at rq
          have hput := (unhide HOQ).setS (k := q) hlen x
          rw [put_row acc x y q hq] at hput
          have HPUT := hide hput
          have hstop : (∀ z ∈ acc.take q, ltB z x) → Strict (acc.take q ++ x :: acc.drop q) ∧ ∀ z, z ∈ acc.take q ++ x :: acc.drop q ↔ z ∈ ls.take (k + 1) := fun hlo =>
            ⟨strict_ins (unhide HS).1 hlo (unhide HHI), fun z => by rw [mem_ins, unhide HMEM z, (unhide HS).2 z]⟩
          have HSTOP := hide hstop
          clear hput hyy eq hstop
          cases q with
          | zero =>
            have HF := hide (unhide HSTOP (by simp))
            clear HSTOP hrow
            go_wp2_with fail
            go_region
            all_goals (try go_wp2_with fail)
            all_goals exact ⟨⟨k + 1, acc.take 0 ++ x :: acc.drop 0, by go_num, by omega, by simp; omega, hide (OwnR.drewN (unhide HPUT) 1), hide (belDrew ((unhide HBQ).setCell (p := ⟨gv, 0, none⟩) hgv _)), by simp; omega, HF⟩, by simp [intOf]; omega⟩
          | succ q =>
            have hql : q < acc.length := hq
            obtain ⟨g3, e3, l3, r3, f3⟩ := hrow.str q (by rw [hlen]; omega)
            obtain rfl : gv = g3 := by simpa using e3
            have hzz : (acc.take (q + 1) ++ y :: acc.drop (q + 1))[q]'(by rw [hlen]; omega) = acc[q] := by
              rw [List.getElem_append_left (by rw [List.length_take]; omega), List.getElem_take]
            rw [hzz] at r3
            have hne : acc[q] ≠ x := fun e => unhide HNIN (by rw [← e]; simp)
            have hsh := (unhide HOQ).setS (k := q + 1) hlen acc[q]
            rw [shift_row acc y q hql] at hsh
            have hlow := fun hx => take_low (unhide HS).1 hql (x := x) hx
            have hhigh := fun hx => drop_high hql (x := x) hx (unhide HHI)
            have HSH := hide hsh
            have HLOW := hide hlow
            have HHIGH := hide hhigh
            generalize acc[q] = z at r3 hne HSH HLOW HHIGH
            have b2 : (z.toList == x.toList) = false := by
              cases hb : (z.toList == x.toList) with
              | false => rfl
              | true => exact absurd ((beq_bytes z x).1 hb) hne
            have j0 : (0 : Int) ≤ (q : Int) := by omega
            have j1 : (q : Int) < (acc.length : Int) + 1 := by omega
            have j2 : (q : Int) + 1 < (acc.length : Int) + 1 := by omega
            clear hzz hsh hlow hhigh e3 hrow hlen
            cases b1 : Op.bytesLess z.toList x.toList with
            | true =>
              have HF := hide (unhide HSTOP (unhide HLOW ((less_ltB z x).1 b1)))
              clear HSTOP HSH HLOW HHIGH
              go_wp2_with fail
              go_region
              all_goals (try go_wp2_with fail)
              all_goals exact ⟨⟨k + 1, acc.take (q + 1) ++ x :: acc.drop (q + 1), by go_num, by omega, by simp; omega, hide (OwnR.drewN (unhide HPUT) 1), hide (belDrew ((unhide HBQ).setCell (p := ⟨gv, q + 1, none⟩) hgv _)), by simp; omega, HF⟩, by simp [intOf]; omega⟩
            | false =>
              have hlt : ltB x z := ltB_tri (fun h => by rw [(less_ltB z x).2 h] at b1; simp at b1) hne
              have HH2 := hide (unhide HHIGH hlt)
              clear HSTOP HPUT HLOW HHIGH hlt
              go_wp2_with fail
              go_region
              all_goals (try go_wp2_with fail)
              all_goals exact ⟨⟨q, z, rfl, by omega, hide (OwnR.drewN (unhide HSH) 1), HH2, hide (belDrew ((unhide HBQ).setCell (p := ⟨gv, q + 1, none⟩) hgv _)), by simp; omega⟩, by simp [intOf]⟩
    · obtain rfl : k = n := by omega
      have HF := hide (show Strict acc ∧ ∀ x, x ∈ acc ↔ x ∈ ls from by have := unhide HS; rw [List.take_of_length_le (by rw [unhide HN]; exact Nat.le_refl _)] at this; exact this)
      clear HS
      go_wp2_with fail
      go_ret
      exact ⟨_, acc, rfl, unhide HO, HF, unhide HB⟩
end Go.Proofs.YtldgkpnlplfopaaGreatDoor

