/- Texts of one kind, put together. -/
import Derived.Test.YtldgkpnlplfopaaMem
import Derived.Deep.RegionWith
import Derived.Test.YtldgkpnlplfopaaRzA
import Derived.Sort.Walk0
import Derived.Test.YtldgkpnlplfopaaDzA
import Derived.Deep.RegionLaw
import Derived.Laws.Rows
import Derived.OneCell
import Derived.Test.YtldgkpnlplfopaaDrawQ

/- A word in four bytes, the lowest first: both programs by their contracts. -/
namespace Go.Proofs.Ytldgkpnlplfopaa
open Go.RowKit Plain
set_option linter.unusedVariables false

namespace Plain
def fourL (x : Int) : List Int := [x % 256, x / 256 % 256, x / 65536 % 256, x / 16777216]
end Plain

theorem conv_lit (W : World) (xs : List Int) (h : xs.length ≤ 1000) :
    (convert 22 9 (.slice (some ⟨W.heap.size, 0, none⟩) xs.length xs.length)).run Try.prog (W.alloc (.cells (xs.map (Value.int .u8)).toArray 5)) = .ok (.string (strOfNums xs)) (W.alloc (.cells (xs.map (Value.int .u8)).toArray 5)) := by
  refine conv_ownB _ W.heap.size _ xs ?_
  refine ⟨by simp, .inr ⟨W.heap.size, xs.length, (xs.map (Value.int .u8)).toArray, rfl, Nat.le_refl _, heap_alloc_new _ _, Nat.le_refl _, by unfold maxLen; omega, by simp, ?_⟩⟩
  rw [Nat.mul_one]
  exact List.take_of_length_le (by simp)

theorem conv4 (W : World) (a b c d : Int) :
    (convert 22 9 (.slice (some ⟨W.heap.size, 0, none⟩) 4 4)).run Try.prog (W.alloc (.cells #[.int .u8 a, .int .u8 b, .int .u8 c, .int .u8 d] 5)) = .ok (.string (strOfNums [a, b, c, d])) (W.alloc (.cells #[.int .u8 a, .int .u8 b, .int .u8 c, .int .u8 d] 5)) :=
  conv_lit W [a, b, c, d] (by simp)
theorem conv1 (W : World) (a : Int) :
    (convert 22 9 (.slice (some ⟨W.heap.size, 0, none⟩) 1 1)).run Try.prog (W.alloc (.cells #[.int .u8 a] 5)) = .ok (.string (strOfNums [a])) (W.alloc (.cells #[.int .u8 a] 5)) :=
  conv_lit W [a] (by simp)







end Go.Proofs.Ytldgkpnlplfopaa

/- The texts by which the exact laws mark memory. -/
namespace Go.Proofs.Ytldgkpnlplfopaa
open Go.RowKit Plain
set_option linter.unusedVariables false

namespace Plain
/-- A number's decimal digits ahead of out. -/
def decB : Nat → Nat → ByteArray → ByteArray
  | 0, _, out => out
  | f + 1, k, out => if k = 0 then out else decB f (k / 10) (strOfNums [((48 + k % 10 : Nat) : Int)] ++ out)
def mtx (k : Nat) : ByteArray := ⟨#[109]⟩ ++ decB k k ⟨#[]⟩
theorem decB_zero (f : Nat) (out : ByteArray) : decB f 0 out = out := by cases f <;> simp [decB]
theorem decB_step (f k : Nat) (out : ByteArray) (h : 0 < k) (hf : k ≤ f) : ∃ f', f = f' + 1 ∧ k / 10 ≤ f' ∧ decB f k out = decB f' (k / 10) (strOfNums [((48 + k % 10 : Nat) : Int)] ++ out) := by
  obtain ⟨f', rfl⟩ : ∃ f', f = f' + 1 := ⟨f - 1, by omega⟩
  exact ⟨f', rfl, by omega, by rw [decB, if_neg (by omega)]⟩
end Plain



end Go.Proofs.Ytldgkpnlplfopaa

/- Rows of texts marked and looked at again, as the exact laws do it. -/
namespace Go.Proofs.Ytldgkpnlplfopaa
open Go.RowKit Plain
set_option linter.unusedVariables false

theorem RowAt.ofS {W : World} {a : Option Addr} {xs : List ByteArray} (h : ∀ i (hi : i < xs.length), ∃ g, a = some ⟨g, 0, none⟩ ∧ g < W.heap.size ∧ W.cell? ⟨g, i, none⟩ = some (.string xs[i]) ∧ W.frozen? ⟨g, i, none⟩ = false) : RowAt strE W a xs := by
  intro i hi
  obtain ⟨g, e, hl, hc, hf⟩ := h i hi
  refine ⟨g, e, hl, fun j hj => ?_⟩
  obtain rfl : j = 0 := by have : strE.n = 1 := rfl; omega
  rw [show i * strE.n + 0 = i from Nat.mul_one i]
  exact ⟨hc, hf⟩
theorem RowAt.setS {W : World} {g : Nat} {L : List ByteArray} (h : RowAt strE W (some ⟨g, 0, none⟩) L) (k : Nat) (hk : k < L.length) (y : ByteArray) : RowAt strE (W.setCell ⟨g, k, none⟩ (.string y)) (some ⟨g, 0, none⟩) (L.set k y) := by
  apply RowAt.ofS
  intro i hi
  rw [List.length_set] at hi
  obtain ⟨g', e, hl, hc, hf⟩ := h.str i hi
  cases e
  refine ⟨g, rfl, by simpa using hl, ?_, by simpa using hf⟩
  by_cases e : k = i
  · subst e
    rw [World.cell?_setCell_same' _ _ _ (by rw [hc]; rfl)]
    simp
  · rw [World.cell?_setCell_other _ ⟨g, k, none⟩ ⟨g, i, none⟩ _ (fun q => e (by have := congrArg Addr.off q; simpa using this)), hc]
    simp [e]

namespace Plain
/-- What the marking leaves. -/
def mkS (b n : Nat) : List ByteArray := (List.range n).map fun i : Nat => mtx (b + i)
theorem mkS_length (b n : Nat) : (mkS b n).length = n := by simp [mkS]
theorem mkS_get (b n k : Nat) (h : k < (mkS b n).length) : (mkS b n)[k] = mtx (b + k) := by simp [mkS]
def mixS (b : Nat) (fs : List ByteArray) (k : Nat) : List ByteArray := mkS b k ++ fs.drop k
theorem mixS_length (b : Nat) (fs : List ByteArray) (k : Nat) (h : k ≤ fs.length) : (mixS b fs k).length = fs.length := by simp [mixS, mkS_length]; omega
theorem mixS_zero (b : Nat) (fs : List ByteArray) : mixS b fs 0 = fs := by simp [mixS, mkS]
theorem mixS_end (b : Nat) (fs : List ByteArray) : mixS b fs fs.length = mkS b fs.length := by simp [mixS]
theorem mixS_next (b : Nat) (fs : List ByteArray) (k : Nat) (h : k < fs.length) : (mixS b fs k).set k (mtx (b + k)) = mixS b fs (k + 1) := by
  have hl := mkS_length b k
  unfold mixS
  rw [List.set_append_right _ _ (by omega), hl, Nat.sub_self, List.drop_eq_getElem_cons h, List.set_cons_zero]
  simp [mkS, List.range_succ]
end Plain



end Go.Proofs.Ytldgkpnlplfopaa

/- Texts rising, each once: the specification's l1Rising by its contract. -/
namespace Go.Proofs.Ytldgkpnlplfopaa
open Go.RowKit Plain
set_option linter.unusedVariables false

namespace Plain
def ltB (a b : ByteArray) : Prop := a.data.toList < b.data.toList
theorem ltB_irrefl (a : ByteArray) : ¬ ltB a a := List.lt_irrefl _
theorem ltB_trans {a b c : ByteArray} (h : ltB a b) (h2 : ltB b c) : ltB a c := List.lt_trans h h2
theorem ltB_tri {a b : ByteArray} (h : ¬ ltB a b) (h2 : a ≠ b) : ltB b a := by
  rcases Classical.em (ltB b a) with h3 | h3
  · exact h3
  · exact absurd (ByteArray.ext (Array.toList_inj.1 (List.le_antisymm h3 h))) h2
theorem less_ltB (a b : ByteArray) : Op.bytesLess a.toList b.toList = true ↔ ltB a b := by
  rw [bytesLess_eq, ByteArray.toList_eq, ByteArray.toList_eq, decide_eq_true_iff]; rfl
theorem beq_bytes (a b : ByteArray) : (a.toList == b.toList) = true ↔ a = b := by
  rw [beq_iff_eq, ByteArray.toList_eq, ByteArray.toList_eq]
  exact ⟨fun h => ByteArray.ext (Array.toList_inj.1 h), fun h => by rw [h]⟩
def Strict (l : List ByteArray) : Prop := l.Pairwise ltB
theorem strict_ext {l1 l2 : List ByteArray} (h1 : Strict l1) (h2 : Strict l2) (h : ∀ x, x ∈ l1 ↔ x ∈ l2) : l1 = l2 := by
  induction l1 generalizing l2 with
  | nil =>
    cases l2 with
    | nil => rfl
    | cons b t => have := (h b).2 (by simp); simp at this
  | cons a t ih =>
    cases l2 with
    | nil => have := (h a).1 (by simp); simp at this
    | cons b t2 =>
      unfold Strict at h1 h2
      rw [List.pairwise_cons] at h1 h2
      have e : a = b := by
        rcases List.mem_cons.1 ((h a).1 (by simp)) with e | e
        · exact e
        · rcases List.mem_cons.1 ((h b).2 (by simp)) with e2 | e2
          · exact e2.symm
          · exact absurd (ltB_trans (h1.1 b e2) (h2.1 a e)) (ltB_irrefl a)
      subst e
      rw [ih h1.2 h2.2 (fun x => ?_)]
      constructor
      · intro hx
        rcases List.mem_cons.1 ((h x).1 (by simp [hx])) with e | e
        · subst e; exact absurd (h1.1 x hx) (ltB_irrefl x)
        · exact e
      · intro hx
        rcases List.mem_cons.1 ((h x).2 (by simp [hx])) with e | e
        · subst e; exact absurd (h2.1 x hx) (ltB_irrefl x)
        · exact e
theorem strict_ins {acc : List ByteArray} {x : ByteArray} {k : Nat} (h : Strict acc) (hlo : ∀ y ∈ acc.take k, ltB y x) (hhi : ∀ y ∈ acc.drop k, ltB x y) : Strict (acc.take k ++ x :: acc.drop k) := by
  unfold Strict at h ⊢
  rw [← List.take_append_drop k acc, List.pairwise_append] at h
  rw [List.pairwise_append, List.pairwise_cons]
  refine ⟨h.1, ⟨hhi, h.2.1⟩, fun a ha b hb => ?_⟩
  rcases List.mem_cons.1 hb with rfl | hb
  · exact hlo a ha
  · exact h.2.2 a ha b hb
theorem mem_ins {acc : List ByteArray} {x y : ByteArray} {k : Nat} : y ∈ acc.take k ++ x :: acc.drop k ↔ y ∈ acc ∨ y = x := by
  rw [List.mem_append, List.mem_cons]
  constructor
  · rintro (h | h | h)
    · exact .inl (List.mem_of_mem_take h)
    · exact .inr h
    · exact .inl (List.mem_of_mem_drop h)
  · rintro (h | h)
    · rw [← List.take_append_drop k acc, List.mem_append] at h
      rcases h with h | h
      · exact .inl h
      · exact .inr (.inr h)
    · exact .inr (.inl h)
theorem take_low {acc : List ByteArray} {x : ByteArray} {k : Nat} (h : Strict acc) (hk : k < acc.length) (hx : ltB acc[k] x) : ∀ y ∈ acc.take (k + 1), ltB y x := by
  intro y hy
  rw [List.take_succ_eq_append_getElem hk, List.mem_append, List.mem_singleton] at hy
  rcases hy with hy | rfl
  · have hm : acc[k] ∈ acc.drop k := List.mem_drop_iff_getElem.2 ⟨0, by omega, by simp⟩
    unfold Strict at h
    rw [← List.take_append_drop k acc, List.pairwise_append] at h
    exact ltB_trans (h.2.2 y hy acc[k] hm) hx
  · exact hx
theorem drop_high {acc : List ByteArray} {x : ByteArray} {k : Nat} (hk : k < acc.length) (hx : ltB x acc[k]) (h : ∀ y ∈ acc.drop (k + 1), ltB x y) : ∀ y ∈ acc.drop k, ltB x y := by
  intro y hy
  rw [List.drop_eq_getElem_cons hk, List.mem_cons] at hy
  rcases hy with rfl | hy
  · exact hx
  · exact h y hy
theorem shift_row (acc : List ByteArray) (y : ByteArray) (k : Nat) (hk : k < acc.length) : (acc.take (k + 1) ++ y :: acc.drop (k + 1)).set (k + 1) acc[k] = acc.take k ++ acc[k] :: acc.drop k := by
  rw [List.set_append_right _ _ (by rw [List.length_take]; omega), List.length_take, show k + 1 - min (k + 1) acc.length = 0 from by omega, List.set_cons_zero, List.take_succ_eq_append_getElem hk, List.append_assoc]
  conv => rhs; rw [List.drop_eq_getElem_cons hk]
  rfl
theorem put_row (acc : List ByteArray) (x y : ByteArray) (k : Nat) (hk : k ≤ acc.length) : (acc.take k ++ y :: acc.drop k).set k x = acc.take k ++ x :: acc.drop k := by
  rw [List.set_append_right _ _ (by rw [List.length_take]; omega), List.length_take, show k - min k acc.length = 0 from by omega, List.set_cons_zero]
def anyB (ls : List ByteArray) (s : ByteArray) : Bool := ls.any fun x => x.toList == s.toList
theorem anyB_mem (ls : List ByteArray) (s : ByteArray) : anyB ls s = true ↔ s ∈ ls := by
  unfold anyB
  rw [List.any_eq_true]
  constructor
  · rintro ⟨x, hx, h⟩
    rw [beq_bytes] at h
    rw [← h]; exact hx
  · intro h
    exact ⟨s, h, (beq_bytes s s).2 rfl⟩
theorem any_step {α : Type} (p : α → Bool) (l : List α) (k : Nat) (h : k < l.length) : (l.drop k).any p = (p l[k] || (l.drop (k + 1)).any p) := by
  rw [List.drop_eq_getElem_cons h, List.any_cons]
end Plain

set_option maxHeartbeats 1000000 in
theorem l1Has_calls (a : Option Addr) (n c : Nat) (ls : List ByteArray) (s : ByteArray) (w : World) (hn : ls.length = n) (hn2 : n ≤ 100000000) (h : StrsAt w a ls) :
    Calls Try.prog 31 #[.slice a n c, .string s] w fun e w' => e = .returned (.bool (anyB ls s)) ∧ w = w' := by
  have H := hide h
  have HN := hide hn
  clear h hn
  go_enter Try.func31, Try.ntmps31
  go_wp2_with fail
  go_loop [5] (fun i => ∃ k : Nat, i = .int .i64 k ∧ k ≤ n ∧ Hid ((ls.drop k).any (fun x => x.toList == s.toList) = anyB ls s)) (fun i => n - (intOf i).toNat)
  case atStart => exact ⟨0, rfl, by omega, hide (by rw [List.drop_zero]; rfl)⟩
  case round =>
    obtain ⟨k, rfl, hk, HR⟩ := hrel
    by_cases hlk : k < n
    · have hkl : k < ls.length := by rw [unhide HN]; exact hlk
      obtain ⟨g, o, e1, l1, p1⟩ := unhide H k hkl
      have hst := any_step (fun x => x.toList == s.toList) ls k hkl
      generalize ls[k] = x at p1 hst
      have i0 : (0 : Int) ≤ (k : Int) := by omega
      have i1 : (k : Int) < (n : Int) := by omega
      subst e1
      cases hx : (x.toList == s.toList) with
      | true =>
        have HF := hide (show anyB ls s = true from by rw [← unhide HR, hst, hx]; rfl)
        clear hst HR
        go_wp2_with fail
        go_ret
        exact ⟨by rw [unhide HF]; rfl, rfl⟩
      | false =>
        have HF := hide (show (ls.drop (k + 1)).any (fun x => x.toList == s.toList) = anyB ls s from by rw [← unhide HR, hst, hx]; rfl)
        clear hst HR
        go_wp2_with fail
        go_round
        case rel => exact ⟨k + 1, by go_num, by omega, HF⟩
        case measure => simp [intOf]; omega
    · have HF := unhide HR
      rw [List.drop_of_length_le (by rw [unhide HN]; omega)] at HF
      have HFF := hide HF
      clear HR HF
      go_wp2_with fail
      go_ret
      exact ⟨by rw [← unhide HFF]; rfl, rfl⟩

set_option maxRecDepth 10000 in
set_option maxHeartbeats 4000000 in
theorem l1Rising_calls (a : Option Addr) (n c : Nat) (ls : List ByteArray) (w : World) (hn : ls.length = n) (hn2 : n ≤ 1000000) (h : StrsAt w a ls) :
    Calls Try.prog 17 #[.slice a n c] w fun e w' => ∃ v out, e = .returned v ∧ OwnR strE w' w.heap.size v out ∧ Hid (Strict out ∧ ∀ x, x ∈ out ↔ x ∈ ls) ∧ Below w.heap.size w w' := by
  have H := hide h
  have HN := hide hn
  clear h hn
  go_enter Try.func17, Try.ntmps17
  go_wp2_with fail
  go_loopw [3, 4] (fun v i wr => ∃ (k : Nat) (acc : List ByteArray), i = .int .i64 k ∧ k ≤ n ∧ acc.length ≤ k ∧ Hid (OwnR strE wr w.heap.size v acc) ∧ Hid (Below w.heap.size w wr) ∧ w.heap.size ≤ wr.heap.size ∧ Hid (Strict acc ∧ ∀ x, x ∈ acc ↔ x ∈ ls.take k)) (fun _ i _ => n - (intOf i).toNat)
  case atStart => exact ⟨0, [], rfl, by omega, by simp, hide (ownR_empty strE w _ (Nat.le_refl _)), hide ((Below.refl _ _).alloc (Nat.le_refl _) _), by simp, hide ⟨List.Pairwise.nil, by simp⟩⟩
  case round =>
    obtain ⟨k, acc, rfl, hk, hacc, HO, HB, hz, HS⟩ := hrel
    by_cases hlk : k < n
    · have hkl : k < ls.length := by rw [unhide HN]; exact hlk
      obtain ⟨g, o, e1, l0, p0⟩ := unhide H k hkl
      have hmem : ∀ y, y ∈ ls.take (k + 1) ↔ y ∈ ls.take k ∨ y = ls[k] := fun y => by rw [List.take_succ_eq_append_getElem hkl, List.mem_append, List.mem_singleton]
      generalize ls[k] = x at p0 hmem
      have HMEM := hide hmem
      have HP := hide (fun (W : World) (hW : Below w.heap.size w W) => (hW.cell (p := ⟨g, o + k, none⟩) l0).trans p0)
      have p1 := unhide HP wr (unhide HB)
      clear p0 l0
      have i0 : (0 : Int) ≤ (k : Int) := by omega
      have i1 : (k : Int) < (n : Int) := by omega
      obtain ⟨av, cv, hv⟩ := (unhide HO).form
      subst hv
      subst e1
      clear hmem
      cases hA : anyB acc x with
      | true =>
        have hin := (anyB_mem acc x).1 hA
        have HS2 := hide (show Strict acc ∧ ∀ y, y ∈ acc ↔ y ∈ ls.take (k + 1) from ⟨(unhide HS).1, fun y => by
          rw [unhide HMEM y, (unhide HS).2 y]
          exact ⟨fun h => .inl h, fun h => h.elim id (fun e => by rw [e]; exact ((unhide HS).2 x).1 hin)⟩⟩)
        have HA := hide hA
        clear hA hin HS
        go_wp2_with fail
        refine (l1Has_calls av acc.length cv acc x _ rfl (by omega) (unhide HO).at.strs).mono ?_
        rintro e w2 ⟨rfl, rfl⟩
        rw [unhide HA]
        go_wp2_with fail
        go_roundw
        case rel => exact ⟨k + 1, acc, by go_num, by omega, by omega, HO, HB, hz, HS2⟩
        case measure => simp [intOf]; omega
      | false =>
        have hnin : x ∉ acc := fun h => by rw [(anyB_mem acc x).2 h] at hA; simp at hA
        have HNIN := hide hnin
        have HA := hide hA
        clear hA hnin
        go_wp2_with fail
        refine (l1Has_calls av acc.length cv acc x _ rfl (by omega) (unhide HO).at.strs).mono ?_
        rintro e w2 ⟨rfl, rfl⟩
        rw [unhide HA]
        go_wp2_with (at_builtin; go_must (refine appR (e := strE) rfl _ _ rfl (unhide HO) rfl x rfl _ rfl rfl (by omega) hz ?_); intro v' w6 hown6 hb6 hg6)
        obtain ⟨gv, cv2, hvf⟩ : ∃ gv cv2, v' = .slice (some ⟨gv, 0, none⟩) (acc.length + 1) cv2 := by
          obtain ⟨g', c', e', _⟩ := World.ownsRow.form hown6 (by simp)
          exact ⟨g', c', by rw [e']; simp⟩
        subst hvf
        have HO6 := hide hown6
        have HB6 := hide ((unhide HB).trans hb6)
        have hz6 : w.heap.size ≤ w6.heap.size := Nat.le_trans hz hb6.size
        have hgv : w.heap.size ≤ gv := (World.ownsRow.lt hown6 gv rfl).1
        clear hown6 hb6 hg6 p1 HB HO hz
        go_loopw [5] (fun kk wr2 => ∃ (q : Nat) (y : ByteArray), kk = .int .i64 q ∧ q ≤ acc.length ∧ Hid (OwnR strE wr2 w.heap.size (.slice (some ⟨gv, 0, none⟩) (acc.length + 1) cv2) (acc.take q ++ y :: acc.drop q)) ∧ Hid (∀ z ∈ acc.drop q, ltB x z) ∧ Hid (Below w.heap.size w wr2) ∧ w.heap.size ≤ wr2.heap.size) (fun kk _ => (intOf kk).toNat)
        case atStart => exact ⟨acc.length, x, rfl, Nat.le_refl _, hide (by rw [List.take_length, List.drop_length]; exact unhide HO6), hide (by simp), HB6, hz6⟩
        case round =>
          obtain ⟨q, y, rfl, hq, HOQ, HHI, HBQ, hzq⟩ := hrel
          have p1 := unhide HP _ (unhide HBQ)
          have hlen : (acc.take q ++ y :: acc.drop q).length = acc.length + 1 := by rw [List.length_append, List.length_cons, List.length_take, List.length_drop]; omega
          have hrow := (unhide HOQ).at
          obtain ⟨gq, eq, lq, rq, fq⟩ := hrow.str q (by rw [hlen]; omega)
          obtain rfl : gv = gq := by simpa using eq
          have hyy : (acc.take q ++ y :: acc.drop q)[q]'(by rw [hlen]; omega) = y := by
            rw [List.getElem_append_right (by rw [List.length_take]; omega)]
            simp only [List.length_take, show q - min q acc.length = 0 from by omega, List.getElem_cons_zero]
          rw [hyy] at rq
          have hput := (unhide HOQ).setS (k := q) hlen x
          rw [put_row acc x y q hq] at hput
          have HPUT := hide hput
          have hstop : (∀ z ∈ acc.take q, ltB z x) → Strict (acc.take q ++ x :: acc.drop q) ∧ ∀ z, z ∈ acc.take q ++ x :: acc.drop q ↔ z ∈ ls.take (k + 1) := fun hlo =>
            ⟨strict_ins (unhide HS).1 hlo (unhide HHI), fun z => by rw [mem_ins, unhide HMEM z, (unhide HS).2 z]⟩
          have HSTOP := hide hstop
          clear hput hyy eq hstop
          cases q with
          | zero =>
            have HF := hide (unhide HSTOP (by simp))
            clear HSTOP hrow
            go_wp2_with fail
            go_region
            all_goals (try go_wp2_with fail)
            all_goals exact ⟨⟨k + 1, acc.take 0 ++ x :: acc.drop 0, by go_num, by omega, by simp; omega, hide (OwnR.drewN (unhide HPUT) 1), hide (belDrew ((unhide HBQ).setCell (p := ⟨gv, 0, none⟩) hgv _)), by simp; omega, HF⟩, by simp [intOf]; omega⟩
          | succ q =>
            have hql : q < acc.length := hq
            obtain ⟨g3, e3, l3, r3, f3⟩ := hrow.str q (by rw [hlen]; omega)
            obtain rfl : gv = g3 := by simpa using e3
            have hzz : (acc.take (q + 1) ++ y :: acc.drop (q + 1))[q]'(by rw [hlen]; omega) = acc[q] := by
              rw [List.getElem_append_left (by rw [List.length_take]; omega), List.getElem_take]
            rw [hzz] at r3
            have hne : acc[q] ≠ x := fun e => unhide HNIN (by rw [← e]; simp)
            have hsh := (unhide HOQ).setS (k := q + 1) hlen acc[q]
            rw [shift_row acc y q hql] at hsh
            have hlow := fun hx => take_low (unhide HS).1 hql (x := x) hx
            have hhigh := fun hx => drop_high hql (x := x) hx (unhide HHI)
            have HSH := hide hsh
            have HLOW := hide hlow
            have HHIGH := hide hhigh
            generalize acc[q] = z at r3 hne HSH HLOW HHIGH
            have b2 : (z.toList == x.toList) = false := by
              cases hb : (z.toList == x.toList) with
              | false => rfl
              | true => exact absurd ((beq_bytes z x).1 hb) hne
            have j0 : (0 : Int) ≤ (q : Int) := by omega
            have j1 : (q : Int) < (acc.length : Int) + 1 := by omega
            have j2 : (q : Int) + 1 < (acc.length : Int) + 1 := by omega
            clear hzz hsh hlow hhigh e3 hrow hlen
            cases b1 : Op.bytesLess z.toList x.toList with
            | true =>
              have HF := hide (unhide HSTOP (unhide HLOW ((less_ltB z x).1 b1)))
              clear HSTOP HSH HLOW HHIGH
              go_wp2_with fail
              go_region
              all_goals (try go_wp2_with fail)
              all_goals exact ⟨⟨k + 1, acc.take (q + 1) ++ x :: acc.drop (q + 1), by go_num, by omega, by simp; omega, hide (OwnR.drewN (unhide HPUT) 1), hide (belDrew ((unhide HBQ).setCell (p := ⟨gv, q + 1, none⟩) hgv _)), by simp; omega, HF⟩, by simp [intOf]; omega⟩
            | false =>
              have hlt : ltB x z := ltB_tri (fun h => by rw [(less_ltB z x).2 h] at b1; simp at b1) hne
              have HH2 := hide (unhide HHIGH hlt)
              clear HSTOP HPUT HLOW HHIGH hlt
              go_wp2_with fail
              go_region
              all_goals (try go_wp2_with fail)
              all_goals exact ⟨⟨q, z, rfl, by omega, hide (OwnR.drewN (unhide HSH) 1), HH2, hide (belDrew ((unhide HBQ).setCell (p := ⟨gv, q + 1, none⟩) hgv _)), by simp; omega⟩, by simp [intOf]⟩
    · obtain rfl : k = n := by omega
      have HF := hide (show Strict acc ∧ ∀ x, x ∈ acc ↔ x ∈ ls from by have := unhide HS; rw [List.take_of_length_le (by rw [unhide HN]; exact Nat.le_refl _)] at this; exact this)
      clear HS
      go_wp2_with fail
      go_ret
      exact ⟨_, acc, rfl, unhide HO, HF, unhide HB⟩
end Go.Proofs.Ytldgkpnlplfopaa


/- A whole row is appended to a row of the call's own. -/
namespace Go.Proofs.Ytldgkpnlplfopaa
open Go.RowKit Plain
set_option linter.unusedVariables false

/-- How a slice's address may be. -/
def Plain.AdG (ad : Option Addr) (c : Nat) : Prop := (ad = none ∧ c = 0) ∨ ∃ g, ad = some ⟨g, 0, none⟩
theorem OwnR.adG {α : Type} {e : Elem α} {W : World} {B : Nat} {ad : Option Addr} {n c : Nat} {xs : List α} (h : OwnR e W B (.slice ad n c) xs) : AdG ad c := by
  rcases h.2 with ⟨e1, _⟩ | ⟨g, cap, cur, e1, _⟩
  · simp at e1; exact .inl ⟨e1.1, e1.2.2⟩
  · simp at e1; exact .inr ⟨g, e1.1⟩

theorem appGG {α : Type} {e : Elem α} {ops : Array Oper} {rest : List Oper} {o : Oper} {a : Act} {Q : Exit → Act → World → Prop} (hgd : o.guard = none) (s x : Operand)
    (ho : o.op = .call { callee := .builtin .append, args := #[s, x], argTypes := #[e.S, e.S] })
    {w : World} {B : Nat} {v : Value} {xs ys : List α} (hown : OwnR e w B v xs) (hs : a.eval s = v) (ad : Option Addr) (m c : Nat) (hx : a.eval x = .slice ad m c) (hy : ys.length = m) (hr : RowAt e w ad ys) (had : AdG ad c)
    (hlen : xs.length + m < 100000000) (hB : B ≤ w.heap.size)
    (h : ∀ v' w', OwnR e w' B v' (xs ++ ys) → Below B w w' → wpList Try.prog ops Q rest (a.put o.dst v') w') :
    wpList Try.prog ops Q (o :: rest) a w := by
  obtain ⟨i0, hi, hz0, hz1, hz2⟩ := info_parts e.hinfo
  subst hy
  rcases had with ⟨rfl, rfl⟩ | ⟨g, rfl⟩
  · have hys : ys = [] := by
      cases ys with
      | nil => rfl
      | cons y l => obtain ⟨g, e1, _⟩ := hr 0 (by simp); simp at e1
    subst hys
    refine wpList_plain hgd fun K hK => ?_
    have hrun := run_append_owned_none (P := Try.prog) w B e.S o.type e.E i0 e.n e.hund hi v xs.length (xs.flatMap e.enc) hown
    have hx2 : a.eval x = .slice none 0 0 := hx
    unfold Oper.wp execOp
    simp only [ho, resolve, invoke, builtin, Sem.run_bind, Sem.run_pure, Result.andThen_ok, List.map_toArray, List.map_cons, List.map_nil, hs, hx2, hrun]
    exact hK _ _ (h v w (by rw [List.append_nil]; exact hown) (Below.refl _ _))
  · have hby := e.hb
    refine wpList_append_own _ hgd s x e.S ho B e.E i0 e.zero e.n e.bytes e.hund hi hz0 hz1 hz2 e.hz e.hn v xs.length (xs.flatMap e.enc) hs hown
      ⟨g, 0, none⟩ ys.length c (ys.flatMap e.enc) hx (flat_len e.enc e.n e.hlen ys) ?_ ?_ (by unfold maxLen; omega) ?_ hB ?_
    · intro j u hj
      have hjl : j < ys.length * e.n := by
        have := (List.getElem?_eq_some_iff.1 hj).1
        rw [flat_len e.enc e.n e.hlen] at this
        exact this
      have hn := e.hn
      have hq : j / e.n < ys.length := Nat.div_lt_of_lt_mul (by rw [Nat.mul_comm]; exact hjl)
      have hm : j % e.n < e.n := Nat.mod_lt _ hn
      have hd : j / e.n * e.n + j % e.n = j := by rw [Nat.mul_comm]; exact Nat.div_add_mod j e.n
      obtain ⟨g', e1, hl, hc⟩ := hr (j / e.n) hq
      cases e1
      have h1 := (hc (j % e.n) hm).1
      rw [hd] at h1
      have h2 := flat_get e.enc e.n e.hlen ys (j / e.n) (j % e.n) hq hm
      rw [hd] at h2
      rw [show (⟨g, 0, none⟩ : Addr).add j = ⟨g, j, none⟩ from by unfold Addr.add; split <;> simp_all, h1, ← h2]
      exact hj
    · intro u hu
      obtain ⟨y, _, hy⟩ := List.mem_flatMap.1 hu
      exact e.hone y u hy
    · exact Nat.le_trans (Nat.mul_le_mul_left _ hby) (by omega)
    · intro v' w' h1 h2 _
      refine h v' w' ?_ (own_below hown h2 hB)
      unfold OwnR
      rw [List.flatMap_append, List.length_append]
      exact h1

theorem stepGG {α : Type} {e : Elem α} {ops : Array Oper} {o : Oper} {a : Act} {K : Act → World → Prop} {Q : Exit → Act → World → Prop} {F : Prop} (hgd : o.guard = none) (s x : Operand)
    (ho : o.op = .call { callee := .builtin .append, args := #[s, x], argTypes := #[e.S, e.S] })
    {w : World} {B : Nat} {v : Value} {xs : List α} (hown : OwnR e w B v xs) (hs : a.eval s = v) (y : α) {cs : Array Value} (hcs : cs.toList = e.enc y)
    (gx : Nat) (hx : a.eval x = .slice (some ⟨gx, 0, none⟩) 1 1) (hgx : gx = w.heap.size) (hlen : xs.length < 100000000) (hB : B ≤ w.heap.size)
    (h : ∀ v' w', OwnR e w' B v' (xs ++ [y]) → Below B w w' → (w.alloc (.cells cs e.E)).grownBy w' v.ownBlock → K (a.put o.dst v') w') :
    if Region.wanted o (yielded ops a.tmps) = true then Oper.wp Try.prog o a (w.alloc (.cells cs e.E)) K Q else F := by
  subst hgx
  rw [if_pos (by simp [Region.wanted, hgd])]
  obtain ⟨i0, hi, hz0, hz1, hz2⟩ := info_parts e.hinfo
  have ha := World.ownsRow.alloc hown (.cells cs e.E)
  have hnew : (w.alloc (.cells cs e.E)).heap[w.heap.size]? = some (.cells cs e.E) := (MapKept.heap_alloc w _).1
  have hby := e.hb
  refine wp_append_own _ s x e.S ho B e.E i0 e.zero e.n e.bytes e.hund hi hz0 hz1 hz2 e.hz e.hn v xs.length (xs.flatMap e.enc) hs ha
    ⟨w.heap.size, 0, none⟩ 1 1 (e.enc y) hx (by rw [e.hlen, Nat.one_mul]) (by rw [← hcs]; exact World.news_of_block hnew) (e.hone y) (by unfold maxLen; omega) ?_ (by simp; omega) ?_
  · exact Nat.le_trans (Nat.mul_le_mul_left _ hby) (by omega)
  · intro v' w' h1 h2 _
    refine h v' w' ?_ (((Below.refl B w).alloc hB _).trans (own_below ha h2 (by simp; omega))) h2
    unfold OwnR
    rw [List.flatMap_append, List.length_append]
    simpa using h1
end Go.Proofs.Ytldgkpnlplfopaa


/- Sets of digests that are drawn. -/
namespace Go.Proofs.Ytldgkpnlplfopaa
open Go.RowKit Plain
set_option linter.unusedVariables false

namespace Plain
def eigL : List ByteArray := [⟨#[97]⟩, ⟨#[98]⟩, ⟨#[99]⟩, ⟨#[100]⟩, ⟨#[101]⟩, ⟨#[102]⟩, ⟨#[103]⟩, ⟨#[104]⟩]
def eigV : Array Value := #[.string ⟨#[97]⟩, .string ⟨#[98]⟩, .string ⟨#[99]⟩, .string ⟨#[100]⟩, .string ⟨#[101]⟩, .string ⟨#[102]⟩, .string ⟨#[103]⟩, .string ⟨#[104]⟩]
theorem eigV_get : ∀ (K : Nat), K < 8 → eigV[K]? = some (.string (eigL.getD K ByteArray.empty)) := by
  intro K h
  match K, h with
  | 0, _ => rfl
  | 1, _ => rfl
  | 2, _ => rfl
  | 3, _ => rfl
  | 4, _ => rfl
  | 5, _ => rfl
  | 6, _ => rfl
  | 7, _ => rfl
theorem eig_size : ∀ (K : Nat), K < 8 → (eigL.getD K ByteArray.empty).size = 1 := by
  intro K h
  match K, h with
  | 0, _ => rfl
  | 1, _ => rfl
  | 2, _ => rfl
  | 3, _ => rfl
  | 4, _ => rfl
  | 5, _ => rfl
  | 6, _ => rfl
  | 7, _ => rfl
/-- Texts that are all among others and each once are no more. -/
theorem nodup_len : ∀ (l m : List ByteArray), l.Nodup → (∀ x ∈ l, x ∈ m) → l.length ≤ m.length
  | [], m, _, _ => by simp
  | a :: l, m, hn, h => by
    have ha := h a (by simp)
    obtain ⟨m1, m2, rfl⟩ := List.append_of_mem ha
    rw [List.nodup_cons] at hn
    have := nodup_len l (m1 ++ m2) hn.2 fun x hx => by
      have h1 := h x (List.mem_cons_of_mem _ hx)
      rw [List.mem_append, List.mem_cons] at h1
      rw [List.mem_append]
      rcases h1 with q | rfl | q
      · exact .inl q
      · exact absurd hx hn.1
      · exact .inr q
    rw [List.length_cons, List.length_append, List.length_cons]
    rw [List.length_append] at this
    omega
theorem strict_nodup {l : List ByteArray} (h : Strict l) : l.Nodup := h.imp fun {a b} h e => by subst e; exact ltB_irrefl _ h
end Plain

set_option maxRecDepth 10000 in
set_option maxHeartbeats 4000000 in
theorem set_calls (R : Nat) (a : Option Addr) (len cap : Nat) (zs : List Int) (w : World) (h : Rd w R a len cap zs) :
    Calls Try.prog 28 #[.pointer (some ⟨R, 0, none⟩)] w fun e w' => ∃ (v : Value) (ds : List ByteArray), e = .returned v ∧ Hid (OwnR strE w' w.heap.size v ds) ∧ Hid (∀ s ∈ ds, s.size ≤ 100) ∧ ds.length ≤ 12 ∧ Rd w' R a len cap zs ∧ OnlyAt ⟨R, 1, none⟩ w w' := by
  have hR := h.lt
  have hl : len ≤ 1048576 := by obtain ⟨p, hp⟩ := h; exact hp.small
  have c0 : w.cell? ⟨R, 0, none⟩ = some (.slice a len cap) := by obtain ⟨p, hp⟩ := h; exact hp.c0
  have HO0 := hide (ownR_empty strE w w.heap.size (Nat.le_refl _))
  have HD0 := hide ((DS.start h).alloc (.cells #[] 9))
  have c1 : (w.alloc (.cells #[] 9)).cell? ⟨R, 0, none⟩ = some (.slice a len cap) := by obtain ⟨p, hp⟩ := (unhide HD0).rd; exact hp.c0
  clear h
  go_enter Try.func28, Try.ntmps28
  go_wp2_with fail
  obtain ⟨N, hN⟩ : ∃ N : Int, min 6 (1 + (len : Int) / 3) = N := ⟨_, rfl⟩
  have hN1 : 1 ≤ N := by omega
  have hN6 : N ≤ 6 := by omega
  rw [hN]
  clear hN c0 c1
  refine (below_calls R a len cap zs N _ (unhide HD0).rd hN1 (by omega)).mono ?_
  rintro e w1 ⟨v, rfl, hv0, hv1, hR1, ho1⟩
  obtain ⟨V, rfl⟩ := Int.eq_ofNat_of_zero_le hv0
  have HD1 := hide ((unhide HD0).call hR1 ho1)
  have HO1 := hide ((unhide HO0).onlN ho1 (by simp; omega))
  have hz1 : w.heap.size ≤ w1.heap.size := by have := ho1.size; simp at this; omega
  clear hR1 ho1 HD0 HO0
  go_wp2_with fail
  go_loopw [3, 4] (fun s3 s4 wr => ∃ (j : Nat) (ds : List ByteArray), s4 = .int .i64 j ∧ j ≤ 5 ∧ ds.length + 2 * j ≤ 12 ∧ w.heap.size ≤ wr.heap.size ∧ Hid (∀ s ∈ ds, s.size ≤ 100) ∧ Hid (DS w R a len cap zs wr) ∧ Hid (OwnR strE wr w.heap.size s3 ds)) (fun _ s4 _ => (intOf s4).toNat)
  case atStart => exact ⟨V, [], rfl, by omega, by simp; omega, hz1, hide (fun s hs => by cases hs), HD1, HO1⟩
  case round =>
    clear HO1 HD1 hz1 hv0 hv1
    obtain ⟨j, ds, rfl, hj, hds, hz, HF, HD, HO⟩ := hrel
    obtain ⟨av, cv, hv⟩ := (unhide HO).form
    obtain ⟨q, hq⟩ : ∃ q, ds.length = q := ⟨_, rfl⟩
    rw [hq] at hv hds
    subst hv
    by_cases hj0 : 0 < j
    · obtain ⟨j', rfl⟩ : ∃ j', j = j' + 1 := ⟨j - 1, by omega⟩
      have hjp : (0 : Int) < ((j' + 1 : Nat) : Int) := by omega
      have hjm : IntKind.i64.wrap (((j' + 1 : Nat) : Int) - 1) = (j' : Int) := by rw [IntKind.wrap_i64]; omega
      have hbA : Below wr.heap.size wr (wr.alloc (.cells eigV 9)) := (Below.refl _ _).alloc (Nat.le_refl _) _
      have HDA := hide ((unhide HD).below hbA)
      have HOA := hide ((unhide HO).keep hbA)
      have HNW := hide (h_new wr (.cells eigV 9) rfl)
      have hRw : R < wr.heap.size := by omega
      clear hbA HD HO
      go_wp2_with fail
      refine (below_calls R a len cap zs 8 _ (unhide HDA).rd (by omega) (by omega)).mono ?_
      rintro e w2 ⟨v, rfl, hv0, hv1, hR2, ho2⟩
      obtain ⟨K, rfl⟩ := Int.eq_ofNat_of_zero_le hv0
      have hK : K < 8 := by omega
      have hc : w2.cell? ⟨wr.heap.size, K, none⟩ = some (.string (eigL.getD K ByteArray.empty)) := by
        rw [ho2.cell ⟨wr.heap.size, K, none⟩ (by simp) (by simp <;> omega)]
        exact (cell_of_row _ _ K eigV _ _ (unhide HNW)).trans (eigV_get K hK)
      have hs1 := eig_size K hK
      generalize eigL.getD K ByteArray.empty = s at hc hs1
      have HD2 := hide ((unhide HDA).call hR2 ho2)
      have HO2 := hide ((unhide HOA).onlN ho2 (by simp; omega))
      have hz2 : w.heap.size ≤ w2.heap.size := by have := ho2.size; simp at this; omega
      clear hR2 ho2 HDA HOA HNW
      go_wp2_with fail
      refine (specDigest_calls s _ (by omega)).mono ?_
      rintro e w3 ⟨rfl, hb3⟩
      have HD3 := hide ((unhide HD2).below hb3)
      have HO3 := hide ((unhide HO2).keep hb3)
      have hz3 : w.heap.size ≤ w3.heap.size := Nat.le_trans hz2 hb3.size
      have hgz := digestB_size s
      generalize digestB s = g at hgz
      have hlen : ds.length < 100000000 := by omega
      have HLQ := hide (show (ds ++ [g]).length = q + 1 from by rw [List.length_append, hq]; rfl)
      have HFG := hide (show ∀ s ∈ ds ++ [g], s.size ≤ 100 from fun s hs => by
        rcases List.mem_append.1 hs with h | h
        · exact unhide HF s h
        · obtain rfl := List.mem_singleton.1 h; omega)
      clear hb3 HD2 HO2 hc HF
      go_wp2_with (at_builtin; go_must (refine appR (e := strE) rfl _ _ rfl (unhide HO3) rfl g rfl _ rfl rfl hlen hz3 ?_); intro v' w6 hown6 hb6 hg6; obtain ⟨av', cv', hv'⟩ := hown6.form; rw [unhide HLQ] at hv'; subst hv')
      have HO6 := hide hown6
      have HD6 := hide ((unhide HD3).belowB hb6 hR (Nat.le_refl _))
      have hz6 : w.heap.size ≤ w6.heap.size := by have := hb6.size; omega
      clear hown6 hb6 hg6 HO3 HD3
      refine (once_calls R a len cap zs 4 _ (unhide HD6).rd (by omega) (by omega)).mono ?_
      rintro e w7 ⟨b, rfl, hR7, ho7⟩
      have HD7 := hide ((unhide HD6).call hR7 ho7)
      have HO7 := hide ((unhide HO6).onlN ho7 (by simp; omega))
      have hz7 : w.heap.size ≤ w7.heap.size := Nat.le_trans hz6 ho7.size
      clear hR7 ho7 HD6 HO6
      cases b with
      | false =>
        go_wp2_with fail
        go_roundw
        case rel => exact ⟨j', ds ++ [g], by go_num, by omega, by rw [unhide HLQ]; omega, hz7, HFG, HD7, HO7⟩
        case measure => simp [intOf]
      | true =>
        obtain ⟨g7, e7, l7, p7, -⟩ := (unhide HO7).at.str q (by rw [unhide HLQ]; omega)
        have hgq : (ds ++ [g])[q]'(by rw [unhide HLQ]; omega) = g := by simp [← hq]
        rw [hgq] at p7
        subst e7
        have iq : IntKind.i64.wrap (((q + 1 : Nat) : Int) - 1) = (q : Int) := by rw [IntKind.wrap_i64]; omega
        have iq0 : (0 : Int) ≤ (q : Int) := by omega
        have iq1 : (q : Int) < ((q + 1 : Nat) : Int) := by omega
        clear hgq
        have z2 : (g.extract 0 70).size = 70 := by rw [ByteArray.size_extract]; omega
        have i70 : (70 : Int) ≤ (g.size : Int) := by omega
        have HBW := hide (below_calls R a len cap zs 16 w7.drew ((unhide HD7).drew.rd) (by omega) (by omega))
        have HOd := hide (show OwnR strE w7.drew w.heap.size (.slice (some ⟨g7, 0, none⟩) (q + 1) cv') (ds ++ [g]) from unhide HO7)
        have hlen8 : (ds ++ [g]).length < 100000000 := by rw [unhide HLQ]; omega
        have hzd : w.heap.size ≤ w7.drew.heap.size := hz7
        go_wp2_with fail
        go_region_law (first
          | (refine stepGG (e := strE) rfl _ _ rfl (w := w8) (unhide HO8) (by simp [Act.eval]) T rfl _ (by simp [Act.eval]) rfl hlen8 hz8 ?_; intro v' w9 hown9 hb9 hg9; obtain ⟨a9, c9, hv9⟩ := hown9.form; rw [unhide HL9] at hv9; subst hv9)
          | (go_simp; refine (unhide HBW).mono ?_; rintro e w8 ⟨x8, rfl, hx0, hx1, hR8, ho8⟩; obtain ⟨K8, rfl⟩ := Int.eq_ofNat_of_zero_le hx0; have HD8 := hide ((unhide HD7).drew.call hR8 ho8); have HO8 := hide ((unhide HOd).onlN ho8 (show R < w.heap.size from hR)); have hz8 : w.heap.size ≤ w8.heap.size := Nat.le_trans hzd ho8.size; have zH : (⟨#[48, 49, 50, 51, 52, 53, 54, 55, 56, 57, 97, 98, 99, 100, 101, 102]⟩ : ByteArray).size = 16 := rfl; have i16 : (K8 : Int) ≤ 16 := (by omega); have z3 : ((⟨#[48, 49, 50, 51, 52, 53, 54, 55, 56, 57, 97, 98, 99, 100, 101, 102]⟩ : ByteArray).extract K8 16).size = 16 - K8 := (by { rw [ByteArray.size_extract, zH]; omega }); have i18 : (1 : Int) ≤ ((16 - K8 : Nat) : Int) := (by omega); have i17 : (1 : Int) ≤ (((⟨#[48, 49, 50, 51, 52, 53, 54, 55, 56, 57, 97, 98, 99, 100, 101, 102]⟩ : ByteArray).extract K8 16).size : Int) := (by omega); have z4 : (((⟨#[48, 49, 50, 51, 52, 53, 54, 55, 56, 57, 97, 98, 99, 100, 101, 102]⟩ : ByteArray).extract K8 16).extract 0 1).size = 1 := (by { rw [ByteArray.size_extract]; omega }); obtain ⟨T, hT⟩ : ∃ T, g.extract 0 70 ++ ((⟨#[48, 49, 50, 51, 52, 53, 54, 55, 56, 57, 97, 98, 99, 100, 101, 102]⟩ : ByteArray).extract K8 16).extract 0 1 = T := ⟨_, rfl⟩; have hTz : T.size ≤ 100 := (by { rw [← hT, ByteArray.size_append, z2, z4]; omega }); have HL9 := hide (show (ds ++ [g] ++ [T]).length = q + 1 + 1 from by { rw [List.length_append, unhide HLQ]; rfl }); have HTZ := hide hTz; clear hTz hR8 ho8))
        all_goals (try go_wp2_with fail)
        all_goals go_roundw
        all_goals first
          | exact ⟨j', ds ++ [g] ++ [T], by go_num, by omega, by rw [unhide HL9]; omega, by have := hb9.size; omega, hide (fun s hs => by
              rcases List.mem_append.1 hs with h | h
              · exact unhide HFG s h
              · obtain rfl := List.mem_singleton.1 h; exact unhide HTZ), hide ((unhide HD8).belowB hb9 hR (Nat.le_refl _)), hide hown9⟩
          | (simp [intOf])
    · obtain rfl : j = 0 := by omega
      go_wp2_with fail
      refine (l1Rising_calls av q cv ds wr hq (by omega) (unhide HO).at.strs).mono ?_
      rintro e w2 ⟨v2, out, rfl, o2, HS2, hb2⟩
      have HO2 := hide (o2.le hz)
      have HD2 := hide ((unhide HD).below hb2)
      have hol : out.length ≤ 12 := by
        have := nodup_len out ds (strict_nodup (unhide HS2).1) fun x hx => ((unhide HS2).2 x).1 hx
        omega
      have HFO := hide (fun s (hs : s ∈ out) => unhide HF s (((unhide HS2).2 s).1 hs))
      clear o2 hb2 HS2
      go_wp2_with fail
      go_ret
      exact ⟨v2, out, rfl, HO2, HFO, hol, (unhide HD2).rd, (unhide HD2).only⟩

set_option maxRecDepth 10000 in
set_option maxHeartbeats 4000000 in
theorem oddSet_calls (R : Nat) (a : Option Addr) (len cap : Nat) (zs : List Int) (w : World) (h : Rd w R a len cap zs) :
    Calls Try.prog 13 #[.pointer (some ⟨R, 0, none⟩)] w fun e w' => ∃ (v : Value) (ds : List ByteArray), e = .returned v ∧ Hid (OwnR strE w' w.heap.size v ds) ∧ Hid (∀ s ∈ ds, s.size ≤ 100) ∧ ds.length ≤ 24 ∧ Rd w' R a len cap zs ∧ OnlyAt ⟨R, 1, none⟩ w w' := by
  have hR := h.lt
  have HD0 := hide (DS.start h)
  have HST := hide (set_calls R a len cap zs w h)
  clear h
  go_enter Try.func13, Try.ntmps13
  go_wp2_with fail
  refine (unhide HST).mono ?_
  rintro e w1 ⟨v, ds, rfl, HO1, HF, hdl, hR1, ho1⟩
  obtain ⟨av, cv, hv⟩ := (unhide HO1).form
  obtain ⟨q, hq⟩ : ∃ q, ds.length = q := ⟨_, rfl⟩
  rw [hq] at hv hdl
  subst hv
  have HD1 := hide ((unhide HD0).call hR1 ho1)
  have hz1 := ho1.size
  clear hR1 ho1 HST HD0
  go_wp2_with fail
  refine (below_calls R a len cap zs 24 _ (unhide HD1).rd (by omega) (by omega)).mono ?_
  rintro e w2 ⟨u, rfl, hu0, hu1, hR2, ho2⟩
  have HD2 := hide ((unhide HD1).call hR2 ho2)
  have HO2 := hide ((unhide HO1).onlN ho2 (by simp; omega))
  have hz2 : w.heap.size ≤ w2.heap.size := Nat.le_trans hz1 ho2.size
  have hlen : ds.length < 100000000 := by omega
  clear hR2 ho2 HD1 HO1
  by_cases c0 : u = 0
  · subst c0
    have HL := hide (show (ds ++ [(⟨#[115, 104, 97, 50, 53, 54, 58]⟩ : ByteArray)]).length = q + 1 from by rw [List.length_append, hq]; rfl)
    go_wp2_with (at_builtin; go_must (refine appR (e := strE) rfl _ _ rfl (unhide HO2) rfl (⟨#[115, 104, 97, 50, 53, 54, 58]⟩ : ByteArray) rfl _ rfl rfl hlen hz2 ?_); intro v' w6 hown6 hb6 hg6; obtain ⟨av', cv', hv'⟩ := hown6.form; rw [unhide HL] at hv'; subst hv')
    go_ret
    have HD6 := (unhide HD2).belowB hb6 hR (Nat.le_refl _)
    exact ⟨.slice av' (q + 1) cv', _, rfl, hide hown6, hide (fun s hs => by
      rcases List.mem_append.1 hs with h | h
      · exact unhide HF s h
      · obtain rfl := List.mem_singleton.1 h; decide), by rw [unhide HL]; omega, HD6.rd, HD6.only⟩
  · have b0 : (u == 0) = false := by simpa using c0
    by_cases c1 : u = 1
    · subst c1
      have HL := hide (show (ds ++ ds).length = q + q from by rw [List.length_append, hq])
      have hlen2 : ds.length + q < 100000000 := by omega
      have HAD := hide (unhide HO2).adG
      have HAT := hide (unhide HO2).at
      go_wp2_with (at_builtin; go_must (refine appGG (e := strE) rfl _ _ rfl (unhide HO2) rfl av q cv rfl hq (unhide HAT) (unhide HAD) hlen2 hz2 ?_); intro v' w6 hown6 hb6; obtain ⟨av', cv', hv'⟩ := hown6.form; rw [unhide HL] at hv'; subst hv')
      go_ret
      have HD6 := (unhide HD2).belowB hb6 hR (Nat.le_refl _)
      exact ⟨.slice av' (q + q) cv', _, rfl, hide hown6, hide (fun s hs => by
        rcases List.mem_append.1 hs with h | h
        · exact unhide HF s h
        · exact unhide HF s h), by rw [unhide HL]; omega, HD6.rd, HD6.only⟩
    · have b1 : (u == 1) = false := by simpa using c1
      go_wp2_with fail
      go_ret
      exact ⟨.slice av q cv, ds, rfl, HO2, HF, by omega, (unhide HD2).rd, (unhide HD2).only⟩
end Go.Proofs.Ytldgkpnlplfopaa


/- The arguments of AddTo, drawn. -/
namespace Go.Proofs.Ytldgkpnlplfopaa
open Go.RowKit Plain
set_option linter.unusedVariables false

set_option maxRecDepth 10000 in
set_option maxHeartbeats 2000000 in
theorem l1DecS_calls (n : Nat) (w : World) (h2 : n < 1000) :
    Calls Try.prog 16 #[.int .i64 n] w fun e w' => ∃ s : ByteArray, e = .returned (.string s) ∧ s.size ≤ 6 ∧ Below w.heap.size w w' := by
  by_cases h1 : n = 0
  · subst h1
    go_enter Try.func16, Try.ntmps16
    go_wp2_with fail
    go_ret
    exact ⟨_, rfl, by decide, Below.refl _ _⟩
  have hne : ((n : Int) == 0) = false := by rw [beq_eq_false_iff_ne]; omega
  go_enter Try.func16, Try.ntmps16
  go_wp2_with fail
  go_loopw [0, 3] (fun s0 s3 wr => ∃ (f m : Nat) (o : ByteArray), s0 = .int .i64 m ∧ s3 = .string o ∧ f ≤ 6 ∧ m < 1000000 ∧ o.size + f ≤ 6 ∧ m < 10 ^ f ∧ Hid (Below w.heap.size w wr)) (fun s0 _ _ => (intOf s0).toNat)
  case atStart => exact ⟨6, n, ByteArray.empty, rfl, rfl, by omega, by omega, by simp, by omega, hide (Below.refl _ _)⟩
  case round =>
    obtain ⟨f, m, o, rfl, rfl, hf, hm, ho, hp, HB⟩ := hrel
    by_cases hm0 : 0 < m
    · obtain ⟨f, rfl⟩ : ∃ f', f = f' + 1 := ⟨f - 1, by
        rcases Nat.eq_zero_or_pos f with h | h
        · subst h; simp at hp; omega
        · omega⟩
      have hm1 : (0 : Int) < (m : Int) := by omega
      obtain ⟨d, hd⟩ : ∃ d : Nat, m % 10 = d := ⟨_, rfl⟩
      obtain ⟨m2, hm2⟩ : ∃ m2 : Nat, m / 10 = m2 := ⟨_, rfl⟩
      have ht : (m : Int) % 10 = (d : Int) := by omega
      have hq : (m : Int) / 10 = (m2 : Int) := by omega
      have hd10 : d < 10 := by omega
      have hcv := conv1 wr (48 + (d : Int))
      obtain ⟨T, hT⟩ : ∃ T, strOfNums [48 + (d : Int)] = T := ⟨_, rfl⟩
      have hTs : T.size = 1 := by rw [← hT, strOfNums_size]; rfl
      rw [hT] at hcv
      have hm3 : m2 < 10 ^ f := by rw [← hm2]; rw [Nat.pow_succ] at hp; exact Nat.div_lt_of_lt_mul (by rw [Nat.mul_comm]; exact hp)
      clear hd hm2 hT hp
      go_wp2_with fail
      go_roundw
      case rel => exact ⟨f, m2, T ++ o, by first | rfl | (simp [hq]), rfl, by omega, by omega, by rw [ByteArray.size_append]; omega, hm3, hide ((unhide HB).trans (((Below.refl _ _).alloc (Nat.le_refl _) _).mono (unhide HB).size))⟩
      case measure => simp [intOf]; omega
    · obtain rfl : m = 0 := by omega
      go_wp2_with fail
      go_ret
      exact ⟨o, rfl, by omega, unhide HB⟩

/-- What the drawer of AddTo's arguments answers. -/
def Plain.AddQ (w : World) (e : Ending) (w' : World) : Prop := ∃ (v : Value) (ds : List ByteArray) (d : ByteArray), e = .returned (.tuple #[v, .string d]) ∧ Hid (OwnR strE w' w.heap.size v ds) ∧ Hid (∀ s ∈ ds, s.size ≤ 100) ∧ ds.length ≤ 200 ∧ d.size ≤ 100 ∧ Below w.heap.size w w'

set_option maxRecDepth 10000 in
set_option maxHeartbeats 4000000 in
theorem DrawAddTo_calls (a : Option Addr) (len cap : Nat) (zs : List Int) (w : World) (h : IsRow .u8 w a len cap zs) (hl : len ≤ 1048576) :
    Calls Try.prog 5 #[.slice a len cap] w (AddQ w) := by
  have HOP := hide (open_calls a len cap zs w h hl)
  clear h
  unfold AddQ
  go_enter Try.func5, Try.ntmps5
  go_wp2_with fail
  refine (unhide HOP).mono ?_
  rintro e w1 ⟨rfl, hR1, hb1⟩
  have HB1 := hide hb1
  have hz1 := hb1.size
  have HOS := hide (oddSet_calls _ a len cap zs _ hR1)
  obtain ⟨R, hR⟩ : ∃ R, w.heap.size = R := ⟨_, rfl⟩
  have hRB : w.heap.size ≤ (⟨R, 1, none⟩ : Addr).block := by simp; omega
  have hRl := hR1.lt
  rw [hR] at HOS hR1 hRl
  have HD0 := hide (DS.start hR1)
  clear hb1 hR1 HOP
  try rw [hR]
  go_wp2_with fail
  refine (unhide HOS).mono ?_
  rintro e w2 ⟨v, ds, rfl, HO2, HF, hdl, hR2, ho2⟩
  have HD2 := hide ((unhide HD0).call hR2 ho2)
  obtain ⟨av, cv, hv⟩ := (unhide HO2).form
  obtain ⟨q, hq⟩ : ∃ q, ds.length = q := ⟨_, rfl⟩
  rw [hq] at hv
  subst hv
  have HON := hide (once_calls R a len cap zs 60 w2 (unhide HD2).rd (by omega) (by omega))
  clear hR2 ho2 HOS HD0
  go_wp2_with fail
  refine (unhide HON).mono ?_
  rintro e w3 ⟨b, rfl, hR3, ho3⟩
  have HD3 := hide ((unhide HD2).call hR3 ho3)
  have HO3 := hide ((unhide HO2).onlN ho3 (by simp; omega))
  clear hR3 ho3 HON HD2 HO2
  cases b with
  | false =>
    have hdl2 : ds.length ≤ 200 := by omega
    have hqb : q ≤ 200 := by rw [← hq]; exact hdl2
    by_cases hq0 : 0 < q
    case neg =>
      obtain rfl : q = 0 := by omega
      have HOD := hide (oddDigest_calls R a len cap zs w3 (unhide HD3).rd)
      go_wp2_with fail
      refine (unhide HOD).mono ?_
      rintro e w9 ⟨d, rfl, hds, hR9, ho9⟩
      have HD9 := (unhide HD3).call hR9 ho9
      have HO9 := (unhide HO3).onlN ho9 (by simp; omega)
      go_wp2_with fail
      exact bodyPost_ret (v := .tuple #[.slice av 0 cv, .string d]) (by simp [results, Try.results5, go_sem]) rfl ⟨_, ds, d, rfl, hide (HO9.le hz1), HF, hdl2, by omega, (unhide HB1).trans (HD9.only.below (B := w.heap.size) hRB hz1)⟩
    case pos =>
      have hq1 : (0 : Int) < (q : Int) := by omega
      have HON := hide (once_calls R a len cap zs 3 w3 (unhide HD3).rd (by omega) (by omega))
      go_wp2_with fail
      refine (unhide HON).mono ?_
      rintro e w7 ⟨c, rfl, hR7, ho7⟩
      have HD7 := hide ((unhide HD3).call hR7 ho7)
      have HO7 := hide ((unhide HO3).onlN ho7 (by simp; omega))
      clear hR7 ho7 HON HD3 HO3
      cases c with
      | false =>
        have HOD := hide (oddDigest_calls R a len cap zs w7 (unhide HD7).rd)
        go_wp2_with fail
        refine (unhide HOD).mono ?_
        rintro e w9 ⟨d, rfl, hds, hR9, ho9⟩
        have HD9 := (unhide HD7).call hR9 ho9
        have HO9 := (unhide HO7).onlN ho9 (by simp; omega)
        go_wp2_with fail
        exact bodyPost_ret (v := .tuple #[.slice av q cv, .string d]) (by simp [results, Try.results5, go_sem]) rfl ⟨_, ds, d, rfl, hide (HO9.le hz1), HF, hdl2, by omega, (unhide HB1).trans (HD9.only.below (B := w.heap.size) hRB hz1)⟩
      | true =>
        obtain ⟨g7, e7, l7, p7, -⟩ := (unhide HO7).at.str 0 (by omega)
        subst e7
        have HBW := hide (below_calls R a len cap zs (q : Int) w7.drew ((unhide HD7).drew.rd) (by omega) (by omega))
        have HOd := hide (show OwnR strE w7.drew w1.heap.size (.slice (some ⟨g7, 0, none⟩) q cv) ds from unhide HO7)
        clear p7 l7
        go_wp2_with fail
        go_region_law (go_simp; refine (unhide HBW).mono ?_; rintro e w8 ⟨x8, rfl, hx0, hx1, hR8, ho8⟩; obtain ⟨K8, rfl⟩ := Int.eq_ofNat_of_zero_le hx0; have HD8 := hide ((unhide HD7).drew.call hR8 ho8); have HO8 := hide ((unhide HOd).onlN ho8 (show R < w1.heap.size from hRl)); obtain ⟨g8, e8, l8, p8, -⟩ := (unhide HO8).at.str K8 (by omega); cases e8; have hs8 := unhide HF ds[K8] (List.getElem_mem _); generalize ds[K8] = d at p8 hs8; clear hR8 ho8)
        all_goals (try go_wp2_with fail)
        all_goals exact bodyPost_ret (v := .tuple #[.slice (some ⟨g7, 0, none⟩) q cv, .string d]) (by simp [results, Try.results5, go_sem]) rfl ⟨_, ds, d, rfl, hide ((unhide HO8).le hz1), HF, hdl2, by omega, (unhide HB1).trans ((unhide HD8).only.below (B := w.heap.size) hRB hz1)⟩
  | true =>
    have hz3 : w1.heap.size ≤ w3.heap.size := (unhide HD3).only.size
    go_wp2_with fail
    go_loopw [5, 6] (fun s5 s6 wr => ∃ (i : Nat) (ta : Option Addr) (tc : Nat) (ds : List ByteArray), s6 = .int .i64 i ∧ s5 = .slice ta i tc ∧ i ≤ 200 ∧ ds.length = i ∧ w1.heap.size ≤ wr.heap.size ∧ Hid (∀ s ∈ ds, s.size ≤ 100) ∧ Hid (DS w1 R a len cap zs wr) ∧ Hid (OwnR strE wr w1.heap.size (.slice ta i tc) ds)) (fun _ s6 _ => 200 - (intOf s6).toNat)
    case atStart => exact ⟨0, none, 0, [], rfl, rfl, by omega, rfl, hz3, hide (fun s hs => by cases hs), HD3, hide (ownR_nil _ _ _)⟩
    case round =>
      clear HO3 HF HD3 hq hz3 hdl
      obtain ⟨i, ta, tc, ds, rfl, rfl, hi, hln, hz, HF, HD, HO⟩ := hrel
      by_cases hlt : i < 200
      · have HDC := hide (l1DecS_calls i wr (by omega))
        have i1 : (i : Int) < 200 := by omega
        go_wp2_with fail
        refine (unhide HDC).mono ?_
        rintro e w4 ⟨s, rfl, hsz, hb4⟩
        have HD4 := hide ((unhide HD).below hb4)
        have HO4 := hide ((unhide HO).keep hb4)
        have hz4 : w1.heap.size ≤ w4.heap.size := Nat.le_trans hz hb4.size
        have h1s : (⟨#[110]⟩ : ByteArray).size = 1 := rfl
        obtain ⟨T, hT⟩ : ∃ T, (⟨#[110]⟩ : ByteArray) ++ s = T := ⟨_, rfl⟩
        have hTz : T.size ≤ 10 := by rw [← hT, ByteArray.size_append]; omega
        have HDG := hide (specDigest_calls T w4 (by omega))
        clear hb4 HD HO HDC
        go_wp2_with fail
        refine (unhide HDG).mono ?_
        rintro e w5 ⟨rfl, hb5⟩
        have HD5 := hide ((unhide HD4).below hb5)
        have HO5 := hide ((unhide HO4).keep hb5)
        have hz5 : w1.heap.size ≤ w5.heap.size := Nat.le_trans hz4 hb5.size
        have hgz := digestB_size T
        generalize digestB T = g at hgz
        have hlen : ds.length < 100000000 := by omega
        have HLQ := hide (show (ds ++ [g]).length = i + 1 from by rw [List.length_append, hln]; rfl)
        have HFG := hide (show ∀ s ∈ ds ++ [g], s.size ≤ 100 from fun s hs => by
          rcases List.mem_append.1 hs with h | h
          · exact unhide HF s h
          · obtain rfl := List.mem_singleton.1 h; omega)
        clear hb5 HD4 HO4 HF HDG hT
        go_wp2_with (at_builtin; go_must (refine appR (e := strE) rfl _ _ rfl (unhide HO5) rfl g rfl _ rfl rfl hlen hz5 ?_); intro v' w6 hown6 hb6 hg6; obtain ⟨av', cv', hv'⟩ := hown6.form; rw [unhide HLQ] at hv'; subst hv')
        go_roundw
        case rel => exact ⟨i + 1, av', cv', ds ++ [g], by go_num, rfl, by omega, unhide HLQ, by have := hb6.size; omega, HFG, hide ((unhide HD5).belowB hb6 hRl (Nat.le_refl _)), hide hown6⟩
        case measure => simp [intOf]; omega
      · obtain rfl : i = 200 := by omega
        have HRS := hide (l1Rising_calls ta 200 tc ds wr hln (by omega) (unhide HO).at.strs)
        go_wp2_with fail
        refine (unhide HRS).mono ?_
        rintro e w4 ⟨v2, out, rfl, o2, HS2, hb4⟩
        have HD4 := hide ((unhide HD).below hb4)
        have HO4 := hide (o2.le hz)
        have hdl2 : out.length ≤ 200 := by
          have := nodup_len out ds (strict_nodup (unhide HS2).1) fun x hx => ((unhide HS2).2 x).1 hx
          omega
        have HFO := hide (fun s (hs : s ∈ out) => unhide HF s (((unhide HS2).2 s).1 hs))
        obtain ⟨a4, c4, hv4⟩ := o2.form
        obtain ⟨q4, hq4⟩ : ∃ q, out.length = q := ⟨_, rfl⟩
        rw [hq4] at hv4
        subst hv4
        clear o2 hb4 HS2 HD HO HRS HF
        have hqb : q4 ≤ 200 := by rw [← hq4]; exact hdl2
        by_cases hq0 : 0 < q4
        case neg =>
          obtain rfl : q4 = 0 := by omega
          have HOD := hide (oddDigest_calls R a len cap zs w4 (unhide HD4).rd)
          go_wp2_with fail
          refine (unhide HOD).mono ?_
          rintro e w9 ⟨d, rfl, hds, hR9, ho9⟩
          have HD9 := (unhide HD4).call hR9 ho9
          have HO9 := (unhide HO4).onlN ho9 (by simp; omega)
          go_wp2_with fail
          exact bodyPost_ret (v := .tuple #[.slice a4 0 c4, .string d]) (by simp [results, Try.results5, go_sem]) rfl ⟨_, out, d, rfl, hide (HO9.le hz1), HFO, hdl2, by omega, (unhide HB1).trans (HD9.only.below (B := w.heap.size) hRB hz1)⟩
        case pos =>
          have hq1 : (0 : Int) < (q4 : Int) := by omega
          have HON := hide (once_calls R a len cap zs 3 w4 (unhide HD4).rd (by omega) (by omega))
          go_wp2_with fail
          refine (unhide HON).mono ?_
          rintro e w7 ⟨c, rfl, hR7, ho7⟩
          have HD7 := hide ((unhide HD4).call hR7 ho7)
          have HO7 := hide ((unhide HO4).onlN ho7 (by simp; omega))
          clear hR7 ho7 HON HD4 HO4
          cases c with
          | false =>
            have HOD := hide (oddDigest_calls R a len cap zs w7 (unhide HD7).rd)
            go_wp2_with fail
            refine (unhide HOD).mono ?_
            rintro e w9 ⟨d, rfl, hds, hR9, ho9⟩
            have HD9 := (unhide HD7).call hR9 ho9
            have HO9 := (unhide HO7).onlN ho9 (by simp; omega)
            go_wp2_with fail
            exact bodyPost_ret (v := .tuple #[.slice a4 q4 c4, .string d]) (by simp [results, Try.results5, go_sem]) rfl ⟨_, out, d, rfl, hide (HO9.le hz1), HFO, hdl2, by omega, (unhide HB1).trans (HD9.only.below (B := w.heap.size) hRB hz1)⟩
          | true =>
            obtain ⟨g7, e7, l7, p7, -⟩ := (unhide HO7).at.str 0 (by omega)
            subst e7
            have HBW := hide (below_calls R a len cap zs (q4 : Int) w7.drew ((unhide HD7).drew.rd) (by omega) (by omega))
            have HOd := hide (show OwnR strE w7.drew w1.heap.size (.slice (some ⟨g7, 0, none⟩) q4 c4) out from unhide HO7)
            clear p7 l7
            go_wp2_with fail
            go_region_law (go_simp; refine (unhide HBW).mono ?_; rintro e w8 ⟨x8, rfl, hx0, hx1, hR8, ho8⟩; obtain ⟨K8, rfl⟩ := Int.eq_ofNat_of_zero_le hx0; have HD8 := hide ((unhide HD7).drew.call hR8 ho8); have HO8 := hide ((unhide HOd).onlN ho8 (show R < w1.heap.size from hRl)); obtain ⟨g8, e8, l8, p8, -⟩ := (unhide HO8).at.str K8 (by omega); cases e8; have hs8 := unhide HFO out[K8] (List.getElem_mem _); generalize out[K8] = d at p8 hs8; clear hR8 ho8)
            all_goals (try go_wp2_with fail)
            all_goals exact bodyPost_ret (v := .tuple #[.slice (some ⟨g7, 0, none⟩) q4 c4, .string d]) (by simp [results, Try.results5, go_sem]) rfl ⟨_, out, d, rfl, hide ((unhide HO8).le hz1), HFO, hdl2, by omega, (unhide HB1).trans ((unhide HD8).only.below (B := w.heap.size) hRB hz1)⟩
end Go.Proofs.Ytldgkpnlplfopaa

