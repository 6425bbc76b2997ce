/- Texts of one kind, put together. -/
import Derived.Test.YtmicacoegkmklaaGreatDoorRzL
import Derived.Test.YtmicacoegkmklaaGreatDoorRzH

/- The loads of nodes, by the specification. -/
namespace Go.Proofs.YtmicacoegkmklaaGreatDoor
open Go.RowKit Plain
set_option linter.unusedVariables false

namespace Plain
/-- Of how many digests a node is a holder. -/
def cntL (ls : List Int) (K : Nat) (ds : List ByteArray) (x : Int) : Nat := (ds.filter fun d => decide (x ∈ hld (wt d) ls K)).length
def ldsL (ls : List Int) (K : Nat) (ds : List ByteArray) : List Int := ls.map fun x => (cntL ls K ds x : Int)
theorem cntL_le (ls : List Int) (K : Nat) (ds : List ByteArray) (x : Int) : cntL ls K ds x ≤ ds.length := List.length_filter_le _ _
theorem ldsL_len (ls : List Int) (K : Nat) (ds : List ByteArray) : (ldsL ls K ds).length = ls.length := by simp [ldsL]
theorem cntL_take (ls : List Int) (K : Nat) (ds : List ByteArray) (i : Nat) (h : i < ds.length) (x : Int) : cntL ls K (ds.take (i + 1)) x = cntL ls K (ds.take i) x + (if x ∈ hld (wt ds[i]) ls K then 1 else 0) := by
  unfold cntL
  rw [List.take_succ_eq_append_getElem h, List.filter_append, List.length_append]
  congr 1
  by_cases hx : x ∈ hld (wt ds[i]) ls K
  · rw [if_pos hx, List.filter_cons_of_pos (by simpa using hx)]; rfl
  · rw [if_neg hx, List.filter_cons_of_neg (by simpa using hx)]; rfl
/-- While one digest is reckoned in. -/
def mixL (A B : List Int) (j : Nat) : List Int := B.take j ++ A.drop j
theorem mixL_zero (A B : List Int) : mixL A B 0 = A := by simp [mixL]
theorem mixL_end (A B : List Int) (h : A.length = B.length) : mixL A B B.length = B := by simp [mixL, h]
theorem mixL_len (A B : List Int) (j : Nat) (h : A.length = B.length) (hj : j ≤ A.length) : (mixL A B j).length = A.length := by simp [mixL]; omega
theorem mixL_get (A B : List Int) (j : Nat) (h : A.length = B.length) (hj : j < A.length) : (mixL A B j)[j]? = some A[j] := by
  unfold mixL
  rw [List.getElem?_append_right (by rw [List.length_take]; omega), List.length_take, Nat.min_eq_left (by omega), Nat.sub_self, List.drop_eq_getElem_cons hj]
  rfl
theorem mixL_set (A B : List Int) (j : Nat) (h : A.length = B.length) (hj : j < A.length) (y : Int) (hy : B[j]'(by omega) = y) : (mixL A B j).set j y = mixL A B (j + 1) := by
  unfold mixL
  have h1 : (B.take j).length = j := by rw [List.length_take]; omega
  rw [List.set_append_right _ _ (by omega), h1, Nat.sub_self, List.drop_eq_getElem_cons hj, List.set_cons_zero, List.take_succ_eq_append_getElem (by omega), hy, List.append_assoc]
  rfl
theorem mixL_same (A B : List Int) (j : Nat) (h : A.length = B.length) (hj : j < A.length) (hy : B[j]'(by omega) = A[j]) : mixL A B j = mixL A B (j + 1) := by
  unfold mixL
  rw [List.drop_eq_getElem_cons hj, List.take_succ_eq_append_getElem (by omega : j < B.length), hy, List.append_assoc]
  rfl
theorem ldsL_step (ls : List Int) (K : Nat) (ds : List ByteArray) (i : Nat) (h : i < ds.length) (j : Nat) (hj : j < ls.length) :
    (ldsL ls K (ds.take (i + 1)))[j]'(by rw [ldsL_len]; exact hj) = (ldsL ls K (ds.take i))[j]'(by rw [ldsL_len]; exact hj) + (if ls[j] ∈ hld (wt ds[i]) ls K then 1 else 0) := by
  unfold ldsL
  rw [List.getElem_map, List.getElem_map, cntL_take ls K ds i h]
  split <;> simp
theorem ldsL_bound (ls : List Int) (K : Nat) (ds : List ByteArray) (z : Int) (h : z ∈ ldsL ls K ds) : 0 ≤ z ∧ z ≤ ds.length := by
  unfold ldsL at h
  obtain ⟨x, _, rfl⟩ := List.mem_map.1 h
  have := cntL_le ls K ds x
  omega
theorem rep_map : ∀ l : List Int, List.replicate l.length (0 : Int) = l.map fun _ => 0
  | [] => rfl
  | x :: l => by rw [List.length_cons, List.replicate_succ, rep_map l, List.map_cons]
def ldB (ds : List ByteArray) (ls : List Int) (k : Int) : Bool := setB ds && rosB ls k
def ldL (ds : List ByteArray) (ls : List Int) (k : Int) : List Int := if ldB ds ls k then ldsL ls k.toNat ds else []
theorem ldL_yes {ds : List ByteArray} {ls : List Int} {k : Int} (h : ldB ds ls k = true) : ldL ds ls k = ldsL ls k.toNat ds := if_pos h
theorem ldL_no {ds : List ByteArray} {ls : List Int} {k : Int} (h : ldB ds ls k = false) : ldL ds ls k = [] := by unfold ldL; rw [h]; rfl
theorem ldL_len (ds : List ByteArray) (ls : List Int) (k : Int) : (ldL ds ls k).length ≤ ls.length := by
  unfold ldL
  split
  · rw [ldsL_len]; exact Nat.le_refl _
  · simp
theorem okS_all : ∀ (l : List ByteArray) (p : Option ByteArray), okS p l = true → ∀ s ∈ l, digB s = true := by
  intro l p h
  rw [okS_split, Bool.and_eq_true] at h
  exact List.all_eq_true.1 h.2
theorem setB_all {l : List ByteArray} (h : setB l = true) : l.length ≤ 200 ∧ ∀ s ∈ l, digB s = true := by
  unfold setB at h
  rw [Bool.and_eq_true, decide_eq_true_iff] at h
  exact ⟨h.1, okS_all l none h.2⟩
theorem ownCell {W : World} {B g n c : Nat} {xs : List Int} (h : OwnR i64E W B (.slice (some ⟨g, 0, none⟩) n c) xs) (k : Nat) {z : Int} (hv : xs[k]? = some z) : W.cell? ⟨g, k, none⟩ = some (.int .i64 z) ∧ W.frozen? ⟨g, k, none⟩ = false := by
  obtain ⟨hk, rfl⟩ := List.getElem?_eq_some_iff.1 hv
  obtain ⟨g', e, _, h1, h2⟩ := h.at.ix k hk
  cases e
  exact ⟨h1, h2⟩
theorem ownSet1 {W : World} {B g n c : Nat} {xs : List Int} (h : OwnR i64E W B (.slice (some ⟨g, 0, none⟩) n c) xs) (hn : xs.length = n) (k : Nat) (hk : k < xs.length) (y : Int) : OwnR i64E (W.setCell ⟨g, k, none⟩ (.int .i64 y)) B (.slice (some ⟨g, 0, none⟩) n c) (xs.set k y) := by
  have := OwnR.setJ (e := i64E) h hn k hk 0 (by decide) (.int .i64 y) y rfl
  rwa [show k * i64E.n + 0 = k from by show k * 1 + 0 = k; omega] at this
theorem rowSetOff {W : World} {a : Option Addr} {xs : List Int} {b i : Nat} {u : Value} (h : RowAt i64E W a xs) (hne : ∀ g, a = some ⟨g, 0, none⟩ → g ≠ b) : RowAt i64E (W.setCell ⟨b, i, none⟩ u) a xs := fun j hj => by
  obtain ⟨g, e, l, hc⟩ := h j hj
  refine ⟨g, e, by simpa using l, fun m hm => ⟨?_, by rw [World.frozen?_setCell]; exact (hc m hm).2⟩⟩
  rw [World.cell?_setCell_other _ _ _ _ (fun q => hne g e (by have := congrArg Addr.block q; simpa using this.symm))]
  exact (hc m hm).1
end Plain

end Go.Proofs.YtmicacoegkmklaaGreatDoor

/- The loads of nodes, by the program. -/
namespace Go.Proofs.YtmicacoegkmklaaGreatDoor
open Go.RowKit Plain
set_option linter.unusedVariables false

theorem has_calls (l : List Int) (x : Int) (w : World) (h1 : 1 ≤ x) (h2 : x ≤ 50) :
    Calls Tryz.prog 37 #[.int .u64 (setN l : Nat), .int .i64 x] w fun e w' => e = .returned (.bool (decide (x ∈ l))) ∧ w = w' := by
  obtain ⟨X, rfl⟩ := Int.eq_ofNat_of_zero_le (show 0 ≤ x by omega)
  have hlt := setN_lt l
  have hpl : 2 ^ X ≤ 1125899906842624 := Nat.pow_le_pow_right (show 0 < 2 by decide) (show X ≤ 50 by omega)
  have HON := hide (fun W => only_calls X W (by omega))
  have hand : bits .and .u64 ((setN l : Nat) : Int) ((2 ^ X : Nat) : Int) = ((setN l &&& 2 ^ X : Nat) : Int) := u64_and_nat _ _ (by omega) (by omega)
  have hbit := setN_bit l X
  have hx1 : 1 ≤ X := by omega
  have hx2 : X ≤ 50 := by omega
  rw [decide_eq_true hx1, decide_eq_true hx2, Bool.true_and, Bool.true_and] at hbit
  have hpos : 0 < 2 ^ X := Nat.pow_pos (by decide)
  have hres : ((((setN l &&& 2 ^ X : Nat) : Int)) != 0) = decide ((X : Int) ∈ l) := by
    rw [← hbit]
    cases hb : (setN l).testBit X with
    | false =>
      have : setN l &&& 2 ^ X = 0 := by
        apply Nat.eq_of_testBit_eq
        intro i
        rw [Nat.testBit_and, Nat.testBit_two_pow, Nat.zero_testBit]
        by_cases hi : X = i
        · subst hi; rw [hb]; rfl
        · simp [hi]
      rw [this]
      rfl
    | true =>
      have : (setN l &&& 2 ^ X).testBit X = true := by rw [Nat.testBit_and, Nat.testBit_two_pow, hb]; simp
      have hne : setN l &&& 2 ^ X ≠ 0 := fun e => by rw [e, Nat.zero_testBit] at this; cases this
      rw [bne_iff_ne]
      omega
  generalize setN l = S at hand hres
  generalize decide ((X : Int) ∈ l) = R at hres
  generalize hA : S &&& 2 ^ X = A at hand hres
  generalize 2 ^ X = P at HON hand
  clear hlt hpl hbit hpos hA
  go_enter Tryz.func37, Tryz.ntmps37
  go_wp2_with fail
  refine (unhide HON _).mono ?_
  rintro e w1 ⟨rfl, rfl⟩
  go_wp2_with fail
  go_ret
  exact ⟨rfl, rfl⟩

end Go.Proofs.YtmicacoegkmklaaGreatDoor
