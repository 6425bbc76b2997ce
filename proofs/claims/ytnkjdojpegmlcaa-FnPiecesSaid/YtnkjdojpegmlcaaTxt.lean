/- Texts and numbers behind one another: TakeNumber, PutText, TakeText of both programs by their contracts. -/
import Derived.Test.YtnkjdojpegmlcaaNum
import Derived.Test.YtnkjdojpegmlcaaTake
import Derived.Test.YtnkjdojpegmlcaaCur
import Derived.Test.YtnkjdojpegmlcaaPlainB
namespace Go.Proofs.Ytnkjdojpegmlcaa
open Go.RowKit Plain
set_option linter.unusedVariables false

theorem numV_none {r : Option (Nat × Nat)} (h : r = none) : numV r = .tuple #[.int .i64 0, .bool false] := by subst h; rfl
theorem numV_some {r : Option (Nat × Nat)} {v l : Nat} (h : r = some (v, l)) : numV r = .tuple #[.int .i64 v, .bool true] := by subst h; rfl



theorem impl_PutText (s : ByteArray) (w : World) (hs : s.size ≤ 1000000000000) :
    Calls Try.prog 41 #[.string s] w fun e w' => e = .returned (.string (putT s)) ∧ Below w.heap.size w w' := by
  unfold putT
  by_cases h : s.size ≤ 20000
  · rw [if_pos h]
    have hu := putS_size (s.size : Int)
    go_enter Try.func41, Try.ntmps41
    go_wp2_with fail
    refine (impl_PutNumber _ _).mono ?_
    rintro e w1 ⟨rfl, hb⟩
    go_wp2
    go_ret
    exact ⟨rfl, hb⟩
  · rw [if_neg h]
    go_enter Try.func41, Try.ntmps41
    go_wp2
    go_ret
    exact ⟨rfl, Below.refl _ _⟩

theorem spec_PutText (s : ByteArray) (w : World) (hs : s.size ≤ 1000000000000) :
    Calls Try.prog 27 #[.string s] w fun e w' => e = .returned (.string (putT s)) ∧ Below w.heap.size w w' := by
  unfold putT
  by_cases h : s.size ≤ 20000
  · rw [if_pos h]
    have hu := putS_size (s.size : Int)
    go_enter Try.func27, Try.ntmps27
    go_wp2_with fail
    refine (spec_PutNumber _ _).mono ?_
    rintro e w1 ⟨rfl, hb⟩
    go_wp2
    go_ret
    exact ⟨rfl, hb⟩
  · rw [if_neg h]
    go_enter Try.func27, Try.ntmps27
    go_wp2
    go_ret
    exact ⟨rfl, Below.refl _ _⟩

/-- What the reader's field answers, and where its cursor stands behind it. -/
def fldV (s : ByteArray) (p : Nat) (r : Option (Nat × Nat)) : Value := match r with
  | none => .tuple #[.string ByteArray.empty, .bool false]
  | some (l, v) => .tuple #[.string (s.extract (p + l) (p + l + v)), .bool true]
def fldAt (p : Nat) (r : Option (Nat × Nat)) : Nat := match r with
  | none => p
  | some (l, v) => p + l + v

set_option maxHeartbeats 1000000 in
theorem field_ok (b off : Nat) (s : ByteArray) (p : Nat) (w : World) (hc0 : w.cell? ⟨b, off, none⟩ = some (.string s)) (hc1 : w.cell? ⟨b, off + 1, none⟩ = some (.int .i64 p))
    (hf : w.frozen? ⟨b, off + 1, none⟩ = false) (hs : s.size ≤ 1000000000000) (hp : p ≤ s.size) :
    Calls Try.prog 44 #[.pointer (some ⟨b, off, none⟩)] w fun e w' => e = .returned (fldV s p (tkT s p)) ∧ OnlyAt ⟨b, off + 1, none⟩ w w' ∧ w'.cell? ⟨b, off + 1, none⟩ = some (.int .i64 (fldAt p (tkT s p))) := by
  have hbl := lt_of_cell hc0
  cases hr : tkN s p with
  | none =>
    rw [tkT_none hr]
    have HN := hide hr
    clear hr
    go_enter Try.func44, Try.ntmps44
    go_wp2_with fail
    refine (number_ok b off s p _ hc0 hc1 hf hs hp).mono ?_
    rintro e w1 ⟨rfl, ho, hc⟩
    rw [numV_none (unhide HN)]
    have hf1 : w1.frozen? ⟨b, off + 1, none⟩ = false := (ho.frozen ⟨b, off + 1, none⟩ hbl).trans hf
    go_wp2
    go_ret2
    exact ⟨rfl, ho.trans (OnlyAt.setCell _ _ _), World.cell?_setCell_same _ _ _ hc⟩
  | some vl =>
    obtain ⟨v, l⟩ := vl
    have hle := tkN_le hr
    by_cases hv : v ≤ 20000
    · by_cases hfit : p + l + v ≤ s.size
      · rw [tkT_some hr hv hfit]
        have HN := hide hr
        clear hr
        go_enter Try.func44, Try.ntmps44
        go_wp2_with fail
        refine (number_ok b off s p _ hc0 hc1 hf hs hp).mono ?_
        rintro e w1 ⟨rfl, ho, hc⟩
        rw [numV_some (unhide HN)]
        have hf1 : w1.frozen? ⟨b, off + 1, none⟩ = false := (ho.frozen ⟨b, off + 1, none⟩ hbl).trans hf
        have hc1' : w1.cell? ⟨b, off + 1, none⟩ = some (.int .i64 ((p + l : Nat) : Int)) := by rw [hc, unhide HN]; rfl
        have hc0' : w1.cell? ⟨b, off, none⟩ = some (.string s) := (ho.cell ⟨b, off, none⟩ hbl (by simp)).trans hc0
        clear hc
        go_wp2_with fail
        refine (take_ok b off s (p + l) v _ hc0' hc1' hf1 hs (by omega) (by omega) (by omega)).mono ?_
        rintro e w2 ⟨rfl, ho2, hc2⟩
        rw [Int.toNat_natCast]
        go_wp2
        go_ret2
        exact ⟨rfl, ho.trans ho2, by rw [hc2]; unfold fldAt; go_num⟩
      · rw [tkT_not hr (by omega)]
        have HN := hide hr
        clear hr
        go_enter Try.func44, Try.ntmps44
        go_wp2_with fail
        refine (number_ok b off s p _ hc0 hc1 hf hs hp).mono ?_
        rintro e w1 ⟨rfl, ho, hc⟩
        rw [numV_some (unhide HN)]
        have hf1 : w1.frozen? ⟨b, off + 1, none⟩ = false := (ho.frozen ⟨b, off + 1, none⟩ hbl).trans hf
        have hc1' : w1.cell? ⟨b, off + 1, none⟩ = some (.int .i64 ((p + l : Nat) : Int)) := by rw [hc, unhide HN]; rfl
        have hc0' : w1.cell? ⟨b, off, none⟩ = some (.string s) := (ho.cell ⟨b, off, none⟩ hbl (by simp)).trans hc0
        clear hc
        go_wp2_with fail
        refine (take_short b off s (p + l) v _ hc0' hc1' hs (by omega) (by omega) (by omega)).mono ?_
        rintro e w2 ⟨rfl, kk, rfl⟩
        go_wp2
        go_ret2
        exact ⟨rfl, (ho.drewN kk).trans (OnlyAt.setCell _ _ _), World.cell?_setCell_same _ _ _ hc1'⟩
    · rw [tkT_not hr (by omega)]
      have HN := hide hr
      clear hr
      go_enter Try.func44, Try.ntmps44
      go_wp2_with fail
      refine (number_ok b off s p _ hc0 hc1 hf hs hp).mono ?_
      rintro e w1 ⟨rfl, ho, hc⟩
      rw [numV_some (unhide HN)]
      have hf1 : w1.frozen? ⟨b, off + 1, none⟩ = false := (ho.frozen ⟨b, off + 1, none⟩ hbl).trans hf
      go_wp2
      go_ret2
      exact ⟨rfl, ho.trans (OnlyAt.setCell _ _ _), World.cell?_setCell_same _ _ _ hc⟩

/-- What TakeText answers. -/
def textV (s : ByteArray) : Value := match tkT s 0 with
  | none => .tuple #[.string ByteArray.empty, .string ByteArray.empty, .bool false]
  | some (l, v) => .tuple #[.string (s.extract l (l + v)), .string (s.extract (l + v) s.size), .bool true]
theorem textV_none {s : ByteArray} (h : tkT s 0 = none) : textV s = .tuple #[.string ByteArray.empty, .string ByteArray.empty, .bool false] := by unfold textV; rw [h]
theorem textV_some {s : ByteArray} {l v : Nat} (h : tkT s 0 = some (l, v)) : textV s = .tuple #[.string (s.extract l (l + v)), .string (s.extract (l + v) s.size), .bool true] := by unfold textV; rw [h]

set_option maxHeartbeats 1000000 in
theorem spec_TakeText (s : ByteArray) (w : World) (hs : s.size ≤ 1000000000000) :
    Calls Try.prog 50 #[.string s] w fun e w' => e = .returned (textV s) ∧ Below w.heap.size w w' := by
  cases hr : tkN s 0 with
  | none =>
    rw [textV_none (tkT_none hr)]
    have HN := hide hr
    clear hr
    go_enter Try.func50, Try.ntmps50
    go_wp2_with fail
    refine (spec_TakeNumber s _ hs).mono ?_
    rintro e w1 ⟨rfl, kk, rfl⟩
    rw [takeV_none (unhide HN)]
    go_wp2
    go_ret3
    exact ⟨rfl, below_drewN (Below.refl _ _) _⟩
  | some vl =>
    obtain ⟨v, l⟩ := vl
    have hle := tkN_le hr
    have hsz : (s.extract l s.size).size = s.size - l := by rw [ByteArray.size_extract]; omega
    by_cases hfit : v ≤ 20000 ∧ 0 + l + v ≤ s.size
    · rw [textV_some (tkT_some hr hfit.1 hfit.2)]
      have hv := hfit.1
      have hv2 : l + v ≤ s.size := by omega
      have e1 := hide (ext_front s l v hv2)
      have e2 := hide (ext_back s l v hv2)
      have HN := hide hr
      clear hr hfit
      go_enter Try.func50, Try.ntmps50
      go_wp2_with fail
      refine (spec_TakeNumber s _ hs).mono ?_
      rintro e w1 ⟨rfl, kk, rfl⟩
      rw [takeV_some (unhide HN)]
      go_wp2
      go_region
      all_goals (try go_wp2)
      all_goals go_ret3
      all_goals exact ⟨by rw [← unhide e1, ← unhide e2]; rfl, (below_drewN (Below.refl _ _) kk).drew⟩
    · rw [textV_none (tkT_not hr hfit)]
      have HN := hide hr
      clear hr
      go_enter Try.func50, Try.ntmps50
      go_wp2_with fail
      refine (spec_TakeNumber s _ hs).mono ?_
      rintro e w1 ⟨rfl, kk, rfl⟩
      rw [takeV_some (unhide HN)]
      by_cases hv : v ≤ 20000
      all_goals
        go_wp2
        go_ret3
        exact ⟨rfl, below_drewN (Below.refl _ _) _⟩



end Go.Proofs.Ytnkjdojpegmlcaa
