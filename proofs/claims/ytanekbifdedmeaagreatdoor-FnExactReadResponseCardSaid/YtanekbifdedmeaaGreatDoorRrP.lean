/- A response's text comes back, by either reader: mathematics. -/
import Derived.Test.YtanekbifdedmeaaGreatDoorRrK
import Derived.Test.YtanekbifdedmeaaGreatDoorWrsI
namespace Go.Proofs.YtanekbifdedmeaaGreatDoor
open Go.RowKit Plain
set_option linter.unusedVariables false

namespace Plain
theorem rea_13 (s : Int) : ∀ x ∈ (reaT s).data.toList, x ≠ 13 := by
  have key : ∀ l : List (Int × ByteArray), (∀ y ∈ l, ∀ x ∈ y.2.data.toList, x ≠ 13) → ∀ x ∈ (reaF l s).data.toList, x ≠ 13 := by
    intro l
    induction l with
    | nil => intro _ x hx; simp [reaF] at hx
    | cons y l ih =>
      intro h x hx
      obtain ⟨c, t⟩ := y
      by_cases hc : s = c
      · rw [reaF_hit hc] at hx
        exact h (c, t) (by simp) x hx
      · rw [reaF_miss hc] at hx
        exact ih (fun y hy => h y (List.mem_cons_of_mem _ hy)) x hx
  refine key reaL ?_
  intro y hy
  simp only [reaL, List.mem_cons, List.not_mem_nil, or_false] at hy
  rcases hy with rfl | rfl | rfl | rfl | rfl | rfl | rfl | rfl | rfl | rfl <;> decide
theorem dec3 (n : Nat) (h1 : 100 ≤ n) (h2 : n < 1000) : (Lib.decDigits n).length = 3 := by
  rw [Lib.decDigits, dif_neg (by omega), List.length_append, List.length_singleton, Lib.decDigits, dif_neg (by omega), List.length_append, List.length_singleton, Lib.decDigits, dif_pos (by omega)]
  rfl
theorem numG_dec (M n : Nat) (hM : M < 10 ^ 15) (h : n ≤ M) : numG M (Lib.decDigits n) = (n : Int) := by
  rcases numG_is M hM (Lib.decDigits n) with ⟨_, q⟩ | ⟨m, q1, q2, q3⟩
  · exact absurd rfl (q n h)
  · have e1 := digG_dec n
    rw [q2, digG_dec] at e1
    rw [q3]
    exact Option.some.inj e1
def hbL : List UInt8 := [72, 84, 84, 80, 47, 49, 46, 49]
theorem fst_l (st : Int) : (fstT st).data.toList = hbL ++ 32 :: (Lib.decDigits st.toNat ++ 32 :: (reaT st).data.toList) := by
  unfold fstT
  rw [app_l, app_l, app_l]
  show hbT.data.toList ++ (bU (Lib.decDigits st.toNat)).data.toList ++ blT.data.toList ++ _ = _
  rw [bU_data]
  show [72, 84, 84, 80, 47, 49, 46, 49, 32] ++ _ ++ [32] ++ _ = _
  simp [hbL]
/-- The first line, and where what follows it begins. -/
def firL (s : List UInt8) : List UInt8 := if Lib.index s [13, 10] < 0 then s else s.take (Lib.index s [13, 10]).toNat
def startP (s : List UInt8) : Nat := if Lib.index s [13, 10] < 0 then 0 else (Lib.index s [13, 10]).toNat + 2
/-- What stands behind a blank, and ahead of one. -/
def cutA (l : List UInt8) : List UInt8 := if Lib.index l [32] < 0 then [] else l.drop ((Lib.index l [32]).toNat + 1)
def cutZ (l : List UInt8) : List UInt8 := if Lib.index l [32] < 0 then l else l.take (Lib.index l [32]).toNat
/-- The number in the first line, as the program reads it. -/
def stsP (s : List UInt8) : Int := numG 1000000000000 (cutZ (cutA (firL s)))
/-- The text is that of a response. -/
def IsR (s : List UInt8) (p : Int × List Hd × List UInt8) : Prop := (wrsT p.1 p.2.1 (bU p.2.2)).data.toList = s ∧ s ≠ []
theorem wrs_facts {s : List UInt8} {p : Int × List Hd × List UInt8} (h : IsR s p) : 12 ≤ s.length ∧ s.length ≤ 40000 ∧ (∃ L : Nat, Lib.index s [13, 10] = L ∧ talF (numG 20000) (s.drop (L + 2)) = (0, p.2)) ∧ startP s = (Lib.index s [13, 10]).toNat + 2 ∧ numG 999 ((s.drop 9).take 3) = p.1 ∧ stsP s = p.1 := by
  obtain ⟨st, hs, b⟩ := p
  obtain ⟨h1, h2⟩ := h
  simp only at h1 ⊢
  rcases reaT_or st with hr | ⟨r1, r2, r3, r4⟩
  · rw [wrsT_no1 hr] at h1
    exact absurd h1.symm h2
  cases ht : tailB hs (bU b) with
  | false =>
    rw [wrsT_no2 ht] at h1
    exact absurd h1.symm h2
  | true =>
    rw [wrsT_yes r1 ht, msg_rest, app_l, app_l] at h1
    obtain ⟨t1, t2⟩ := tal_back ht
    rw [bU_data] at t1
    obtain ⟨R, hR⟩ : ∃ R, (restT hs (bU b)).data.toList = R := ⟨_, rfl⟩
    rw [hR] at t1 t2 h1
    have hf := fst_l st
    have hd3 := dec3 st.toNat (by omega) (by omega)
    have hre : (reaT st).data.toList.length = (reaT st).size := by simp
    obtain ⟨F, hF⟩ : ∃ F, (fstT st).data.toList = F := ⟨_, rfl⟩
    rw [hF] at hf h1
    have hs0 : s = F ++ 13 :: 10 :: R := by
      rw [← h1]
      show F ++ [13, 10] ++ R = _
      simp
    have hFl : F.length = 13 + (reaT st).size := by
      rw [hf, List.length_append, List.length_cons, List.length_append, List.length_cons, hd3, hre]
      show 8 + _ = _
      omega
    have hnc : NC F := nc_of fun x hx => by
      rw [hf] at hx
      rcases List.mem_append.1 hx with q | q
      · exact (show ∀ x ∈ hbL, x ≠ 13 from by decide) x q
      · rcases List.mem_cons.1 q with rfl | q
        · decide
        · rcases List.mem_append.1 q with q | q
          · exact dec_ne (by decide) q
          · rcases List.mem_cons.1 q with rfl | q
            · decide
            · exact rea_13 st x q
    have hi : Lib.index s [13, 10] = (F.length : Nat) := by rw [hs0]; exact ix2 F R hnc
    have hst : ((st.toNat : Nat) : Int) = st := by omega
    have hdrop : s.drop (F.length + 2) = R := by
      rw [hs0, show F ++ 13 :: 10 :: R = (F ++ [13, 10]) ++ R from by simp, show F.length + 2 = (F ++ [13, 10]).length from by simp, List.drop_left]
    refine ⟨?_, ?_, ⟨F.length, hi, by rw [hdrop]; exact t1⟩, ?_, ?_, ?_⟩
    · rw [hs0, List.length_append]; omega
    · rw [hs0, List.length_append, List.length_cons, List.length_cons]; omega
    · unfold startP
      rw [hi, if_neg (by omega)]
    · have hd : (s.drop 9).take 3 = Lib.decDigits st.toNat := by
        rw [hs0, hf]
        show ((hbL ++ 32 :: (Lib.decDigits st.toNat ++ 32 :: (reaT st).data.toList) ++ 13 :: 10 :: R).drop 9).take 3 = _
        rw [show hbL ++ 32 :: (Lib.decDigits st.toNat ++ 32 :: (reaT st).data.toList) ++ 13 :: 10 :: R = (hbL ++ [32]) ++ (Lib.decDigits st.toNat ++ (32 :: (reaT st).data.toList ++ 13 :: 10 :: R)) from by simp, show 9 = (hbL ++ [32]).length from rfl, List.drop_left, ← hd3, List.take_left]
      rw [hd, numG_dec 999 st.toNat (by decide) (by omega), hst]
    · have hfl : firL s = F := by
        unfold firL
        rw [hi, if_neg (by omega), Int.toNat_natCast, hs0, List.take_left]
      have hA : cutA F = Lib.decDigits st.toNat ++ 32 :: (reaT st).data.toList := by
        have e := ix1 32 (Lib.decDigits st.toNat ++ 32 :: (reaT st).data.toList) (l := hbL) (by decide)
        unfold cutA
        rw [hf, e, if_neg (by omega), Int.toNat_natCast, (cut1 32 hbL _).2]
      have hZ : cutZ (Lib.decDigits st.toNat ++ 32 :: (reaT st).data.toList) = Lib.decDigits st.toNat := by
        have e := ix1 32 (reaT st).data.toList (l := Lib.decDigits st.toNat) (fun x hx => dec_ne (by decide) hx)
        unfold cutZ
        rw [e, if_neg (by omega), Int.toNat_natCast, List.take_left]
      unfold stsP
      rw [hfl, hA, hZ, numG_dec 1000000000000 st.toNat (by decide) (by omega), hst]
theorem isR_one {s : List UInt8} {p q : Int × List Hd × List UInt8} (h : IsR s p) (h2 : IsR s q) : p = q := by
  obtain ⟨_, _, ⟨L, a1, a2⟩, _, a4, _⟩ := wrs_facts h
  obtain ⟨_, _, ⟨L', b1, b2⟩, _, b4, _⟩ := wrs_facts h2
  rw [a1] at b1
  obtain rfl : L = L' := by omega
  rw [a2] at b2
  have e := (Prod.mk.inj b2).2
  rw [a4] at b4
  exact Prod.ext b4 e
end Plain
end Go.Proofs.YtanekbifdedmeaaGreatDoor
