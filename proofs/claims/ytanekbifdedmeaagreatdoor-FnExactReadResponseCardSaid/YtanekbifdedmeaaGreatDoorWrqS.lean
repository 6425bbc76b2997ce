/- The specification's WriteRequest. -/
import Derived.Test.YtanekbifdedmeaaGreatDoorWrqM
import Derived.Test.YtanekbifdedmeaaGreatDoorReqU
import Derived.Laws.IdiomStrings
import Derived.Deep.QuietTactic
import Derived.BigQuiet
namespace Go.Proofs.YtanekbifdedmeaaGreatDoor
open Go.RowKit Plain
set_option linter.unusedVariables false

namespace Plain
def strU (l : List UInt8) : ByteArray := ⟨l.toArray⟩
theorem strU_add (a b : List UInt8) : strU a ++ strU b = strU (a ++ b) := by
  apply ByteArray.ext
  simp [strU]
theorem strU_size (a : List UInt8) : (strU a).size = a.length := by simp [strU, ByteArray.size]
/-- What a digit more ahead makes of the digits. -/
def decU : Nat → Nat → List UInt8 → List UInt8
  | 0, _, o => o
  | f + 1, n, o => if n = 0 then o else decU f (n / 10) (UInt8.ofNat (48 + n % 10) :: o)
theorem decU_is : ∀ (f n : Nat) (o : List UInt8), n < 10 ^ f → decU f n o = if n = 0 then o else Lib.decDigits n ++ o := by
  intro f
  induction f with
  | zero => intro n o h; have : n = 0 := by simpa using h
            rw [if_pos this]; rfl
  | succ f ih =>
    intro n o h
    by_cases h0 : n = 0
    · rw [if_pos h0]; unfold decU; rw [if_pos h0]
    · rw [if_neg h0]
      unfold decU
      rw [if_neg h0, ih (n / 10) _ (Nat.div_lt_of_lt_mul (by rw [Nat.pow_succ, Nat.mul_comm] at h; exact h))]
      by_cases h1 : n / 10 = 0
      · rw [if_pos h1, Lib.decDigits, dif_pos (by omega), show n % 10 = n from by omega]
        rfl
      · rw [if_neg h1]
        have e := Lib.decDigits.eq_1 n
        rw [dif_neg (by omega)] at e
        rw [e, List.append_assoc]
        rfl
end Plain

set_option maxRecDepth 10000 in
set_option maxHeartbeats 2000000 in
theorem l1DecN_calls (n : Nat) (w : World) (h2 : n < 1000000) :
    Calls Tryz.prog 53 #[.int .i64 n] w fun e w' => e = .returned (.string (decN n)) ∧ Below w.heap.size w w' := by
  by_cases h1 : n = 0
  · subst h1
    have HE := hide (show decN 0 = ⟨#[48]⟩ from by unfold decN; rw [Lib.decDigits, dif_pos (by omega)]; rfl)
    rw [unhide HE]
    go_enter Tryz.func53, Tryz.ntmps53
    go_wp2_with fail
    go_ret
    exact ⟨rfl, Below.refl _ _⟩
  have HX := hide (show decU 6 n [] = Lib.decDigits n from by rw [decU_is 6 n [] (by omega), if_neg h1, List.append_nil])
  have HE := hide (show decN n = strU (Lib.decDigits n) from rfl)
  rw [unhide HE]
  have hne : ((n : Int) == 0) = false := by rw [beq_eq_false_iff_ne]; omega
  go_enter Tryz.func53, Tryz.ntmps53
  go_wp2_with fail
  go_loopw [0, 3] (fun s0 s3 wr => ∃ (f m : Nat) (o : List UInt8), s0 = .int .i64 m ∧ s3 = .string (strU o) ∧ f ≤ 6 ∧ m < 1000000 ∧ o.length + f ≤ 6 ∧ m < 10 ^ f ∧ Hid (decU f m o = Lib.decDigits n) ∧ Hid (Below w.heap.size w wr)) (fun s0 _ _ => (intOf s0).toNat)
  case atStart => exact ⟨6, n, [], rfl, rfl, by omega, by omega, by simp, by omega, HX, hide (Below.refl _ _)⟩
  case round =>
    obtain ⟨f, m, o, rfl, rfl, hf, hm, ho, hp, HO, HB⟩ := hrel
    by_cases hm0 : 0 < m
    · obtain ⟨f, rfl⟩ : ∃ f', f = f' + 1 := ⟨f - 1, by
        rcases Nat.eq_zero_or_pos f with h | h
        · subst h; simp at hp; omega
        · omega⟩
      have hst := unhide HO
      rw [decU, if_neg (by omega)] at hst
      have HST := hide hst
      have hm1 : (0 : Int) < (m : Int) := by omega
      obtain ⟨d, hd⟩ : ∃ d : Nat, m % 10 = d := ⟨_, rfl⟩
      obtain ⟨m2, hm2⟩ : ∃ m2 : Nat, m / 10 = m2 := ⟨_, rfl⟩
      rw [hd, hm2] at HST
      have ht : (m : Int) % 10 = (d : Int) := by omega
      have hq : (m : Int) / 10 = (m2 : Int) := by omega
      have hd10 : d < 10 := by omega
      have hcv := conv1 wr (48 + (d : Int))
      rw [show strOfNums [48 + (d : Int)] = strU [UInt8.ofNat (48 + d)] from by unfold strOfNums strU; rw [List.map_cons, List.map_nil, show (48 + (d : Int)).toNat = 48 + d from by omega]] at hcv
      have hadd := fun W => addS (a := strU [UInt8.ofNat (48 + d)]) (b := strU o) W (by rw [strU_size, strU_size, List.length_singleton]; omega)
      rw [strU_add, List.singleton_append] at hadd
      have hm3 : m2 < 10 ^ f := by rw [← hm2]; rw [Nat.pow_succ] at hp; exact Nat.div_lt_of_lt_mul (by rw [Nat.mul_comm]; exact hp)
      generalize hT : strU (UInt8.ofNat (48 + d) :: o) = T at hadd
      generalize strU [UInt8.ofNat (48 + d)] = D at hcv hadd
      have HT := hide hT
      clear hst HO hd hm2 hT hp
      go_wp2_with fail
      go_roundw
      case rel => exact ⟨f, m2, UInt8.ofNat (48 + d) :: o, by first | rfl | (simp [hq]), by rw [unhide HT], by omega, by omega, by rw [List.length_cons]; omega, hm3, HST, hide (belOn (unhide HB) (bel1 _ _))⟩
      case measure => simp [intOf]; omega
    · obtain rfl : m = 0 := by omega
      have hst := unhide HO
      have HF := hide (show o = Lib.decDigits n from by rw [← hst]; cases f <;> simp [decU])
      clear hst HO
      rw [unhide HF]
      go_wp2_with fail
      go_ret
      exact ⟨rfl, unhide HB⟩

set_option maxRecDepth 10000 in
set_option maxHeartbeats 4000000 in
theorem l16Rest_calls (a : Option Addr) (n c : Nat) (hs : List Hd) (bd : ByteArray) (w : World) (hn : hs.length = n) (hn2 : n ≤ 20) (hf : fitH hs) (hbd : bd.size ≤ 20000) (h : RowAt hdrE w a hs) :
    Calls Tryz.prog 35 #[.slice a n c, .string bd] w fun e w' => e = .returned (.string (restT hs bd)) ∧ Below w.heap.size w w' := by
  have H := hide h
  have HN := hide hn
  have HF := hide hf
  have HE := hide (show restT hs bd = accR hs ++ clT ++ decN bd.size ++ crcrT ++ bd from rfl)
  have HD := hide (fun W => l1DecN_calls bd.size W (by omega))
  have HAS := hide (fun (k : Nat) => (show (accR (hs.take k)).size ≤ 50000 from by
    have := accR_size (hs.take k) fun x hx => hf x (List.mem_of_mem_take hx)
    rw [List.length_take] at this
    omega))
  have hds := decN_size bd.size (by omega)
  generalize decN bd.size = D at HD HE hds
  rw [unhide HE]
  clear h hn hf HE
  go_enter Tryz.func35, Tryz.ntmps35
  go_wp2_with fail
  go_loopw [5, 6] (fun s i wr => ∃ k : Nat, i = .int .i64 k ∧ k ≤ n ∧ s = .string (accR (hs.take k)) ∧ Hid (Below w.heap.size w wr)) (fun _ i _ => n - (intOf i).toNat)
  case atStart => exact ⟨0, rfl, by omega, rfl, hide (Below.refl _ _)⟩
  case round =>
    obtain ⟨k, rfl, hk, rfl, HB⟩ := hrel
    by_cases hlk : k < n
    · have hkl : k < hs.length := by rw [unhide HN]; exact hlk
      obtain ⟨g, e1, l1, p0, p1⟩ := ((unhide H).below (unhide HB)).hdr k hkl
      have HST := hide (accR_take hs k hkl)
      have hsz := unhide HF hs[k] (by simp)
      generalize hs[k] = x at p0 p1 HST hsz
      obtain ⟨y, z⟩ := x
      simp only at p0 p1 hsz
      obtain ⟨hy, hz⟩ := hsz
      have hA := unhide HAS k
      generalize accR (hs.take k) = A at HST hA
      have a1 := fun W => addS (a := A) (b := y) W (by omega)
      have a2 := fun W => addS (a := A ++ y) (b := csT) W (by rw [ByteArray.size_append]; have : csT.size = 2 := rfl; omega)
      have a3 := fun W => addS (a := A ++ y ++ csT) (b := z) W (by rw [ByteArray.size_append, ByteArray.size_append]; have : csT.size = 2 := rfl; omega)
      have a4 := fun W => addS (a := A ++ y ++ csT ++ z) (b := crT) W (by rw [ByteArray.size_append, ByteArray.size_append, ByteArray.size_append]; have : csT.size = 2 := rfl; have : crT.size = 2 := rfl; omega)
      have HST2 := hide (show accR (hs.take (k + 1)) = A ++ y ++ csT ++ z ++ crT from unhide HST)
      generalize A ++ y ++ csT ++ z ++ crT = f5 at a4 HST2
      generalize A ++ y ++ csT ++ z = f4 at a3 a4
      generalize A ++ y ++ csT = f3 at a2 a3
      generalize A ++ y = f2 at a1 a2
      unfold csT at a2
      unfold crT at a4
      subst e1
      have i0 : (0 : Int) ≤ (k : Int) := by omega
      have i1 : (k : Int) < (n : Int) := by omega
      clear HST hkl hy hz hA
      go_wp2_with fail
      go_region
      all_goals (try go_wp2_with fail)
      all_goals exact ⟨⟨k + 1, by go_num, by omega, by rw [unhide HST2], hide (belDrew (unhide HB))⟩, by simp [intOf]; omega⟩
    · obtain rfl : k = n := by omega
      have hA := unhide HAS k
      rw [show hs.take k = hs from List.take_of_length_le (by rw [unhide HN]; exact Nat.le_refl _)] at hA
      rw [show hs.take k = hs from List.take_of_length_le (by rw [unhide HN]; exact Nat.le_refl _)]
      generalize hA0 : accR hs = A at hA ⊢
      have HA0 := hide hA0
      have a1 := fun W => addS (a := A) (b := clT) W (by have : clT.size = 16 := rfl; omega)
      have a2 := fun W => addS (a := A ++ clT) (b := D) W (by rw [ByteArray.size_append]; have : clT.size = 16 := rfl; omega)
      have a3 := fun W => addS (a := A ++ clT ++ D) (b := crcrT) W (by rw [ByteArray.size_append, ByteArray.size_append]; have : clT.size = 16 := rfl; have : crcrT.size = 4 := rfl; omega)
      have a4 := fun W => addS (a := A ++ clT ++ D ++ crcrT) (b := bd) W (by rw [ByteArray.size_append, ByteArray.size_append, ByteArray.size_append]; have : clT.size = 16 := rfl; have : crcrT.size = 4 := rfl; omega)
      generalize hf5 : A ++ clT ++ D ++ crcrT ++ bd = f5 at a4
      have HF5 := hide hf5
      clear hA0 hf5
      generalize A ++ clT ++ D ++ crcrT = f4 at a3 a4
      generalize A ++ clT ++ D = f3 at a2 a3
      generalize A ++ clT = f2 at a1 a2
      unfold clT at a1
      unfold crcrT at a3
      clear hA
      go_wp2_with fail
      refine (unhide HD _).mono ?_
      rintro e w1 ⟨rfl, hb1⟩
      have HB1 := hide (belOn (unhide HB) hb1)
      clear hb1
      go_wp2_with fail
      go_ret
      exact ⟨by rw [unhide HA0, unhide HF5]; rfl, unhide HB1⟩

end Go.Proofs.YtanekbifdedmeaaGreatDoor
