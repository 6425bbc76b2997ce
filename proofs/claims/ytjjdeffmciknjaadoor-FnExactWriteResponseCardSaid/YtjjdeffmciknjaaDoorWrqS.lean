/- The specification's WriteRequest. -/
import Derived.Test.YtjjdeffmciknjaaDoorWrqM
import Derived.Test.YtjjdeffmciknjaaDoorReqU
import Derived.Laws.IdiomStrings
import Derived.Deep.QuietTactic
import Derived.BigQuiet
namespace Go.Proofs.YtjjdeffmciknjaaDoor
open Go.RowKit Plain
set_option linter.unusedVariables false

namespace Plain
def strU (l : List UInt8) : ByteArray := ⟨l.toArray⟩
theorem strU_add (a b : List UInt8) : strU a ++ strU b = strU (a ++ b) := by
  apply ByteArray.ext
  simp [strU]
theorem strU_size (a : List UInt8) : (strU a).size = a.length := by simp [strU, ByteArray.size]
/-- What a digit more ahead makes of the digits. -/
def decU : Nat → Nat → List UInt8 → List UInt8
  | 0, _, o => o
  | f + 1, n, o => if n = 0 then o else decU f (n / 10) (UInt8.ofNat (48 + n % 10) :: o)
theorem decU_is : ∀ (f n : Nat) (o : List UInt8), n < 10 ^ f → decU f n o = if n = 0 then o else Lib.decDigits n ++ o := by
  intro f
  induction f with
  | zero => intro n o h; have : n = 0 := by simpa using h
            rw [if_pos this]; rfl
  | succ f ih =>
    intro n o h
    by_cases h0 : n = 0
    · rw [if_pos h0]; unfold decU; rw [if_pos h0]
    · rw [if_neg h0]
      unfold decU
      rw [if_neg h0, ih (n / 10) _ (Nat.div_lt_of_lt_mul (by rw [Nat.pow_succ, Nat.mul_comm] at h; exact h))]
      by_cases h1 : n / 10 = 0
      · rw [if_pos h1, Lib.decDigits, dif_pos (by omega), show n % 10 = n from by omega]
        rfl
      · rw [if_neg h1]
        have e := Lib.decDigits.eq_1 n
        rw [dif_neg (by omega)] at e
        rw [e, List.append_assoc]
        rfl
end Plain

set_option maxRecDepth 10000 in
set_option maxHeartbeats 2000000 in
theorem l1DecN_calls (n : Nat) (w : World) (h2 : n < 1000000) :
    Calls Tryd.prog 32 #[.int .i64 n] w fun e w' => e = .returned (.string (decN n)) ∧ Below w.heap.size w w' := by
  by_cases h1 : n = 0
  · subst h1
    have HE := hide (show decN 0 = ⟨#[48]⟩ from by unfold decN; rw [Lib.decDigits, dif_pos (by omega)]; rfl)
    rw [unhide HE]
    go_enter Tryd.func32, Tryd.ntmps32
    go_wp2_with fail
    go_ret
    exact ⟨rfl, Below.refl _ _⟩
  have HX := hide (show decU 6 n [] = Lib.decDigits n from by rw [decU_is 6 n [] (by omega), if_neg h1, List.append_nil])
  have HE := hide (show decN n = strU (Lib.decDigits n) from rfl)
  rw [unhide HE]
  have hne : ((n : Int) == 0) = false := by rw [beq_eq_false_iff_ne]; omega
  go_enter Tryd.func32, Tryd.ntmps32
  go_wp2_with fail
  go_loopw [0, 3] (fun s0 s3 wr => ∃ (f m : Nat) (o : List UInt8), s0 = .int .i64 m ∧ s3 = .string (strU o) ∧ f ≤ 6 ∧ m < 1000000 ∧ o.length + f ≤ 6 ∧ m < 10 ^ f ∧ Hid (decU f m o = Lib.decDigits n) ∧ Hid (Below w.heap.size w wr)) (fun s0 _ _ => (intOf s0).toNat)
  case atStart => exact ⟨6, n, [], rfl, rfl, by omega, by omega, by simp, by omega, HX, hide (Below.refl _ _)⟩
  case round =>
    obtain ⟨f, m, o, rfl, rfl, hf, hm, ho, hp, HO, HB⟩ := hrel
    by_cases hm0 : 0 < m
    · obtain ⟨f, rfl⟩ : ∃ f', f = f' + 1 := ⟨f - 1, by
        rcases Nat.eq_zero_or_pos f with h | h
        · subst h; simp at hp; omega
        · omega⟩
      have hst := unhide HO
      rw [decU, if_neg (by omega)] at hst
      have HST := hide hst
      have hm1 : (0 : Int) < (m : Int) := by omega
      obtain ⟨d, hd⟩ : ∃ d : Nat, m % 10 = d := ⟨_, rfl⟩
      obtain ⟨m2, hm2⟩ : ∃ m2 : Nat, m / 10 = m2 := ⟨_, rfl⟩
      rw [hd, hm2] at HST
      have ht : (m : Int) % 10 = (d : Int) := by omega
      have hq : (m : Int) / 10 = (m2 : Int) := by omega
      have hd10 : d < 10 := by omega
      have hcv := conv1 wr (48 + (d : Int))
      rw [show strOfNums [48 + (d : Int)] = strU [UInt8.ofNat (48 + d)] from by unfold strOfNums strU; rw [List.map_cons, List.map_nil, show (48 + (d : Int)).toNat = 48 + d from by omega]] at hcv
      have hadd := fun W => addS (a := strU [UInt8.ofNat (48 + d)]) (b := strU o) W (by rw [strU_size, strU_size, List.length_singleton]; omega)
      rw [strU_add, List.singleton_append] at hadd
      have hm3 : m2 < 10 ^ f := by rw [← hm2]; rw [Nat.pow_succ] at hp; exact Nat.div_lt_of_lt_mul (by rw [Nat.mul_comm]; exact hp)
      generalize hT : strU (UInt8.ofNat (48 + d) :: o) = T at hadd
      generalize strU [UInt8.ofNat (48 + d)] = D at hcv hadd
      have HT := hide hT
      clear hst HO hd hm2 hT hp
      go_wp2_with fail
      go_roundw
      case rel => exact ⟨f, m2, UInt8.ofNat (48 + d) :: o, by first | rfl | (simp [hq]), by rw [unhide HT], by omega, by omega, by rw [List.length_cons]; omega, hm3, HST, hide (belOn (unhide HB) (bel1 _ _))⟩
      case measure => simp [intOf]; omega
    · obtain rfl : m = 0 := by omega
      have hst := unhide HO
      have HF := hide (show o = Lib.decDigits n from by rw [← hst]; cases f <;> simp [decU])
      clear hst HO
      rw [unhide HF]
      go_wp2_with fail
      go_ret
      exact ⟨rfl, unhide HB⟩

set_option maxRecDepth 10000 in
set_option maxHeartbeats 4000000 in
theorem l16Rest_calls (a : Option Addr) (n c : Nat) (hs : List Hd) (bd : ByteArray) (w : World) (hn : hs.length = n) (hn2 : n ≤ 20) (hf : fitH hs) (hbd : bd.size ≤ 20000) (h : RowAt hdrE w a hs) :
    Calls Tryd.prog 27 #[.slice a n c, .string bd] w fun e w' => e = .returned (.string (restT hs bd)) ∧ Below w.heap.size w w' := by
  have H := hide h
  have HN := hide hn
  have HF := hide hf
  have HE := hide (show restT hs bd = accR hs ++ clT ++ decN bd.size ++ crcrT ++ bd from rfl)
  have HD := hide (fun W => l1DecN_calls bd.size W (by omega))
  have HAS := hide (fun (k : Nat) => (show (accR (hs.take k)).size ≤ 50000 from by
    have := accR_size (hs.take k) fun x hx => hf x (List.mem_of_mem_take hx)
    rw [List.length_take] at this
    omega))
  have hds := decN_size bd.size (by omega)
  generalize decN bd.size = D at HD HE hds
  rw [unhide HE]
  clear h hn hf HE
  go_enter Tryd.func27, Tryd.ntmps27
  go_wp2_with fail
  go_loopw [5, 6] (fun s i wr => ∃ k : Nat, i = .int .i64 k ∧ k ≤ n ∧ s = .string (accR (hs.take k)) ∧ Hid (Below w.heap.size w wr)) (fun _ i _ => n - (intOf i).toNat)
  case atStart => exact ⟨0, rfl, by omega, rfl, hide (Below.refl _ _)⟩
  case round =>
    obtain ⟨k, rfl, hk, rfl, HB⟩ := hrel
    by_cases hlk : k < n
    · have hkl : k < hs.length := by rw [unhide HN]; exact hlk
      obtain ⟨g, e1, l1, p0, p1⟩ := ((unhide H).below (unhide HB)).hdr k hkl
      have HST := hide (accR_take hs k hkl)
      have hsz := unhide HF hs[k] (by simp)
      generalize hs[k] = x at p0 p1 HST hsz
      obtain ⟨y, z⟩ := x
      simp only at p0 p1 hsz
      obtain ⟨hy, hz⟩ := hsz
      have hA := unhide HAS k
      generalize accR (hs.take k) = A at HST hA
      have a1 := fun W => addS (a := A) (b := y) W (by omega)
      have a2 := fun W => addS (a := A ++ y) (b := csT) W (by rw [ByteArray.size_append]; have : csT.size = 2 := rfl; omega)
      have a3 := fun W => addS (a := A ++ y ++ csT) (b := z) W (by rw [ByteArray.size_append, ByteArray.size_append]; have : csT.size = 2 := rfl; omega)
      have a4 := fun W => addS (a := A ++ y ++ csT ++ z) (b := crT) W (by rw [ByteArray.size_append, ByteArray.size_append, ByteArray.size_append]; have : csT.size = 2 := rfl; have : crT.size = 2 := rfl; omega)
      have HST2 := hide (show accR (hs.take (k + 1)) = A ++ y ++ csT ++ z ++ crT from unhide HST)
      generalize A ++ y ++ csT ++ z ++ crT = f5 at a4 HST2
      generalize A ++ y ++ csT ++ z = f4 at a3 a4
      generalize A ++ y ++ csT = f3 at a2 a3
      generalize A ++ y = f2 at a1 a2
      unfold csT at a2
      unfold crT at a4
      subst e1
      have i0 : (0 : Int) ≤ (k : Int) := by omega
      have i1 : (k : Int) < (n : Int) := by omega
      clear HST hkl hy hz hA
      go_wp2_with fail
      go_region
      all_goals (try go_wp2_with fail)
      all_goals exact ⟨⟨k + 1, by go_num, by omega, by rw [unhide HST2], hide (belDrew (unhide HB))⟩, by simp [intOf]; omega⟩
    · obtain rfl : k = n := by omega
      have hA := unhide HAS k
      rw [show hs.take k = hs from List.take_of_length_le (by rw [unhide HN]; exact Nat.le_refl _)] at hA
      rw [show hs.take k = hs from List.take_of_length_le (by rw [unhide HN]; exact Nat.le_refl _)]
      generalize hA0 : accR hs = A at hA ⊢
      have HA0 := hide hA0
      have a1 := fun W => addS (a := A) (b := clT) W (by have : clT.size = 16 := rfl; omega)
      have a2 := fun W => addS (a := A ++ clT) (b := D) W (by rw [ByteArray.size_append]; have : clT.size = 16 := rfl; omega)
      have a3 := fun W => addS (a := A ++ clT ++ D) (b := crcrT) W (by rw [ByteArray.size_append, ByteArray.size_append]; have : clT.size = 16 := rfl; have : crcrT.size = 4 := rfl; omega)
      have a4 := fun W => addS (a := A ++ clT ++ D ++ crcrT) (b := bd) W (by rw [ByteArray.size_append, ByteArray.size_append, ByteArray.size_append]; have : clT.size = 16 := rfl; have : crcrT.size = 4 := rfl; omega)
      generalize hf5 : A ++ clT ++ D ++ crcrT ++ bd = f5 at a4
      have HF5 := hide hf5
      clear hA0 hf5
      generalize A ++ clT ++ D ++ crcrT = f4 at a3 a4
      generalize A ++ clT ++ D = f3 at a2 a3
      generalize A ++ clT = f2 at a1 a2
      unfold clT at a1
      unfold crcrT at a3
      clear hA
      go_wp2_with fail
      refine (unhide HD _).mono ?_
      rintro e w1 ⟨rfl, hb1⟩
      have HB1 := hide (belOn (unhide HB) hb1)
      clear hb1
      go_wp2_with fail
      go_ret
      exact ⟨by rw [unhide HA0, unhide HF5]; rfl, unhide HB1⟩

set_option maxRecDepth 10000 in
set_option maxHeartbeats 4000000 in
theorem spec_WriteRequest (m p : ByteArray) (aq : Option Addr) (nq cq : Nat) (qs : List Hd) (ah : Option Addr) (nh ch : Nat) (hs : List Hd) (bd : ByteArray) (w : World) (h : ReqAt w m p aq nq qs ah nh hs bd) :
    Calls Tryd.prog 11 #[.agg #[.string m, .string p, .slice aq nq cq, .slice ah nh ch, .string bd]] w fun e w' => e = .returned (.string (wrqT m p qs hs bd)) ∧ Below w.heap.size w w' := by
  obtain ⟨W0, hW0⟩ : ∃ W0, W0 = w.alloc (.cells #[.string m, .string p, .slice aq nq cq, .slice ah nh ch, .string bd] 29) := ⟨_, rfl⟩
  have hb0 : Below w.heap.size w W0 := by rw [hW0]; exact bel1 _ _
  have hlt : w.heap.size < W0.heap.size := by rw [hW0]; simp
  have c0 : W0.cell? ⟨w.heap.size, 0, none⟩ = some (.string m) := by rw [hW0]; simp [go_sem]
  have c1 : W0.cell? ⟨w.heap.size, 1, none⟩ = some (.string p) := by rw [hW0]; simp [go_sem]
  have c2 : W0.cell? ⟨w.heap.size, 2, none⟩ = some (.slice aq nq cq) := by rw [hW0]; simp [go_sem]
  have c3 : W0.cell? ⟨w.heap.size, 3, none⟩ = some (.slice ah nh ch) := by rw [hW0]; simp [go_sem]
  have c4 : W0.cell? ⟨w.heap.size, 4, none⟩ = some (.string bd) := by rw [hW0]; simp [go_sem]
  have hA := h.below hb0
  have HOK := hide (spec_RequestOk m p aq nq cq qs ah nh ch hs bd W0 hA)
  have HC := hide (fun (W : World) (hW : Below W0.heap.size W0 W) => And.intro (bcl hW hlt c0) (And.intro (bcl hW hlt c1) (And.intro (bcl hW hlt c2) (And.intro (bcl hW hlt c3) (bcl hW hlt c4)))))
  have HB := hide hb0
  have HW0 := hide hW0.symm
  have HE := hide (show wrqT m p qs hs bd = if reqB m p qs hs bd = true then msgT (firstT m p qs) hs bd else ⟨#[]⟩ from rfl)
  cases hB : reqB m p qs hs bd with
  | false =>
    rw [hB] at HOK
    rw [unhide HE, hB]
    clear h hA hb0 hlt c0 c1 c2 c3 c4 hW0 HE hB
    go_enter Tryd.func11, Tryd.ntmps11
    go_wp2_with fail
    rw [unhide HW0]
    refine (unhide HOK).mono ?_
    rintro e w1 ⟨rfl, hb1⟩
    have HB1 := hide (belOn (unhide HB) hb1)
    clear hb1
    go_wp2_with fail
    go_ret
    exact ⟨rfl, unhide HB1⟩
  | true =>
    obtain ⟨s1, s2, s3, s4, s5, s6, s7⟩ := req_facts hB
    rw [hB] at HOK
    have hlq := hA.lq
    have hlh := hA.lh
    have HE2 := hide (show wrqT m p qs hs bd = accQ (m ++ blT ++ p) qs nq ++ hcT ++ restT hs bd from by rw [unhide HE, hB, if_pos rfl, msg_rest, first_acc, hlq])
    rw [unhide HE2]
    have HRS := hide (fun (W : World) (hW : Below W0.heap.size W0 W) => l16Rest_calls ah nh ch hs bd W hlh (by omega) s6 (by omega) (hA.rh.below hW))
    have HRZ := hide (show (restT hs bd).size ≤ 200000 from by
      unfold restT
      have h1 := accR_size hs s6
      have h2 := decN_size bd.size (by omega)
      rw [ByteArray.size_append, ByteArray.size_append, ByteArray.size_append, ByteArray.size_append]
      have e1 : clT.size = 16 := rfl
      have e2 : crcrT.size = 4 := rfl
      omega)
    have HRQ := hide (fun (W : World) (hW : Below W0.heap.size W0 W) => hA.rq.below hW)
    have a1 := fun W => addS (a := m) (b := blT) W (by have : blT.size = 1 := rfl; omega)
    have a2 := fun W => addS (a := m ++ blT) (b := p) W (by rw [ByteArray.size_append]; have : blT.size = 1 := rfl; omega)
    have HAS := hide (fun (k : Nat) (hk : k ≤ nq) => (show (accQ (m ++ blT ++ p) qs k).size ≤ 100000 from by
      have h1 := accQ_size (m ++ blT ++ p) qs s4 k (by omega)
      rw [ByteArray.size_append, ByteArray.size_append] at h1
      have e1 : blT.size = 1 := rfl
      omega))
    have HF := hide s4
    have HLQ := hide hlq
    have hnq : nq ≤ 20 := by omega
    generalize restT hs bd = RT at HRS HRZ ⊢
    generalize m ++ blT ++ p = s0 at a2 HAS ⊢
    generalize m ++ blT = f2 at a1 a2
    unfold blT at a1
    clear h hA hb0 hlt c0 c1 c2 c3 c4 hW0 HE HE2 hB s1 s2 s4 s5 s6 s7 hlq hlh
    go_enter Tryd.func11, Tryd.ntmps11
    go_wp2_with fail
    rw [unhide HW0]
    refine (unhide HOK).mono ?_
    rintro e w1 ⟨rfl, hb1⟩
    have HX1 := hide hb1
    obtain ⟨q0, q1, q2, q3, q4⟩ := unhide HC _ hb1
    clear hb1
    go_wp2_with fail
    clear q0 q1 q2 q3 q4
    go_loopw [3, 4] (fun s i wr => ∃ k : Nat, i = .int .i64 k ∧ k ≤ nq ∧ s = .string (accQ s0 qs k) ∧ Hid (Below W0.heap.size W0 wr)) (fun _ i _ => nq - (intOf i).toNat)
    case atStart => exact ⟨0, rfl, by omega, rfl, HX1⟩
    case round =>
      obtain ⟨k, rfl, hk, rfl, HBk⟩ := hrel
      obtain ⟨q0, q1, q2, q3, q4⟩ := unhide HC _ (unhide HBk)
      by_cases hlk : k < nq
      · have hkl : k < qs.length := by rw [unhide HLQ]; exact hlk
        obtain ⟨g, e1, l1, p0, p1⟩ := (unhide HRQ _ (unhide HBk)).hdr k hkl
        have HST := hide (show accQ s0 qs (k + 1) = stepQ k (accQ s0 qs k) qs[k] from by
          show stepQ k (accQ s0 qs k) (qs.getD k (⟨#[]⟩, ⟨#[]⟩)) = _
          rw [show qs.getD k (⟨#[]⟩, ⟨#[]⟩) = qs[k] from by simp [List.getD, hkl]])
        have hsz := unhide HF qs[k] (by simp)
        generalize qs[k] = x at p0 p1 HST hsz
        obtain ⟨y, z⟩ := x
        simp only at p0 p1 hsz
        obtain ⟨hy, hz⟩ := hsz
        have hA := unhide HAS k (by omega)
        generalize accQ s0 qs k = A at HST hA
        subst e1
        have i0 : (0 : Int) ≤ (k : Int) := by omega
        have i1 : (k : Int) < (nq : Int) := by omega
        have hq1 : quT.size = 1 := rfl
        have ha1 : amT.size = 1 := rfl
        have he1 : eqT1.size = 1 := rfl
        rcases Nat.eq_zero_or_pos k with hk0 | hk0
        · have HST2 := hide (show accQ s0 qs (k + 1) = A ++ quT ++ y ++ eqT1 ++ z from by rw [unhide HST]; unfold stepQ; rw [if_pos hk0])
          have b1 := fun W => addS (a := A) (b := quT) W (by omega)
          have b2 := fun W => addS (a := A ++ quT) (b := y) W (by rw [ByteArray.size_append]; omega)
          have b3 := fun W => addS (a := A ++ quT ++ y) (b := eqT1) W (by rw [ByteArray.size_append, ByteArray.size_append]; omega)
          have b4 := fun W => addS (a := A ++ quT ++ y ++ eqT1) (b := z) W (by rw [ByteArray.size_append, ByteArray.size_append, ByteArray.size_append]; omega)
          generalize A ++ quT ++ y ++ eqT1 ++ z = f5 at b4 HST2
          generalize A ++ quT ++ y ++ eqT1 = f4 at b3 b4
          generalize A ++ quT ++ y = f3 at b2 b3
          generalize A ++ quT = f2' at b1 b2
          unfold quT at b1
          unfold eqT1 at b3
          subst hk0
          clear HST hkl hy hz hA hq1 ha1 he1
          go_wp2_with fail
          go_quiet (fail)
          go_wp2_with fail
          go_roundw
          case rel => exact ⟨0 + 1, by go_num, by omega, by rw [unhide HST2], by first | exact hide (belDrew (unhide HBk)) | exact hide (belQ (unhide HBk) _)⟩
          case measure => simp [intOf]; omega
        · have HST2 := hide (show accQ s0 qs (k + 1) = A ++ amT ++ y ++ eqT1 ++ z from by rw [unhide HST]; unfold stepQ; rw [if_neg (by omega)])
          have b1 := fun W => addS (a := A) (b := amT) W (by omega)
          have b2 := fun W => addS (a := A ++ amT) (b := y) W (by rw [ByteArray.size_append]; omega)
          have b3 := fun W => addS (a := A ++ amT ++ y) (b := eqT1) W (by rw [ByteArray.size_append, ByteArray.size_append]; omega)
          have b4 := fun W => addS (a := A ++ amT ++ y ++ eqT1) (b := z) W (by rw [ByteArray.size_append, ByteArray.size_append, ByteArray.size_append]; omega)
          generalize A ++ amT ++ y ++ eqT1 ++ z = f5 at b4 HST2
          generalize A ++ amT ++ y ++ eqT1 = f4 at b3 b4
          generalize A ++ amT ++ y = f3 at b2 b3
          generalize A ++ amT = f2' at b1 b2
          unfold amT at b1
          unfold eqT1 at b3
          have hk1 : ((k : Int) == 0) = false := by rw [beq_eq_false_iff_ne]; omega
          clear HST hkl hy hz hA hq1 ha1 he1 hk0
          go_wp2_with fail
          go_quiet (fail)
          go_wp2_with fail
          go_roundw
          case rel => exact ⟨k + 1, by go_num, by omega, by rw [unhide HST2], by first | exact hide (belDrew (unhide HBk)) | exact hide (belQ (unhide HBk) _)⟩
          case measure => simp [intOf]; omega
      · obtain rfl : k = nq := by omega
        have hA := unhide HAS k (by omega)
        have hR := unhide HRZ
        generalize hA0 : accQ s0 qs k = A at hA ⊢
        have HA0 := hide hA0
        have hh1 : hcT.size = 11 := rfl
        have b1 := fun W => addS (a := A) (b := hcT) W (by omega)
        have b2 := fun W => addS (a := A ++ hcT) (b := RT) W (by rw [ByteArray.size_append]; omega)
        generalize hf3 : A ++ hcT ++ RT = f3 at b2
        have HF3 := hide hf3
        generalize A ++ hcT = f4 at b1 b2 hf3
        unfold hcT at b1
        have HR1 := hide (unhide HRS _ (unhide HBk))
        clear hA hR hA0 hf3 hh1
        go_wp2_with fail
        refine (unhide HR1).mono ?_
        rintro e w2 ⟨rfl, hb2⟩
        have HB2 := hide (belOn (unhide HB) (belOn (unhide HBk) hb2))
        clear hb2
        go_wp2_with fail
        go_ret
        exact ⟨by rw [unhide HA0, unhide HF3]; rfl, unhide HB2⟩
end Go.Proofs.YtjjdeffmciknjaaDoor
