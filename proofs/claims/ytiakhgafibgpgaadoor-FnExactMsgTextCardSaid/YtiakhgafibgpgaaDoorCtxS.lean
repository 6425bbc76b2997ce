/- The text of members, by the specification. -/
import Derived.Test.YtiakhgafibgpgaaDoorCtxI
import Derived.Laws.IdiomStrings
namespace Go.Proofs.YtiakhgafibgpgaaDoor
open Go.RowKit Plain
set_option linter.unusedVariables false

set_option maxRecDepth 10000 in
set_option maxHeartbeats 2000000 in
theorem l1Dec_calls (n : Nat) (w : World) (h1 : 1 ≤ n) (h2 : n ≤ 50) :
    Calls Tryd.prog 33 #[.int .i64 n] w fun e w' => e = .returned (.string (strL (Lib.decDigits n))) ∧ Below w.heap.size w w' := by
  have HX := hide (decF_is ⟨n, by omega⟩ (by simp; omega))
  simp only at HX
  have hne : ((n : Int) == 0) = false := by rw [beq_eq_false_iff_ne]; omega
  go_enter Tryd.func33, Tryd.ntmps33
  go_wp2_with fail
  go_loopw [0, 3] (fun s0 s3 wr => ∃ (f m : Nat) (o : List UInt8), s0 = .int .i64 m ∧ s3 = .string (strL o) ∧ f ≤ 3 ∧ m ≤ 50 ∧ o.length + f ≤ 3 ∧ m < 10 ^ f ∧ Hid (decF f m o = Lib.decDigits n) ∧ Hid (Below w.heap.size w wr)) (fun s0 _ _ => (intOf s0).toNat)
  case atStart => exact ⟨3, n, [], rfl, rfl, by omega, by omega, by simp, by omega, HX, hide (Below.refl _ _)⟩
  case round =>
    obtain ⟨f, m, o, rfl, rfl, hf, hm, ho, hp, HO, HB⟩ := hrel
    by_cases hm0 : 0 < m
    · obtain ⟨f, rfl⟩ : ∃ f', f = f' + 1 := ⟨f - 1, by
        rcases Nat.eq_zero_or_pos f with h | h
        · subst h; simp at hp; omega
        · omega⟩
      have hst := unhide HO
      rw [decF, if_neg (by omega)] at hst
      have HST := hide hst
      have hm1 : (0 : Int) < (m : Int) := by omega
      obtain ⟨d, hd⟩ : ∃ d : Nat, m % 10 = d := ⟨_, rfl⟩
      obtain ⟨m2, hm2⟩ : ∃ m2 : Nat, m / 10 = m2 := ⟨_, rfl⟩
      rw [hd, hm2] at HST
      have ht : (m : Int) % 10 = (d : Int) := by omega
      have hq : (m : Int) / 10 = (m2 : Int) := by omega
      have hcv := conv1 wr (48 + (d : Int))
      rw [show strOfNums [48 + (d : Int)] = strL [UInt8.ofNat (48 + d)] from by unfold strOfNums strL; rw [List.map_cons, List.map_nil, show (48 + (d : Int)).toNat = 48 + d from by omega]] at hcv
      have hadd := fun W => strAdd (a := strL [UInt8.ofNat (48 + d)]) (b := strL o) W (by rw [strL_size, strL_size, List.length_singleton]; omega)
      rw [strL_add, List.singleton_append] at hadd
      have hm3 : m2 < 10 ^ f := by rw [← hm2]; rw [Nat.pow_succ] at hp; exact Nat.div_lt_of_lt_mul (by rw [Nat.mul_comm]; exact hp)
      generalize hT : strL (UInt8.ofNat (48 + d) :: o) = T at hadd
      generalize strL [UInt8.ofNat (48 + d)] = D at hcv hadd
      have HT := hide hT
      clear hst HO hd hm2 hT hp
      go_wp2_with fail
      go_roundw
      case rel => exact ⟨f, m2, UInt8.ofNat (48 + d) :: o, by first | rfl | (simp [hq]), by rw [unhide HT], by omega, by omega, by rw [List.length_cons]; omega, hm3, HST, hide (belOn (unhide HB) (bel1 _ _))⟩
      case measure => simp [intOf]; omega
    · obtain rfl : m = 0 := by omega
      have hst := unhide HO
      have HF := hide (show o = Lib.decDigits n from by rw [← hst]; cases f <;> simp [decF])
      clear hst HO
      rw [unhide HF]
      go_wp2_with fail
      go_ret
      exact ⟨rfl, unhide HB⟩

namespace Plain
theorem pre_len (p : List UInt8) (ls : List Int) (h : ∀ a ∈ ls, 1 ≤ a ∧ a ≤ 50) (hl : ls.length ≤ 7) (hp : p.length ≤ 40) (k : Nat) (o : List UInt8) (ho : o = p ++ numL (ls.take k)) : o.length ≤ 70 := by
  have := numL_take_len ls h k
  rw [ho, List.length_append]
  omega
end Plain

set_option maxRecDepth 10000 in
set_option maxHeartbeats 4000000 in
theorem spec_ConfText (av : Option Addr) (nv cv : Nat) (v : List Int) (al : Option Addr) (nl cl : Nat) (l : List Int) (w : World) (h : ConfAt w av nv v al nl l) :
    Calls Tryd.prog 14 #[.agg #[.slice av nv cv, .slice al nl cl]] w fun e w' => e = .returned (.string (strL (confL v l))) ∧ Below w.heap.size w w' := by
  obtain ⟨W0, hW0⟩ : ∃ W0, W0 = w.alloc (.cells #[.slice av nv cv, .slice al nl cl] 31) := ⟨_, rfl⟩
  have hb0 : Below w.heap.size w W0 := by rw [hW0]; exact bel1 _ _
  have hlt : w.heap.size < W0.heap.size := by rw [hW0]; simp
  have c0 : W0.cell? ⟨w.heap.size, 0, none⟩ = some (.slice av nv cv) := by rw [hW0]; simp [go_sem]
  have c1 : W0.cell? ⟨w.heap.size, 1, none⟩ = some (.slice al nl cl) := by rw [hW0]; simp [go_sem]
  have HC := hide (fun (W : World) (hW : Below W0.heap.size W0 W) => And.intro (bcl hW hlt c0) (bcl hW hlt c1))
  have HOK := hide (spec_ConfOk av nv cv v al nl cl l W0 (h.below hb0))
  have HA := hide (fun (W : World) (hW : Below W0.heap.size W0 W) => h.below (belOn hb0 hW))
  have HFIN := hide (fun (W : World) (hW : Below W0.heap.size W0 W) => belOn hb0 hW)
  have hvn := h.v.len
  have hln := h.l.len
  have HW0 := hide hW0.symm
  clear hb0 hW0 hlt h
  cases hc : confB v l with
  | false =>
    have HX := hide (show confL v l = [] from by unfold confL; rw [hc]; rfl)
    rw [hc] at HOK
    clear hc hvn hln
    go_enter Tryd.func14, Tryd.ntmps14
    go_wp2_with fail
    rw [unhide HW0]
    refine (unhide HOK).mono ?_
    rintro e w1 ⟨rfl, hb1⟩
    have HB1 := hide (unhide HFIN _ hb1)
    clear hb1
    go_wp2_with fail
    go_ret
    exact ⟨by rw [unhide HX]; rfl, unhide HB1⟩
  | true =>
    obtain ⟨hv, hl, h7⟩ := confB_l hc
    obtain ⟨-, -, hv7⟩ := confB_v hc
    have HPV := hide (pre_len [118] v hv hv7 (by decide))
    have lv := numL_len v hv
    have HPL := hide (pre_len ((118 :: numL v) ++ [32, 108]) l hl h7 (by rw [List.length_append, List.length_cons, List.length_cons, List.length_cons, List.length_nil]; omega))
    have lv2 : (118 :: numL v).length ≤ 40 := by rw [List.length_cons]; omega
    rw [hvn] at hv7
    rw [hln] at h7
    have HV := hide hv
    have HL := hide hl
    have HVN := hide hvn
    have HLN := hide hln
    have HX := hide (show confL v l = (118 :: numL v) ++ (if nl = 0 then [] else 32 :: 108 :: numL l) from by unfold confL; rw [hc, hln]; rfl)
    rw [hc] at HOK
    clear hc hvn hln hv hl lv
    go_enter Tryd.func14, Tryd.ntmps14
    go_wp2_with fail
    rw [unhide HW0]
    refine (unhide HOK).mono ?_
    rintro e w1 ⟨rfl, hb1⟩
    have HB1 := hide hb1
    clear hb1 c0 c1
    go_wp2_with fail
    go_loopw [3, 4] (fun s3 i wr => ∃ (k : Nat) (o : List UInt8), s3 = .string (strL o) ∧ i = .int .i64 k ∧ k ≤ nv ∧ Hid (o = [118] ++ numL (v.take k)) ∧ Hid (Below W0.heap.size W0 wr)) (fun _ i _ => nv - (intOf i).toNat)
    case atStart => exact ⟨0, [118], rfl, rfl, by omega, hide rfl, HB1⟩
    case round =>
      clear HB1
      obtain ⟨k, o, rfl, rfl, hk, HO, HB⟩ := hrel
      obtain ⟨q0, q1⟩ := unhide HC _ (unhide HB)
      by_cases hkn : k < nv
      · have hkl : k < v.length := by rw [unhide HVN]; exact hkn
        obtain ⟨g, e1, l1, p0, -⟩ := (unhide HA _ (unhide HB)).v.row.ix k hkl
        have hst := numL_take v k hkl
        have hr := unhide HV v[k] (by simp)
        have ho := unhide HPV k o (unhide HO)
        generalize v[k] = x at p0 hst hr
        obtain ⟨X, rfl⟩ := Int.eq_ofNat_of_zero_le (show 0 ≤ x by omega)
        rw [Int.toNat_natCast] at hst
        have hd := dec_len ⟨X, by omega⟩
        simp only at hd
        subst e1
        have i0 : (0 : Int) ≤ (k : Int) := by omega
        have i1 : (k : Int) < (nv : Int) := by omega
        have HDE := hide (fun W => l1Dec_calls X W (by omega) (by omega))
        have hadd := fun W => strAdd (a := strL o) (b := ⟨#[32]⟩) W (by rw [strL_size]; have : (⟨#[32]⟩ : ByteArray).size = 1 := rfl; omega)
        rw [show strL o ++ (⟨#[32]⟩ : ByteArray) = strL (o ++ [32]) from strL_add o [32]] at hadd
        have hadd2 := fun W => strAdd (a := strL (o ++ [32])) (b := strL (Lib.decDigits X)) W (by rw [strL_size, strL_size, List.length_append, List.length_singleton]; omega)
        rw [strL_add] at hadd2
        have HST := hide (show o ++ [32] ++ Lib.decDigits X = [118] ++ numL (v.take (k + 1)) from by rw [hst, unhide HO]; simp)
        generalize hT : strL (o ++ [32] ++ Lib.decDigits X) = T at hadd2
        generalize strL (o ++ [32]) = T1 at hadd hadd2
        generalize strL (Lib.decDigits X) = T2 at HDE hadd2
        have HT := hide hT
        clear hst hT hd HO
        go_wp2_with fail
        refine (unhide HDE _).mono ?_
        rintro e w2 ⟨rfl, hb2⟩
        have HB2 := hide (belOn (unhide HB) hb2)
        clear hb2
        go_wp2_with fail
        go_roundw
        case rel => exact ⟨k + 1, o ++ [32] ++ Lib.decDigits X, by rw [unhide HT], by go_num, by omega, HST, HB2⟩
        case measure => simp [intOf]; omega
      · obtain rfl : k = nv := by omega
        have ho : o = 118 :: numL v := by have := unhide HO; rw [List.take_of_length_le (by rw [unhide HVN]; exact Nat.le_refl _)] at this; exact this
        subst ho
        clear HO
        by_cases h0 : nl = 0
        · have h0i : ¬ (0 : Int) < (nl : Int) := by omega
          have HF := hide (show confL v l = 118 :: numL v from by rw [unhide HX, if_pos h0, List.append_nil])
          generalize hT : strL (118 :: numL v) = T
          have HT := hide hT
          clear hT h0
          go_wp2_with fail
          go_loopw [3, 5] (fun s3 i wr => ∃ (j : Nat), s3 = .string T ∧ i = .int .i64 j ∧ Hid (Below W0.heap.size W0 wr)) (fun _ i _ => 0)
          case atStart => exact ⟨0, rfl, rfl, HB⟩
          case round =>
            clear HB q0 q1
            obtain ⟨j, rfl, rfl, HB⟩ := hrel
            obtain ⟨q0, q1⟩ := unhide HC _ (unhide HB)
            have hj : ¬ (j : Int) < (nl : Int) := by omega
            go_wp2_with fail
            go_ret
            exact ⟨by rw [unhide HF, unhide HT]; rfl, unhide HFIN _ (unhide HB)⟩
        · have h0b : decide (0 < nl) = true := decide_eq_true (by omega)
          have HF := hide (show confL v l = ((118 :: numL v) ++ [32, 108]) ++ numL l from by rw [unhide HX, if_neg h0]; simp)
          have hadd := fun W => strAdd (a := strL (118 :: numL v)) (b := ⟨#[32, 108]⟩) W (by rw [strL_size]; have : (⟨#[32, 108]⟩ : ByteArray).size = 2 := rfl; omega)
          rw [show strL (118 :: numL v) ++ (⟨#[32, 108]⟩ : ByteArray) = strL ((118 :: numL v) ++ [32, 108]) from strL_add _ [32, 108]] at hadd
          generalize (118 :: numL v) ++ [32, 108] = P at HF HPL hadd
          generalize strL (118 :: numL v) = T0 at hadd
          clear h0
          go_wp2_with fail
          go_loopw [3, 5] (fun s3 i wr => ∃ (j : Nat) (o : List UInt8), s3 = .string (strL o) ∧ i = .int .i64 j ∧ j ≤ nl ∧ Hid (o = P ++ numL (l.take j)) ∧ Hid (Below W0.heap.size W0 wr)) (fun _ i _ => nl - (intOf i).toNat)
          case atStart => exact ⟨0, P, rfl, rfl, by omega, hide (by simp [numL]), HB⟩
          case round =>
            clear HB q0 q1 hadd
            obtain ⟨j, o, rfl, rfl, hj, HO, HB⟩ := hrel
            obtain ⟨q0, q1⟩ := unhide HC _ (unhide HB)
            by_cases hjn : j < nl
            · have hkl : j < l.length := by rw [unhide HLN]; exact hjn
              obtain ⟨g, e1, l1, p0, -⟩ := (unhide HA _ (unhide HB)).l.row.ix j hkl
              have hst := numL_take l j hkl
              have hr := unhide HL l[j] (by simp)
              have ho := unhide HPL j o (unhide HO)
              generalize l[j] = x at p0 hst hr
              obtain ⟨X, rfl⟩ := Int.eq_ofNat_of_zero_le (show 0 ≤ x by omega)
              rw [Int.toNat_natCast] at hst
              have hd := dec_len ⟨X, by omega⟩
              simp only at hd
              subst e1
              have i0 : (0 : Int) ≤ (j : Int) := by omega
              have i1 : (j : Int) < (nl : Int) := by omega
              have HDE := hide (fun W => l1Dec_calls X W (by omega) (by omega))
              have hadd := fun W => strAdd (a := strL o) (b := ⟨#[32]⟩) W (by rw [strL_size]; have : (⟨#[32]⟩ : ByteArray).size = 1 := rfl; omega)
              rw [show strL o ++ (⟨#[32]⟩ : ByteArray) = strL (o ++ [32]) from strL_add o [32]] at hadd
              have hadd2 := fun W => strAdd (a := strL (o ++ [32])) (b := strL (Lib.decDigits X)) W (by rw [strL_size, strL_size, List.length_append, List.length_singleton]; omega)
              rw [strL_add] at hadd2
              have HST := hide (show o ++ [32] ++ Lib.decDigits X = P ++ numL (l.take (j + 1)) from by rw [hst, unhide HO]; simp)
              generalize hT : strL (o ++ [32] ++ Lib.decDigits X) = T at hadd2
              generalize strL (o ++ [32]) = T1 at hadd hadd2
              generalize strL (Lib.decDigits X) = T2 at HDE hadd2
              have HT := hide hT
              clear hst hT hd HO
              go_wp2_with fail
              refine (unhide HDE _).mono ?_
              rintro e w2 ⟨rfl, hb2⟩
              have HB2 := hide (belOn (unhide HB) hb2)
              clear hb2
              go_wp2_with fail
              go_roundw
              case rel => exact ⟨j + 1, o ++ [32] ++ Lib.decDigits X, by rw [unhide HT], by go_num, by omega, HST, HB2⟩
              case measure => simp [intOf]; omega
            · obtain rfl : j = nl := by omega
              have ho : o = P ++ numL l := by have := unhide HO; rw [List.take_of_length_le (by rw [unhide HLN]; exact Nat.le_refl _)] at this; exact this
              have HG := hide (show confL v l = o from by rw [unhide HF, ho])
              clear ho HO
              go_wp2_with fail
              go_ret
              exact ⟨by rw [unhide HG]; rfl, unhide HFIN _ (unhide HB)⟩
end Go.Proofs.YtiakhgafibgpgaaDoor
