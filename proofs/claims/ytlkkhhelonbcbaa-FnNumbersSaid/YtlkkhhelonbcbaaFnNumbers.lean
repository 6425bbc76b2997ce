/- For every two codes, the number and the text that are drawn of the first come back from their bytes, whatever stands behind them, and what is read of the bytes that are drawn of the second has just the bytes that it was read from; nothing that was there is changed. No condition. -/
import Derived.Test.YtlkkhhelonbcbaaRows
import Derived.Test.YtlkkhhelonbcbaaDrawT
import Derived.Test.YtlkkhhelonbcbaaNumI
import Derived.Test.YtlkkhhelonbcbaaTxt
import Derived.Test.YtlkkhhelonbcbaaTake
import Derived.Test.YtlkkhhelonbcbaaBig
import Derived.WalkKit
import Derived.ProofKit
import Derived.OpenShut
import Derived.ShutString
import Derived.ChangeOld
import Derived.Below
namespace Go.Proofs.Ytlkkhhelonbcbaa.fnNumbers
open Go.ChangeShapes Go.WideShapes Go.ChangeAt Go.RowKit
open Go.ChangeMaps (open_string shut_string)
open Plain
set_option linter.unusedVariables false

theorem own : ownKnob Try.prog.godebug = none := by kernel_rfl
theorem laidOut : laidOutB Try.prog = true := by kernel_rfl

theorem row_below {w w' : World} {a : Option Addr} {len cap : Nat} {zs : List Int} (h : IsRow .u8 w a len cap zs) (hb : Below w.heap.size w w') : IsRow .u8 w' a len cap zs := by
  rcases h with h | ⟨x, hx, h1, h2, h3, h4, h5⟩
  · exact .inl h
  · exact .inr ⟨x, hx, h1, h2, h3, fun i hi => (hb.cell (lt_of_cell (h4 i hi))).trans (h4 i hi), h5⟩
theorem putS_none (n : Int) (h : ¬ (0 ≤ n ∧ n ≤ 1000000000000)) : putS n = ⟨#[]⟩ := by unfold putS; rw [if_neg h]; rfl
theorem list_ne (s : ByteArray) (h : 1 ≤ s.size) : s.toList.isEmpty = false := by
  rw [ByteArray.toList_eq]
  cases hs : s.data.toList with
  | nil => have : s.data.toList.length = s.size := by simp
           rw [hs] at this; simp at this; omega
  | cons x l => rfl
theorem putS_ne (n : Int) (h0 : 0 ≤ n) (h1 : n ≤ 1000000000000) : (putS n).toList.isEmpty = false := list_ne _ (putS_pos n h0 h1)
theorem putT_none (t : ByteArray) (h : ¬ t.size ≤ 20000) : putT t = ⟨#[]⟩ := by unfold putT; rw [if_neg h]; rfl
theorem putT_is (t : ByteArray) (h : t.size ≤ 20000) : putT t = putS t.size ++ t := by unfold putT; rw [if_pos h]
theorem putT_ne (t : ByteArray) (h : t.size ≤ 20000) : (putT t).toList.isEmpty = false := by
  refine list_ne _ ?_
  have := putS_pos t.size (by omega) (by omega)
  rw [putT_is t h, ByteArray.size_append]
  omega
theorem emp_list : (⟨#[]⟩ : ByteArray).toList = [] := by rw [ByteArray.toList_eq]
theorem putT_small (t : ByteArray) : (putT t).size ≤ 20006 := by
  unfold putT
  split
  · have := putS_size t.size
    rw [ByteArray.size_append]; omega
  · exact Nat.zero_le _
theorem take_put (n : Int) (u : ByteArray) (h0 : 0 ≤ n) (h1 : n ≤ 1000000000000) : takeV (putS n ++ u) = .tuple #[.int .i64 n, .string u, .bool true] := by
  obtain ⟨N, rfl⟩ := Int.eq_ofNat_of_zero_le h0
  rw [takeV_some (tkN_put N u (by omega)), rest_of]
theorem text_put (t s : ByteArray) (h : t.size ≤ 20000) : textV (putT t ++ s) = .tuple #[.string t, .string s, .bool true] := by
  rw [putT_is t h, bytes_assoc, textV_some (tkT_put t s h), mid_of, end_of]

set_option maxRecDepth 10000 in
set_option maxHeartbeats 4000000 in
theorem walk (a0 : Option Addr) (len0 cap0 : Nat) (z0 : List Int) (a1 : Option Addr) (len1 cap1 : Nat) (z1 : List Int) (w : World) (w0 : IsRow .u8 w a0 len0 cap0 z0) (w1 : IsRow .u8 w a1 len1 cap1 z1) :
    Calls Try.prog 6 #[.slice a0 len0 cap0, .slice a1 len1 cap1] w fun e w' => e = .returned (.bool true) ∧ Below w.heap.size w w' := by
  have hlen := w0.len
  have hlen1 := w1.len
  have H := hide w0
  have HI := hide w1
  clear w0 w1
  by_cases hbig : len0 ≤ 1048576
  · have hd : decide (1048576 < (len0 : Int)) = false := by simp; omega
    by_cases hbig1 : len1 ≤ 1048576
    · have hd1 : decide (1048576 < (len1 : Int)) = false := by simp; omega
      go_enter Try.func6, Try.ntmps6
      go_wp2_with fail
      refine (big_calls a0 len0 cap0 _ hlen).mono ?_
      rintro e w1 ⟨rfl, rfl⟩
      rw [hd]
      go_wp2_with fail
      refine (big_calls a1 len1 cap1 _ hlen1).mono ?_
      rintro e w1 ⟨rfl, rfl⟩
      rw [hd1]
      go_wp2_with fail
      refine (DrawPutNumber_calls a0 len0 cap0 z0 _ (unhide H) hbig).mono ?_
      rintro e w1 ⟨n, rfl, hn0, hn1, hb1⟩
      have HB1 := hide hb1
      clear hb1
      go_wp2_with fail
      refine (impl_PutNumber n _).mono ?_
      rintro e w2 ⟨rfl, hb2⟩
      have HB2 := hide ((unhide HB1).trans (hb2.mono (unhide HB1).size))
      clear hb2 HB1
      go_wp2_with fail
      refine (DrawPutText_calls a0 len0 cap0 z0 _ (row_below (unhide H) (unhide HB2)) hbig).mono ?_
      rintro e w3 ⟨t, rfl, hts, hb3⟩
      have HB3 := hide ((unhide HB2).trans (hb3.mono (unhide HB2).size))
      clear hb3 HB2
      go_wp2_with fail
      refine (impl_PutText t _ (by omega)).mono ?_
      rintro e w4 ⟨rfl, hb4⟩
      have HB4 := hide ((unhide HB3).trans (hb4.mono (unhide HB3).size))
      have hut := putT_small t
      clear hb4 HB3
      go_wp2_with fail
      refine (spec_PutNumber n _).mono ?_
      rintro e w5 ⟨rfl, hb5⟩
      have HB5 := hide ((unhide HB4).trans (hb5.mono (unhide HB4).size))
      clear hb5 HB4
      go_wp2_with fail
      refine (spec_PutText t _ (by omega)).mono ?_
      rintro e w6 ⟨rfl, hb6⟩
      have HB6 := hide ((unhide HB5).trans (hb6.mono (unhide HB5).size))
      clear hb6 HB5
      by_cases hn : 0 ≤ n ∧ n ≤ 1000000000000
      · have hne := putS_ne n hn.1 hn.2
        have htp := take_put n (putT t) hn.1 hn.2
        have hp6 := putS_size n
        have HTP := hide htp
        clear htp
        go_wp2_with fail
        refine (impl_TakeNumber _ _ ?hq).mono ?_
        case hq => rw [ByteArray.size_append]; omega
        rintro e w7 ⟨rfl, hb7⟩
        rw [unhide HTP]
        have HB7 := hide ((unhide HB6).trans (hb7.mono (unhide HB6).size))
        clear hb7 HB6
        have HB6 := HB7
        clear HB7
        by_cases ht : t.size ≤ 20000
        · have hne2 := putT_ne t ht
          have htx := text_put t (putS n) ht
          have hp6 := putS_size n
          have HTX := hide htx
          clear htx
          go_wp2_with fail
          refine (impl_TakeText _ _ ?hq).mono ?_
          case hq => rw [ByteArray.size_append]; omega
          rintro e w7 ⟨rfl, hb7⟩
          rw [unhide HTX]
          have HB := hide ((unhide HB6).trans (hb7.mono (unhide HB6).size))
          clear hb7 HB6
          go_wp2_with fail
          refine (DrawTakeNumber_calls a1 len1 cap1 z1 _ (row_below (unhide HI) (unhide HB)) hbig1).mono ?_
          rintro e w8 ⟨d, rfl, hd, hb8⟩
          have HB8 := hide ((unhide HB).trans (hb8.mono (unhide HB).size))
          clear hb8 HB
          go_wp2_with fail
          refine (spec_TakeNumber d _ (by omega)).mono ?_
          rintro e w9 ⟨rfl, kk, rfl⟩
          have HB9 := hide (below_drewN (unhide HB8) kk)
          clear HB8
          cases hr : tkN d 0 with
          | none =>
            have htv := takeV_none hr
            rw [htv]
            go_wp2_with fail
            refine (impl_TakeNumber d _ (by omega)).mono ?_
            rintro e w10 ⟨rfl, hb10⟩
            rw [htv]
            have hb := (unhide HB9).trans (hb10.mono (unhide HB9).size)
            clear hb10 htv hr
            go_wp2_with fail
            go_ret
            exact ⟨rfl, hb⟩
          | some vl =>
            obtain ⟨v, l⟩ := vl
            have htv := takeV_some hr
            obtain ⟨hv, hl, hback⟩ := take_back d v l hr
            rw [htv]
            have hrs : (d.extract l d.size).size ≤ 30000 := by rw [ByteArray.size_extract]; omega
            clear hr
            generalize d.extract l d.size = rr at htv hback hrs
            have HTV := hide htv
            clear htv
            go_wp2_with fail
            refine (impl_TakeNumber d _ (by omega)).mono ?_
            rintro e w10 ⟨rfl, hb10⟩
            rw [unhide HTV]
            have HB10 := hide ((unhide HB9).trans (hb10.mono (unhide HB9).size))
            clear hb10 HB9
            have HBK := hide hback
            clear hback
            go_wp2_with fail
            refine (impl_PutNumber v _).mono ?_
            rintro e w11 ⟨rfl, hb11⟩
            have hb := (unhide HB10).trans (hb11.mono (unhide HB10).size)
            have hps := putS_size v
            have hback := unhide HBK
            clear hb11
            go_wp2_with fail
            go_ret
            exact ⟨rfl, hb⟩
        · rw [putT_none t ht]
          have HB := HB6
          clear HB6
          go_wp2_with fail
          refine (DrawTakeNumber_calls a1 len1 cap1 z1 _ (row_below (unhide HI) (unhide HB)) hbig1).mono ?_
          rintro e w8 ⟨d, rfl, hd, hb8⟩
          have HB8 := hide ((unhide HB).trans (hb8.mono (unhide HB).size))
          clear hb8 HB
          go_wp2_with fail
          refine (spec_TakeNumber d _ (by omega)).mono ?_
          rintro e w9 ⟨rfl, kk, rfl⟩
          have HB9 := hide (below_drewN (unhide HB8) kk)
          clear HB8
          cases hr : tkN d 0 with
          | none =>
            have htv := takeV_none hr
            rw [htv]
            go_wp2_with fail
            refine (impl_TakeNumber d _ (by omega)).mono ?_
            rintro e w10 ⟨rfl, hb10⟩
            rw [htv]
            have hb := (unhide HB9).trans (hb10.mono (unhide HB9).size)
            clear hb10 htv hr
            go_wp2_with fail
            go_ret
            exact ⟨rfl, hb⟩
          | some vl =>
            obtain ⟨v, l⟩ := vl
            have htv := takeV_some hr
            obtain ⟨hv, hl, hback⟩ := take_back d v l hr
            rw [htv]
            have hrs : (d.extract l d.size).size ≤ 30000 := by rw [ByteArray.size_extract]; omega
            clear hr
            generalize d.extract l d.size = rr at htv hback hrs
            have HTV := hide htv
            clear htv
            go_wp2_with fail
            refine (impl_TakeNumber d _ (by omega)).mono ?_
            rintro e w10 ⟨rfl, hb10⟩
            rw [unhide HTV]
            have HB10 := hide ((unhide HB9).trans (hb10.mono (unhide HB9).size))
            clear hb10 HB9
            have HBK := hide hback
            clear hback
            go_wp2_with fail
            refine (impl_PutNumber v _).mono ?_
            rintro e w11 ⟨rfl, hb11⟩
            have hb := (unhide HB10).trans (hb11.mono (unhide HB10).size)
            have hps := putS_size v
            have hback := unhide HBK
            clear hb11
            go_wp2_with fail
            go_ret
            exact ⟨rfl, hb⟩
      · rw [putS_none n hn]
        have hem := emp_list
        by_cases ht : t.size ≤ 20000
        · have hne2 := putT_ne t ht
          have htx := text_put t ⟨#[]⟩ ht
          have hp6 : (⟨#[]⟩ : ByteArray).size = 0 := rfl
          have HTX := hide htx
          clear htx
          go_wp2_with fail
          refine (impl_TakeText _ _ ?hq).mono ?_
          case hq => rw [ByteArray.size_append]; omega
          rintro e w7 ⟨rfl, hb7⟩
          rw [unhide HTX]
          have HB := hide ((unhide HB6).trans (hb7.mono (unhide HB6).size))
          clear hb7 HB6
          go_wp2_with fail
          refine (DrawTakeNumber_calls a1 len1 cap1 z1 _ (row_below (unhide HI) (unhide HB)) hbig1).mono ?_
          rintro e w8 ⟨d, rfl, hd, hb8⟩
          have HB8 := hide ((unhide HB).trans (hb8.mono (unhide HB).size))
          clear hb8 HB
          go_wp2_with fail
          refine (spec_TakeNumber d _ (by omega)).mono ?_
          rintro e w9 ⟨rfl, kk, rfl⟩
          have HB9 := hide (below_drewN (unhide HB8) kk)
          clear HB8
          cases hr : tkN d 0 with
          | none =>
            have htv := takeV_none hr
            rw [htv]
            go_wp2_with fail
            refine (impl_TakeNumber d _ (by omega)).mono ?_
            rintro e w10 ⟨rfl, hb10⟩
            rw [htv]
            have hb := (unhide HB9).trans (hb10.mono (unhide HB9).size)
            clear hb10 htv hr
            go_wp2_with fail
            go_ret
            exact ⟨rfl, hb⟩
          | some vl =>
            obtain ⟨v, l⟩ := vl
            have htv := takeV_some hr
            obtain ⟨hv, hl, hback⟩ := take_back d v l hr
            rw [htv]
            have hrs : (d.extract l d.size).size ≤ 30000 := by rw [ByteArray.size_extract]; omega
            clear hr
            generalize d.extract l d.size = rr at htv hback hrs
            have HTV := hide htv
            clear htv
            go_wp2_with fail
            refine (impl_TakeNumber d _ (by omega)).mono ?_
            rintro e w10 ⟨rfl, hb10⟩
            rw [unhide HTV]
            have HB10 := hide ((unhide HB9).trans (hb10.mono (unhide HB9).size))
            clear hb10 HB9
            have HBK := hide hback
            clear hback
            go_wp2_with fail
            refine (impl_PutNumber v _).mono ?_
            rintro e w11 ⟨rfl, hb11⟩
            have hb := (unhide HB10).trans (hb11.mono (unhide HB10).size)
            have hps := putS_size v
            have hback := unhide HBK
            clear hb11
            go_wp2_with fail
            go_ret
            exact ⟨rfl, hb⟩
        · rw [putT_none t ht]
          have HB := HB6
          clear HB6
          go_wp2_with fail
          refine (DrawTakeNumber_calls a1 len1 cap1 z1 _ (row_below (unhide HI) (unhide HB)) hbig1).mono ?_
          rintro e w8 ⟨d, rfl, hd, hb8⟩
          have HB8 := hide ((unhide HB).trans (hb8.mono (unhide HB).size))
          clear hb8 HB
          go_wp2_with fail
          refine (spec_TakeNumber d _ (by omega)).mono ?_
          rintro e w9 ⟨rfl, kk, rfl⟩
          have HB9 := hide (below_drewN (unhide HB8) kk)
          clear HB8
          cases hr : tkN d 0 with
          | none =>
            have htv := takeV_none hr
            rw [htv]
            go_wp2_with fail
            refine (impl_TakeNumber d _ (by omega)).mono ?_
            rintro e w10 ⟨rfl, hb10⟩
            rw [htv]
            have hb := (unhide HB9).trans (hb10.mono (unhide HB9).size)
            clear hb10 htv hr
            go_wp2_with fail
            go_ret
            exact ⟨rfl, hb⟩
          | some vl =>
            obtain ⟨v, l⟩ := vl
            have htv := takeV_some hr
            obtain ⟨hv, hl, hback⟩ := take_back d v l hr
            rw [htv]
            have hrs : (d.extract l d.size).size ≤ 30000 := by rw [ByteArray.size_extract]; omega
            clear hr
            generalize d.extract l d.size = rr at htv hback hrs
            have HTV := hide htv
            clear htv
            go_wp2_with fail
            refine (impl_TakeNumber d _ (by omega)).mono ?_
            rintro e w10 ⟨rfl, hb10⟩
            rw [unhide HTV]
            have HB10 := hide ((unhide HB9).trans (hb10.mono (unhide HB9).size))
            clear hb10 HB9
            have HBK := hide hback
            clear hback
            go_wp2_with fail
            refine (impl_PutNumber v _).mono ?_
            rintro e w11 ⟨rfl, hb11⟩
            have hb := (unhide HB10).trans (hb11.mono (unhide HB10).size)
            have hps := putS_size v
            have hback := unhide HBK
            clear hb11
            go_wp2_with fail
            go_ret
            exact ⟨rfl, hb⟩
    · have hd1 : decide (1048576 < (len1 : Int)) = true := by simp; omega
      go_enter Try.func6, Try.ntmps6
      go_wp2_with fail
      refine (big_calls a0 len0 cap0 _ hlen).mono ?_
      rintro e w1 ⟨rfl, rfl⟩
      rw [hd]
      go_wp2_with fail
      refine (big_calls a1 len1 cap1 _ hlen1).mono ?_
      rintro e w1 ⟨rfl, rfl⟩
      rw [hd1]
      go_wp2
      go_ret
      exact ⟨rfl, Below.refl _ _⟩
  · have hd : decide (1048576 < (len0 : Int)) = true := by simp; omega
    go_enter Try.func6, Try.ntmps6
    go_wp2_with fail
    refine (big_calls a0 len0 cap0 _ hlen).mono ?_
    rintro e w1 ⟨rfl, rfl⟩
    rw [hd]
    go_wp2
    go_ret
    exact ⟨rfl, Below.refl _ _⟩

set_option maxRecDepth 100000 in
theorem lifted (os : Os) (started : os.Started) (H : Type) (enc : TypeId × Value → H) :
    ReturnsInHanded {} Try.checked os 6 .any (Rows.fnNumbersSpec.pre6 enc Try.prog Try.f6 Rows.fnNumbersRow.domain false) (Rows.fnNumbersSpec.post enc Try.prog Try.f6 false true false false) := by
  refine returnsInHanded_of_change (C := Try.checked) own started (by kernel_rfl) Try.func6
    (ChangeSpec.witness6 (enc := enc) (C := Try.checked) false ⟨#[], #[.slice none 0 0, .slice none 0 0], []⟩ 8 (by kernel_rfl) (by kernel_rfl) (by kernel_rfl) (by kernel_rfl)) ?_
  intro W base args ds gs before hval0 hW hcnd _
  have hval : ∀ (j : Nat) t v, Try.f6.params[j]? = some t → args[j]? = some v → Value.okWide Try.prog W .any base t v := hval0
  have hW' := hW
  obtain ⟨p, q, hA0, hV, rfl, hfz, hnd⟩ := hW
  have hA : DataW.TrodAll enc Try.prog W 0 (fun _ => true) true Try.f6.params.toList args.toList ds p := hA0
  rw [Try.params6] at hA hval
  obtain ⟨v0, vs0, d0, ds0, p0, q0, hargs, rfl, rfl, h0, r0⟩ := trodAll_cons hA
  obtain ⟨v1, vs1, d1, ds1, p1, q1, rfl, rfl, rfl, h1, r1⟩ := trodAll_cons r0
  obtain ⟨rfl, rfl, rfl⟩ := trodAll_nil r1
  obtain rfl : args = #[v0, v1] := by cases args; simp_all
  obtain ⟨rfl, rfl⟩ := trodVars_none hV
  have k0 := h0
  have lt0 : ∀ x ∈ p0, x.block < W.heap.size := by obtain ⟨m, hm⟩ := k0; exact DataW.trod_lt m _ _ _ hm
  obtain ⟨a0, len0, cap0, rfl⟩ := okWide_slice Try.underlying22 (hval 0 22 v0 rfl rfl)
  obtain ⟨z0, w0⟩ : ∃ zs, IsRow .u8 W a0 len0 cap0 zs := by
    obtain ⟨fuel, hf⟩ := h0
    rcases open_ints Try.underlying22 Try.underlying5 (by kernel_rfl) hf with ⟨hcs, _⟩ | ⟨x, l, c, zs, hcs, _, hl, hm, hz, _, hcell, hwz⟩
    · simp [Value.cells] at hcs
      obtain ⟨rfl, rfl, rfl⟩ := hcs
      exact ⟨[], .inl ⟨rfl, rfl, rfl, rfl⟩⟩
    · simp [Value.cells] at hcs
      obtain ⟨rfl, rfl, rfl⟩ := hcs
      exact ⟨zs, .inr ⟨_, rfl, hl, hm, by simpa using hz, hcell, hwz⟩⟩
  have k1 := h1
  have lt1 : ∀ x ∈ p1, x.block < W.heap.size := by obtain ⟨m, hm⟩ := k1; exact DataW.trod_lt m _ _ _ hm
  obtain ⟨a1, len1, cap1, rfl⟩ := okWide_slice Try.underlying22 (hval 1 22 v1 rfl rfl)
  obtain ⟨z1, w1⟩ : ∃ zs, IsRow .u8 W a1 len1 cap1 zs := by
    obtain ⟨fuel, hf⟩ := h1
    rcases open_ints Try.underlying22 Try.underlying5 (by kernel_rfl) hf with ⟨hcs, _⟩ | ⟨x, l, c, zs, hcs, _, hl, hm, hz, _, hcell, hwz⟩
    · simp [Value.cells] at hcs
      obtain ⟨rfl, rfl, rfl⟩ := hcs
      exact ⟨[], .inl ⟨rfl, rfl, rfl, rfl⟩⟩
    · simp [Value.cells] at hcs
      obtain ⟨rfl, rfl, rfl⟩ := hcs
      exact ⟨zs, .inr ⟨_, rfl, hl, hm, by simpa using hz, hcell, hwz⟩⟩
  clear hA0 hval0
  refine (walk a0 len0 cap0 z0 a1 len1 cap1 z1 W w0 w1).mono fun e W' ⟨he, bel⟩ => ?_
  subst he
  exact ⟨_, rfl, _, _, _, [], _, [], hW', trodAll_mk1 (shut_bool Try.underlying4 _), (trodAll_cons_mk (Below.trod laidOut (by kernel_rfl) (of_decide_eq_true (by kernel_rfl)) k0 bel lt0) (trodAll_cons_mk (Below.trod laidOut (by kernel_rfl) (of_decide_eq_true (by kernel_rfl)) k1 bel lt1) trodAll_mk0)), rfl, bel.frame _, fun h => by cases h⟩

theorem over : Rows.fnNumbersRow.holds Try.pinned (OpenSpec.ofChange Rows.fnNumbersSpec) :=
  OpenClaim.holds_of_wide 6 Try.f6 rfl rfl rfl rfl rfl rfl rfl ⟨rfl, rfl, rfl, rfl, rfl⟩ rfl rfl rfl rfl rfl (by kernel_rfl) Try.func6 (by kernel_rfl)
    (of_decide_eq_true (by kernel_rfl)) (by unfold Func.isWrapper; first | (rw [if_pos (by decide +kernel)]; kernel_rfl) | (rw [if_neg (by decide +kernel)]; exact ⟨rfl, rfl⟩))
    (fun os started H enc _ => lifted os started H enc)

end Go.Proofs.Ytlkkhhelonbcbaa.fnNumbers
namespace Go.Proofs.Ytlkkhhelonbcbaa
theorem fnNumbers_holds : Rows.FnNumbersSaid := fnNumbers.over
#print axioms fnNumbers_holds
end Go.Proofs.Ytlkkhhelonbcbaa
