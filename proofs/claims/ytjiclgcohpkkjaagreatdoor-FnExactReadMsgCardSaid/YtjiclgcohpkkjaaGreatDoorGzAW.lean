/- Texts of one kind, put together. -/
import Derived.Test.YtjiclgcohpkkjaaGreatDoorGzAQ
import Derived.Test.YtjiclgcohpkkjaaGreatDoorGzAR
import Derived.Test.YtjiclgcohpkkjaaGreatDoorGzAS
import Derived.Test.YtjiclgcohpkkjaaGreatDoorRdcJ
import Derived.Test.YtjiclgcohpkkjaaGreatDoorGzAH

/- The texts of messages, by the program. -/
namespace Go.Proofs.YtjiclgcohpkkjaaGreatDoor
open Go.RowKit Plain
set_option linter.unusedVariables false

theorem Plain.strAddM {a b : ByteArray} (W : World) (h : a.size + b.size ≤ 1000000000000) : (Op.stringOp .add a b).run Tryz.prog W = .ok (.string (a ++ b)) W := by
  have h1 : ¬ ((a.size + b.size : Nat) : Int) > IntKind.i64.max := by rw [show IntKind.i64.max = 9223372036854775807 from rfl]; omega
  unfold Op.stringOp
  simp only [if_neg h1]
  rfl
theorem Plain.entT_size (t k : Int) (b : ByteArray) : (entT t k b).size ≤ 1000000000000 := by
  unfold entT
  split
  · rename_i h
    have hs := entB_sizes h
    unfold frameB
    split
    · rw [ByteArray.size_append, seal_size, four_size]; omega
    · decide
  · decide

set_option maxRecDepth 10000 in
set_option maxHeartbeats 1000000 in
theorem msgText1_calls (t k : Int) (b : ByteArray) (w : World) (hb : b.size ≤ 1000000000000) :
    Calls Tryz.prog 43 #[.agg #[.int .i64 t, .int .i64 k, .string b]] w fun e w' => e = .returned (.string (putT (entT t k b))) ∧ Below w.heap.size w w' := by
  have HB := hide (bel1 w (.cells #[.int .i64 t, .int .i64 k, .string b] 51))
  have HR := hide (impl_EntryText t k b (w.alloc (.cells #[.int .i64 t, .int .i64 k, .string b] 51)) hb)
  have HP := hide (fun W => impl_PutText (entT t k b) W (entT_size t k b))
  generalize putT (entT t k b) = P at HP
  generalize entT t k b = T at HR HP
  go_enter Tryz.func43, Tryz.ntmps43
  go_wp2_with fail
  refine (unhide HR).mono ?_
  rintro e w1 ⟨rfl, hb1⟩
  have HB1 := hide (belOn (unhide HB) hb1)
  clear hb1
  go_wp2_with fail
  refine (unhide HP _).mono ?_
  rintro e w2 ⟨rfl, hb2⟩
  have HB2 := hide (belOn (unhide HB1) hb2)
  clear hb2
  go_wp2_with fail
  go_ret
  exact ⟨rfl, unhide HB2⟩

set_option maxRecDepth 10000 in
set_option maxHeartbeats 2000000 in
theorem rowsText_calls (a : Option Addr) (n c : Nat) (es : List Ent) (w : World) (hn : es.length = n) (hn2 : n ≤ 8) (hsm : smallE es) (h : RowAt entE w a es) :
    Calls Tryz.prog 42 #[.slice a n c, .func (.func 43) #[] #[]] w fun e w' => e = .returned (.string (strL (rowsL es))) ∧ Below w.heap.size w w' := by
  obtain ⟨W0, hW0⟩ : ∃ W0, W0 = w.alloc (.cells #[.pointer none, .slice none 0 0] 78) := ⟨_, rfl⟩
  have hb0 : Below w.heap.size w W0 := by rw [hW0]; exact bel1 _ _
  have HF := hide (show Lib.IsBuilder 78 5 w.heap.size w.heap.size [] W0 from by rw [hW0]; exact Lib.fresh_isBuilder _ _ w)
  have HB0 := hide hb0
  have HD := hide (fun (W : World) (hW : Below w.heap.size w W) => h.below hW)
  have HW0 := hide hW0.symm
  have HN := hide hn
  have HSM := hide hsm
  have HPN := hide (fun W => impl_PutNumber (n : Int) W)
  have HPL := hide (show Lib.strCells (putS (n : Int)) = Lib.byteCells (pnL (n : Int)) from rfl)
  have hps : (putS (n : Int)).size ≤ 6 := putS_size _
  have HPL2 := hide (show (pnL (n : Int)).length ≤ 6 from pnL_len _)
  have HFI := hide (show strL (pnL (n : Int) ++ catE es) = strL (rowsL es) from by unfold rowsL; rw [hn])
  generalize putS (n : Int) = P at HPN hps HPL
  generalize pnL (n : Int) = L at HPL HPL2 HFI
  generalize strL (rowsL es) = FIN at HFI
  clear h hb0 hW0 hn hsm
  go_enter Tryz.func42, Tryz.ntmps42
  go_wp2_with fail
  rw [unhide HW0]
  refine (unhide HPN W0).mono ?_
  rintro e w1 ⟨rfl, hb1⟩
  have hF1 := isB_keep (unhide HF) hb1
  have hB1 := (unhide HB0).trans (hb1.mono (unhide HB0).size)
  have HWS := hide (WriteString_calls w.heap.size w.heap.size _ P w1 hF1 (by simp; omega) hB1.size)
  have HB1 := hide hB1
  clear hb1 hF1 hB1 HF
  go_wp2_with fail
  refine (unhide HWS).mono ?_
  rintro e w2 ⟨rfl, hF2, hb2⟩
  have HF2 := hide (show Lib.IsBuilder 78 5 w.heap.size w.heap.size (Lib.byteCells (L ++ catE (es.take 0))) w2 from .inr (by rw [show L ++ catE (es.take 0) = L from by simp [catE], ← unhide HPL]; simpa using hF2))
  have HB2 := hide ((unhide HB1).trans hb2)
  clear hF2 hb2 HWS HB1 HPL
  go_wp2_with fail
  go_loopw [14] (fun i wr => ∃ k : Nat, i = .int .i64 k ∧ k ≤ n ∧ Hid (Lib.IsBuilder 78 5 w.heap.size w.heap.size (Lib.byteCells (L ++ catE (es.take k))) wr) ∧ Hid (Below w.heap.size w wr)) (fun i _ => n - (intOf i).toNat)
  case atStart => exact ⟨0, rfl, by omega, HF2, HB2⟩
  case round =>
    clear HF2 HB2
    obtain ⟨k, rfl, hk, HF, HB⟩ := hrel
    by_cases hkn : k < n
    · have hkl : k < es.length := by rw [unhide HN]; exact hkn
      obtain ⟨g, e1, l1, p0, p1, p2⟩ := (unhide HD _ (unhide HB)).ex k hkl
      have hst := catE_take es k hkl
      have hsz := unhide HSM es[k] (by simp)
      have hl := catE_len (es.take k)
      have hl2 : (es.take k).length ≤ 8 := by rw [List.length_take]; omega
      generalize es[k] = x at p0 p1 p2 hst hsz
      obtain ⟨tm, kd, bd⟩ := x
      simp only at p0 p1 p2 hsz
      unfold entPL at hst
      simp only at hst
      have hpt := putT_le2 (entT tm kd bd)
      have hpe : (putT (entT tm kd bd)).data.toList = txtL (entT tm kd bd) := rfl
      have HCL := hide (fun W => msgText1_calls tm kd bd W hsz)
      have hz := (unhide HB).size
      have HPL := hide (unhide HPL2)
      subst e1
      have i0 : (0 : Int) ≤ (k : Int) := by omega
      have i1 : (k : Int) < (n : Int) := by omega
      have HST := hide (show Lib.byteCells (L ++ catE (es.take k)) ++ Lib.strCells (putT (entT tm kd bd)) = Lib.byteCells (L ++ catE (es.take (k + 1))) from by rw [hst, Lib.strCells_eq, hpe]; simp only [Lib.byteCells_append, List.append_assoc])
      have HWS := hide (fun (W : World) (hW : Below wr.heap.size wr W) => WriteString_calls w.heap.size w.heap.size _ (putT (entT tm kd bd)) W (isB_keep (unhide HF) hW) (by rw [Lib.byteCells_length, List.length_append]; have := unhide HPL; omega) (Nat.le_trans hz hW.size))
      rw [unhide HST] at HWS
      generalize putT (entT tm kd bd) = tx at HWS HCL
      clear hst hpe hpt HST hsz hl hl2 HPL HPL2
      go_wp2_with (first
        | (go_at_call 43; refine (unhide HCL _).mono ?_; rintro e w1 ⟨rfl, hb1⟩)
        | (go_at_call 38; refine (unhide HWS _ (belOn (bel1 _ _) hb1)).mono ?_; rintro e w2 ⟨rfl, hF2, hb2⟩))
      have HF2 := hide (show Lib.IsBuilder 78 5 w.heap.size w.heap.size (Lib.byteCells (L ++ catE (es.take (k + 1)))) w2 from .inr hF2)
      have HB2 := hide (((unhide HB).trans ((belOn (bel1 _ _) hb1).mono hz)).trans hb2)
      clear hF2 hb2 hb1
      go_roundw
      case rel => exact ⟨k + 1, by go_num, by omega, HF2, HB2⟩
      case measure => simp [intOf]; omega
    · obtain rfl : k = n := by omega
      have hz := (unhide HB).size
      have HS := hide (BString_calls w.heap.size w.heap.size _ wr (unhide HF) hz)
      rw [List.take_of_length_le (by rw [unhide HN]; exact Nat.le_refl _)] at HS
      rw [show (⟨(L ++ catE es).toArray⟩ : ByteArray) = strL (L ++ catE es) from rfl, unhide HFI] at HS
      clear HF
      go_wp2_with fail
      refine (unhide HS).mono ?_
      rintro e w2 ⟨rfl, hb2⟩
      have HB2 := hide ((unhide HB).trans hb2)
      clear hb2
      go_wp2_with fail
      go_ret
      exact ⟨rfl, unhide HB2⟩

set_option maxRecDepth 10000 in
set_option maxHeartbeats 4000000 in
theorem impl_MsgText (kd fr tt tm ix lg cm : Int) (ok : Bool) (tx : ByteArray) (ae : Option Addr) (ne ce : Nat) (es : List Ent) (av : Option Addr) (nv cv : Nat) (v : List Int) (al : Option Addr) (nl cl : Nat) (l : List Int) (w : World) (htx : tx.size ≤ 1000000000) (hn : es.length = ne) (hn2 : ne ≤ 1048576) (hsm : smallE es) (h : RowAt entE w ae es) (hc : ConfAt w av nv v al nl l) :
    Calls Tryz.prog 12 #[.agg #[.int .i64 kd, .int .i64 fr, .int .i64 tt, .int .i64 tm, .int .i64 ix, .int .i64 lg, .slice ae ne ce, .int .i64 cm, .bool ok, .string tx, .slice av nv cv, .slice al nl cl]] w fun e w' => e = .returned (.string (strL (msgL (numsM kd fr tt tm ix lg cm ok) tx es v l))) ∧ Below w.heap.size w w' := by
  obtain ⟨W0, hW0⟩ : ∃ W0, W0 = w.alloc (.cells #[.int .i64 kd, .int .i64 fr, .int .i64 tt, .int .i64 tm, .int .i64 ix, .int .i64 lg, .slice ae ne ce, .int .i64 cm, .bool ok, .string tx, .slice av nv cv, .slice al nl cl] 27) := ⟨_, rfl⟩
  have hb0 : Below w.heap.size w W0 := by rw [hW0]; exact bel1 _ _
  have B0 : Blk W0 w.heap.size [.int .i64 kd, .int .i64 fr, .int .i64 tt, .int .i64 tm, .int .i64 ix, .int .i64 lg, .slice ae ne ce, .int .i64 cm, .bool ok, .string tx, .slice av nv cv, .slice al nl cl] := by rw [hW0]; exact Blk.new w _ _
  have HFIN := hide (fun (W : World) (hW : Below W0.heap.size W0 W) => belOn hb0 hW)
  have HMO := hide (msgOk_calls kd fr tt tm ix lg cm ok tx ae ne ce es av nv cv al nl cl W0 htx hn hn2 hsm (h.below hb0))
  have HNO := hide (fun (W : World) => numbersOf_calls kd fr tt tm ix lg cm ok tx ae ne ce av nv cv al nl cl W)
  have HCT := hide (fun (W : World) (hW : Below W0.heap.size W0 W) => impl_ConfText av nv cv v al nl cl l W (hc.below (belOn hb0 hW)))
  have HRW := hide (fun (W : World) (hW : Below W0.heap.size W0 W) => h.below (belOn hb0 hW))
  have HB := hide (fun (W : World) (hW : Below W0.heap.size W0 W) => B0.call hW)
  have HPT := hide (fun (W : World) => impl_PutText tx W (by omega))
  have HPC := hide (fun (W : World) => impl_PutText (strL (confL v l)) W (by rw [strL_size]; exact confL_le v l))
  have HW0 := hide hW0.symm
  have hl8 : (numsM kd fr tt tm ix lg cm ok).length = 8 := rfl
  generalize numsM kd fr tt tm ix lg cm ok = ns at HMO HNO hl8
  have HL8 := hide hl8
  have s1 := putT_le2 tx
  have s2 := putT_le2 (strL (confL v l))
  unfold msgL
  cases hm : msgB ns tx es with
  | false =>
    rw [hm] at HMO
    rw [if_neg (by simp)]
    clear hb0 hW0 B0 h hc hn hsm hl8 hm
    go_enter Tryz.func12, Tryz.ntmps12
    go_wp2_with fail
    rw [unhide HW0]
    refine (unhide HMO).mono ?_
    rintro e w1 ⟨rfl, hb1⟩
    have HB1 := hide (unhide HFIN _ hb1)
    clear hb1
    go_wp2_with fail
    go_ret
    exact ⟨rfl, unhide HB1⟩
  | true =>
    rw [hm] at HMO
    rw [if_pos rfl]
    have hne8 : ne ≤ 8 := by unfold msgB at hm; simp at hm; omega
    have HRT := hide (fun (W : World) (hW : Below W0.heap.size W0 W) => rowsText_calls ae ne ce es W hn hne8 hsm (unhide HRW W hW))
    have hrl : (rowsL es).length ≤ 900000 := by
      unfold rowsL
      rw [List.length_append]
      have := pnL_len (es.length : Int)
      have := catE_len es
      omega
    have HRL := hide hrl
    obtain ⟨FIN, hFIN⟩ : ∃ F, strL (catN ns ++ (txtL tx ++ txtL (strL (confL v l))) ++ rowsL es) = F := ⟨_, rfl⟩
    rw [hFIN]
    have hq1 : (putT tx).data.toList = txtL tx := rfl
    have hq2 : (putT (strL (confL v l))).data.toList = txtL (strL (confL v l)) := rfl
    obtain ⟨T1, hT1⟩ : ∃ T, putT tx = T := ⟨_, rfl⟩
    obtain ⟨T2, hT2⟩ : ∃ T, putT (strL (confL v l)) = T := ⟨_, rfl⟩
    rw [hT1] at HPT s1 hq1
    rw [hT2] at HPC s2 hq2
    rw [← hq1, ← hq2] at hFIN
    generalize strL (confL v l) = CT at HCT HPC
    have hadd := fun W => strAddM (a := T1) (b := T2) W (by omega)
    have HT12 := hide (show (T1 ++ T2).size ≤ 200000 from by rw [ByteArray.size_append]; omega)
    have HCE := hide (show Lib.strCells (T1 ++ T2) = Lib.byteCells (T1.data.toList ++ T2.data.toList) from by rw [Lib.strCells_eq]; simp)
    have HFN := hide hFIN
    generalize T1 ++ T2 = T12 at hadd HT12 HCE
    clear hb0 hW0 B0 h hc hn hsm hl8 hm hT1 hT2 hq1 hq2 hFIN s1 s2 HRW hrl
    go_enter Tryz.func12, Tryz.ntmps12
    go_wp2_with fail
    rw [unhide HW0]
    refine (unhide HMO).mono ?_
    rintro e w1 ⟨rfl, hb1⟩
    have HB1 := hide hb1
    have Q1 := (unhide HB) _ hb1
    obtain ⟨W2, hW2⟩ : ∃ W2, W2 = w1.alloc (.cells #[.pointer none, .slice none 0 0] 78) := ⟨_, rfl⟩
    have hb2 : Below w1.heap.size w1 W2 := by rw [hW2]; exact bel1 _ _
    have HF2 := hide (show Lib.IsBuilder 78 5 w1.heap.size w1.heap.size [] W2 from by rw [hW2]; exact Lib.fresh_isBuilder _ _ w1)
    have Q2 := Q1.call hb2
    have hz2 : W2.heap.size = w1.heap.size + 1 := by rw [hW2]; simp
    have HZ2 := hide hz2
    have hlt : w.heap.size < w1.heap.size := Q1.lt
    have HB2 := hide (belOn hb1 hb2)
    have HBW := hide hb2
    have HQ2 := hide Q2
    have c0 := Q2.c 0 (by simp)
    have c1 := Q2.c 1 (by simp)
    have c2 := Q2.c 2 (by simp)
    have c3 := Q2.c 3 (by simp)
    have c4 := Q2.c 4 (by simp)
    have c5 := Q2.c 5 (by simp)
    have c6 := Q2.c 6 (by simp)
    have c7 := Q2.c 7 (by simp)
    have c8 := Q2.c 8 (by simp)
    have c9 := Q2.c 9 (by simp)
    have c10 := Q2.c 10 (by simp)
    have c11 := Q2.c 11 (by simp)
    simp only [List.getElem_cons_zero, List.getElem_cons_succ] at c0 c1 c2 c3 c4 c5 c6 c7 c8 c9 c10 c11
    rw [hW2] at c0 c1 c2 c3 c4 c5 c6 c7 c8 c9 c10 c11
    have HW2 := hide hW2.symm
    clear hb1 Q1 hb2 Q2 hW2 hz2
    go_wp2_with fail
    rw [unhide HW2]
    refine (unhide HNO W2).mono ?_
    rintro e w3 ⟨g, rfl, hg, hN3, hb3⟩
    have HN3 := hide hN3
    have HG := hide (show g ≠ w1.heap.size from by have := unhide HZ2; omega)
    have HB3 := hide ((unhide HBW).trans (hb3.mono (unhide HBW).size))
    have HF3 := hide (isB_keep (unhide HF2) hb3)
    have HE3 := hide (show Lib.IsBuilder 78 5 w1.heap.size w1.heap.size (Lib.byteCells (catN (ns.take 0))) w3 from by simpa [catN, Lib.byteCells] using isB_keep (unhide HF2) hb3)
    clear hb3 hN3 hg c0 c1 c2 c3 c4 c5 c6 c7 c8 c9 c10 c11 HF2 HF3
    go_wp2_with fail
    go_loopw [12] (fun i wr => ∃ k : Nat, i = .int .i64 k ∧ k ≤ 8 ∧ Hid (NumsAt wr g ns) ∧ Hid (Lib.IsBuilder 78 5 w1.heap.size w1.heap.size (Lib.byteCells (catN (ns.take k))) wr) ∧ Hid (Below w1.heap.size w1 wr)) (fun i _ => 8 - (intOf i).toNat)
    case atStart => exact ⟨0, rfl, by omega, HN3, HE3, HB3⟩
    case round =>
      clear HN3 HE3 HB3
      obtain ⟨k, rfl, hk, HN, HF, HBR⟩ := hrel
      by_cases hk8 : k < 8
      · have hkl : k < ns.length := by rw [unhide HL8]; exact hk8
        have p0 := (unhide HN).cell k hkl
        have hst := catN_take ns k hkl
        have hl := catN_len (ns.take k)
        have hl2 : (ns.take k).length ≤ 8 := by rw [List.length_take]; omega
        generalize ns[k] = x at p0 hst
        have HPN := hide (fun W => impl_PutNumber x W)
        have hps : (putS x).size ≤ 6 := putS_size x
        have hpe : (putS x).data.toList = pnL x := rfl
        have hz := (unhide HBR).size
        have HST := hide (show Lib.byteCells (catN (ns.take k)) ++ Lib.strCells (putS x) = Lib.byteCells (catN (ns.take (k + 1))) from by rw [hst, Lib.strCells_eq, hpe]; simp only [Lib.byteCells_append])
        have HWS := hide (fun (W : World) (hW : Below wr.heap.size wr W) => WriteStringK_calls w1.heap.size w1.heap.size _ (putS x) W (isB_keep (unhide HF) hW) (by rw [Lib.byteCells_length]; omega) (Nat.le_trans hz hW.size))
        rw [unhide HST] at HWS
        generalize putS x = tn at HWS HPN
        clear hst hpe hps HST hl hl2 hkl
        have i0 : (0 : Int) ≤ (k : Int) := by omega
        have i1 : (k : Int) < (8 : Int) := by omega
        go_wp2_with (first
          | (go_at_call 39; refine (unhide HPN _).mono ?_; rintro e w4 ⟨rfl, hb4⟩)
          | (go_at_call 38; refine (unhide HWS _ hb4).mono ?_; rintro e w5 ⟨rfl, ⟨hF5, hb5⟩, hk5⟩))
        have HF5 := hide (show Lib.IsBuilder 78 5 w1.heap.size w1.heap.size (Lib.byteCells (catN (ns.take (k + 1)))) w5 from .inr hF5)
        have HN5 := hide (show NumsAt w5 g ns from hk5 g _ _ _ (unhide HG) (by decide) ((unhide HN).keep hb4))
        have HB5 := hide (((unhide HBR).trans (hb4.mono hz)).trans hb5)
        clear hF5 hb5 hb4 hk5
        go_roundw
        case rel => exact ⟨k + 1, by go_num, by omega, HN5, HF5, HB5⟩
        case measure => simp [intOf]; omega
      · obtain rfl : k = 8 := by omega
        have hF := unhide HF
        rw [List.take_of_length_le (by rw [unhide HL8]; exact Nat.le_refl _)] at hF
        have HF8 := hide hF
        have hln := catN_len ns
        rw [unhide HL8] at hln
        have HLN := hide hln
        have hz := (unhide HBR).size
        have HZ := hide hz
        have HBK := hide (fun (W : World) (hW : Below w1.heap.size w1 W) => (unhide HQ2).lt)
        have HQW := hide (fun (W : World) (hW : Below w1.heap.size w1 W) => And.intro (bcl2 hW hlt ((unhide HB _ (unhide HB1)).c 6 (by simp))) (And.intro (bcl2 hW hlt ((unhide HB _ (unhide HB1)).c 9 (by simp))) (And.intro (bcl2 hW hlt ((unhide HB _ (unhide HB1)).c 10 (by simp))) (bcl2 hW hlt ((unhide HB _ (unhide HB1)).c 11 (by simp))))))
        obtain ⟨q6, q9, q10, q11⟩ := unhide HQW _ (unhide HBR)
        have G9 := fun (V : World) (hV : Below w1.heap.size w1 V) => (unhide HQW V hV).2.1
        have G10 := fun (V : World) (hV : Below w1.heap.size w1 V) => (unhide HQW V hV).2.2.1
        have G11 := fun (V : World) (hV : Below w1.heap.size w1 V) => (unhide HQW V hV).2.2.2
        have HW0B := hide (fun (V : World) (hV : Below w1.heap.size w1 V) => (unhide HB1).trans (hV.mono (unhide HB1).size))
        have HWS := hide (fun (W : World) (hW : Below wr.heap.size wr W) => WriteString_calls w1.heap.size w1.heap.size _ T12 W (isB_keep (unhide HF8) hW) (by rw [Lib.byteCells_length]; have := unhide HLN; have := unhide HT12; omega) (Nat.le_trans (unhide HZ) hW.size))
        rw [unhide HCE, ← Lib.byteCells_append] at HWS
        clear hF hln HF HN q6 q9 q10 q11 hz HQ2 HBK
        go_wp2_with fail
        go_region_held3 (fun w' => Below w1.heap.size w1 w') (first | exact BB4 | exact BB3 | exact BB2 | exact BB1 | exact belDrew2 (unhide HBR) | exact (by assumption)) (first
          | (go_at_call_of 40 tx; refine (unhide HPT _).mono ?_; rintro e x1 ⟨rfl, hx1⟩; have BB1 := (belDrew2 (unhide HBR)).trans (hx1.mono (unhide HZ)))
          | (go_at_call 41; refine (unhide HCT _ (unhide HW0B _ BB1)).mono ?_; rintro e x2 ⟨rfl, hx2⟩; have BB2 := BB1.trans (hx2.mono BB1.size))
          | (go_at_call_of 40 CT; refine (unhide HPC _).mono ?_; rintro e x3 ⟨rfl, hx3⟩; have BB3 := BB2.trans (hx3.mono BB2.size))
          | (go_at_call 38; refine (unhide HWS _ (belOn (belOn (bOfDrew hx1) hx2) hx3)).mono ?_; rintro e x4 ⟨rfl, hF4, hb4⟩; have BB4 := BB3.trans hb4))
        have q6 := (unhide HQW _ BB4).1
        simp only [List.getElem_cons_zero, List.getElem_cons_succ] at q6
        have HBB4 := hide BB4
        have HF4 := hide (show Lib.IsBuilder 78 5 w1.heap.size w1.heap.size (Lib.byteCells (catN ns ++ (T1.data.toList ++ T2.data.toList))) x4 from .inr hF4)
        have hlt4 : (T1.data.toList ++ T2.data.toList).length ≤ 200000 := by
          have h1 := congrArg List.length (unhide HCE)
          rw [Lib.strCells_length, Lib.byteCells_length] at h1
          have := unhide HT12
          omega
        have HL4 := hide hlt4
        have HRX := hide (unhide HRT _ (unhide HW0B _ BB4))
        have HWT := hide (fun (W : World) (hW : Below x4.heap.size x4 W) => WriteString_calls w1.heap.size w1.heap.size _ (strL (rowsL es)) W (isB_keep (unhide HF4) hW) (by rw [Lib.byteCells_length, List.length_append, strL_size]; have := unhide HLN; have := unhide HL4; have := unhide HRL; omega) (Nat.le_trans (unhide HBB4).size hW.size))
        rw [Lib.strCells_eq, show (strL (rowsL es)).data.toList = rowsL es from rfl, ← Lib.byteCells_append] at HWT
        generalize strL (rowsL es) = RT at HRX HWT
        clear BB1 BB2 BB3 BB4 hx1 hx2 hx3 hF4 hb4 hlt4 G9 G10 G11 HWS HRT
        go_wp2_with fail
        refine (unhide HRX).mono ?_
        rintro e x5 ⟨rfl, hx5⟩
        have HX5 := hide hx5
        clear hx5 q6
        go_wp2_with fail
        refine (unhide HWT _ (unhide HX5)).mono ?_
        rintro e x6 ⟨rfl, hF6, hb6⟩
        have HB6 := hide (((unhide HBB4).trans ((unhide HX5).mono (unhide HBB4).size)).trans hb6)
        have HS := hide (BString_calls w1.heap.size w1.heap.size _ x6 (.inr hF6) (unhide HB6).size)
        rw [show (⟨(catN ns ++ (T1.data.toList ++ T2.data.toList) ++ rowsL es).toArray⟩ : ByteArray) = strL (catN ns ++ (T1.data.toList ++ T2.data.toList) ++ rowsL es) from rfl, unhide HFN] at HS
        clear hF6 hb6
        go_wp2_with fail
        refine (unhide HS).mono ?_
        rintro e x7 ⟨rfl, hb7⟩
        have HB7 := hide ((unhide HB6).trans hb7)
        clear hb7
        go_wp2_with fail
        go_ret
        exact ⟨rfl, unhide HFIN _ (unhide HW0B _ (unhide HB7))⟩
end Go.Proofs.YtjiclgcohpkkjaaGreatDoor


/- ReadMsg of the program. -/
namespace Go.Proofs.YtjiclgcohpkkjaaGreatDoor
open Go.RowKit Plain
set_option linter.unusedVariables false

theorem rowReaderG_calls (s : ByteArray) (w : World) : Calls Tryz.prog 21 #[.string s] w fun e w' => e = .returned (.pointer (some ⟨w.heap.size, 0, none⟩)) ∧ w' = w.alloc (.cells #[.string s, .int .i64 0, .bool false] 112) := by
  go_enter Tryz.func21, Tryz.ntmps21
  go_wp2
  go_ret
  exact ⟨rfl, rfl⟩

set_option maxRecDepth 10000 in
theorem endedG_calls (R : Nat) (s : ByteArray) (p : Nat) (f : Bool) (w : World) (h : RS w R s p f) (hp : p ≤ s.size) (hs : s.size ≤ 1000000000000) :
    Calls Tryz.prog 27 #[.pointer (some ⟨R, 0, none⟩)] w fun e w' => e = .returned (.bool (!f && decide (p = s.size))) ∧ ∃ k, w' = w.drewN k := by
  have c2 := h.t2
  have HN := hide (rest_ok R 0 s p w h.t0 h.t1 hs hp)
  have HE := hide (rest_nil s p hp)
  clear h
  generalize s.extract p s.size = T at HN HE
  cases f with
  | true =>
    go_enter Tryz.func27, Tryz.ntmps27
    go_wp2_with fail
    go_ret
    exact ⟨rfl, 0, rfl⟩
  | false =>
    by_cases hT : T.toList = []
    · have hpe := (unhide HE).1 hT
      go_enter Tryz.func27, Tryz.ntmps27
      go_wp2_with fail
      refine (unhide HN).mono ?_
      rintro e w1 ⟨rfl, k, rfl⟩
      go_wp2_with fail
      go_ret
      exact ⟨by rw [decide_eq_true hpe]; rfl, k, rfl⟩
    · have hpe : ¬ p = s.size := fun e => hT ((unhide HE).2 e)
      have hT2 : T.toList.isEmpty = false := by simpa using hT
      go_enter Tryz.func27, Tryz.ntmps27
      go_wp2_with fail
      refine (unhide HN).mono ?_
      rintro e w1 ⟨rfl, k, rfl⟩
      go_wp2_with fail
      go_ret
      exact ⟨by rw [decide_eq_false hpe]; rfl, k, rfl⟩

namespace Plain
/-- The cells of a message. -/
def msgC (a0 a1 a2 a3 a4 a5 : Int) (ev : Value) (a6 : Int) (ok : Bool) (tx : ByteArray) (vv lv : Value) : List Value := [.int .i64 a0, .int .i64 a1, .int .i64 a2, .int .i64 a3, .int .i64 a4, .int .i64 a5, ev, .int .i64 a6, .bool ok, .string tx, vv, lv]
def zMsg : List Value := msgC 0 0 0 0 0 0 (.slice none 0 0) 0 false ⟨#[]⟩ (.slice none 0 0) (.slice none 0 0)
theorem Blk.cell {W : World} {b i : Nat} {vs : List Value} {v : Value} (h : Blk W b vs) (hi : vs[i]? = some v) : W.cell? ⟨b, i, none⟩ = some v := by
  obtain ⟨hl, he⟩ := List.getElem?_eq_some_iff.1 hi
  rw [← he]; exact h.c i hl
theorem Blk.frz {W : World} {b i : Nat} {vs : List Value} (h : Blk W b vs) (hi : i < vs.length) : W.frozen? ⟨b, i, none⟩ = false := h.f i hi
theorem Blk.tch {W W' : World} {R b : Nat} {qs : List (Nat × Nat)} {vs : List Value} (h : Blk W b vs) (ht : Tch R qs W W') (hR : b ≠ R) (hq : ∀ q ∈ qs, q.1 ≠ b) : Blk W' b vs :=
  ⟨Nat.lt_of_lt_of_le h.lt ht.size, fun i hi => (ht.cell b i h.lt hR (fun e => hq _ e rfl)).trans (h.c i hi), fun i hi => (ht.frozen ⟨b, i, none⟩ h.lt).trans (h.f i hi)⟩
/-- A message's block behind numbers that were read. -/
theorem msg_numbers {W W' : World} {R M O : Nat} {vs : List Int} {ev lv vv : Value} {tx : ByteArray} {ok : Bool} {b0 b1 b2 b3 b4 b5 b6 : Int} (h : Blk W M (msgC b0 b1 b2 b3 b4 b5 ev b6 ok tx vv lv)) (hM : M ≠ R) (hO : O ≠ M)
    (ht : Tch R [(M, 0), (M, 1), (M, 2), (M, 3), (M, 4), (M, 5), (M, 7), (O, 0)] W W') (hg : TgtAt (fun v : Int => Value.int .i64 v) W' [(M, 0), (M, 1), (M, 2), (M, 3), (M, 4), (M, 5), (M, 7), (O, 0)] vs) :
    ∃ a0 a1 a2 a3 a4 a5 a6 a7, vs = [a0, a1, a2, a3, a4, a5, a6, a7] ∧ Blk W' M (msgC a0 a1 a2 a3 a4 a5 ev a6 ok tx vv lv) ∧ W'.cell? ⟨O, 0, none⟩ = some (.int .i64 a7) := by
  obtain ⟨hl, hg⟩ := hg
  match vs, hl with
  | [a0, a1, a2, a3, a4, a5, a6, a7], _ =>
    have k := fun (j : Nat) (hj : j < 8) => (hg j hj hj).1
    have hn : ∀ i, i = 6 ∨ 8 ≤ i → (M, i) ∉ [(M, 0), (M, 1), (M, 2), (M, 3), (M, 4), (M, 5), (M, 7), (O, 0)] := fun i hi => by simp; omega
    refine ⟨a0, a1, a2, a3, a4, a5, a6, a7, rfl, ⟨Nat.lt_of_lt_of_le h.lt ht.size, fun i hi => ?_, fun i hi => (ht.frozen ⟨M, i, none⟩ h.lt).trans (h.f i hi)⟩, k 7 (by omega)⟩
    match i, hi with
    | 0, _ => exact k 0 (by omega)
    | 1, _ => exact k 1 (by omega)
    | 2, _ => exact k 2 (by omega)
    | 3, _ => exact k 3 (by omega)
    | 4, _ => exact k 4 (by omega)
    | 5, _ => exact k 5 (by omega)
    | 6, hi => exact (ht.cell M 6 h.lt hM (hn 6 (by omega))).trans (h.c 6 hi)
    | 7, _ => exact k 6 (by omega)
    | 8, hi => exact (ht.cell M 8 h.lt hM (hn 8 (by omega))).trans (h.c 8 hi)
    | 9, hi => exact (ht.cell M 9 h.lt hM (hn 9 (by omega))).trans (h.c 9 hi)
    | 10, hi => exact (ht.cell M 10 h.lt hM (hn 10 (by omega))).trans (h.c 10 hi)
    | 11, hi => exact (ht.cell M 11 h.lt hM (hn 11 (by omega))).trans (h.c 11 hi)
/-- And behind texts. -/
theorem msg_texts {W W' : World} {R M T : Nat} {vs : List ByteArray} {ev lv vv : Value} {tx : ByteArray} {ok : Bool} {b0 b1 b2 b3 b4 b5 b6 : Int} (h : Blk W M (msgC b0 b1 b2 b3 b4 b5 ev b6 ok tx vv lv)) (hM : M ≠ R) (hT : T ≠ M)
    (ht : Tch R [(M, 9), (T, 0)] W W') (hg : TgtAt (fun v : ByteArray => Value.string v) W' [(M, 9), (T, 0)] vs) :
    ∃ x y, vs = [x, y] ∧ Blk W' M (msgC b0 b1 b2 b3 b4 b5 ev b6 ok x vv lv) ∧ W'.cell? ⟨T, 0, none⟩ = some (.string y) := by
  obtain ⟨hl, hg⟩ := hg
  match vs, hl with
  | [x, y], _ =>
    have k := fun (j : Nat) (hj : j < 2) => (hg j hj hj).1
    have hn : ∀ i, i ≠ 9 → (M, i) ∉ [(M, 9), (T, 0)] := fun i hi => by simp; omega
    refine ⟨x, y, rfl, ⟨Nat.lt_of_lt_of_le h.lt ht.size, fun i hi => ?_, fun i hi => (ht.frozen ⟨M, i, none⟩ h.lt).trans (h.f i hi)⟩, k 1 (by omega)⟩
    by_cases h9 : i = 9
    · subst h9; exact k 0 (by omega)
    · refine (ht.cell M i h.lt hM (hn i h9)).trans ((h.c i hi).trans ?_)
      match i, hi, h9 with
      | 0, _, _ => rfl
      | 1, _, _ => rfl
      | 2, _, _ => rfl
      | 3, _, _ => rfl
      | 4, _, _ => rfl
      | 5, _, _ => rfl
      | 6, _, _ => rfl
      | 7, _, _ => rfl
      | 8, _, _ => rfl
      | 10, _, _ => rfl
      | 11, _, _ => rfl
theorem only12 (X : World) (g : Nat) (v0 v1 v2 v3 v4 v5 v6 v7 v8 v9 v10 v11 : Value) : OnlyP (fun k => k = g) X (((((((((((((X).setCell ⟨g, 0, none⟩ v0).setCell ⟨g, 1, none⟩ v1).setCell ⟨g, 2, none⟩ v2).setCell ⟨g, 3, none⟩ v3).setCell ⟨g, 4, none⟩ v4).setCell ⟨g, 5, none⟩ v5).setCell ⟨g, 6, none⟩ v6).setCell ⟨g, 7, none⟩ v7).setCell ⟨g, 8, none⟩ v8).setCell ⟨g, 9, none⟩ v9).setCell ⟨g, 10, none⟩ v10).setCell ⟨g, 11, none⟩ v11) := by
  have o1 : ∀ (X : World) (i : Nat) (v : Value), OnlyP (fun k => k = g) X (X.setCell ⟨g, i, none⟩ v) := fun X i v => have h := OnlyAt.setCell ⟨g, i, none⟩ X v; ⟨h.os, h.tape, h.output, h.size, fun k hk hn => h.block k hk hn⟩
  exact ((((((((((((o1 _ _ _).trans (o1 _ _ _)).trans (o1 _ _ _)).trans (o1 _ _ _)).trans (o1 _ _ _)).trans (o1 _ _ _)).trans (o1 _ _ _)).trans (o1 _ _ _)).trans (o1 _ _ _)).trans (o1 _ _ _)).trans (o1 _ _ _)).trans (o1 _ _ _))
theorem rdC_few (N : List UInt8 → Int) (t : List UInt8) : (rdC N t).1.length ≤ 100 ∧ (rdC N t).2.1.length ≤ 100 := by
  unfold rdC
  split
  · rename_i h
    have hb := confL_ok h.1 h.2
    unfold confB at hb
    simp only [Bool.and_eq_true, decide_eq_true_eq] at hb
    exact ⟨by simp only []; omega, by simp only []; omega⟩
  · exact ⟨by simp, by simp⟩
end Plain
end Go.Proofs.YtjiclgcohpkkjaaGreatDoor

