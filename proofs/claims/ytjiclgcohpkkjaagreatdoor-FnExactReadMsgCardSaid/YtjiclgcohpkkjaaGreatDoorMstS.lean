/- The texts of messages, by the specification. -/
import Derived.Test.YtjiclgcohpkkjaaGreatDoorGzAW
import Derived.BigGuard
namespace Go.Proofs.YtjiclgcohpkkjaaGreatDoor
open Go.RowKit Plain
set_option linter.unusedVariables false

theorem Plain.strL_nilr (A : ByteArray) : A ++ strL [] = A := by apply ByteArray.ext; simp [strL]

set_option maxRecDepth 10000 in
set_option maxHeartbeats 8000000 in
theorem specM_false (kd fr tt tm ix lg cm : Int) (tx : ByteArray) (ae : Option Addr) (ne ce : Nat) (es : List Ent) (av : Option Addr) (nv cv : Nat) (v : List Int) (al : Option Addr) (nl cl : Nat) (l : List Int) (w : World) (htx : tx.size ≤ 1000000000) (hn : es.length = ne) (hn2 : ne ≤ 1048576) (hsm : smallE es) (h : RowAt entE w ae es) (hc : ConfAt w av nv v al nl l) :
    Calls Tryz.prog 13 #[.agg #[.int .i64 kd, .int .i64 fr, .int .i64 tt, .int .i64 tm, .int .i64 ix, .int .i64 lg, .slice ae ne ce, .int .i64 cm, .bool false, .string tx, .slice av nv cv, .slice al nl cl]] w fun e w' => e = .returned (.string (strL (msgL (numsM kd fr tt tm ix lg cm false) tx es v l))) ∧ Below w.heap.size w w' := by
  obtain ⟨W1, hW1⟩ : ∃ W1, W1 = (w.alloc (.cells #[.int .i64 kd, .int .i64 fr, .int .i64 tt, .int .i64 tm, .int .i64 ix, .int .i64 lg, .slice ae ne ce, .int .i64 cm, .bool false, .string tx, .slice av nv cv, .slice al nl cl] 27)).alloc (.cells #[.int .i64 kd, .int .i64 fr, .int .i64 tt, .int .i64 tm, .int .i64 ix, .int .i64 lg, .int .i64 cm, .int .i64 0] 2) := ⟨_, rfl⟩
  have hb1 : Below w.heap.size w W1 := by rw [hW1]; exact belOn (bel1 _ _) (bel1 _ _)
  have B1 : Blk W1 w.heap.size [.int .i64 kd, .int .i64 fr, .int .i64 tt, .int .i64 tm, .int .i64 ix, .int .i64 lg, .slice ae ne ce, .int .i64 cm, .bool false, .string tx, .slice av nv cv, .slice al nl cl] := by rw [hW1]; exact (Blk.new w _ _).alloc _
  have HN1 := hide (show NumsAt W1 (w.heap.size + 1) (numsM kd fr tt tm ix lg cm false) from by
    unfold NumsAt
    rw [hW1]
    have := (MapKept.heap_alloc (w.alloc (.cells #[.int .i64 kd, .int .i64 fr, .int .i64 tt, .int .i64 tm, .int .i64 ix, .int .i64 lg, .slice ae ne ce, .int .i64 cm, .bool false, .string tx, .slice av nv cv, .slice al nl cl] 27)) (.cells (intV (numsM kd fr tt tm ix lg cm false)).toArray 2)).1
    rw [show (w.alloc (.cells #[.int .i64 kd, .int .i64 fr, .int .i64 tt, .int .i64 tm, .int .i64 ix, .int .i64 lg, .slice ae ne ce, .int .i64 cm, .bool false, .string tx, .slice av nv cv, .slice al nl cl] 27)).heap.size = w.heap.size + 1 from by simp] at this
    exact this)
  have HFIN := hide (fun (W : World) (hW : Below W1.heap.size W1 W) => belOn hb1 hW)
  have HCT := hide (fun (W : World) (hW : Below W1.heap.size W1 W) => spec_ConfText av nv cv v al nl cl l W (hc.below (belOn hb1 hW)))
  have HRW := hide (fun (W : World) (hW : Below W1.heap.size W1 W) => h.below (belOn hb1 hW))
  have HB := hide (fun (W : World) (hW : Below W1.heap.size W1 W) => B1.call hW)
  have HPT := hide (fun (W : World) => spec_PutText tx W (by omega))
  have HPC := hide (fun (W : World) => spec_PutText (strL (confL v l)) W (by rw [strL_size]; exact confL_le v l))
  have HPL := hide (fun (W : World) => spec_PutNumber (ne : Int) W)
  have HW1 := hide hW1.symm
  have hl8 : (numsM kd fr tt tm ix lg cm false).length = 8 := rfl
  generalize numsM kd fr tt tm ix lg cm false = ns at HN1 hl8
  have HL8 := hide hl8
  have s1 := putT_le2 tx
  have s2 := putT_le2 (strL (confL v l))
  have s3 := putS_size (ne : Int)
  obtain ⟨FIN, hF⟩ : ∃ F, strL (msgL ns tx es v l) = F := ⟨_, rfl⟩
  rw [hF]
  unfold msgL at hF
  have HNO := hide (show msgB ns tx es = false → FIN = ⟨#[]⟩ from fun q => by rw [← hF, q]; rfl)
  have HYES := hide (show msgB ns tx es = true → FIN = strL (catN ns) ++ putT tx ++ putT (strL (confL v l)) ++ putS (ne : Int) ++ strL (catE es) from fun q => by
    rw [← hF, q, if_pos rfl, ← txtL_str, ← txtL_str, ← pnL_str]
    simp only [strL_add]
    unfold rowsL
    rw [hn]
    simp only [List.append_assoc])
  have HMB := hide (show msgB ns tx es = (ns.all numB && (decide (tx.size ≤ 20000) && decide (ne ≤ 8)) && entsB es) from by unfold msgB; rw [hn])
  obtain ⟨T1, hT1⟩ : ∃ T, putT tx = T := ⟨_, rfl⟩
  obtain ⟨T2, hT2⟩ : ∃ T, putT (strL (confL v l)) = T := ⟨_, rfl⟩
  obtain ⟨T3, hT3⟩ : ∃ T, putS (ne : Int) = T := ⟨_, rfl⟩
  rw [hT1] at HPT s1 HYES
  rw [hT2] at HPC s2 HYES
  rw [hT3] at HPL s3 HYES
  generalize strL (confL v l) = CT at HCT HPC
  have HN := hide hn
  have HSM := hide hsm
  clear hb1 hW1 B1 h hc hn hsm hl8 hT1 hT2 hT3 hF
  go_enter Tryz.func13, Tryz.ntmps13
  go_wp2_with fail
  rw [unhide HW1]
  go_loopw [5, 6] (fun s i wr => ∃ k : Nat, s = .string (strL (catN (ns.take k))) ∧ i = .int .i64 k ∧ k ≤ 8 ∧ Hid (ns.all numB = (ns.drop k).all numB) ∧ Hid (Below W1.heap.size W1 wr)) (fun _ i _ => 8 - (intOf i).toNat)
  case atStart => exact ⟨0, by simp [catN, strL], rfl, by omega, hide (by rw [List.drop_zero]), hide (Below.refl _ _)⟩
  case round =>
    obtain ⟨k, rfl, rfl, hk, HV, HBR⟩ := hrel
    by_cases hk8 : k < 8
    · have hkl : k < ns.length := by rw [unhide HL8]; exact hk8
      have p0 := ((unhide HN1).keep (unhide HBR)).cell k hkl
      have HS := (unhide HV).trans (numsB_step ns k hkl)
      have hst := catN_take ns k hkl
      have hl := catN_len (ns.take k)
      have hl2 : (ns.take k).length ≤ 8 := by rw [List.length_take]; omega
      generalize ns[k] = x at p0 HS hst
      have HIN := hide (fun W => l1In_calls x 0 1000000000000 W)
      obtain ⟨t, ht⟩ : ∃ t, numB x = t := ⟨_, rfl⟩
      rw [show (decide (0 ≤ x) && decide (x ≤ 1000000000000)) = t from ht] at HIN
      rw [ht] at HS
      have HS2 := hide HS
      have HPN := hide (fun W => spec_PutNumber x W)
      have hps : (putS x).size ≤ 6 := putS_size x
      have hadd := fun W => strAddM (a := strL (catN (ns.take k))) (b := putS x) W (by rw [strL_size]; omega)
      rw [← pnL_str x, strL_add, ← hst] at hadd
      rw [← pnL_str x] at HPN
      generalize hS2 : strL (catN (ns.take (k + 1))) = S2 at hadd
      have HE2 := hide hS2
      generalize strL (catN (ns.take k)) = S1 at hadd
      generalize strL (pnL x) = PX at hadd HPN
      clear HV ht HS hkl hst hl hl2 hps hS2
      have i0 : (0 : Int) ≤ (k : Int) := by omega
      have i1 : (k : Int) < (8 : Int) := by omega
      cases t with
      | false =>
        have HF := hide (unhide HNO (by rw [unhide HMB, unhide HS2]; simp))
        go_wp2_with (go_at_call 46; refine (unhide HIN _).mono ?_; rintro e w2 ⟨rfl, rfl⟩)
        go_ret
        exact ⟨by rw [unhide HF]; rfl, unhide HFIN _ (unhide HBR)⟩
      | true =>
        rw [Bool.true_and] at HS2
        go_wp2_with (first
          | (go_at_call 46; refine (unhide HIN _).mono ?_; rintro e w2 ⟨rfl, rfl⟩)
          | (go_at_call 47; refine (unhide HPN _).mono ?_; rintro e w3 ⟨rfl, hb3⟩))
        go_roundw
        case rel => exact ⟨k + 1, by rw [unhide HE2], by go_num, by omega, HS2, hide (belOn (unhide HBR) hb3)⟩
        case measure => simp [intOf]; omega
    · obtain rfl : k = 8 := by omega
      have hall := (unhide HV).trans (numsB_end ns 8 (by rw [unhide HL8]; exact Nat.le_refl _))
      rw [List.take_of_length_le (by rw [unhide HL8]; exact Nat.le_refl _)]
      have hln := catN_len ns
      rw [unhide HL8] at hln
      have hMB := unhide HMB
      rw [hall, Bool.true_and] at hMB
      have HMB2 := hide hMB
      have q := unhide HB _ (unhide HBR)
      have q6 := q.c 6 (by simp)
      have q9 := q.c 9 (by simp)
      have q10 := q.c 10 (by simp)
      have q11 := q.c 11 (by simp)
      have hql := q.lt
      simp only [List.getElem_cons_zero, List.getElem_cons_succ] at q6 q9 q10 q11
      have hsS : (strL (catN ns)).size ≤ 48 := by rw [strL_size]; omega
      generalize strL (catN ns) = S0 at HYES hsS
      clear hall hln hMB HV HMB q HN1 hk hk8
      by_cases ht : 20000 < tx.size
      · have ht2 : (20000 : Int) < (tx.size : Int) := by omega
        have HF := hide (unhide HNO (by rw [unhide HMB2]; simp; omega))
        clear ht
        go_wp2_with fail
        go_ret
        exact ⟨by rw [unhide HF]; rfl, unhide HFIN _ (unhide HBR)⟩
      by_cases h8 : 8 < ne
      · have ht2 : ¬ (20000 : Int) < (tx.size : Int) := by omega
        have h82 : (8 : Int) < (ne : Int) := by omega
        have HF := hide (unhide HNO (by rw [unhide HMB2]; simp; omega))
        clear ht h8
        go_wp2_with fail
        go_ret
        exact ⟨by rw [unhide HF]; rfl, unhide HFIN _ (unhide HBR)⟩
      have ht2 : ¬ (20000 : Int) < (tx.size : Int) := by omega
      have h82 : ¬ (8 : Int) < (ne : Int) := by omega
      have hMB := unhide HMB2
      rw [show (decide (tx.size ≤ 20000) && decide (ne ≤ 8)) = true from by simp; omega, Bool.true_and] at hMB
      have HMB3 := hide hMB
      have hne8 : ne ≤ 8 := by omega
      have a1 := fun W => strAddM (a := S0) (b := T1) W (by omega)
      have a2 := fun W => strAddM (a := S0 ++ T1) (b := T2) W (by rw [ByteArray.size_append]; omega)
      have a3 := fun W => strAddM (a := S0 ++ T1 ++ T2) (b := T3) W (by rw [ByteArray.size_append, ByteArray.size_append]; omega)
      have hsA : (S0 ++ T1 ++ T2 ++ T3).size ≤ 300000 := by rw [ByteArray.size_append, ByteArray.size_append, ByteArray.size_append]; omega
      have NE : Nonempty (Grown wr) := ⟨⟨wr, Below.refl _ _⟩⟩
      have G6 := Grown.cell q6 hql
      have G9 := Grown.cell q9 hql
      have G10 := Grown.cell q10 hql
      have G11 := Grown.cell q11 hql
      have HSA := hide hsA
      have HQ := hide (fun (W : World) (hW : Below W1.heap.size W1 W) => (unhide HB W hW).c 6 (by simp))
      simp only [List.getElem_cons_zero, List.getElem_cons_succ] at HQ
      clear ht h8 hMB HMB2 hsA hsS s1 s2 s3
      go_wp2_with fail
      refine region_grown (by kernel_rfl) (by kernel_rfl) wr (Below.refl _ _) ?_
      repeat (go_big_quiet_step (first
        | (go_at_call_of 48 tx; exact calls_grown _ (unhide HPT _))
        | (go_at_call 49; exact calls_grown _ (unhide HCT _ (belOn (unhide HBR) (Grown.ok _))))
        | (go_at_call_of 48 CT; exact calls_grown _ (unhide HPC _))
        | (go_at_call 47; exact calls_grown _ (unhide HPL _))
        | exact Eq.refl _))
      refine wpQuiet_nil ?_
      rintro _ ⟨y, rfl⟩
      obtain ⟨w5, hw5⟩ : ∃ x, x = y.w := ⟨_, rfl⟩
      have HB5 := hide (show Below W1.heap.size W1 w5 from by rw [hw5]; exact belOn (unhide HBR) y.ok)
      rw [← hw5]
      generalize S0 ++ T1 ++ T2 ++ T3 = A at HYES HSA
      clear hw5 y NE G6 G9 G10 G11 q6 q9 q10 q11 hql a1 a2 a3 HPT HCT HPC HPL
      go_wp2_with fail
      go_loopw [5, 7] (fun s i wr => ∃ k : Nat, s = .string (A ++ strL (catE (es.take k))) ∧ i = .int .i64 k ∧ k ≤ ne ∧ Hid (entsB es = entsB (es.drop k)) ∧ Hid (Below W1.heap.size W1 wr)) (fun _ i _ => ne - (intOf i).toNat)
      case atStart => exact ⟨0, by rw [show catE (es.take 0) = [] from by simp [catE], strL_nilr], rfl, by omega, hide (by rw [List.drop_zero]), HB5⟩
      case round =>
        clear HB5
        obtain ⟨k, rfl, rfl, hk, HV, HBR⟩ := hrel
        have q6 := unhide HQ _ (unhide HBR)
        by_cases hkn : k < ne
        · have hkl : k < es.length := by rw [unhide HN]; exact hkn
          obtain ⟨g, e1, l1, p0, p1, p2⟩ := (unhide HRW _ (unhide HBR)).ex k hkl
          have HS := (unhide HV).trans (entsB_step es k hkl)
          have hst := catE_take es k hkl
          have hsz := unhide HSM es[k] (by simp)
          have hl := catE_len (es.take k)
          have hl2 : (es.take k).length ≤ 8 := by rw [List.length_take]; omega
          generalize es[k] = x at p0 p1 p2 hst hsz HS
          obtain ⟨tm, kd, bd⟩ := x
          simp only at p0 p1 p2 hsz HS
          unfold entPL at hst
          simp only at hst
          have hpt := putT_le2 (entT tm kd bd)
          have HET := hide (fun W => spec_EntryText tm kd bd W hsz)
          have HPX := hide (fun W => spec_PutText (entT tm kd bd) W (entT_size tm kd bd))
          have hadd := fun W => strAddM (a := A ++ strL (catE (es.take k))) (b := putT (entT tm kd bd)) W (by rw [ByteArray.size_append, strL_size]; have := unhide HSA; omega)
          rw [ByteArray.append_assoc, ← txtL_str, strL_add, ← hst] at hadd
          rw [← txtL_str] at HPX
          obtain ⟨t, ht⟩ : ∃ t, entB tm kd bd = t := ⟨_, rfl⟩
          rw [ht] at HS
          have HS2 := hide HS
          generalize hS2 : A ++ strL (catE (es.take (k + 1))) = S2 at hadd
          have HE2 := hide hS2
          generalize A ++ strL (catE (es.take k)) = S1 at hadd
          generalize strL (txtL (entT tm kd bd)) = PX at hadd HPX
          subst e1
          have i0 : (0 : Int) ≤ (k : Int) := by omega
          have i1 : (k : Int) < (ne : Int) := by omega
          cases t with
          | false =>
            have hem := entT_no ht
            rw [hem] at HET HPX
            have HF := hide (unhide HNO (by rw [unhide HMB3, unhide HS2]; simp))
            clear HV ht HS hkl hst hl hl2 hpt hem hsz HS2 hS2
            go_wp2_with (first
              | (go_at_call 50; refine (unhide HET _).mono ?_; rintro e w6 ⟨rfl, hb6⟩))
            go_ret
            exact ⟨by rw [unhide HF]; rfl, unhide HFIN _ (belOn (unhide HBR) hb6)⟩
          | true =>
            rw [Bool.true_and] at HS2
            have hem := entT_ne ht
            generalize entT tm kd bd = ET at HET HPX hem
            clear HV ht HS hkl hst hl hl2 hpt hsz hS2
            go_wp2_with (first
              | (go_at_call 50; refine (unhide HET _).mono ?_; rintro e w6 ⟨rfl, hb6⟩)
              | (go_at_call 48; refine (unhide HPX _).mono ?_; rintro e w7 ⟨rfl, hb7⟩))
            go_roundw
            case rel => exact ⟨k + 1, by rw [unhide HE2], by go_num, by omega, HS2, hide (belOn (belOn (unhide HBR) hb6) hb7)⟩
            case measure => simp [intOf]; omega
        · obtain rfl : k = ne := by omega
          have hE := (unhide HV).trans (entsB_end es k (by rw [unhide HN]; exact Nat.le_refl _))
          have hFF := unhide HYES (by rw [unhide HMB3]; exact hE)
          rw [List.take_of_length_le (by rw [unhide HN]; exact Nat.le_refl _)]
          rw [← hFF]
          clear hFF hE HV
          go_wp2_with fail
          go_ret
          exact ⟨rfl, unhide HFIN _ (unhide HBR)⟩

set_option maxRecDepth 10000 in
set_option maxHeartbeats 8000000 in
theorem specM_true (kd fr tt tm ix lg cm : Int) (tx : ByteArray) (ae : Option Addr) (ne ce : Nat) (es : List Ent) (av : Option Addr) (nv cv : Nat) (v : List Int) (al : Option Addr) (nl cl : Nat) (l : List Int) (w : World) (htx : tx.size ≤ 1000000000) (hn : es.length = ne) (hn2 : ne ≤ 1048576) (hsm : smallE es) (h : RowAt entE w ae es) (hc : ConfAt w av nv v al nl l) :
    Calls Tryz.prog 13 #[.agg #[.int .i64 kd, .int .i64 fr, .int .i64 tt, .int .i64 tm, .int .i64 ix, .int .i64 lg, .slice ae ne ce, .int .i64 cm, .bool true, .string tx, .slice av nv cv, .slice al nl cl]] w fun e w' => e = .returned (.string (strL (msgL (numsM kd fr tt tm ix lg cm true) tx es v l))) ∧ Below w.heap.size w w' := by
  obtain ⟨W1, hW1⟩ : ∃ W1, W1 = (w.alloc (.cells #[.int .i64 kd, .int .i64 fr, .int .i64 tt, .int .i64 tm, .int .i64 ix, .int .i64 lg, .slice ae ne ce, .int .i64 cm, .bool true, .string tx, .slice av nv cv, .slice al nl cl] 27)).alloc (.cells #[.int .i64 kd, .int .i64 fr, .int .i64 tt, .int .i64 tm, .int .i64 ix, .int .i64 lg, .int .i64 cm, .int .i64 1] 2) := ⟨_, rfl⟩
  have hb1 : Below w.heap.size w W1 := by rw [hW1]; exact belOn (bel1 _ _) (bel1 _ _)
  have B1 : Blk W1 w.heap.size [.int .i64 kd, .int .i64 fr, .int .i64 tt, .int .i64 tm, .int .i64 ix, .int .i64 lg, .slice ae ne ce, .int .i64 cm, .bool true, .string tx, .slice av nv cv, .slice al nl cl] := by rw [hW1]; exact (Blk.new w _ _).alloc _
  have HN1 := hide (show NumsAt W1 (w.heap.size + 1) (numsM kd fr tt tm ix lg cm true) from by
    unfold NumsAt
    rw [hW1]
    have := (MapKept.heap_alloc (w.alloc (.cells #[.int .i64 kd, .int .i64 fr, .int .i64 tt, .int .i64 tm, .int .i64 ix, .int .i64 lg, .slice ae ne ce, .int .i64 cm, .bool true, .string tx, .slice av nv cv, .slice al nl cl] 27)) (.cells (intV (numsM kd fr tt tm ix lg cm true)).toArray 2)).1
    rw [show (w.alloc (.cells #[.int .i64 kd, .int .i64 fr, .int .i64 tt, .int .i64 tm, .int .i64 ix, .int .i64 lg, .slice ae ne ce, .int .i64 cm, .bool true, .string tx, .slice av nv cv, .slice al nl cl] 27)).heap.size = w.heap.size + 1 from by simp] at this
    exact this)
  have HFIN := hide (fun (W : World) (hW : Below W1.heap.size W1 W) => belOn hb1 hW)
  have HCT := hide (fun (W : World) (hW : Below W1.heap.size W1 W) => spec_ConfText av nv cv v al nl cl l W (hc.below (belOn hb1 hW)))
  have HRW := hide (fun (W : World) (hW : Below W1.heap.size W1 W) => h.below (belOn hb1 hW))
  have HB := hide (fun (W : World) (hW : Below W1.heap.size W1 W) => B1.call hW)
  have HPT := hide (fun (W : World) => spec_PutText tx W (by omega))
  have HPC := hide (fun (W : World) => spec_PutText (strL (confL v l)) W (by rw [strL_size]; exact confL_le v l))
  have HPL := hide (fun (W : World) => spec_PutNumber (ne : Int) W)
  have HW1 := hide hW1.symm
  have hl8 : (numsM kd fr tt tm ix lg cm true).length = 8 := rfl
  generalize numsM kd fr tt tm ix lg cm true = ns at HN1 hl8
  have HL8 := hide hl8
  have s1 := putT_le2 tx
  have s2 := putT_le2 (strL (confL v l))
  have s3 := putS_size (ne : Int)
  obtain ⟨FIN, hF⟩ : ∃ F, strL (msgL ns tx es v l) = F := ⟨_, rfl⟩
  rw [hF]
  unfold msgL at hF
  have HNO := hide (show msgB ns tx es = false → FIN = ⟨#[]⟩ from fun q => by rw [← hF, q]; rfl)
  have HYES := hide (show msgB ns tx es = true → FIN = strL (catN ns) ++ putT tx ++ putT (strL (confL v l)) ++ putS (ne : Int) ++ strL (catE es) from fun q => by
    rw [← hF, q, if_pos rfl, ← txtL_str, ← txtL_str, ← pnL_str]
    simp only [strL_add]
    unfold rowsL
    rw [hn]
    simp only [List.append_assoc])
  have HMB := hide (show msgB ns tx es = (ns.all numB && (decide (tx.size ≤ 20000) && decide (ne ≤ 8)) && entsB es) from by unfold msgB; rw [hn])
  obtain ⟨T1, hT1⟩ : ∃ T, putT tx = T := ⟨_, rfl⟩
  obtain ⟨T2, hT2⟩ : ∃ T, putT (strL (confL v l)) = T := ⟨_, rfl⟩
  obtain ⟨T3, hT3⟩ : ∃ T, putS (ne : Int) = T := ⟨_, rfl⟩
  rw [hT1] at HPT s1 HYES
  rw [hT2] at HPC s2 HYES
  rw [hT3] at HPL s3 HYES
  generalize strL (confL v l) = CT at HCT HPC
  have HN := hide hn
  have HSM := hide hsm
  clear hb1 hW1 B1 h hc hn hsm hl8 hT1 hT2 hT3 hF
  go_enter Tryz.func13, Tryz.ntmps13
  go_wp2_with fail
  rw [unhide HW1]
  go_loopw [5, 6] (fun s i wr => ∃ k : Nat, s = .string (strL (catN (ns.take k))) ∧ i = .int .i64 k ∧ k ≤ 8 ∧ Hid (ns.all numB = (ns.drop k).all numB) ∧ Hid (Below W1.heap.size W1 wr)) (fun _ i _ => 8 - (intOf i).toNat)
  case atStart => exact ⟨0, by simp [catN, strL], rfl, by omega, hide (by rw [List.drop_zero]), hide (Below.refl _ _)⟩
  case round =>
    obtain ⟨k, rfl, rfl, hk, HV, HBR⟩ := hrel
    by_cases hk8 : k < 8
    · have hkl : k < ns.length := by rw [unhide HL8]; exact hk8
      have p0 := ((unhide HN1).keep (unhide HBR)).cell k hkl
      have HS := (unhide HV).trans (numsB_step ns k hkl)
      have hst := catN_take ns k hkl
      have hl := catN_len (ns.take k)
      have hl2 : (ns.take k).length ≤ 8 := by rw [List.length_take]; omega
      generalize ns[k] = x at p0 HS hst
      have HIN := hide (fun W => l1In_calls x 0 1000000000000 W)
      obtain ⟨t, ht⟩ : ∃ t, numB x = t := ⟨_, rfl⟩
      rw [show (decide (0 ≤ x) && decide (x ≤ 1000000000000)) = t from ht] at HIN
      rw [ht] at HS
      have HS2 := hide HS
      have HPN := hide (fun W => spec_PutNumber x W)
      have hps : (putS x).size ≤ 6 := putS_size x
      have hadd := fun W => strAddM (a := strL (catN (ns.take k))) (b := putS x) W (by rw [strL_size]; omega)
      rw [← pnL_str x, strL_add, ← hst] at hadd
      rw [← pnL_str x] at HPN
      generalize hS2 : strL (catN (ns.take (k + 1))) = S2 at hadd
      have HE2 := hide hS2
      generalize strL (catN (ns.take k)) = S1 at hadd
      generalize strL (pnL x) = PX at hadd HPN
      clear HV ht HS hkl hst hl hl2 hps hS2
      have i0 : (0 : Int) ≤ (k : Int) := by omega
      have i1 : (k : Int) < (8 : Int) := by omega
      cases t with
      | false =>
        have HF := hide (unhide HNO (by rw [unhide HMB, unhide HS2]; simp))
        go_wp2_with (go_at_call 46; refine (unhide HIN _).mono ?_; rintro e w2 ⟨rfl, rfl⟩)
        go_ret
        exact ⟨by rw [unhide HF]; rfl, unhide HFIN _ (unhide HBR)⟩
      | true =>
        rw [Bool.true_and] at HS2
        go_wp2_with (first
          | (go_at_call 46; refine (unhide HIN _).mono ?_; rintro e w2 ⟨rfl, rfl⟩)
          | (go_at_call 47; refine (unhide HPN _).mono ?_; rintro e w3 ⟨rfl, hb3⟩))
        go_roundw
        case rel => exact ⟨k + 1, by rw [unhide HE2], by go_num, by omega, HS2, hide (belOn (unhide HBR) hb3)⟩
        case measure => simp [intOf]; omega
    · obtain rfl : k = 8 := by omega
      have hall := (unhide HV).trans (numsB_end ns 8 (by rw [unhide HL8]; exact Nat.le_refl _))
      rw [List.take_of_length_le (by rw [unhide HL8]; exact Nat.le_refl _)]
      have hln := catN_len ns
      rw [unhide HL8] at hln
      have hMB := unhide HMB
      rw [hall, Bool.true_and] at hMB
      have HMB2 := hide hMB
      have q := unhide HB _ (unhide HBR)
      have q6 := q.c 6 (by simp)
      have q9 := q.c 9 (by simp)
      have q10 := q.c 10 (by simp)
      have q11 := q.c 11 (by simp)
      have hql := q.lt
      simp only [List.getElem_cons_zero, List.getElem_cons_succ] at q6 q9 q10 q11
      have hsS : (strL (catN ns)).size ≤ 48 := by rw [strL_size]; omega
      generalize strL (catN ns) = S0 at HYES hsS
      clear hall hln hMB HV HMB q HN1 hk hk8
      by_cases ht : 20000 < tx.size
      · have ht2 : (20000 : Int) < (tx.size : Int) := by omega
        have HF := hide (unhide HNO (by rw [unhide HMB2]; simp; omega))
        clear ht
        go_wp2_with fail
        go_ret
        exact ⟨by rw [unhide HF]; rfl, unhide HFIN _ (unhide HBR)⟩
      by_cases h8 : 8 < ne
      · have ht2 : ¬ (20000 : Int) < (tx.size : Int) := by omega
        have h82 : (8 : Int) < (ne : Int) := by omega
        have HF := hide (unhide HNO (by rw [unhide HMB2]; simp; omega))
        clear ht h8
        go_wp2_with fail
        go_ret
        exact ⟨by rw [unhide HF]; rfl, unhide HFIN _ (unhide HBR)⟩
      have ht2 : ¬ (20000 : Int) < (tx.size : Int) := by omega
      have h82 : ¬ (8 : Int) < (ne : Int) := by omega
      have hMB := unhide HMB2
      rw [show (decide (tx.size ≤ 20000) && decide (ne ≤ 8)) = true from by simp; omega, Bool.true_and] at hMB
      have HMB3 := hide hMB
      have hne8 : ne ≤ 8 := by omega
      have a1 := fun W => strAddM (a := S0) (b := T1) W (by omega)
      have a2 := fun W => strAddM (a := S0 ++ T1) (b := T2) W (by rw [ByteArray.size_append]; omega)
      have a3 := fun W => strAddM (a := S0 ++ T1 ++ T2) (b := T3) W (by rw [ByteArray.size_append, ByteArray.size_append]; omega)
      have hsA : (S0 ++ T1 ++ T2 ++ T3).size ≤ 300000 := by rw [ByteArray.size_append, ByteArray.size_append, ByteArray.size_append]; omega
      have NE : Nonempty (Grown wr) := ⟨⟨wr, Below.refl _ _⟩⟩
      have G6 := Grown.cell q6 hql
      have G9 := Grown.cell q9 hql
      have G10 := Grown.cell q10 hql
      have G11 := Grown.cell q11 hql
      have HSA := hide hsA
      have HQ := hide (fun (W : World) (hW : Below W1.heap.size W1 W) => (unhide HB W hW).c 6 (by simp))
      simp only [List.getElem_cons_zero, List.getElem_cons_succ] at HQ
      clear ht h8 hMB HMB2 hsA hsS s1 s2 s3
      go_wp2_with fail
      refine region_grown (by kernel_rfl) (by kernel_rfl) wr (Below.refl _ _) ?_
      repeat (go_big_quiet_step (first
        | (go_at_call_of 48 tx; exact calls_grown _ (unhide HPT _))
        | (go_at_call 49; exact calls_grown _ (unhide HCT _ (belOn (unhide HBR) (Grown.ok _))))
        | (go_at_call_of 48 CT; exact calls_grown _ (unhide HPC _))
        | (go_at_call 47; exact calls_grown _ (unhide HPL _))
        | exact Eq.refl _))
      refine wpQuiet_nil ?_
      rintro _ ⟨y, rfl⟩
      obtain ⟨w5, hw5⟩ : ∃ x, x = y.w := ⟨_, rfl⟩
      have HB5 := hide (show Below W1.heap.size W1 w5 from by rw [hw5]; exact belOn (unhide HBR) y.ok)
      rw [← hw5]
      generalize S0 ++ T1 ++ T2 ++ T3 = A at HYES HSA
      clear hw5 y NE G6 G9 G10 G11 q6 q9 q10 q11 hql a1 a2 a3 HPT HCT HPC HPL
      go_wp2_with fail
      go_loopw [5, 7] (fun s i wr => ∃ k : Nat, s = .string (A ++ strL (catE (es.take k))) ∧ i = .int .i64 k ∧ k ≤ ne ∧ Hid (entsB es = entsB (es.drop k)) ∧ Hid (Below W1.heap.size W1 wr)) (fun _ i _ => ne - (intOf i).toNat)
      case atStart => exact ⟨0, by rw [show catE (es.take 0) = [] from by simp [catE], strL_nilr], rfl, by omega, hide (by rw [List.drop_zero]), HB5⟩
      case round =>
        clear HB5
        obtain ⟨k, rfl, rfl, hk, HV, HBR⟩ := hrel
        have q6 := unhide HQ _ (unhide HBR)
        by_cases hkn : k < ne
        · have hkl : k < es.length := by rw [unhide HN]; exact hkn
          obtain ⟨g, e1, l1, p0, p1, p2⟩ := (unhide HRW _ (unhide HBR)).ex k hkl
          have HS := (unhide HV).trans (entsB_step es k hkl)
          have hst := catE_take es k hkl
          have hsz := unhide HSM es[k] (by simp)
          have hl := catE_len (es.take k)
          have hl2 : (es.take k).length ≤ 8 := by rw [List.length_take]; omega
          generalize es[k] = x at p0 p1 p2 hst hsz HS
          obtain ⟨tm, kd, bd⟩ := x
          simp only at p0 p1 p2 hsz HS
          unfold entPL at hst
          simp only at hst
          have hpt := putT_le2 (entT tm kd bd)
          have HET := hide (fun W => spec_EntryText tm kd bd W hsz)
          have HPX := hide (fun W => spec_PutText (entT tm kd bd) W (entT_size tm kd bd))
          have hadd := fun W => strAddM (a := A ++ strL (catE (es.take k))) (b := putT (entT tm kd bd)) W (by rw [ByteArray.size_append, strL_size]; have := unhide HSA; omega)
          rw [ByteArray.append_assoc, ← txtL_str, strL_add, ← hst] at hadd
          rw [← txtL_str] at HPX
          obtain ⟨t, ht⟩ : ∃ t, entB tm kd bd = t := ⟨_, rfl⟩
          rw [ht] at HS
          have HS2 := hide HS
          generalize hS2 : A ++ strL (catE (es.take (k + 1))) = S2 at hadd
          have HE2 := hide hS2
          generalize A ++ strL (catE (es.take k)) = S1 at hadd
          generalize strL (txtL (entT tm kd bd)) = PX at hadd HPX
          subst e1
          have i0 : (0 : Int) ≤ (k : Int) := by omega
          have i1 : (k : Int) < (ne : Int) := by omega
          cases t with
          | false =>
            have hem := entT_no ht
            rw [hem] at HET HPX
            have HF := hide (unhide HNO (by rw [unhide HMB3, unhide HS2]; simp))
            clear HV ht HS hkl hst hl hl2 hpt hem hsz HS2 hS2
            go_wp2_with (first
              | (go_at_call 50; refine (unhide HET _).mono ?_; rintro e w6 ⟨rfl, hb6⟩))
            go_ret
            exact ⟨by rw [unhide HF]; rfl, unhide HFIN _ (belOn (unhide HBR) hb6)⟩
          | true =>
            rw [Bool.true_and] at HS2
            have hem := entT_ne ht
            generalize entT tm kd bd = ET at HET HPX hem
            clear HV ht HS hkl hst hl hl2 hpt hsz hS2
            go_wp2_with (first
              | (go_at_call 50; refine (unhide HET _).mono ?_; rintro e w6 ⟨rfl, hb6⟩)
              | (go_at_call 48; refine (unhide HPX _).mono ?_; rintro e w7 ⟨rfl, hb7⟩))
            go_roundw
            case rel => exact ⟨k + 1, by rw [unhide HE2], by go_num, by omega, HS2, hide (belOn (belOn (unhide HBR) hb6) hb7)⟩
            case measure => simp [intOf]; omega
        · obtain rfl : k = ne := by omega
          have hE := (unhide HV).trans (entsB_end es k (by rw [unhide HN]; exact Nat.le_refl _))
          have hFF := unhide HYES (by rw [unhide HMB3]; exact hE)
          rw [List.take_of_length_le (by rw [unhide HN]; exact Nat.le_refl _)]
          rw [← hFF]
          clear hFF hE HV
          go_wp2_with fail
          go_ret
          exact ⟨rfl, unhide HFIN _ (unhide HBR)⟩

theorem spec_MsgText (kd fr tt tm ix lg cm : Int) (ok : Bool) (tx : ByteArray) (ae : Option Addr) (ne ce : Nat) (es : List Ent) (av : Option Addr) (nv cv : Nat) (v : List Int) (al : Option Addr) (nl cl : Nat) (l : List Int) (w : World) (htx : tx.size ≤ 1000000000) (hn : es.length = ne) (hn2 : ne ≤ 1048576) (hsm : smallE es) (h : RowAt entE w ae es) (hc : ConfAt w av nv v al nl l) :
    Calls Tryz.prog 13 #[.agg #[.int .i64 kd, .int .i64 fr, .int .i64 tt, .int .i64 tm, .int .i64 ix, .int .i64 lg, .slice ae ne ce, .int .i64 cm, .bool ok, .string tx, .slice av nv cv, .slice al nl cl]] w fun e w' => e = .returned (.string (strL (msgL (numsM kd fr tt tm ix lg cm ok) tx es v l))) ∧ Below w.heap.size w w' := by
  cases ok with
  | false => exact specM_false kd fr tt tm ix lg cm tx ae ne ce es av nv cv v al nl cl l w htx hn hn2 hsm h hc
  | true => exact specM_true kd fr tt tm ix lg cm tx ae ne ce es av nv cv v al nl cl l w htx hn hn2 hsm h hc
end Go.Proofs.YtjiclgcohpkkjaaGreatDoor
