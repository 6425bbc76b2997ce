/- WriteResponse, by both programs. -/
import Derived.Test.YtanekbifdedmeaaGreatDoorReaI
import Derived.Test.YtanekbifdedmeaaGreatDoorRspR
import Derived.Test.YtanekbifdedmeaaGreatDoorWrqS
namespace Go.Proofs.YtanekbifdedmeaaGreatDoor
open Go.RowKit Plain
set_option linter.unusedVariables false

namespace Plain
def hbT : ByteArray := ⟨#[72, 84, 84, 80, 47, 49, 46, 49, 32]⟩
def fstT (st : Int) : ByteArray := hbT ++ decN st.toNat ++ blT ++ reaT st
/-- A response's text. -/
def wrsT (st : Int) (hs : List Hd) (bd : ByteArray) : ByteArray := if (decide (1 ≤ (reaT st).size) && tailB hs bd) = true then msgT (fstT st) hs bd else ⟨#[]⟩
theorem wrsT_no1 {st : Int} {hs : List Hd} {bd : ByteArray} (h : reaT st = ⟨#[]⟩) : wrsT st hs bd = ⟨#[]⟩ := by
  unfold wrsT
  rw [h]
  rfl
theorem wrsT_no2 {st : Int} {hs : List Hd} {bd : ByteArray} (h : tailB hs bd = false) : wrsT st hs bd = ⟨#[]⟩ := by
  unfold wrsT
  rw [h, Bool.and_false]
  rfl
theorem wrsT_yes {st : Int} {hs : List Hd} {bd : ByteArray} (h1 : 1 ≤ (reaT st).size) (h : tailB hs bd = true) : wrsT st hs bd = msgT (fstT st) hs bd := by
  unfold wrsT
  rw [h, decide_eq_true h1]
  rfl
theorem emp_is : (⟨#[]⟩ : ByteArray).toList.isEmpty = true := by rw [ByteArray.toList_eq]; rfl
theorem emp_no {t : ByteArray} (h : 1 ≤ t.size) : t.toList.isEmpty = false ∧ (t.toList == []) = false := by
  rw [ByteArray.toList_eq, ext_tail t (by omega)]
  exact ⟨rfl, rfl⟩
end Plain

set_option maxRecDepth 10000 in
set_option maxHeartbeats 4000000 in
theorem impl_WriteResponse (st : Int) (ah : Option Addr) (nh ch : Nat) (hs : List Hd) (bd : ByteArray) (w : World) (h : RspAt w st ah nh hs bd) (hP : P10 w) :
    Calls Tryz.prog 17 #[.agg #[.int .i64 st, .slice ah nh ch, .string bd]] w fun e w' => e = .returned (.string (wrsT st hs bd)) ∧ Below w.heap.size w w' := by
  obtain ⟨W0, hW0⟩ : ∃ W0, W0 = w.alloc (.cells #[.int .i64 st, .slice ah nh ch, .string bd] 36) := ⟨_, rfl⟩
  have hb0 : Below w.heap.size w W0 := by rw [hW0]; exact bel1 _ _
  have B0 : Blk W0 w.heap.size [.int .i64 st, .slice ah nh ch, .string bd] := by rw [hW0]; exact Blk.new w _ _
  have hA := h.below hb0
  have hsb := h.sb
  have HRE := hide (fun W => reasonOf_calls st W)
  have HTL := hide (tailOk_calls ah nh ch hs bd W0 hA.lh hA.bh hA.sh (by omega) hA.rh)
  have HC := hide (fun (W : World) (hW : Below W0.heap.size W0 W) => B0.call hW)
  have HB := hide hb0
  have HW0 := hide hW0.symm
  rcases reaT_or st with hr | ⟨hr1, hr2, hr3, hr4⟩
  · rw [wrsT_no1 hr]
    rw [hr] at HRE
    have e1 := emp_is
    clear h hA hb0 B0 hW0 hP hsb hr HTL HC
    go_enter Tryz.func17, Tryz.ntmps17
    go_wp2_with (go_at_call 49; refine (unhide HRE _).mono ?_; rintro e w1 ⟨rfl, rfl⟩)
    go_ret
    exact ⟨rfl, by rw [unhide HW0]; exact unhide HB⟩
  · obtain ⟨e1, e2⟩ := emp_no hr1
    cases hB : tailB hs bd with
    | false =>
      rw [wrsT_no2 hB]
      rw [hB] at HTL
      generalize reaT st = T at HRE e1 e2
      clear h hA hb0 B0 hW0 hP hsb hB HC hr1 hr2
      go_enter Tryz.func17, Tryz.ntmps17
      go_wp2_with (go_at_call 49; refine (unhide HRE _).mono ?_; rintro e w1 ⟨rfl, rfl⟩)
      rw [unhide HW0]
      refine (unhide HTL).mono ?_
      rintro e w1 ⟨rfl, hb1⟩
      have HB1 := hide (belOn (unhide HB) hb1)
      clear hb1
      go_wp2_with fail
      go_ret
      exact ⟨rfl, unhide HB1⟩
    | true =>
      obtain ⟨t1, t2, t3⟩ := tail_facts hB
      rw [wrsT_yes hr1 hB]
      rw [hB] at HTL
      have hlh := hA.lh
      obtain ⟨n, hn⟩ : ∃ n : Nat, st = (n : Int) := ⟨st.toNat, by omega⟩
      subst hn
      have hds := decN_size n (by omega)
      have hf0 : fstT (n : Int) = hbT ++ decN n ++ blT ++ reaT (n : Int) := by unfold fstT; rw [Int.toNat_natCast]
      have hz1 : hbT.size = 9 := rfl
      have hz2 : blT.size = 1 := rfl
      have a1 := fun W => addS (a := hbT) (b := decN n) W (by omega)
      have a2 := fun W => addS (a := hbT ++ decN n) (b := blT) W (by rw [ByteArray.size_append]; omega)
      have a3 := fun W => addS (a := hbT ++ decN n ++ blT) (b := reaT (n : Int)) W (by rw [ByteArray.size_append, ByteArray.size_append]; omega)
      have hfs : (hbT ++ decN n ++ blT ++ reaT (n : Int)).size ≤ 100000 := by rw [ByteArray.size_append, ByteArray.size_append, ByteArray.size_append]; omega
      rw [hf0]
      have HFI := hide (fun (W : World) (hW : Below W0.heap.size W0 W) => formatInt_calls n W ((hP.below hb0).below hW) (by omega))
      have HMS := hide (fun (W : World) (hW : Below W0.heap.size W0 W) => message_calls _ ah nh ch hs bd W hlh (by omega) t2 hfs (by omega) ((hP.below hb0).below hW) (hA.rh.below hW))
      generalize hbT ++ decN n ++ blT ++ reaT (n : Int) = f4 at a3 HMS ⊢
      generalize hbT ++ decN n ++ blT = f3 at a2 a3
      generalize hbT ++ decN n = f2 at a1 a2
      generalize decN n = D at a1 HFI
      generalize reaT (n : Int) = T at a3 HRE e1 e2
      generalize msgT f4 hs bd = R at HMS ⊢
      unfold hbT at a1
      unfold blT at a2
      clear h hA hb0 B0 hW0 hP hsb hB hr1 hr2 hr3 hr4 t1 t2 t3 hds hf0 hz1 hz2 hfs hlh
      go_enter Tryz.func17, Tryz.ntmps17
      go_wp2_with (go_at_call 49; refine (unhide HRE _).mono ?_; rintro e w1 ⟨rfl, rfl⟩)
      rw [unhide HW0]
      refine (unhide HTL).mono ?_
      rintro e w1 ⟨rfl, hb1⟩
      have HX := hide hb1
      have C1 := unhide HC _ hb1
      have c0 : w1.cell? ⟨w.heap.size, 0, none⟩ = some (.int .i64 (n : Int)) := C1.c 0 (by simp)
      have c1 : w1.cell? ⟨w.heap.size, 1, none⟩ = some (.slice ah nh ch) := C1.c 1 (by simp)
      have c2 : w1.cell? ⟨w.heap.size, 2, none⟩ = some (.string bd) := C1.c 2 (by simp)
      have NE : Nonempty (Grown w1) := ⟨⟨w1, Below.refl _ _⟩⟩
      have G0 := Grown.cell c0 C1.lt
      have G1 := Grown.cell c1 C1.lt
      have G2 := Grown.cell c2 C1.lt
      have HF2 := hide (fun x : Grown w1 => unhide HFI x.w (belOn (unhide HX) x.ok))
      have HM2 := hide (fun x : Grown w1 => unhide HMS x.w (belOn (unhide HX) x.ok))
      have HBX := hide (fun x : Grown w1 => belOn (unhide HB) (belOn (unhide HX) x.ok))
      clear hb1 C1 c0 c1 c2 HFI HMS HTL HRE
      go_wp2_with fail
      refine region_grown (by kernel_rfl) (by kernel_rfl) w1 (Below.refl _ _) ?_
      repeat (go_big_quiet_step (first
        | (go_at_call 50; exact calls_grown _ (unhide HF2 _))
        | (go_at_call 33; exact calls_grown _ (unhide HM2 _))))
      refine wpQuiet_nil ?_
      rintro _ ⟨y, rfl⟩
      all_goals (try go_wp2_with fail)
      all_goals (try go_ret)
      all_goals exact ⟨rfl, unhide HBX y⟩

set_option maxRecDepth 10000 in
set_option maxHeartbeats 4000000 in
theorem spec_WriteResponse (st : Int) (ah : Option Addr) (nh ch : Nat) (hs : List Hd) (bd : ByteArray) (w : World) (h : RspAt w st ah nh hs bd) :
    Calls Tryz.prog 18 #[.agg #[.int .i64 st, .slice ah nh ch, .string bd]] w fun e w' => e = .returned (.string (wrsT st hs bd)) ∧ Below w.heap.size w w' := by
  obtain ⟨W0, hW0⟩ : ∃ W0, W0 = w.alloc (.cells #[.int .i64 st, .slice ah nh ch, .string bd] 36) := ⟨_, rfl⟩
  have hb0 : Below w.heap.size w W0 := by rw [hW0]; exact bel1 _ _
  have B0 : Blk W0 w.heap.size [.int .i64 st, .slice ah nh ch, .string bd] := by rw [hW0]; exact Blk.new w _ _
  have hA := h.below hb0
  have hsb := h.sb
  have HRE := hide (fun W => l16Reason_calls st W)
  have HHD := hide (fun (W : World) (hW : Below W0.heap.size W0 W) => l16Headers_calls ah nh ch hs W hA.lh hA.bh hA.sh (hA.rh.below hW))
  have HC := hide (fun (W : World) (hW : Below W0.heap.size W0 W) => B0.call hW)
  have HB := hide hb0
  have HW0 := hide hW0.symm
  have HTB := hide (show tailB hs bd = (fitB hrwB hs && decide (bd.size ≤ 20000)) from rfl)
  rcases reaT_or st with hr | ⟨hr1, hr2, hr3, hr4⟩
  · rw [wrsT_no1 hr]
    rw [hr] at HRE
    have e1 := emp_is
    clear h hA hb0 B0 hW0 hsb hr HHD HC
    go_enter Tryz.func18, Tryz.ntmps18
    go_wp2_with fail
    rw [unhide HW0]
    refine (unhide HRE _).mono ?_
    rintro e w1 ⟨rfl, hb1⟩
    have HB1 := hide (belOn (unhide HB) hb1)
    clear hb1
    go_wp2_with fail
    go_ret
    exact ⟨rfl, unhide HB1⟩
  · obtain ⟨e1, e2⟩ := emp_no hr1
    cases hF : fitB hrwB hs with
    | false =>
      rw [wrsT_no2 (by rw [unhide HTB, hF]; rfl)]
      rw [hF] at HHD
      generalize reaT st = T at HRE e1 e2
      clear h hA hb0 B0 hW0 hsb hF hr1 hr2
      go_enter Tryz.func18, Tryz.ntmps18
      go_wp2_with fail
      rw [unhide HW0]
      refine (unhide HRE _).mono ?_
      rintro e w1 ⟨rfl, hb1⟩
      have HX := hide hb1
      have C1 := unhide HC _ hb1
      have c1 : w1.cell? ⟨w.heap.size, 1, none⟩ = some (.slice ah nh ch) := C1.c 1 (by simp)
      have HH1 := hide (unhide HHD _ hb1)
      clear hb1 C1
      go_wp2_with fail
      refine (unhide HH1).mono ?_
      rintro e w2 ⟨rfl, hb2⟩
      have HB2 := hide (belOn (unhide HB) (belOn (unhide HX) hb2))
      clear hb2
      go_wp2_with fail
      go_ret
      exact ⟨rfl, unhide HB2⟩
    | true =>
      by_cases hbd : bd.size ≤ 20000
      · have hB : tailB hs bd = true := by rw [unhide HTB, hF, decide_eq_true hbd]; rfl
        obtain ⟨t1, t2, t3⟩ := tail_facts hB
        rw [wrsT_yes hr1 hB]
        rw [hF] at HHD
        have hlh := hA.lh
        obtain ⟨n, hn⟩ : ∃ n : Nat, st = (n : Int) := ⟨st.toNat, by omega⟩
        subst hn
        have hds := decN_size n (by omega)
        have hf0 : msgT (fstT (n : Int)) hs bd = hbT ++ decN n ++ blT ++ reaT (n : Int) ++ crT ++ restT hs bd := by rw [msg_rest]; unfold fstT; rw [Int.toNat_natCast]
        have hz1 : hbT.size = 9 := rfl
        have hz2 : blT.size = 1 := rfl
        have hz3 : crT.size = 2 := rfl
        have hrz : (restT hs bd).size ≤ 200000 := by
          unfold restT
          have h1 := accR_size hs t2
          have h2 := decN_size bd.size (by omega)
          rw [ByteArray.size_append, ByteArray.size_append, ByteArray.size_append, ByteArray.size_append]
          have e1 : clT.size = 16 := rfl
          have e2 : crcrT.size = 4 := rfl
          omega
        have a1 := fun W => addS (a := hbT) (b := decN n) W (by omega)
        have a2 := fun W => addS (a := hbT ++ decN n) (b := blT) W (by rw [ByteArray.size_append]; omega)
        have a3 := fun W => addS (a := hbT ++ decN n ++ blT) (b := reaT (n : Int)) W (by rw [ByteArray.size_append, ByteArray.size_append]; omega)
        have a4 := fun W => addS (a := hbT ++ decN n ++ blT ++ reaT (n : Int)) (b := crT) W (by rw [ByteArray.size_append, ByteArray.size_append, ByteArray.size_append]; omega)
        have a5 := fun W => addS (a := hbT ++ decN n ++ blT ++ reaT (n : Int) ++ crT) (b := restT hs bd) W (by rw [ByteArray.size_append, ByteArray.size_append, ByteArray.size_append, ByteArray.size_append]; omega)
        rw [hf0]
        have HDE := hide (fun (W : World) => l1DecN_calls n W (by omega))
        have HRS := hide (fun (W : World) (hW : Below W0.heap.size W0 W) => l16Rest_calls ah nh ch hs bd W hlh (by omega) t2 (by omega) (hA.rh.below hW))
        generalize hbT ++ decN n ++ blT ++ reaT (n : Int) ++ crT ++ restT hs bd = f6 at a5 ⊢
        generalize hbT ++ decN n ++ blT ++ reaT (n : Int) ++ crT = f5 at a4 a5
        generalize hbT ++ decN n ++ blT ++ reaT (n : Int) = f4 at a3 a4
        generalize hbT ++ decN n ++ blT = f3 at a2 a3
        generalize hbT ++ decN n = f2 at a1 a2
        generalize decN n = D at a1 HDE
        generalize reaT (n : Int) = T at a3 HRE e1 e2
        generalize restT hs bd = RT at HRS a5
        unfold hbT at a1
        unfold blT at a2
        unfold crT at a4
        have hbi : ¬ (20000 : Int) < (bd.size : Int) := by omega
        clear h hA hb0 B0 hW0 hsb hB hF hr1 hr2 hr3 hr4 t1 t2 t3 hds hf0 hz1 hz2 hz3 hrz hlh hbd
        go_enter Tryz.func18, Tryz.ntmps18
        go_wp2_with fail
        rw [unhide HW0]
        refine (unhide HRE _).mono ?_
        rintro e w1 ⟨rfl, hb1⟩
        have HX := hide hb1
        have C1 := unhide HC _ hb1
        have c1 : w1.cell? ⟨w.heap.size, 1, none⟩ = some (.slice ah nh ch) := C1.c 1 (by simp)
        have HH1 := hide (unhide HHD _ hb1)
        clear hb1 C1
        go_wp2_with fail
        refine (unhide HH1).mono ?_
        rintro e w2 ⟨rfl, hb2⟩
        have hX2 := belOn (unhide HX) hb2
        have HX2 := hide hX2
        have C2 := unhide HC _ hX2
        have d0 : w2.cell? ⟨w.heap.size, 0, none⟩ = some (.int .i64 (n : Int)) := C2.c 0 (by simp)
        have d1 : w2.cell? ⟨w.heap.size, 1, none⟩ = some (.slice ah nh ch) := C2.c 1 (by simp)
        have d2 : w2.cell? ⟨w.heap.size, 2, none⟩ = some (.string bd) := C2.c 2 (by simp)
        have NE : Nonempty (Grown w2) := ⟨⟨w2, Below.refl _ _⟩⟩
        have G0 := Grown.cell d0 C2.lt
        have G1 := Grown.cell d1 C2.lt
        have G2 := Grown.cell d2 C2.lt
        have HD2 := hide (fun x : Grown w2 => unhide HDE x.w)
        have HE2 := hide (fun x : Grown w2 => unhide HRE x.w)
        have HR2 := hide (fun x : Grown w2 => unhide HRS x.w (belOn (unhide HX2) x.ok))
        have HBX := hide (fun x : Grown w2 => belOn (unhide HB) (belOn (unhide HX2) x.ok))
        clear hb2 hX2 C2 c1 HH1 HDE HRS HHD HRE
        go_wp2_with fail
        refine region_grown (by kernel_rfl) (by kernel_rfl) w2 (Below.refl _ _) ?_
        repeat (go_big_quiet_step (first
          | (go_at_call 53; exact calls_grown _ (unhide HD2 _))
          | (go_at_call 51; exact calls_grown _ (unhide HE2 _))
          | (go_at_call 35; exact calls_grown _ (unhide HR2 _))))
        refine wpQuiet_nil ?_
        rintro _ ⟨y, rfl⟩
        all_goals (try go_wp2_with fail)
        all_goals (try go_ret)
        all_goals exact ⟨rfl, unhide HBX y⟩
      · rw [wrsT_no2 (by rw [unhide HTB, decide_eq_false hbd, Bool.and_false])]
        rw [hF] at HHD
        generalize reaT st = T at HRE e1 e2
        have hbi : (20000 : Int) < (bd.size : Int) := by omega
        clear h hA hb0 B0 hW0 hsb hF hr1 hr2 hbd
        go_enter Tryz.func18, Tryz.ntmps18
        go_wp2_with fail
        rw [unhide HW0]
        refine (unhide HRE _).mono ?_
        rintro e w1 ⟨rfl, hb1⟩
        have HX := hide hb1
        have C1 := unhide HC _ hb1
        have c1 : w1.cell? ⟨w.heap.size, 1, none⟩ = some (.slice ah nh ch) := C1.c 1 (by simp)
        have HH1 := hide (unhide HHD _ hb1)
        clear hb1 C1
        go_wp2_with fail
        refine (unhide HH1).mono ?_
        rintro e w2 ⟨rfl, hb2⟩
        have HB2 := hide (belOn (unhide HB) (belOn (unhide HX) hb2))
        have C2 := unhide HC _ (belOn (unhide HX) hb2)
        have d2 : w2.cell? ⟨w.heap.size, 2, none⟩ = some (.string bd) := C2.c 2 (by simp)
        clear hb2 C2 c1
        go_wp2_with fail
        go_ret
        exact ⟨rfl, unhide HB2⟩
end Go.Proofs.YtanekbifdedmeaaGreatDoor
