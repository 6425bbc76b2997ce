/- The text of members, by the program. -/
import Derived.Test.YtiakhgafibgpgaaDoorCtxM
namespace Go.Proofs.YtiakhgafibgpgaaDoor
open Go.RowKit Plain
set_option linter.unusedVariables false

theorem Plain.strAdd {a b : ByteArray} (W : World) (h : a.size + b.size ≤ 1000000000000) : (Op.stringOp .add a b).run Tryd.prog W = .ok (.string (a ++ b)) W := by
  have hm : (a.size : Int) + (b.size : Int) ≤ 9223372036854775807 := by omega
  simp [Op.stringOp, hm]

set_option maxRecDepth 10000 in
set_option maxHeartbeats 2000000 in
theorem numbersText_calls (a : Option Addr) (n c : Nat) (ls : List Int) (w : World) (h : IntsAt w a n ls) (hn : n ≤ 100) (hv : ∀ x ∈ ls, 1 ≤ x ∧ x ≤ 50) :
    Calls Tryd.prog 44 #[.slice a n c] w fun e w' => e = .returned (.string (strL (numL ls))) ∧ Below w.heap.size w w' := by
  obtain ⟨W0, hW0⟩ : ∃ W0, W0 = w.alloc (.cells #[.pointer none, .slice none 0 0] 52) := ⟨_, rfl⟩
  have hb0 : Below w.heap.size w W0 := by rw [hW0]; exact bel1 _ _
  have HH := hide h
  have HD := hide (fun (W : World) (hW : Below w.heap.size w W) => h.below hW)
  have HV := hide hv
  have HF := hide (show Lib.IsBuilder 52 5 w.heap.size w.heap.size [] W0 from .inl ⟨Nat.le_refl _, .slice none 0 0, by rw [hW0]; exact (MapKept.heap_alloc w _).1, World.ownsRow_nil _ _ _ _, by simp [Value.ownBlock]⟩)
  have HB0 := hide hb0
  have HW0 := hide hW0.symm
  clear h hv hb0 hW0
  go_enter Tryd.func44, Tryd.ntmps44
  go_wp2_with fail
  rw [unhide HW0]
  go_loopw [8] (fun i wr => ∃ k : Nat, i = .int .i64 k ∧ k ≤ n ∧ Hid (Lib.IsBuilder 52 5 w.heap.size w.heap.size (Lib.byteCells (numL (ls.take k))) wr) ∧ Hid (Below w.heap.size w wr)) (fun i _ => n - (intOf i).toNat)
  case atStart => exact ⟨0, rfl, by omega, HF, HB0⟩
  case round =>
    clear HF HB0
    obtain ⟨k, rfl, hk, HF, HB⟩ := hrel
    by_cases hkn : k < n
    · have hkl : k < ls.length := by rw [(unhide HH).len]; exact hkn
      obtain ⟨g, e1, l1, p0, -⟩ := (unhide HD _ (unhide HB)).row.ix k hkl
      have hst := numL_take ls k hkl
      have hr := unhide HV ls[k] (by simp)
      have hl := numL_take_len ls (unhide HV) k
      rw [(unhide HH).len] at hl
      generalize ls[k] = x at p0 hst hr
      obtain ⟨X, rfl⟩ := Int.eq_ofNat_of_zero_le (show 0 ≤ x by omega)
      have hd := dec_len ⟨X, by omega⟩
      simp only [Int.toNat_natCast] at hst hd
      subst e1
      have i0 : (0 : Int) ≤ (k : Int) := by omega
      have i1 : (k : Int) < (n : Int) := by omega
      have HFI := hide (FormatInt_calls X (by omega) wr)
      have hz := (unhide HB).size
      have hsz : (⟨(Lib.decDigits X).toArray⟩ : ByteArray).size ≤ 2 := by rw [show (⟨(Lib.decDigits X).toArray⟩ : ByteArray) = strL (Lib.decDigits X) from rfl, strL_size]; exact hd
      have hadd := fun W => strAdd (a := ⟨#[32]⟩) (b := ⟨(Lib.decDigits X).toArray⟩) W (by have : (⟨#[32]⟩ : ByteArray).size = 1 := rfl; omega)
      have hcat : (⟨#[32]⟩ : ByteArray) ++ ⟨(Lib.decDigits X).toArray⟩ = strL (32 :: Lib.decDigits X) := strL_add [32] (Lib.decDigits X)
      rw [hcat] at hadd
      have hsl : (strL (32 :: Lib.decDigits X)).size ≤ 3 := by rw [strL_size, List.length_cons]; omega
      have HWS := hide (WriteString_calls w.heap.size w.heap.size _ (strL (32 :: Lib.decDigits X)) wr (unhide HF) (by rw [Lib.byteCells_length]; omega) hz)
      have HST := hide (show Lib.byteCells (numL (ls.take k)) ++ Lib.strCells (strL (32 :: Lib.decDigits X)) = Lib.byteCells (numL (ls.take (k + 1))) from by rw [hst, Lib.strCells_eq]; simp [Lib.byteCells, strL])
      rw [unhide HST] at HWS
      generalize (⟨(Lib.decDigits X).toArray⟩ : ByteArray) = dg at HFI hadd
      generalize strL (32 :: Lib.decDigits X) = tx at hadd HWS
      clear hst hcat hsz hsl hd HST
      go_wp2_with fail
      refine (unhide HFI).mono ?_
      rintro e w1 ⟨rfl, rfl⟩
      go_wp2_with fail
      refine (unhide HWS).mono ?_
      rintro e w2 ⟨rfl, hF2, hb2⟩
      have HF2 := hide (show Lib.IsBuilder 52 5 w.heap.size w.heap.size (Lib.byteCells (numL (ls.take (k + 1)))) w2 from .inr hF2)
      have HB2 := hide ((unhide HB).trans hb2)
      clear hF2 hb2
      go_wp2_with fail
      go_roundw
      case rel => exact ⟨k + 1, by go_num, by omega, HF2, HB2⟩
      case measure => simp [intOf]; omega
    · obtain rfl : k = n := by omega
      have hz := (unhide HB).size
      have HS := hide (BString_calls w.heap.size w.heap.size _ wr (unhide HF) hz)
      rw [List.take_of_length_le (by rw [(unhide HH).len]; exact Nat.le_refl _)] at HS
      rw [show (⟨(numL ls).toArray⟩ : ByteArray) = strL (numL ls) from rfl] at HS
      clear HF
      go_wp2_with fail
      refine (unhide HS).mono ?_
      rintro e w2 ⟨rfl, hb2⟩
      have HB2 := hide ((unhide HB).trans hb2)
      clear hb2
      go_wp2_with fail
      go_ret
      exact ⟨rfl, unhide HB2⟩

set_option maxRecDepth 10000 in
set_option maxHeartbeats 2000000 in
theorem impl_ConfText (av : Option Addr) (nv cv : Nat) (v : List Int) (al : Option Addr) (nl cl : Nat) (l : List Int) (w : World) (h : ConfAt w av nv v al nl l) :
    Calls Tryd.prog 23 #[.agg #[.slice av nv cv, .slice al nl cl]] w fun e w' => e = .returned (.string (strL (confL v l))) ∧ Below w.heap.size w w' := by
  obtain ⟨W0, hW0⟩ : ∃ W0, W0 = w.alloc (.cells #[.slice av nv cv, .slice al nl cl] 31) := ⟨_, rfl⟩
  have hb0 : Below w.heap.size w W0 := by rw [hW0]; exact bel1 _ _
  have hlt : w.heap.size < W0.heap.size := by rw [hW0]; simp
  have c0 : W0.cell? ⟨w.heap.size, 0, none⟩ = some (.slice av nv cv) := by rw [hW0]; simp [go_sem]
  have c1 : W0.cell? ⟨w.heap.size, 1, none⟩ = some (.slice al nl cl) := by rw [hW0]; simp [go_sem]
  have HC := hide (fun (W : World) (hW : Below W0.heap.size W0 W) => And.intro (bcl hW hlt c0) (bcl hW hlt c1))
  have HOK := hide (impl_ConfOk av nv cv v al nl cl l W0 (h.below hb0))
  have HA := hide (fun (W : World) (hW : Below W0.heap.size W0 W) => h.below (belOn hb0 hW))
  have HFIN := hide (fun (W : World) (hW : Below W0.heap.size W0 W) => belOn hb0 hW)
  have hvn := h.v.len
  have hln := h.l.len
  have HW0 := hide hW0.symm
  clear hb0 hW0 hlt h
  cases hc : confB v l with
  | false =>
    have HX := hide (show confL v l = [] from by unfold confL; rw [hc]; rfl)
    rw [hc] at HOK
    clear hc hvn hln
    go_enter Tryd.func23, Tryd.ntmps23
    go_wp2_with fail
    rw [unhide HW0]
    refine (unhide HOK).mono ?_
    rintro e w1 ⟨rfl, hb1⟩
    have HB1 := hide (unhide HFIN _ hb1)
    clear hb1
    go_wp2_with fail
    go_ret
    exact ⟨by rw [unhide HX]; rfl, unhide HB1⟩
  | true =>
    obtain ⟨hv, hl, h7⟩ := confB_l hc
    obtain ⟨-, -, hv7⟩ := confB_v hc
    have lv := numL_len v hv
    have ll := numL_len l hl
    rw [hvn] at hv7 lv
    rw [hln] at h7 ll
    have HNV := hide (fun (W : World) (hW : Below W0.heap.size W0 W) => numbersText_calls av nv cv v W (unhide HA W hW).v (by omega) hv)
    have HNL := hide (fun (W : World) (hW : Below W0.heap.size W0 W) => numbersText_calls al nl cl l W (unhide HA W hW).l (by omega) hl)
    have a1 := fun W => strAdd (a := ⟨#[118]⟩) (b := strL (numL v)) W (by rw [strL_size]; have : (⟨#[118]⟩ : ByteArray).size = 1 := rfl; omega)
    have a2 := fun W => strAdd (a := ⟨#[32, 108]⟩) (b := strL (numL l)) W (by rw [strL_size]; have : (⟨#[32, 108]⟩ : ByteArray).size = 2 := rfl; omega)
    rw [show (⟨#[118]⟩ : ByteArray) ++ strL (numL v) = strL (118 :: numL v) from strL_add [118] (numL v)] at a1
    rw [show (⟨#[32, 108]⟩ : ByteArray) ++ strL (numL l) = strL (32 :: 108 :: numL l) from strL_add [32, 108] (numL l)] at a2
    have a3 := fun W => strAdd (a := strL (118 :: numL v)) (b := strL (32 :: 108 :: numL l)) W (by rw [strL_size, strL_size, List.length_cons, List.length_cons, List.length_cons]; omega)
    rw [strL_add] at a3
    rw [hc] at HOK
    have HX := hide (show confL v l = (118 :: numL v) ++ (if l.length = 0 then [] else 32 :: 108 :: numL l) from by unfold confL; rw [hc]; rfl)
    rw [hln] at HX
    by_cases h0 : nl = 0
    · rw [if_pos h0, List.append_nil] at HX
      rw [unhide HX]
      have h0i : ¬ (0 : Int) < (nl : Int) := by omega
      generalize strL (118 :: numL v) = T1 at a1 a3
      generalize strL (numL v) = S1 at a1 HNV
      clear hc hvn hln hv hl lv ll a2 a3 HX HNL h0
      go_enter Tryd.func23, Tryd.ntmps23
      go_wp2_with fail
      rw [unhide HW0]
      refine (unhide HOK).mono ?_
      rintro e w1 ⟨rfl, hb1⟩
      obtain ⟨q0, q1⟩ := unhide HC _ hb1
      have HB1 := hide hb1
      clear hb1 c0 c1
      go_wp2_with fail
      refine (unhide HNV _ (unhide HB1)).mono ?_
      rintro e w2 ⟨rfl, hb2⟩
      have HB2 := hide (belOn (unhide HB1) hb2)
      clear q0 q1
      obtain ⟨q0, q1⟩ := unhide HC _ (unhide HB2)
      clear hb2
      go_wp2_with fail
      go_ret
      exact ⟨rfl, unhide HFIN _ (unhide HB2)⟩
    · rw [if_neg h0] at HX
      rw [unhide HX]
      have h0i : (0 : Int) < (nl : Int) := by omega
      generalize strL ((118 :: numL v) ++ (32 :: 108 :: numL l)) = T3 at a3
      generalize strL (118 :: numL v) = T1 at a1 a3
      generalize strL (32 :: 108 :: numL l) = T2 at a2 a3
      generalize strL (numL v) = S1 at a1 HNV
      generalize strL (numL l) = S2 at a2 HNL
      clear hc hvn hln hv hl lv ll HX h0
      go_enter Tryd.func23, Tryd.ntmps23
      go_wp2_with fail
      rw [unhide HW0]
      refine (unhide HOK).mono ?_
      rintro e w1 ⟨rfl, hb1⟩
      obtain ⟨q0, q1⟩ := unhide HC _ hb1
      have HB1 := hide hb1
      clear hb1 c0 c1
      go_wp2_with fail
      refine (unhide HNV _ (unhide HB1)).mono ?_
      rintro e w2 ⟨rfl, hb2⟩
      have HB2 := hide (belOn (unhide HB1) hb2)
      clear q0 q1
      obtain ⟨q0, q1⟩ := unhide HC _ (unhide HB2)
      clear hb2
      go_wp2_with fail
      refine (unhide HNL _ (unhide HB2)).mono ?_
      rintro e w3 ⟨rfl, hb3⟩
      have HB3 := hide (belOn (unhide HB2) hb3)
      clear hb3 q0 q1
      go_wp2_with fail
      go_ret
      exact ⟨rfl, unhide HFIN _ (unhide HB3)⟩
end Go.Proofs.YtiakhgafibgpgaaDoor
