/- The first line of a request, by the specification. -/
import Derived.Test.YtanekbifdedmeaaGreatDoorGAK
import Derived.Test.YtanekbifdedmeaaGreatDoorRqH
import Derived.Test.YtanekbifdedmeaaGreatDoorRrU
import Derived.Test.YtanekbifdedmeaaGreatDoorGAE
import Derived.Test.YtanekbifdedmeaaGreatDoorReqU
import Derived.Deep.DeepCutAuto
import Derived.Deep.RegionHeld3
namespace Go.Proofs.YtanekbifdedmeaaGreatDoor
open Go.RowKit Plain
set_option linter.unusedVariables false

namespace Plain
/-- What reading the first line answers. -/
def LnAns (B : Nat) (R : Option (ByteArray × ByteArray × List Hd)) (e : Ending) (w' : World) : Prop := match R with
  | none => ∃ m p a n c, e = .returned (.tuple #[.agg #[.string m, .string p, .slice a n c, .slice none 0 0, .string ⟨#[]⟩], .bool false])
  | some (m, p, qs) => ∃ a c, e = .returned (.tuple #[.agg #[.string m, .string p, .slice a qs.length c, .slice none 0 0, .string ⟨#[]⟩], .bool true]) ∧ OwnR hdrE w' B (.slice a qs.length c) qs
theorem bU_toB (l : List UInt8) : toB l = bU l := rfl
end Plain

set_option maxRecDepth 10000 in
set_option maxHeartbeats 8000000 in
theorem l16Line_calls (s : ByteArray) (w : World) (hs : s.size ≤ 100000) :
    Calls Tryz.prog 45 #[.string s] w fun e w' => LnAns w.heap.size (askF s.data.toList) e w' ∧ Below w.heap.size w w' := by
  obtain ⟨W2, hW2⟩ : ∃ W2, W2 = (w.alloc (.cells #[.string ⟨#[]⟩, .string ⟨#[]⟩, .slice none 0 0, .slice none 0 0, .string ⟨#[]⟩] 26)).alloc (.cells #[.string ⟨#[]⟩, .string ⟨#[]⟩, .slice none 0 0, .slice none 0 0, .string ⟨#[]⟩] 26) := ⟨_, rfl⟩
  have hb2 : Below w.heap.size w W2 := by rw [hW2]; exact belOn (bel1 _ _) (bel1 _ _)
  have hz2 : W2.heap.size = w.heap.size + 2 := by rw [hW2]; simp
  have hB2 : Blk W2 w.heap.size [.string ⟨#[]⟩, .string ⟨#[]⟩, .slice none 0 0, .slice none 0 0, .string ⟨#[]⟩] := by rw [hW2]; exact (Blk.new w _ _).alloc _
  have hQ2 : Blk W2 (w.heap.size + 1) [.string ⟨#[]⟩, .string ⟨#[]⟩, .slice none 0 0, .slice none 0 0, .string ⟨#[]⟩] := by
    have hn := Blk.new (w.alloc (.cells #[.string ⟨#[]⟩, .string ⟨#[]⟩, .slice none 0 0, .slice none 0 0, .string ⟨#[]⟩] 26)) [.string ⟨#[]⟩, .string ⟨#[]⟩, .slice none 0 0, .slice none 0 0, .string ⟨#[]⟩] 26
    rw [show (w.alloc (.cells #[.string ⟨#[]⟩, .string ⟨#[]⟩, .slice none 0 0, .slice none 0 0, .string ⟨#[]⟩] 26)).heap.size = w.heap.size + 1 from by simp] at hn
    rw [hW2]
    exact hn
  obtain ⟨R, hR⟩ : ∃ R, askF s.data.toList = R := ⟨_, rfl⟩
  rw [hR]
  unfold askF at hR
  have HCT := hide (l3Cut_calls s 32 W2 (by omega) (by decide))
  have hsz := splt_size 32 s.data.toList
  rw [len_dataR] at hsz
  unfold cutB at HCT
  generalize splt 32 s.data.toList = ws at hR HCT hsz
  have HB2 := hide hB2
  have HQ2 := hide hQ2
  have HBW := hide hb2
  have HW2 := hide hW2.symm
  clear hB2 hQ2 hb2 hW2
  by_cases h3 : ws.length = 3
  · obtain ⟨x1, x2, x3, rfl⟩ : ∃ a b c, ws = [a, b, c] := by
      match ws, h3 with
      | [a, b, c], _ => exact ⟨a, b, c, rfl⟩
    have hx1 := hsz x1 (by simp)
    have hx2 := hsz x2 (by simp)
    have hx3 := hsz x3 (by simp)
    rw [show wrdF [x1, x2, x3] = if x3 = httpL then some (x1, x2) else none from rfl] at hR
    simp only [List.map_cons, List.map_nil, bU_toB] at HCT
    have HR := hide hR
    clear hR hsz h3
    go_enter Tryz.func45, Tryz.ntmps45
    go_upto_region 2 with fail
    rw [unhide HW2]
    go_wp2_with fail
    refine (unhide HCT).mono ?_
    rintro e w3 ⟨v, rfl, ho, hb3⟩
    obtain ⟨a, c, hv⟩ := ho.form
    rw [show ([bU x1, bU x2, bU x3] : List ByteArray).length = 3 from rfl] at hv
    subst hv
    obtain ⟨g, rfl, hg2, hgl, p0, p1, p2⟩ := three_str ho
    have HB3 := hide ((unhide HB2).call hb3)
    have HQ3 := hide ((unhide HQ2).call hb3)
    have HBX := hide ((unhide HBW).trans (hb3.mono (unhide HBW).size))
    have hz3 : w.heap.size + 2 ≤ w3.heap.size := by have := hb3.size; omega
    obtain ⟨q0, q1, q2, q3, q4⟩ := (unhide HQ3).five
    obtain ⟨b0, b1, b2, b3, b4⟩ := (unhide HB3).five
    obtain ⟨z0, z1, z2, z3, z4⟩ := (unhide HB3).fiveZ
    clear ho hb3 HBW HB2 HQ2 HW2 HCT
    by_cases hh : x3 = httpL
    · have hcl : ((bU x3).toList == [72, 84, 84, 80, 47, 49, 46, 49]) = true := by rw [ByteArray.toList_eq, bU_data, hh]; rfl
      have hcn : ((bU x3).toList != [72, 84, 84, 80, 47, 49, 46, 49]) = false := by rw [bne, hcl]; rfl
      have hR := unhide HR
      rw [if_pos hh] at hR
      simp only at hR
      have HR2 := hide hR
      obtain ⟨y0, y1, y2, _, _⟩ := (unhide HQ3).fiveZ
      clear hR HR hh b0 b1 b2 b3 b4 z0 z1 z2 z3 z4
      go_upto_region 7 with fail
      have hQ4 : Blk ((w3.setCell ⟨w.heap.size + 1, 0, none⟩ (.string (bU x1))).setCell ⟨w.heap.size + 1, 1, none⟩ (.string (bU x2))) (w.heap.size + 1) [.string (bU x1), .string (bU x2), .slice none 0 0, .slice none 0 0, .string ⟨#[]⟩] := ((unhide HQ3).set 0 (by simp) _).set 1 (by simp) _
      have hB4 := ((unhide HB3).off (i := 0) (g := w.heap.size + 1) (by omega) (.string (bU x1))).off (i := 1) (g := w.heap.size + 1) (by omega) (.string (bU x2))
      have hp1 : ((w3.setCell ⟨w.heap.size + 1, 0, none⟩ (.string (bU x1))).setCell ⟨w.heap.size + 1, 1, none⟩ (.string (bU x2))).cell? ⟨g, 1, none⟩ = some (.string (bU x2)) := (cell_off2 (.inl (by omega))).trans ((cell_off2 (.inl (by omega))).trans p1)
      have hb4 : Below w.heap.size w ((w3.setCell ⟨w.heap.size + 1, 0, none⟩ (.string (bU x1))).setCell ⟨w.heap.size + 1, 1, none⟩ (.string (bU x2))) := ((unhide HBX).setCell (p := ⟨w.heap.size + 1, 0, none⟩) (Nat.le_succ _) _).setCell (p := ⟨w.heap.size + 1, 1, none⟩) (Nat.le_succ _) _
      have hz4 : ((w3.setCell ⟨w.heap.size + 1, 0, none⟩ (.string (bU x1))).setCell ⟨w.heap.size + 1, 1, none⟩ (.string (bU x2))).heap.size = w3.heap.size := by simp
      generalize ((w3.setCell ⟨w.heap.size + 1, 0, none⟩ (.string (bU x1))).setCell ⟨w.heap.size + 1, 1, none⟩ (.string (bU x2))) = w4 at hQ4 hB4 hp1 hb4 hz4 ⊢
      have HQ4 := hide hQ4
      have HB4 := hide hB4
      have HBX4 := hide hb4
      have hz40 : w.heap.size + 2 ≤ w4.heap.size := by omega
      have hgl4 : g < w4.heap.size := by omega
      have HF := hide (fun W => l16Find_calls (bU x2) ⟨#[63]⟩ W (by rw [bU_size]; omega) (by decide) (by decide))
      rw [ByteArray.toList_eq, bU_data, show (⟨#[63]⟩ : ByteArray).toList = [63] from by rw [ByteArray.toList_eq]] at HF
      have hR := unhide HR2
      unfold tgtF at hR
      clear HR2 HQ3 HB3 HBX hQ4 hB4 hb4 hz4 p0 p1 p2 hcl hcn q0 q1 q2 q3 q4 y0 y1 y2
      rcases ix_room [63] x2 with q | ⟨K, q, hK⟩
      · rw [q] at HF hR
        rw [if_pos (by decide)] at hR
        simp only at hR
        have HR3 := hide hR
        clear hR q
        go_upto_region 18 with (go_at_call 44; refine (unhide HF _).mono ?_; rintro e w' ⟨rfl, rfl⟩)
        have HQ7 := HQ4
        have HB7 := HB4
        have HBX7 := HBX4
        have HOW7 := hide (show OwnR hdrE w4 (w.heap.size + 2) (.slice none ([] : List Hd).length 0) [] from ownR_nil _ _ _)
        have HQL := hide (show ([] : List Hd).length = 0 from rfl)
        have HSM := hide (show smallH [] from fun x hx => absurd hx (by simp))
        have hps : (bU x2).size ≤ 1000000000000 := by rw [bU_size]; omega
--A{
        obtain ⟨q0, q1, q2, q3, q4⟩ := (unhide HQ7).five
        obtain ⟨z0, z1, z2, z3, z4⟩ := (unhide HB7).fiveZ
        obtain ⟨b0, b1, b2, b3, b4⟩ := (unhide HB7).five
        have hql : w.heap.size + 1 < w4.heap.size := by omega
        have hnl : w.heap.size < w4.heap.size := by omega
        have A0 := Grown.cell q0 hql
        have A1 := Grown.cell q1 hql
        have A2 := Grown.cell q2 hql
        have A3 := Grown.cell q3 hql
        have A4 := Grown.cell q4 hql
        have B0 := Wrt.cell (vs := [.string (bU x1), .string (bU x2), .slice none 0 0, .slice none 0 0, .string ⟨#[]⟩]) (n := w.heap.size) q0 hql (by omega)
        have B1 := Wrt.cell (vs := [.string (bU x1), .string (bU x2), .slice none 0 0, .slice none 0 0, .string ⟨#[]⟩]) (n := w.heap.size) q1 hql (by omega)
        have B2 := Wrt.cell (vs := [.string (bU x1), .string (bU x2), .slice none 0 0, .slice none 0 0, .string ⟨#[]⟩]) (n := w.heap.size) q2 hql (by omega)
        have B3 := Wrt.cell (vs := [.string (bU x1), .string (bU x2), .slice none 0 0, .slice none 0 0, .string ⟨#[]⟩]) (n := w.heap.size) q3 hql (by omega)
        have B4 := Wrt.cell (vs := [.string (bU x1), .string (bU x2), .slice none 0 0, .slice none 0 0, .string ⟨#[]⟩]) (n := w.heap.size) q4 hql (by omega)
        have HOV := hide (fun (x : Grown w4) => And.intro ((unhide HB7).call x.ok).five ((unhide HB7).call x.ok).fiveZ)
        have HWR := hide (fun (x : Grown w4) => wrt_of (unhide HB7) x (.string (bU x1)) (.string (bU x2)) (.slice none 0 0) (.slice none 0 0) (.string ⟨#[]⟩))
        have hNG : Nonempty (Grown w4) := ⟨⟨w4, Below.refl _ _⟩⟩
        have hNW : Nonempty (Wrt w4 w.heap.size [.string (bU x1), .string (bU x2), .slice none 0 0, .slice none 0 0, .string ⟨#[]⟩]) := by obtain ⟨y, _⟩ := unhide HWR ⟨w4, Below.refl _ _⟩; exact ⟨y⟩
        have HFN := hide (fun (y : Wrt w4 w.heap.size [.string (bU x1), .string (bU x2), .slice none 0 0, .slice none 0 0, .string ⟨#[]⟩]) => (unhide HBX7).trans (wrt_below y (Nat.le_refl _) (by omega)))
        have HMT := hide (fun W => mkBel (l16Method_calls (bU x1) W (by rw [bU_size]; omega)))
        have HPT := hide (fun W => l16Path_calls (bU x2) W (by omega))
        have HQG := hide (fun (x : Grown w4) => l16Query_calls none 0 0 ([] : List Hd) x.w (unhide HQL) (by omega) (unhide HSM) ((unhide HOW7).keep x.ok).at)
        have HQW := hide (fun (x : Wrt w4 w.heap.size [.string (bU x1), .string (bU x2), .slice none 0 0, .slice none 0 0, .string ⟨#[]⟩]) => l16Query_calls none 0 0 ([] : List Hd) x.w (unhide HQL) (by omega) (unhide HSM) (own_otherQ (unhide HOW7) (fun g hg => x.ok.block g (World.ownsRow.lt (unhide HOW7) g hg).2 (by have := (World.ownsRow.lt (unhide HOW7) g hg).1; show g ≠ w.heap.size; omega))).at)
        have HOF := hide (fun (x : Wrt w4 w.heap.size [.string (bU x1), .string (bU x2), .slice none 0 0, .slice none 0 0, .string ⟨#[]⟩]) => own_otherQ (unhide HOW7) (fun g hg => x.ok.block g (World.ownsRow.lt (unhide HOW7) g hg).2 (by have := (World.ownsRow.lt (unhide HOW7) g hg).1; show g ≠ w.heap.size; omega)))
        have HAB := hide (show askB (bU x1) (bU x2) ([] : List Hd) = (texB 1 10 capC (bU x1) && pathB (bU x2) && fitB qrwB ([] : List Hd)) from rfl)
        generalize texB 1 10 capC (bU x1) = g1 at HMT HAB
        generalize pathB (bU x2) = g2 at HPT HAB
        generalize fitB qrwB ([] : List Hd) = g3 at HQG HQW HAB
        generalize askB (bU x1) (bU x2) ([] : List Hd) = gg at HR3 HAB
        have hab := unhide HAB
        have hcs : (g1 = false ∧ gg = false) ∨ (g1 = true ∧ g2 = false ∧ gg = false) ∨ (g1 = true ∧ g2 = true ∧ g3 = false ∧ gg = false) ∨ (g1 = true ∧ g2 = true ∧ g3 = true ∧ gg = true) := by cases g1 <;> cases g2 <;> cases g3 <;> simp [hab]
        clear hab HAB
        clear q0 q1 q2 q3 q4 z0 z1 z2 z3 z4 b0 b1 b2 b3 b4
        rcases hcs with ⟨rfl, rfl⟩ | ⟨rfl, rfl, rfl⟩ | ⟨rfl, rfl, rfl, rfl⟩ | ⟨rfl, rfl, rfl, rfl⟩
        all_goals
          refine Reg2.region_wrote (fun w' => ∃ x : Grown w4, w' = x.w) (fun w' => ∃ x : Wrt w4 w.heap.size [.string (bU x1), .string (bU x2), .slice none 0 0, .slice none 0 0, .string ⟨#[]⟩], w' = x.w) 14 _ (by kernel_rfl) (by kernel_rfl) rfl rfl (by kernel_rfl) (by kernel_rfl) ⟨⟨{ w4 with drawn := w4.drawn + 1 }, ⟨rfl, rfl, rfl, Nat.le_refl _, fun _ _ => rfl⟩⟩, rfl⟩ ?_
          simp only [List.take_succ_cons, List.take_zero, List.drop_succ_cons, List.drop_zero]
          iterate 5 (go_big_quiet_step (first | (go_at_call 65; exact calls_grown _ (unhide HMT _))))
          iterate 4 (go_big_quiet_step (first | (go_at_call 66; exact calls_grown _ (unhide HPT _))))
          iterate 5 (go_big_quiet_step (first | (go_at_call 67; exact calls_grown _ (unhide HQG _))))
          refine wpQuiet_nil ⟨?_, by kernel_rfl, ?_, ?_⟩
          · iterate 5 (go_big_quiet_step (first | (go_at_call 65; exact calls_wrt _ (unhide HMT _))))
            iterate 4 (go_big_quiet_step (first | (go_at_call 66; exact calls_wrt _ (unhide HPT _))))
            iterate 5 (go_big_quiet_step (first | (go_at_call 67; exact calls_wrt _ (unhide HQW _))))
            exact wpQuiet_nil rfl
          · rintro _ ⟨x, rfl⟩
            obtain ⟨⟨b0, b1, b2, b3, b4⟩, z0, z1, z2, z3, z4⟩ := unhide HOV x
            obtain ⟨y, hy⟩ := unhide HWR x
            refine ⟨_, ?_, ⟨y, hy⟩⟩
            simp [go_sem, b0, b1, b2, b3, b4, z0, z1, z2, z3, z4]
          · repeat (go_big_quiet_step (fail))
            refine wpQuiet_nil ⟨?_, ?_⟩
            · repeat (go_big_quiet_step (fail))
              exact wpQuiet_nil rfl
            · rintro _ ⟨y, rfl⟩
              obtain ⟨y0, y1, y2, y3, y4⟩ := y.blk.five
              go_wp2_with fail
              first
                | (refine bodyPost_ret (v := .tuple #[.agg #[.string (bU x1), .string (bU x2), .slice none 0 0, .slice none 0 0, .string ⟨#[]⟩], .bool false]) ?_ rfl ⟨?_, unhide HFN y⟩
                   · simp [results, Tryz.results45, go_sem, y0, y1, y2, y3, y4]
                     done
                   · rw [← unhide HR3, if_neg (by decide)]
                     exact ⟨_, _, _, _, _, rfl⟩)
                | (refine bodyPost_ret (v := .tuple #[.agg #[.string (bU x1), .string (bU x2), .slice none 0 0, .slice none 0 0, .string ⟨#[]⟩], .bool true]) ?_ rfl ⟨?_, unhide HFN y⟩
                   · simp [results, Tryz.results45, go_sem, y0, y1, y2, y3, y4]
                     done
                   · rw [← unhide HR3]
                     first | rw [if_pos trivial] | rw [if_pos rfl]
                     exact ⟨none, 0, rfl, own_lowQ (unhide HOF y) (by omega)⟩)
--}A
      · have hKs : K + 1 ≤ x2.length := hK
        rw [q] at HF hR
        rw [if_neg (by omega), Int.toNat_natCast] at hR
        have e1 : (bU x2).extract 0 K = bU (x2.take K) := bU_of (by rw [extR_take, bU_data])
        have e2 : (bU x2).extract (K + 1) (bU x2).size = bU (x2.drop (K + 1)) := bU_of (by rw [ext_drop, bU_data])
        have hpl : (x2.take K).length ≤ s.size := by rw [List.length_take]; omega
        have hdl : (x2.drop (K + 1)).length ≤ s.size := by rw [List.length_drop]; omega
        have HCQ := hide (fun W => l3Cut_calls (bU (x2.drop (K + 1))) 38 W (by rw [bU_size]; omega) (by decide))
        unfold cutB at HCQ
        rw [bU_data] at HCQ
        have hss : ∀ x ∈ splt 38 (x2.drop (K + 1)), x.length ≤ s.size := fun x hx => by have := splt_size 38 (x2.drop (K + 1)) x hx; omega
        have hsn := splt_len 38 (x2.drop (K + 1))
        generalize splt 38 (x2.drop (K + 1)) = ls at hR HCQ hss hsn
        generalize x2.take K = pt at e1 hR hpl
        rw [← e2] at HCQ
        have hbz : (bU x2).size = x2.length := bU_size x2
        obtain ⟨J, hJ⟩ : ∃ J : Nat, K + 1 = J := ⟨_, rfl⟩
        have hw : IntKind.i64.wrap ((K : Int) + 1) = (J : Int) := by rw [IntKind.wrap_i64]; omega
        have k0 : (0 : Int) ≤ (K : Int) := by omega
        have k1 : (K : Int) ≤ ((bU x2).size : Int) := by omega
        have j0 : (0 : Int) ≤ (J : Int) := by omega
        have j1 : (J : Int) ≤ ((bU x2).size : Int) := by omega
        rw [hJ] at HCQ
        have HR3 := hide hR
        have E1 := hide e1
        obtain ⟨z0, z1, z2, _, _⟩ := (unhide HQ4).fiveZ
        obtain ⟨q0, q1, q2, q3, q4⟩ := (unhide HQ4).five
        have hsn2 : ls.length ≤ s.size + 1 := by omega
        clear hR q hK e1 e2 hJ hKs hbz hdl hsn
        go_upto_region 10 with (go_at_call 44; refine (unhide HF _).mono ?_; rintro e w' ⟨rfl, rfl⟩)
        rw [unhide E1]
        have hQ5 := (unhide HQ4).set 1 (by simp) (.string (bU pt))
        have hB5 := (unhide HB4).off (i := 1) (g := w.heap.size + 1) (by omega) (.string (bU pt))
        have hp5 : (w4.setCell ⟨w.heap.size + 1, 1, none⟩ (.string (bU pt))).cell? ⟨g, 1, none⟩ = some (.string (bU x2)) := (cell_off2 (.inl (by omega))).trans hp1
        have hb5 := (unhide HBX4).setCell (p := ⟨w.heap.size + 1, 1, none⟩) (Nat.le_succ _) (.string (bU pt))
        have hz5 : (w4.setCell ⟨w.heap.size + 1, 1, none⟩ (.string (bU pt))).heap.size = w4.heap.size := by simp
        generalize (w4.setCell ⟨w.heap.size + 1, 1, none⟩ (.string (bU pt))) = w5 at hQ5 hB5 hp5 hb5 hz5 ⊢
        have HQ5 := hide hQ5
        have HB5 := hide hB5
        have HBX5 := hide hb5
        clear hQ5 hB5 hb5 q0 q1 q2 q3 q4 z0 z1 z2 hp1 HQ4 HB4 HBX4
        go_wp2_with fail
        refine (unhide HCQ w5).mono ?_
        rintro e w6 ⟨v, rfl, ho, hb6⟩
        obtain ⟨pa, pc, rfl⟩ := ho.form
        obtain ⟨n, hn⟩ : ∃ n, (ls.map toB).length = n := ⟨_, rfl⟩
        rw [hn] at ho ⊢
        have hnl : ls.length = n := by rw [← hn, List.length_map]
        have HNL := hide hnl
        have HPO := hide ho
        have HQ6 := hide ((unhide HQ5).call hb6)
        have HB6 := hide ((unhide HB5).call hb6)
        have HBX6 := hide ((unhide HBX5).trans (hb6.mono (unhide HBX5).size))
        have hz6 : w.heap.size + 2 ≤ w6.heap.size := by have := hb6.size; omega
        have hz56 : w.heap.size + 2 ≤ w5.heap.size := by omega
        have hn1 : n ≤ s.size + 1 := by omega
        have HSS := hide hss
        clear ho hb6 hn hnl hp5 HQ5 HB5 HBX5 hss
        go_wp2_with fail
        go_loopw [8, 9] (fun s8 s9 wr => ∃ (k m : Nat) (done : List Hd) (qa : Option Addr) (qc : Nat), s8 = .int .i64 k ∧ k ≤ n ∧ m ≤ k ∧ Hid (done.length = m) ∧ Hid (smallH done) ∧ Hid (qryA done (ls.drop k) = qryF ls) ∧ Hid (Blk wr (w.heap.size + 1) [.string (bU x1), .string (bU pt), .slice qa m qc, .slice none 0 0, .string ⟨#[]⟩]) ∧ Hid (OwnR hdrE wr w6.heap.size (.slice qa m qc) done) ∧ Hid (OnlyP (fun b => b = w.heap.size + 1) w6 wr)) (fun s8 _ _ => n - (intOf s8).toNat)
        case atStart => exact ⟨0, 0, [], none, 0, rfl, by omega, by omega, hide rfl, hide (fun x hx => absurd hx (by simp)), hide (by rw [List.drop_zero, qryA_start]), HQ6, hide (ownR_nil _ _ _), hide ⟨rfl, rfl, rfl, Nat.le_refl _, fun _ _ _ => rfl⟩⟩
        case round =>
          obtain ⟨k, m, done, qa, qc, rfl, hk, hmk, HQL, HSM, HST, HQ7, HOW, HO⟩ := hrel
          obtain ⟨wm, rfl⟩ : ∃ wm, wm = wr := ⟨_, rfl⟩
          by_cases hkn : k < n
          · have hkl : k < ls.length := by rw [unhide HNL]; exact hkn
            have hst := unhide HST
            rw [List.drop_eq_getElem_cons hkl] at hst
            have hl := unhide HSS ls[k] (List.getElem_mem hkl)
            have hpo := own_otherQ (unhide HPO) (fun b hb => (unhide HO).block b (World.ownsRow.lt (unhide HPO) b hb).2 (by have := (World.ownsRow.lt (unhide HPO) b hb).1; show ¬ (b = w.heap.size + 1); omega))
            obtain ⟨gp, rfl, hgp, pk, _⟩ := hpo.at.str k (by rw [List.length_map]; exact hkl)
            rw [List.getElem_map, bU_toB] at pk
            have hgb := (World.ownsRow.lt (unhide HPO) gp rfl)
            have hlz : (bU ls[k]).size ≤ 1000000 := by rw [bU_size]; omega
            generalize ls[k] = l at hst pk hl hlz
            have HF2 := hide (fun W => l16Find_calls (bU l) ⟨#[61]⟩ W hlz (by decide) (by decide))
            rw [ByteArray.toList_eq, bU_data, show (⟨#[61]⟩ : ByteArray).toList = [61] from by rw [ByteArray.toList_eq]] at HF2
            have i0 : (0 : Int) ≤ (k : Int) := by omega
            have i1 : (k : Int) < (n : Int) := by omega
            have hzr := (unhide HO).size
            have HB7 := hide (show Blk wm w.heap.size [.string ⟨#[]⟩, .string ⟨#[]⟩, .slice none 0 0, .slice none 0 0, .string ⟨#[]⟩] from ⟨by omega, fun i hi => (World.cell?_of_block (a := ⟨w.heap.size, i, none⟩) ((unhide HO).block w.heap.size (by omega) (by show ¬ (w.heap.size = w.heap.size + 1); omega))).trans ((unhide HB6).c i hi), fun i hi => (World.frozen?_of_block (a := ⟨w.heap.size, i, none⟩) ((unhide HO).block w.heap.size (by omega) (by show ¬ (w.heap.size = w.heap.size + 1); omega))).trans ((unhide HB6).f i hi)⟩)
            have HBX7 := hide ((unhide HBX6).trans ((unhide HO).below (B := w.heap.size) (fun g hg => by omega) (unhide HBX6).size))
            obtain ⟨q0, q1, q2, q3, q4⟩ := (unhide HQ7).five
            clear hpo hkl HST
            rcases ix_room [61] l with qq | ⟨K2, qq, hK2⟩
            · rw [qq] at HF2
              rw [qryA_no qq] at hst
              have hR := unhide HR3
              rw [← hst] at hR
              simp only at hR
              have HX := hide hR.symm
              obtain ⟨b0, b1, b2, b3, b4⟩ := (unhide HB7).five
              obtain ⟨z0, z1, z2, z3, z4⟩ := (unhide HB7).fiveZ
              obtain ⟨r0, r1, r2, r3, r4⟩ := (out5_blk (unhide HB7) (.string (bU x1)) (.string (bU pt)) (.slice qa m qc) (.slice none 0 0) (.string ⟨#[]⟩)).five
              unfold out5 at r0 r1 r2 r3 r4
              clear hst hR HR3 qq
              go_wp2_with (go_at_call 44; refine (unhide HF2 _).mono ?_; rintro e w' ⟨rfl, rfl⟩)
              exact bodyPost_ret (v := .tuple #[.agg #[.string (bU x1), .string (bU pt), .slice qa m qc, .slice none 0 0, .string ⟨#[]⟩], .bool false]) (by simp [results, Tryz.results45, go_sem, r0, r1, r2, r3, r4]) rfl ⟨by rw [unhide HX]; exact ⟨_, _, _, _, _, rfl⟩, (unhide HBX7).trans (out5_below _ _ _ _ _ _ _)⟩
            · have hK3 : K2 + 1 ≤ l.length := hK2
              rw [qq] at HF2
              rw [qryA_yes qq] at hst
              have f1 : (bU l).extract 0 K2 = bU (l.take K2) := bU_of (by rw [extR_take, bU_data])
              have f2 : (bU l).extract (K2 + 1) (bU l).size = bU (l.drop (K2 + 1)) := bU_of (by rw [ext_drop, bU_data])
              have g1 : (bU (l.take K2)).size ≤ 1000000 := by rw [bU_size, List.length_take]; omega
              have g2 : (bU (l.drop (K2 + 1))).size ≤ 1000000 := by rw [bU_size, List.length_drop]; omega
              rw [← f1, ← f2] at hst
              rw [← f1] at g1
              rw [← f2] at g2
              have hbz : (bU l).size = l.length := bU_size l
              obtain ⟨J2, hJ⟩ : ∃ J : Nat, K2 + 1 = J := ⟨_, rfl⟩
              have hw2 : IntKind.i64.wrap ((K2 : Int) + 1) = (J2 : Int) := by rw [IntKind.wrap_i64]; omega
              have k20 : (0 : Int) ≤ (K2 : Int) := by omega
              have k21 : (K2 : Int) ≤ ((bU l).size : Int) := by omega
              have j20 : (0 : Int) ≤ (J2 : Int) := by omega
              have j21 : (J2 : Int) ≤ ((bU l).size : Int) := by omega
              rw [hJ] at hst g2
              have HOd := hide (show OwnR hdrE wm.drew w6.heap.size (.slice qa m qc) done from unhide HOW)
              have hlen : done.length < 100000000 := by rw [unhide HQL]; omega
              have hzd : w6.heap.size ≤ wm.drew.heap.size := hzr
              have hql : w.heap.size + 1 < wm.heap.size := by omega
              have hgpl : gp < wm.heap.size := by omega
              have zq : wm.frozen? ⟨w.heap.size + 1, 2, none⟩ = false := (unhide HQ7).f 2 (by simp)
              have u2 := bcl (bel1 wm.drew (.cells #[.string ((bU l).extract 0 K2), .string ((bU l).extract J2 (bU l).size)] 45)) (show w.heap.size + 1 < wm.drew.heap.size from hql) (show wm.drew.cell? ⟨w.heap.size + 1, 2, none⟩ = some (.slice qa m qc) from q2)
              have HST2 := hide hst
              have HSM2 := hide (show smallH (done ++ [(((bU l).extract 0 K2), ((bU l).extract J2 (bU l).size))]) from fun x hx => by
                rcases List.mem_append.1 hx with q | q
                · exact unhide HSM x q
                · rw [List.mem_singleton.1 q]
                  exact ⟨by simp only; omega, by simp only; omega⟩)
              have HL2 := hide (show (done ++ [(((bU l).extract 0 K2), ((bU l).extract J2 (bU l).size))]).length = m + 1 from by rw [List.length_append, unhide HQL]; rfl)
              clear hst qq hK3 hbz hJ hK2 hlz hl g1 g2 f1 f2
              go_upto_region 17 with (go_at_call 44; refine (unhide HF2 _).mono ?_; rintro e w' ⟨rfl, rfl⟩)
              have L2 : (done ++ [(((bU l).extract 0 K2), ((bU l).extract J2 (bU l).size))]).length = m + 1 := unhide HL2
              have HLQ := hide L2
              clear L2
              go_region_law (refine stepGG (e := hdrE) rfl _ _ rfl (w := wm.drew) (unhide HOd) (by simp [Act.eval]) (((bU l).extract 0 K2), ((bU l).extract J2 (bU l).size)) rfl _ (by simp [Act.eval]) rfl hlen hzd ?_; intro v' w8 hown8 hb8 hg8; obtain ⟨a8, k8, hv8⟩ := hown8.form; rw [unhide HLQ] at hv8; subst hv8; have HK8 := hide (And.intro hown8 (And.intro hb8 hg8)); have c8 := bcl hb8 (show w.heap.size + 1 < w6.heap.size by omega) q2; have z8 : w8.frozen? ⟨w.heap.size + 1, 2, none⟩ = false := (hb8.frozen (p := ⟨w.heap.size + 1, 2, none⟩) (show w.heap.size + 1 < w6.heap.size by omega)).trans zq; clear hown8 hb8 hg8)
              all_goals (try go_wp2_with fail)
              all_goals
                obtain ⟨P1, P2, P3⟩ := pair_fin (show w.heap.size + 1 < w6.heap.size by omega) (unhide HQ7) (unhide HO) (unhide HK8)
                exact ⟨⟨k + 1, m + 1, done ++ [(((bU l).extract 0 K2), ((bU l).extract J2 (bU l).size))], a8, k8, by go_num, by omega, by omega, HLQ, HSM2, HST2, P1, P2, P3⟩, by simp [intOf]; omega⟩
          · obtain rfl : k = n := by omega
            have hst := unhide HST
            rw [List.drop_of_length_le (by rw [unhide HNL]; exact Nat.le_refl _), qryA_nil] at hst
            have hR := unhide HR3
            rw [← hst] at hR
            simp only at hR
            have HR3 := hide hR
            have hzr := (unhide HO).size
            have HB7 := hide (show Blk wm w.heap.size [.string ⟨#[]⟩, .string ⟨#[]⟩, .slice none 0 0, .slice none 0 0, .string ⟨#[]⟩] from ⟨by omega, fun i hi => (World.cell?_of_block (a := ⟨w.heap.size, i, none⟩) ((unhide HO).block w.heap.size (by omega) (by show ¬ (w.heap.size = w.heap.size + 1); omega))).trans ((unhide HB6).c i hi), fun i hi => (World.frozen?_of_block (a := ⟨w.heap.size, i, none⟩) ((unhide HO).block w.heap.size (by omega) (by show ¬ (w.heap.size = w.heap.size + 1); omega))).trans ((unhide HB6).f i hi)⟩)
            have HBX7 := hide ((unhide HBX6).trans ((unhide HO).below (B := w.heap.size) (fun g hg => by omega) (unhide HBX6).size))
            have HOW7 := hide (own_lowQ (unhide HOW) (show w.heap.size + 2 ≤ w6.heap.size from hz6))
            have hps : (bU pt).size ≤ 1000000000000 := by rw [bU_size]; omega
            clear hst hR HST HOW
            go_upto_region 18 with fail
--A{
            obtain ⟨q0, q1, q2, q3, q4⟩ := (unhide HQ7).five
            obtain ⟨z0, z1, z2, z3, z4⟩ := (unhide HB7).fiveZ
            obtain ⟨b0, b1, b2, b3, b4⟩ := (unhide HB7).five
            have hql : w.heap.size + 1 < wm.heap.size := by omega
            have hnl : w.heap.size < wm.heap.size := by omega
            have A0 := Grown.cell q0 hql
            have A1 := Grown.cell q1 hql
            have A2 := Grown.cell q2 hql
            have A3 := Grown.cell q3 hql
            have A4 := Grown.cell q4 hql
            have B0 := Wrt.cell (vs := [.string (bU x1), .string (bU pt), .slice qa m qc, .slice none 0 0, .string ⟨#[]⟩]) (n := w.heap.size) q0 hql (by omega)
            have B1 := Wrt.cell (vs := [.string (bU x1), .string (bU pt), .slice qa m qc, .slice none 0 0, .string ⟨#[]⟩]) (n := w.heap.size) q1 hql (by omega)
            have B2 := Wrt.cell (vs := [.string (bU x1), .string (bU pt), .slice qa m qc, .slice none 0 0, .string ⟨#[]⟩]) (n := w.heap.size) q2 hql (by omega)
            have B3 := Wrt.cell (vs := [.string (bU x1), .string (bU pt), .slice qa m qc, .slice none 0 0, .string ⟨#[]⟩]) (n := w.heap.size) q3 hql (by omega)
            have B4 := Wrt.cell (vs := [.string (bU x1), .string (bU pt), .slice qa m qc, .slice none 0 0, .string ⟨#[]⟩]) (n := w.heap.size) q4 hql (by omega)
            have HOV := hide (fun (x : Grown wm) => And.intro ((unhide HB7).call x.ok).five ((unhide HB7).call x.ok).fiveZ)
            have HWR := hide (fun (x : Grown wm) => wrt_of (unhide HB7) x (.string (bU x1)) (.string (bU pt)) (.slice qa m qc) (.slice none 0 0) (.string ⟨#[]⟩))
            have hNG : Nonempty (Grown wm) := ⟨⟨wm, Below.refl _ _⟩⟩
            have hNW : Nonempty (Wrt wm w.heap.size [.string (bU x1), .string (bU pt), .slice qa m qc, .slice none 0 0, .string ⟨#[]⟩]) := by obtain ⟨y, _⟩ := unhide HWR ⟨wm, Below.refl _ _⟩; exact ⟨y⟩
            have HFN := hide (fun (y : Wrt wm w.heap.size [.string (bU x1), .string (bU pt), .slice qa m qc, .slice none 0 0, .string ⟨#[]⟩]) => (unhide HBX7).trans (wrt_below y (Nat.le_refl _) (by omega)))
            have HMT := hide (fun W => mkBel (l16Method_calls (bU x1) W (by rw [bU_size]; omega)))
            have HPT := hide (fun W => l16Path_calls (bU pt) W (by omega))
            have HQG := hide (fun (x : Grown wm) => l16Query_calls qa m qc done x.w (unhide HQL) (by omega) (unhide HSM) ((unhide HOW7).keep x.ok).at)
            have HQW := hide (fun (x : Wrt wm w.heap.size [.string (bU x1), .string (bU pt), .slice qa m qc, .slice none 0 0, .string ⟨#[]⟩]) => l16Query_calls qa m qc done x.w (unhide HQL) (by omega) (unhide HSM) (own_otherQ (unhide HOW7) (fun g hg => x.ok.block g (World.ownsRow.lt (unhide HOW7) g hg).2 (by have := (World.ownsRow.lt (unhide HOW7) g hg).1; show g ≠ w.heap.size; omega))).at)
            have HOF := hide (fun (x : Wrt wm w.heap.size [.string (bU x1), .string (bU pt), .slice qa m qc, .slice none 0 0, .string ⟨#[]⟩]) => own_otherQ (unhide HOW7) (fun g hg => x.ok.block g (World.ownsRow.lt (unhide HOW7) g hg).2 (by have := (World.ownsRow.lt (unhide HOW7) g hg).1; show g ≠ w.heap.size; omega)))
            have HAB := hide (show askB (bU x1) (bU pt) done = (texB 1 10 capC (bU x1) && pathB (bU pt) && fitB qrwB done) from rfl)
            generalize texB 1 10 capC (bU x1) = g1 at HMT HAB
            generalize pathB (bU pt) = g2 at HPT HAB
            generalize fitB qrwB done = g3 at HQG HQW HAB
            generalize askB (bU x1) (bU pt) done = gg at HR3 HAB
            have hab := unhide HAB
            have hcs : (g1 = false ∧ gg = false) ∨ (g1 = true ∧ g2 = false ∧ gg = false) ∨ (g1 = true ∧ g2 = true ∧ g3 = false ∧ gg = false) ∨ (g1 = true ∧ g2 = true ∧ g3 = true ∧ gg = true) := by cases g1 <;> cases g2 <;> cases g3 <;> simp [hab]
            clear hab HAB
            clear q0 q1 q2 q3 q4 z0 z1 z2 z3 z4 b0 b1 b2 b3 b4
            rcases hcs with ⟨rfl, rfl⟩ | ⟨rfl, rfl, rfl⟩ | ⟨rfl, rfl, rfl, rfl⟩ | ⟨rfl, rfl, rfl, rfl⟩
            all_goals
              refine Reg2.region_wrote (fun w' => ∃ x : Grown wm, w' = x.w) (fun w' => ∃ x : Wrt wm w.heap.size [.string (bU x1), .string (bU pt), .slice qa m qc, .slice none 0 0, .string ⟨#[]⟩], w' = x.w) 14 _ (by kernel_rfl) (by kernel_rfl) rfl rfl (by kernel_rfl) (by kernel_rfl) ⟨⟨{ wm with drawn := wm.drawn + 1 }, ⟨rfl, rfl, rfl, Nat.le_refl _, fun _ _ => rfl⟩⟩, rfl⟩ ?_
              simp only [List.take_succ_cons, List.take_zero, List.drop_succ_cons, List.drop_zero]
              iterate 5 (go_big_quiet_step (first | (go_at_call 65; exact calls_grown _ (unhide HMT _))))
              iterate 4 (go_big_quiet_step (first | (go_at_call 66; exact calls_grown _ (unhide HPT _))))
              iterate 5 (go_big_quiet_step (first | (go_at_call 67; exact calls_grown _ (unhide HQG _))))
              refine wpQuiet_nil ⟨?_, by kernel_rfl, ?_, ?_⟩
              · iterate 5 (go_big_quiet_step (first | (go_at_call 65; exact calls_wrt _ (unhide HMT _))))
                iterate 4 (go_big_quiet_step (first | (go_at_call 66; exact calls_wrt _ (unhide HPT _))))
                iterate 5 (go_big_quiet_step (first | (go_at_call 67; exact calls_wrt _ (unhide HQW _))))
                exact wpQuiet_nil rfl
              · rintro _ ⟨x, rfl⟩
                obtain ⟨⟨b0, b1, b2, b3, b4⟩, z0, z1, z2, z3, z4⟩ := unhide HOV x
                obtain ⟨y, hy⟩ := unhide HWR x
                refine ⟨_, ?_, ⟨y, hy⟩⟩
                simp [go_sem, b0, b1, b2, b3, b4, z0, z1, z2, z3, z4]
              · repeat (go_big_quiet_step (fail))
                refine wpQuiet_nil ⟨?_, ?_⟩
                · repeat (go_big_quiet_step (fail))
                  exact wpQuiet_nil rfl
                · rintro _ ⟨y, rfl⟩
                  obtain ⟨y0, y1, y2, y3, y4⟩ := y.blk.five
                  go_wp2_with fail
                  first
                    | (refine bodyPost_ret (v := .tuple #[.agg #[.string (bU x1), .string (bU pt), .slice qa m qc, .slice none 0 0, .string ⟨#[]⟩], .bool false]) ?_ rfl ⟨?_, unhide HFN y⟩
                       · simp [results, Tryz.results45, go_sem, y0, y1, y2, y3, y4]
                         done
                       · rw [← unhide HR3, if_neg (by decide)]
                         exact ⟨_, _, _, _, _, rfl⟩)
                    | (refine bodyPost_ret (v := .tuple #[.agg #[.string (bU x1), .string (bU pt), .slice qa m qc, .slice none 0 0, .string ⟨#[]⟩], .bool true]) ?_ rfl ⟨?_, unhide HFN y⟩
                       · simp [results, Tryz.results45, go_sem, y0, y1, y2, y3, y4]
                         done
                       · rw [← unhide HR3]
                         first | rw [if_pos trivial] | rw [if_pos rfl]
                         exact ⟨qa, qc, by rw [unhide HQL], by rw [unhide HQL]; exact own_lowQ (unhide HOF y) (by omega)⟩)
--}A
    · have hcl : ((bU x3).toList == [72, 84, 84, 80, 47, 49, 46, 49]) = false := by rw [ByteArray.toList_eq, bU_data]; exact beq_eq_false_iff_ne.2 hh
      have hcn : ((bU x3).toList != [72, 84, 84, 80, 47, 49, 46, 49]) = true := by rw [bne, hcl]; rfl
      have hR := unhide HR
      rw [if_neg hh] at hR
      simp only at hR
      have HX := hide hR.symm
      obtain ⟨r0, r1, r2, r3, r4⟩ := (out5_blk (unhide HB3) (.string ⟨#[]⟩) (.string ⟨#[]⟩) (.slice none 0 0) (.slice none 0 0) (.string ⟨#[]⟩)).five
      unfold out5 at r0 r1 r2 r3 r4
      clear hR HR hh
      go_wp2_with fail
      exact bodyPost_ret (v := .tuple #[.agg #[.string ⟨#[]⟩, .string ⟨#[]⟩, .slice none 0 0, .slice none 0 0, .string ⟨#[]⟩], .bool false]) (by simp [results, Tryz.results45, go_sem, r0, r1, r2, r3, r4]) rfl ⟨by rw [unhide HX]; exact ⟨_, _, _, _, _, rfl⟩, (unhide HBX).trans (out5_below _ _ _ _ _ _ _)⟩
  · have HX := hide (hR.symm.trans (by rw [wrdF_no h3]))
    have hlen : (ws.map toB).length ≠ 3 := by rw [List.length_map]; exact h3
    generalize ws.map toB = ts at HCT hlen
    clear hR h3 hsz
    go_enter Tryz.func45, Tryz.ntmps45
    go_upto_region 2 with fail
    rw [unhide HW2]
    go_wp2_with fail
    refine (unhide HCT).mono ?_
    rintro e w3 ⟨v, rfl, ho, hb3⟩
    obtain ⟨a, c, rfl⟩ := ho.form
    obtain ⟨L, hL⟩ : ∃ L, ts.length = L := ⟨_, rfl⟩
    rw [hL]
    have hne : ((L : Int) != 3) = true := by rw [bne_iff_ne]; omega
    have HB3 := hide ((unhide HB2).call hb3)
    obtain ⟨q0, q1, q2, q3, q4⟩ := ((unhide HQ2).call hb3).five
    obtain ⟨b0, b1, b2, b3, b4⟩ := (unhide HB3).five
    obtain ⟨z0, z1, z2, z3, z4⟩ := (unhide HB3).fiveZ
    obtain ⟨r0, r1, r2, r3, r4⟩ := (out5_blk (unhide HB3) (.string ⟨#[]⟩) (.string ⟨#[]⟩) (.slice none 0 0) (.slice none 0 0) (.string ⟨#[]⟩)).five
    unfold out5 at r0 r1 r2 r3 r4
    have HBX := hide ((unhide HBW).trans (hb3.mono (unhide HBW).size))
    clear ho hb3 hL hlen
    go_wp2_with fail
    exact bodyPost_ret (v := .tuple #[.agg #[.string ⟨#[]⟩, .string ⟨#[]⟩, .slice none 0 0, .slice none 0 0, .string ⟨#[]⟩], .bool false]) (by simp [results, Tryz.results45, go_sem, r0, r1, r2, r3, r4]) rfl ⟨by rw [unhide HX]; exact ⟨_, _, _, _, _, rfl⟩, (unhide HBX).trans (out5_below _ _ _ _ _ _ _)⟩
end Go.Proofs.YtanekbifdedmeaaGreatDoor
