/- Texts of one kind, put together. -/
import Derived.Test.YtanekbifdedmeaaGreatDoorGAA
import Derived.Lib.IndexLaws
import Derived.Deep.DeepCutAuto
import Derived.Test.YtanekbifdedmeaaGreatDoorRrT
import Derived.Test.YtanekbifdedmeaaGreatDoorReqU
import Derived.Test.YtanekbifdedmeaaGreatDoorGAE
import Derived.Deep.RegionHeld3
import Derived.Deep.RegionLaw

/- Where a piece first stands in a text, by the specification. -/
namespace Go.Proofs.YtanekbifdedmeaaGreatDoor
open Go.RowKit Plain
set_option linter.unusedVariables false

theorem extR_list (s : ByteArray) (i j : Nat) : (s.extract i j).toList = (s.toList.drop i).take (j - i) := by
  rw [ByteArray.toList_eq, ByteArray.toList_eq, ByteArray.data_extract, Array.toList_extract]
theorem occ_ext (s p : ByteArray) (i : Nat) (h : i + p.size ≤ s.size) : Lib.occAt s.toList p.toList i = ((s.extract i (i + p.size)).toList == p.toList) := by
  rw [Lib.occAt_iff_take _ _ _ (by rw [show p.toList.length = p.size from by rw [ByteArray.toList_eq]; rfl, show s.toList.length = s.size from by rw [ByteArray.toList_eq]; rfl]; exact h), extR_list, Nat.add_sub_cancel_left]
  rw [show p.toList.length = p.size from by rw [ByteArray.toList_eq]; rfl]

set_option maxHeartbeats 2000000 in
theorem l16Find_calls (s p : ByteArray) (w : World) (hs : s.size ≤ 1000000) (h1 : 1 ≤ p.size) (h2 : p.size ≤ 1000) :
    Calls Tryz.prog 44 #[.string s, .string p] w fun e w' => e = .returned (.int .i64 (Lib.index s.toList p.toList)) ∧ w = w' := by
  have hls : s.toList.length = s.size := by rw [ByteArray.toList_eq]; rfl
  have hlp : p.toList.length = p.size := by rw [ByteArray.toList_eq]; rfl
  go_enter Tryz.func44, Tryz.ntmps44
  go_wp2_with fail
  go_loopw [5] (fun s5 wr => ∃ i : Nat, s5 = .int .i64 i ∧ i ≤ s.size + 1 ∧ Hid (Lib.NoOcc s.toList p.toList i) ∧ w = wr) (fun s5 _ => s.size + 2 - (intOf s5).toNat)
  case atStart => exact ⟨0, rfl, by omega, hide (Lib.NoOcc.zero _ _), rfl⟩
  case round =>
    obtain ⟨i, rfl, hi, HN, rfl⟩ := hrel
    by_cases hin : i + p.size ≤ s.size
    · have i0 : (i : Int) + (p.size : Int) ≤ (s.size : Int) := by omega
      have i1 : (0 : Int) ≤ (i : Int) := by omega
      have ho := occ_ext s p i hin
      cases hb : ((s.extract i (i + p.size)).toList == p.toList) with
      | true =>
        rw [hb] at ho
        have hx := Lib.index_hit (unhide HN) (by rw [hls]; omega) ho
        have HX := hide hx
        clear hx ho
        go_wp2_with fail
        go_ret
        exact ⟨by rw [unhide HX]; rfl, rfl⟩
      | false =>
        rw [hb] at ho
        have HN2 := hide ((unhide HN).succ ho)
        clear ho
        go_wp2_with fail
        go_roundw
        case rel => exact ⟨i + 1, by go_num, by omega, HN2, trivial⟩
        case measure => simp [intOf]; omega
    · have hx := Lib.index_past (s := s.toList) (sub := p.toList) (i := i) (fun q => by rw [q] at hlp; simp at hlp; omega) (unhide HN) (by rw [hls, hlp]; omega)
      have HX := hide hx
      have i0 : ¬ ((i : Int) + (p.size : Int) ≤ (s.size : Int)) := by omega
      clear hx
      go_wp2_with fail
      go_ret
      exact ⟨by rw [unhide HX]; rfl, rfl⟩
end Go.Proofs.YtanekbifdedmeaaGreatDoor


/- The fields of a head, by the specification. -/
namespace Go.Proofs.YtanekbifdedmeaaGreatDoor
open Go.RowKit Plain
set_option linter.unusedVariables false

namespace Plain
theorem ix_room (p : List UInt8) : ∀ s : List UInt8, Lib.index s p = -1 ∨ ∃ k : Nat, Lib.index s p = k ∧ k + p.length ≤ s.length
  | [] => by
    unfold Lib.index
    split
    · rename_i h
      rw [List.isEmpty_iff] at h
      exact .inr ⟨0, rfl, by rw [h]; exact Nat.le_refl _⟩
    · exact .inl rfl
  | x :: t => by
    rw [ix_cons]
    split
    · rename_i h
      rw [List.isPrefixOf_iff_prefix] at h
      have := h.length_le
      exact .inr ⟨0, rfl, by simpa using this⟩
    · rcases ix_room p t with h | ⟨k, h, h2⟩
      · rw [h]; exact .inl rfl
      · right
        refine ⟨k + 1, ?_, by simp; omega⟩
        have hb : (Lib.index t p == -1) = false := by rw [beq_eq_false_iff_ne]; omega
        rw [hb]
        simp only [Bool.false_eq_true, if_false]
        omega
theorem extR_take (s : ByteArray) (k : Nat) : (s.extract 0 k).data.toList = s.data.toList.take k := by
  rw [ByteArray.data_extract, Array.toList_extract, List.extract_eq_take_drop, List.drop_zero, Nat.sub_zero]
theorem ext_drop (s : ByteArray) (k : Nat) : (s.extract k s.size).data.toList = s.data.toList.drop k := by
  rw [ByteArray.data_extract, Array.toList_extract, List.extract_eq_take_drop, List.take_of_length_le (by rw [List.length_drop]; simp)]
def dl (ls : List ByteArray) : List (List UInt8) := ls.map fun s => s.data.toList
/-- What a head's lines are answered with. -/
def FldPost (B : Nat) (R : Option St) (e : Ending) (w' : World) : Prop := match R with
  | none => ∃ v l, e = .returned (.tuple #[v, l, .bool false])
  | some st => ∃ a c, e = .returned (.tuple #[.slice a st.rows.length c, .int .i64 st.len, .bool true]) ∧ OwnR hdrE w' B (.slice a st.rows.length c) st.rows
theorem fldF_step (num : List UInt8 → Int) (l : List UInt8) (ls : List (List UInt8)) (s : St) : fldF num (l :: ls) s = if Lib.index l [58] < 0 then none
    else if (rowF l).1.data.toList = clenL then
      (if s.told = true ∨ num (rowF l).2.data.toList < 0 then none else fldF num ls ⟨s.rows, num (rowF l).2.data.toList, true⟩)
    else fldF num ls ⟨s.rows ++ [rowF l], s.len, s.told⟩ := rfl
theorem trmL_len (l : List UInt8) : (trmL l).length ≤ l.length := by
  have h1 := trm_len l
  have h2 := dw_len (fun c : UInt8 => c == 32) l.reverse
  rw [List.length_reverse] at h2
  omega
theorem bU_size (l : List UInt8) : (bU l).size = l.length := by simp [bU, ByteArray.size]
theorem rowF_size (l : List UInt8) : (rowF l).1.size ≤ l.length ∧ (rowF l).2.size ≤ l.length := by
  unfold rowF
  have := trmL_len (l.drop ((Lib.index l [58]).toNat + 1))
  constructor
  · rw [bU_size]; unfold lowL; rw [List.length_map, List.length_take]; omega
  · rw [bU_size]; rw [List.length_drop] at this; omega
end Plain

/-- A new header's block. -/
def HdB (d : Nat) (W : World) : Prop := W.cell? ⟨d, 0, none⟩ = some (.string ⟨#[]⟩) ∧ W.cell? ⟨d, 1, none⟩ = some (.string ⟨#[]⟩) ∧ W.frozen? ⟨d, 0, none⟩ = false ∧ W.frozen? ⟨d, 1, none⟩ = false
theorem HdB.call {w w1 : World} (h : Below (w.alloc (.cells #[.string ⟨#[]⟩, .string ⟨#[]⟩] 45)).drew.heap.size (w.alloc (.cells #[.string ⟨#[]⟩, .string ⟨#[]⟩] 45)).drew w1) : HdB w.heap.size w1 := by
  have hl : w.heap.size < (w.alloc (.cells #[.string ⟨#[]⟩, .string ⟨#[]⟩] 45)).drew.heap.size := by simp [World.drew]
  refine ⟨(h.cell (p := ⟨w.heap.size, 0, none⟩) hl).trans ?_, (h.cell (p := ⟨w.heap.size, 1, none⟩) hl).trans ?_, (h.frozen (p := ⟨w.heap.size, 0, none⟩) hl).trans ?_, (h.frozen (p := ⟨w.heap.size, 1, none⟩) hl).trans ?_⟩
  all_goals simp [go_sem]

theorem hdb_fin1 {n w1 : World} (nm vl : ByteArray) (h : Below n.heap.size n w1) : ∃ d : Nat, (Value.pointer (some ⟨w1.heap.size, 0, none⟩)) = .pointer (some ⟨d, 0, none⟩) ∧ (w1.alloc (.cells #[.string nm, .string vl] 45)).cell? ⟨d, 0, none⟩ = some (.string nm) ∧ (w1.alloc (.cells #[.string nm, .string vl] 45)).cell? ⟨d, 1, none⟩ = some (.string vl) ∧ Hid (Below n.heap.size n (w1.alloc (.cells #[.string nm, .string vl] 45))) :=
  ⟨w1.heap.size, rfl, by simp [go_sem], by simp [go_sem], hide (h.alloc h.size _)⟩
theorem hdb_fin2 {n w1 : World} (nm vl : ByteArray) (h : Below n.heap.size n w1) (hb : HdB n.heap.size w1) : ∃ d : Nat, (Value.pointer (some ⟨n.heap.size, 0, none⟩)) = .pointer (some ⟨d, 0, none⟩) ∧ ((w1.setCell ⟨n.heap.size, 0, none⟩ (.string nm)).setCell ⟨n.heap.size, 1, none⟩ (.string vl)).cell? ⟨d, 0, none⟩ = some (.string nm) ∧ ((w1.setCell ⟨n.heap.size, 0, none⟩ (.string nm)).setCell ⟨n.heap.size, 1, none⟩ (.string vl)).cell? ⟨d, 1, none⟩ = some (.string vl) ∧ Hid (Below n.heap.size n ((w1.setCell ⟨n.heap.size, 0, none⟩ (.string nm)).setCell ⟨n.heap.size, 1, none⟩ (.string vl))) := by
  obtain ⟨h0, h1, h2, h3⟩ := hb
  refine ⟨n.heap.size, rfl, ?_, ?_, hide ((h.setCell (p := ⟨n.heap.size, 0, none⟩) (Nat.le_refl _) _).setCell (p := ⟨n.heap.size, 1, none⟩) (Nat.le_refl _) _)⟩
  · rw [World.cell?_setCell_other _ ⟨n.heap.size, 1, none⟩ ⟨n.heap.size, 0, none⟩ _ (by intro q; have := congrArg Addr.off q; simp at this), World.cell?_setCell_same' _ _ _ (by rw [h0]; rfl)]
  · exact World.cell?_setCell_same' _ _ _ (by rw [World.cell?_setCell_other _ ⟨n.heap.size, 0, none⟩ ⟨n.heap.size, 1, none⟩ _ (by intro q; have := congrArg Addr.off q; simp at this), h1]; rfl)

set_option maxRecDepth 10000 in
set_option maxHeartbeats 8000000 in
theorem l16Fields_calls (a : Option Addr) (n c : Nat) (ls : List ByteArray) (w : World) (hn : ls.length = n) (hn2 : n ≤ 1000000) (hsm : ∀ s ∈ ls, s.size ≤ 1000000) (h : RowAt strE w a ls) :
    Calls Tryz.prog 89 #[.slice a n c] w fun e w' => FldPost w.heap.size (okS (fldF (numG 20000) (dl ls) ⟨[], 0, false⟩)) e w' ∧ Below w.heap.size w w' := by
  have H := hide h
  have HN := hide hn
  have HSM := hide hsm
  obtain ⟨R, hR⟩ : ∃ R, fldF (numG 20000) (dl ls) ⟨[], 0, false⟩ = R := ⟨_, rfl⟩
  rw [hR]
  have HR := hide hR
  clear h hn hsm hR
  go_enter Tryz.func89, Tryz.ntmps89
  go_wp2_with fail
  go_loopw [5, 6, 7, 8] (fun s5 s6 s7 s8 wr => ∃ (k : Nat) (st : St) (b : Option Addr) (m d : Nat), s5 = .slice b m d ∧ s6 = .int .i64 st.len ∧ s7 = .bool st.told ∧ s8 = .int .i64 k ∧ k ≤ n ∧ m ≤ k ∧ Hid (st.rows.length = m) ∧ Hid (smallH st.rows) ∧ Hid (fldF (numG 20000) (dl (ls.drop k)) st = R) ∧ Hid (OwnR hdrE wr w.heap.size (.slice b m d) st.rows) ∧ Hid (Below w.heap.size w wr)) (fun _ _ _ s8 _ => n - (intOf s8).toNat)
  case atStart => exact ⟨0, ⟨[], 0, false⟩, _, _, _, rfl, rfl, rfl, rfl, by omega, by omega, hide rfl, hide (fun h hh => absurd hh (by simp)), hide (by rw [List.drop_zero]; exact unhide HR), hide (ownR_empty hdrE w _ (Nat.le_refl _)), hide ((Below.refl _ _).alloc (Nat.le_refl _) _)⟩
  case round =>
    clear HR
    obtain ⟨k, st, b, m, d, rfl, rfl, rfl, rfl, hk, hm, HM, HSH, HR, HO, HB⟩ := hrel
    obtain ⟨rows, len, told⟩ := st
    simp only at HM HSH HO ⊢
    by_cases hlk : k < n
    · have hkl : k < ls.length := by rw [unhide HN]; exact hlk
      obtain ⟨g, e1, l1, p0, _⟩ := ((unhide H).below (unhide HB)).str k hkl
      have hsz := unhide HSM ls[k] (by simp)
      have hfr := unhide HR
      rw [List.drop_eq_getElem_cons hkl, show dl (ls[k] :: ls.drop (k + 1)) = ls[k].data.toList :: dl (ls.drop (k + 1)) from rfl, fldF_step] at hfr
      generalize ls[k] = s at p0 hsz hfr
      have hrs := rowF_size s.data.toList
      have hdl : s.data.toList.length = s.size := by simp
      subst e1
      have i0 : (0 : Int) ≤ (k : Int) := by omega
      have i1 : (k : Int) < (n : Int) := by omega
      have HF := hide (fun W => l16Find_calls s ⟨#[58]⟩ W hsz (by decide) (by decide))
      rw [ByteArray.toList_eq, show (⟨#[58]⟩ : ByteArray).toList = [58] from by rw [ByteArray.toList_eq]] at HF
      have hrow : rowF s.data.toList = (bU (lowL (s.data.toList.take (Lib.index s.data.toList [58]).toNat)), bU (trmL (s.data.toList.drop ((Lib.index s.data.toList [58]).toNat + 1)))) := rfl
      rcases ix_room [58] s.data.toList with q | ⟨K, q, hK⟩
      · rw [q] at HF hfr
        rw [if_pos (by decide)] at hfr
        have HX := hide hfr
        clear hfr hrow q hdl hrs
        go_wp2_with (go_at_call 44; refine (unhide HF _).mono ?_; rintro e w' ⟨rfl, rfl⟩)
        go_ret3
        exact ⟨by rw [← unhide HX]; exact ⟨_, _, rfl⟩, unhide HB⟩
      · rw [q] at HF hfr
        rw [if_neg (by omega)] at hfr
        rw [q, Int.toNat_natCast] at hrow
        have hKs : K < s.size := by rw [hdl] at hK; have : K + 1 ≤ s.size := by simpa using hK
                                    omega
        have HLW := hide (fun W => l16Lower_calls (s.extract 0 K) W (by rw [ByteArray.size_extract]; omega))
        have HTR := hide (fun W => l16Trim_calls (s.extract (K + 1) s.size) W (by rw [ByteArray.size_extract]; omega))
        rw [show lowS (s.extract 0 K) = (rowF s.data.toList).1 from by rw [hrow]; unfold lowS; rw [extR_take]] at HLW
        rw [show bU (trmL (s.extract (K + 1) s.size).data.toList) = (rowF s.data.toList).2 from by rw [hrow, ext_drop]] at HTR
        generalize rowF s.data.toList = r at hfr HLW HTR hrs
        obtain ⟨nm, vl⟩ := r
        simp only at hfr HLW HTR hrs
        have hrs2 : nm.size ≤ 1000000 ∧ vl.size ≤ 1000000 := by omega
        have HFR := hide hfr
        have j0 : (0 : Int) ≤ (K : Int) := by omega
        have j1 : (K : Int) ≤ (s.size : Int) := by omega
        obtain ⟨J, hJ⟩ : ∃ J : Nat, K + 1 = J := ⟨_, rfl⟩
        have hw : IntKind.i64.wrap ((K : Int) + 1) = (J : Int) := by rw [IntKind.wrap_i64]; omega
        have j3 : (0 : Int) ≤ (J : Int) := by omega
        have j2 : (J : Int) ≤ (s.size : Int) := by omega
        have hgl : g < wr.heap.size := l1
        have s0 := bcl (bel1 wr (.cells #[.string ⟨#[]⟩, .string ⟨#[]⟩] 45)) hgl p0
        rw [hJ] at HTR
        clear hfr hrow q hK hKs hsz hJ
        go_wp2_with (go_at_call 44; refine (unhide HF _).mono ?_; rintro e w' ⟨rfl, rfl⟩)
        go_cut [10] (fun s10 wx => ∃ d : Nat, s10 = .pointer (some ⟨d, 0, none⟩) ∧ wx.cell? ⟨d, 0, none⟩ = some (.string nm) ∧ wx.cell? ⟨d, 1, none⟩ = some (.string vl) ∧ Hid (Below wr.heap.size wr wx))
        case first =>
--A{
          go_region_law (first
            | (go_simp; go_at_call 122; refine (unhide HLW wr.drew).mono ?_; rintro e w1 ⟨rfl, hb1⟩; have hB1 : Below wr.heap.size wr w1 := belOn (belDrew (Below.refl _ _)) hb1; have c1 := bcl hB1 hgl p0; have hgl1 : g < w1.heap.size := Nat.lt_of_lt_of_le hgl hB1.size; have s1 := bcl (bel1 w1 (.cells #[.string ⟨#[]⟩, .string ⟨#[]⟩] 45)) hgl1 c1)
            | (go_simp; go_at_call 122; refine (unhide HLW (wr.alloc (.cells #[.string ⟨#[]⟩, .string ⟨#[]⟩] 45)).drew).mono ?_; rintro e w1 ⟨rfl, hb1⟩; have hB1 : Below wr.heap.size wr w1 := belOn (belDrew (bel1 _ _)) hb1; have c1 := bcl hB1 hgl p0; have NB := HdB.call (w := wr) hb1; obtain ⟨n0, n1, n2, n3⟩ := id NB; have HNB := hide NB)
            | (go_simp; go_at_call 123; refine (unhide HTR _).mono ?_; rintro e w2 ⟨rfl, rfl⟩))
          all_goals (try go_wp2_with fail)
          all_goals go_meet
          all_goals first
            | exact hdb_fin1 nm vl hB1
            | exact hdb_fin2 nm vl hB1 (unhide HNB)
--}A
        case rest =>
        obtain ⟨wx, rfl⟩ : ∃ wx, wx = wc := ⟨_, rfl⟩
        obtain ⟨d2, rfl, x0, x1, HBX⟩ := hcut
        have HOX := hide ((unhide HO).keep (unhide HBX))
        have HB2 := hide (belOn (unhide HB) (unhide HBX))
        have hzx : w.heap.size ≤ wx.heap.size := (unhide HB2).size
        have hdx : d2 < wx.heap.size := lt_of_cell x0
        clear p0 s0 HO HBX HLW HTR HF
        by_cases hq : nm.data.toList = clenL
        · have hcl : (nm.toList == [99, 111, 110, 116, 101, 110, 116, 45, 108, 101, 110, 103, 116, 104]) = true := by rw [ByteArray.toList_eq, hq]; rfl
          have hfr := unhide HFR
          rw [if_pos hq] at hfr
          have HNU := hide (fun W => l1NumberG_calls vl 20000 W (by omega))
          generalize numG 20000 vl.data.toList = N at HNU hfr
          cases told with
          | true =>
            rw [if_pos (.inl rfl)] at hfr
            have HX := hide hfr
            clear hfr hq HFR hrs
            go_wp2_with (go_at_call 56; refine (unhide HNU _).mono ?_; rintro e w' ⟨rfl, rfl⟩)
            go_ret3
            exact ⟨by rw [← unhide HX]; exact ⟨_, _, rfl⟩, unhide HB2⟩
          | false =>
            by_cases hN : N < 0
            · rw [if_pos (.inr hN)] at hfr
              have HX := hide hfr
              clear hfr hq HFR hrs
              go_wp2_with (go_at_call 56; refine (unhide HNU _).mono ?_; rintro e w' ⟨rfl, rfl⟩)
              go_ret3
              exact ⟨by rw [← unhide HX]; exact ⟨_, _, rfl⟩, unhide HB2⟩
            · rw [if_neg (by rintro (h | h); exact absurd h (by decide); exact hN h)] at hfr
              have HX := hide hfr
              clear hfr hq HFR hrs
              go_wp2_with (go_at_call 56; refine (unhide HNU _).mono ?_; rintro e w' ⟨rfl, rfl⟩)
              go_roundw
              case rel => exact ⟨k + 1, ⟨rows, N, true⟩, b, m, d, rfl, rfl, rfl, by go_num, by omega, by omega, HM, HSH, HX, HOX, HB2⟩
              case measure => simp [intOf]; omega
        · have hcl : (nm.toList == [99, 111, 110, 116, 101, 110, 116, 45, 108, 101, 110, 103, 116, 104]) = false := by rw [ByteArray.toList_eq]; exact beq_eq_false_iff_ne.2 hq
          have hfr := unhide HFR
          rw [if_neg hq] at hfr
          have HX := hide hfr
          have HSH2 := hide (show smallH (rows ++ [(nm, vl)]) from fun h hh => (List.mem_append.1 hh).elim (fun q => unhide HSH h q) (fun q => by rw [List.mem_singleton.1 q]; exact ⟨by simp only; omega, by simp only; omega⟩))
          clear hfr hq HFR hrs
          go_wp2_with (at_builtin; go_must (refine appR (e := hdrE) rfl _ _ rfl (unhide HOX) rfl (nm, vl) rfl _ rfl rfl (by rw [unhide HM]; omega) hzx ?_); intro v' w6 hown6 hb6 hg6; obtain ⟨a', c', hv'⟩ := hown6.form; subst hv'; rw [List.length_append, List.length_singleton] at hown6)
          go_roundw
          case rel => exact ⟨k + 1, ⟨rows ++ [(nm, vl)], len, told⟩, _, _, _, rfl, rfl, rfl, by go_num, by omega, by have := unhide HM; omega, hide (by simp only [List.length_append, List.length_singleton]), HSH2, HX, hide hown6, hide ((unhide HB2).trans hb6)⟩
          case measure => simp [intOf]; omega
    · obtain rfl : k = n := by omega
      have hfr := unhide HR
      rw [List.drop_of_length_le (by rw [unhide HN]; exact Nat.le_refl _), show dl [] = [] from rfl, fldF] at hfr
      have HX := hide hfr
      have HH := hide (l16Headers_calls b m d rows wr (unhide HM) (by omega) (unhide HSH) (unhide HO).at)
      have HK := hide (fun (W : World) (hW : Below wr.heap.size wr W) => (unhide HO).keep hW)
      cases hf : fitB hrwB rows with
      | true =>
        rw [hf] at HH
        have HOK := hide (show okS R = some ⟨rows, len, told⟩ from by rw [← unhide HX, okS, if_pos hf])
        clear hfr hf HX HR
        go_wp2_with (go_at_call 52; refine (unhide HH).mono ?_; rintro e w' ⟨rfl, hb1⟩)
        go_ret3
        refine ⟨?_, belOn (unhide HB) hb1⟩
        rw [unhide HOK]
        have hmm := unhide HM
        subst hmm
        exact ⟨b, d, rfl, unhide HK _ hb1⟩
      | false =>
        rw [hf] at HH
        have HOK := hide (show okS R = none from by rw [← unhide HX, okS, if_neg (by rw [hf]; decide)])
        clear hfr hf HX HR
        go_wp2_with (go_at_call 52; refine (unhide HH).mono ?_; rintro e w' ⟨rfl, hb1⟩)
        go_ret3
        refine ⟨?_, belOn (unhide HB) hb1⟩
        rw [unhide HOK]
        exact ⟨_, _, rfl⟩
end Go.Proofs.YtanekbifdedmeaaGreatDoor

