/- What DrawReadFrames draws is short. -/
import Derived.Test.YtlkkhhelonbcbaaDrawF
import Derived.Test.YtlkkhhelonbcbaaBitM
import Derived.Test.YtlkkhhelonbcbaaByt
import Derived.Test.YtlkkhhelonbcbaaWfS
import Derived.Lib.AppendStr
import Derived.Deep.RegionWith
namespace Go.Proofs.Ytlkkhhelonbcbaa
open Go.RowKit Plain
set_option linter.unusedVariables false

theorem appS {ops : Array Oper} {rest : List Oper} {o : Oper} {a : Act} {Q : Exit → Act → World → Prop} (hgd : o.guard = none) (s x : Operand)
    (ho : o.op = .call { callee := .builtin .append, args := #[s, x], argTypes := #[22, 9] })
    {w : World} {B : Nat} {v : Value} {xs : List Int} (hown : OwnB w B v xs) (hs : a.eval s = v) (t : ByteArray) (hx : a.eval x = .string t) (hlen : xs.length < 1000000) (ht : t.size < 1000000) (hB : B ≤ w.heap.size)
    (h : ∀ v' w', OwnB w' B v' (xs ++ bL t) → Below B w w' → wpList Try.prog ops Q rest (a.put o.dst v') w') : wpList Try.prog ops Q (o :: rest) a w := by
  obtain ⟨i0, hi, hz0, hz1, hz2⟩ := info_parts info5
  refine Lib.wpList_append_own_string _ hgd s x 22 9 ho B 5 i0 Try.underlying22 Try.underlying9 hi hz0 hz1 hz2 v xs.length (xs.map (Value.int .u8)) hs hown t hx (by unfold maxLen; omega) (by omega) hB ?_
  intro v' w' h1 h2 _
  refine h v' w' ?_ (own_below hown h2 hB)
  unfold OwnB
  have e : Lib.strCells t = (bL t).map (Value.int .u8) := by simp [Lib.strCells, bL]
  rw [e] at h1
  rw [List.length_append, bL_length, List.map_append]
  exact h1

namespace Plain
def sixL : List ByteArray := [⟨#[]⟩, ⟨#[0]⟩, ⟨#[1]⟩, ⟨#[1, 0, 0, 0]⟩, ⟨#[1, 255, 255, 255, 255]⟩, ⟨#[1, 0, 0, 0, 0, 0, 0, 0]⟩]
def sixV : Array Value := (sixL.map Value.string).toArray
theorem sixV_get (k : Nat) (h : k < 6) : sixV[k]? = some (.string (sixL.getD k ByteArray.empty)) := by
  match k, h with
  | 0, _ => rfl
  | 1, _ => rfl
  | 2, _ => rfl
  | 3, _ => rfl
  | 4, _ => rfl
  | 5, _ => rfl
theorem six_size : ∀ k : Fin 6, (sixL.getD k.val ByteArray.empty).size ≤ 8 := by decide +kernel
theorem list_full (s : ByteArray) (h : 1 ≤ s.size) : s.toList.isEmpty = false := by
  rw [ByteArray.toList_eq]
  cases hs : s.data.toList with
  | nil => have : s.data.toList.length = s.size := by simp
           rw [hs] at this; simp at this; omega
  | cons x l => rfl
theorem list_emp (s : ByteArray) (h : s.size = 0) : s.toList.isEmpty = true := by
  rw [ByteArray.toList_eq]
  cases hs : s.data.toList with
  | nil => rfl
  | cons x l => have : s.data.toList.length = s.size := by simp
                rw [hs] at this; simp at this; omega
theorem frame_small (k : Int) (b : ByteArray) (hb : b.size ≤ 6) : (frameB k b).size ≤ 15 := by
  by_cases h : 1 ≤ k ∧ k ≤ 100 ∧ b.size ≤ 20000
  · rw [(frame_parts k b h.1 h.2.1 h.2.2).1]; omega
  · unfold frameB; rw [if_neg h]; exact Nat.zero_le _
end Plain

set_option maxRecDepth 10000 in
set_option maxHeartbeats 4000000 in
theorem DrawReadFrames_calls (a : Option Addr) (len cap : Nat) (zs : List Int) (w : World) (h : IsRow .u8 w a len cap zs) (hl : len ≤ 1048576) :
    Calls Try.prog 21 #[.slice a len cap] w fun e w' => ∃ s : ByteArray, e = .returned (.string s) ∧ s.size ≤ 30000 ∧ Below w.heap.size w w' := by
  have H := hide h
  clear h
  go_enter Try.func21, Try.ntmps21
  go_wp2_with fail
  refine (open_calls a len cap zs _ (unhide H) hl).mono ?_
  rintro e w1 ⟨rfl, hR1, hb1⟩
  have HR1 := hide hR1
  have HB1 := hide hb1
  have hl1 : w.heap.size < w1.heap.size := hR1.lt
  clear hR1 hb1
  obtain ⟨q, hq⟩ : ∃ q, len / 3 = q := ⟨_, rfl⟩
  have tq : Int.tdiv (len : Int) 3 = (q : Int) := by rw [← hq]; rfl
  have i0 : (q : Int) ≤ 1048576 := by omega
  obtain ⟨m, hm, hm1, hm2⟩ : ∃ m : Int, (if (1 : Int) + q < 5 then 1 + (q : Int) else 5) = m ∧ 1 ≤ m ∧ m ≤ 5 := ⟨_, rfl, by split <;> omega, by split <;> omega⟩
  go_wp2_with fail
  refine (below_calls w.heap.size a len cap zs m _ (unhide HR1) hm1 (by omega)).mono ?_
  rintro e w2 ⟨c0, rfl, hc0, hc1, hR2, ho2⟩
  have HR2 := hide hR2
  have HB2 := hide ((unhide HB1).trans (ho2.below (Nat.le_refl _) (unhide HB1).size))
  clear hR2 ho2 HR1 HB1 hm hq tq
  go_wp2_with fail
  go_loopw [4, 5] (fun t i wr => ∃ (c : Int) (str : ByteArray), i = .int .i64 c ∧ t = .string str ∧ 0 ≤ c ∧ c ≤ 4 ∧ (str.size : Int) + 15 * c ≤ 75 ∧ Hid (Rd wr w.heap.size a len cap zs) ∧ Hid (Below w.heap.size w wr)) (fun _ i _ => (intOf i).toNat)
  case atStart => exact ⟨c0, ⟨#[]⟩, rfl, rfl, hc0, by omega, by have : (⟨#[]⟩ : ByteArray).size = 0 := rfl; omega, HR2, HB2⟩
  case round =>
    clear HR2 HB2
    obtain ⟨c, str, rfl, rfl, hcl, hcu, hsz, HR, HB⟩ := hrel
    by_cases hcp : 0 < c
    · go_wp2_with fail
      refine (drawFrame_calls w.heap.size a len cap zs _ (unhide HR)).mono ?_
      rintro e w3 ⟨k, b, rfl, hk0, hk1, hb, hR3, ho3⟩
      have HR3 := hide hR3
      have HB3 := hide ((unhide HB).trans (ho3.below (Nat.le_refl _) (unhide HB).size))
      clear hR3 ho3 HR HB
      go_wp2_with fail
      refine (spec_WriteFrame k b _ (by omega)).mono ?_
      rintro e w4 ⟨rfl, hb4⟩
      have HR4 := hide ((unhide HR3).below hb4)
      have HB4 := hide ((unhide HB3).trans (hb4.mono (unhide HB3).size))
      have hfs := frame_small k b hb
      generalize frameB k b = fr at hfs
      clear hb4 HR3 HB3
      go_wp2_with fail
      go_roundw
      case rel => exact ⟨c - 1, _, by go_num, rfl, by omega, by omega, by rw [ByteArray.size_append]; omega, HR4, HB4⟩
      case measure => simp [intOf]; omega
    · obtain rfl : c = 0 := by omega
      rename World => wm
      have hzm : w.heap.size < wm.heap.size := (unhide HR).lt
      by_cases hse : str.size = 0
      · have hem := list_emp str hse
        have hb5 : Below wm.heap.size wm (wm.alloc (.cells sixV 9)) := (Below.refl _ _).alloc (Nat.le_refl _) _
        have HR5 := hide ((unhide HR).below hb5)
        have HB5 := hide ((unhide HB).trans (hb5.mono (unhide HB).size))
        clear hb5
        go_wp2_with fail
        refine (below_calls w.heap.size a len cap zs 6 _ (unhide HR5) (by omega) (by omega)).mono ?_
        rintro e w6 ⟨v, rfl, hv0, hv1, hR6, ho6⟩
        obtain ⟨K, rfl⟩ := Int.eq_ofNat_of_zero_le hv0
        have hK : K < 6 := by omega
        have hc : w6.cell? ⟨wm.heap.size, K, none⟩ = some (.string (sixL.getD K ByteArray.empty)) := by
          rw [ho6.cell ⟨wm.heap.size, K, none⟩ (by simp) (by simp)]
          exact (cell_of_row _ _ K sixV _ _ (h_new wm _ rfl)).trans (sixV_get K hK)
        have hs6 := six_size ⟨K, hK⟩
        simp only at hs6
        generalize sixL.getD K ByteArray.empty = s6 at hc hs6
        have hB6 := hide ((unhide HB5).trans (ho6.below (Nat.le_refl _) (unhide HB5).size))
        clear hR6 ho6
        go_wp2_with fail
        go_ret
        exact ⟨s6, rfl, by omega, unhide hB6⟩
      · have hfull := list_full str (by omega)
        obtain ⟨cp, w6, hcv, hO6, hb6⟩ := bytes_own str wm
        have hlen6 : (bL str).length = str.size := bL_length _
        obtain ⟨L, hL⟩ : ∃ L, str.size = L := ⟨_, rfl⟩
        rw [hL] at hcv hlen6 hsz hse
        have hL1 : 1 ≤ L := by omega
        have hL2 : L ≤ 75 := by omega
        have HO6 := hide hO6
        have HLN := hide hlen6
        have HR6 := hide ((unhide HR).below hb6)
        have HB6 := hide ((unhide HB).trans (hb6.mono (unhide HB).size))
        have hz6 := hb6.size
        clear hO6 hlen6 hb6 HR HB hL
        go_wp2_with fail
        refine (below_calls w.heap.size a len cap zs L _ (unhide HR6) (by omega) (by omega)).mono ?_
        rintro e w7 ⟨v, rfl, hv0, hv1, hR7, ho7⟩
        obtain ⟨I, rfl⟩ := Int.eq_ofNat_of_zero_le hv0
        have hg6 := (unhide HO6).2.1
        have HO7 := hide ((unhide HO6).keep (ho7.block _ hg6 (by simp; omega)) ho7.size)
        have HR7 := hide hR7
        have HB7 := hide ((unhide HB6).trans (ho7.below (Nat.le_refl _) (unhide HB6).size))
        clear hR7 ho7 HR6 HB6 HO6 hcv
        go_wp2_with fail
        refine (below_calls w.heap.size a len cap zs 8 _ (unhide HR7) (by omega) (by omega)).mono ?_
        rintro e w8 ⟨u, rfl, hu0, hu1, hR8, ho8⟩
        have hg7 := (unhide HO7).2.1
        have HO8 := hide ((unhide HO7).keep (ho8.block _ hg7 (by simp; omega)) ho8.size)
        have HR8 := hide hR8
        have HB8 := hide ((unhide HB7).trans (ho8.below (Nat.le_refl _) (unhide HB7).size))
        clear hR8 ho8 HR7 HB7 HO7
        have hI : I < L := by omega
        have j0 : (0 : Int) ≤ (I : Int) := by omega
        have j1 : (I : Int) < (L : Int) := by omega
        have j2 : (I : Int) ≤ (cp : Int) := by have := (unhide HO8).2.2.1; have := unhide HLN; omega
        by_cases u0 : u = 0
        · subst u0
          go_wp2_with fail
          refine (below_calls w.heap.size a len cap zs 256 _ (unhide HR8) (by omega) (by omega)).mono ?_
          rintro e w9 ⟨y, rfl, hy0, hy1, hR9, ho9⟩
          have hg8 := (unhide HO8).2.1
          have hO9 := (unhide HO8).keep (ho9.block _ hg8 (by simp; omega)) ho9.size
          have HB9 := hide ((unhide HB8).trans (ho9.below (Nat.le_refl _) (unhide HB8).size))
          obtain ⟨hc, hf⟩ : (∃ z : Int, w9.cell? ⟨wm.heap.size, I, none⟩ = some (.int .u8 z)) ∧ w9.frozen? ⟨wm.heap.size, I, none⟩ = false :=
            ⟨⟨_, hO9.2.2.2.1 I (by rw [unhide HLN]; exact hI)⟩, (hO9.2.2.2.2 I (by have := hO9.2.2.1; have := unhide HLN; omega)).2⟩
          obtain ⟨z9, hc⟩ := hc
          have HOt := hide (hO9.set I (by rw [unhide HLN]; exact hI) y)
          have HBt := hide ((unhide HB9).setCell (p := ⟨wm.heap.size, I, none⟩) (by simp; omega) (.int .u8 y))
          have HRt := hide (hR9.set (B := wm.heap.size) I (.int .u8 y) hzm)
          have hnt : L ≤ ((bL str).set I y).length := by rw [List.length_set, unhide HLN]; exact Nat.le_refl _
          obtain ⟨nt, hnte⟩ : ∃ nt, nt = L := ⟨_, rfl⟩
          subst hnte
          obtain ⟨cpt, hcpt⟩ : ∃ cpt, cpt = cp := ⟨_, rfl⟩
          subst hcpt
          clear hR9 ho9 hO9 HB9 HO8 HB8 HR8
          go_wp2_with fail
          refine (once_calls w.heap.size a len cap zs 80 _ (unhide HRt) (by omega) (by omega)).mono ?_
          rintro e wo ⟨bo, rfl, hRo, hoo⟩
          have hOo := (unhide HOt).keep (hoo.block _ (unhide HOt).2.1 (by have := (unhide HOt).1; simp; omega)) hoo.size
          have HBo := hide ((unhide HBt).trans (hoo.below (Nat.le_refl _) (unhide HBt).size))
          have HRo := hide hRo
          cases bo with
          | false =>
            have hcv9 := conv_pre _ _ _ _ nt cpt _ hOo hnt
            clear hOo hRo hoo HRt HBt HOt
            go_wp2_with fail
            go_ret
            refine ⟨_, rfl, ?_, unhide HBo⟩
            rw [strOfNums_size, List.length_take]
            omega
          | true =>
            clear hOo hRo hoo HRt HBt HOt
            go_wp2_with fail
            refine (spec_WriteFrame 1 ⟨#[]⟩ _ (by decide)).mono ?_
            rintro e wf ⟨rfl, hbf⟩
            have HRf := hide ((unhide HRo).below hbf)
            have HBf := hide ((unhide HBo).trans (hbf.mono (unhide HBo).size))
            have hfs : (frameB 1 ⟨#[]⟩).size ≤ 9 := by rw [(frame_parts 1 ⟨#[]⟩ (by decide) (by decide) (by decide)).1]; decide
            clear hbf HRo HBo
            generalize frameB 1 ⟨#[]⟩ = fr at hfs
            go_wp2_with fail
            refine (below_calls w.heap.size a len cap zs 2 _ (unhide HRf) (by omega) (by omega)).mono ?_
            rintro e wg ⟨u2, rfl, hu20, hu21, hRg, hog⟩
            have HBg := hide ((unhide HBf).trans (hog.below (Nat.le_refl _) (unhide HBf).size))
            clear hRg hog HRf HBf
            go_wp2_with fail
            go_loopw [6, 8] (fun v i wr => ∃ (c : Nat) (xs : List Int), i = .int .i64 c ∧ c ≤ 2001 ∧ xs.length + 9 * c ≤ 18009 ∧ Hid (OwnB wr w.heap.size v xs) ∧ Hid (Below w.heap.size w wr)) (fun _ i _ => (intOf i).toNat)
            case atStart => exact ⟨(2000 + u2).toNat, [], by congr 1; omega, by omega, by simp; omega, ownB_nil _ _, HBg⟩
            case round =>
              obtain ⟨c, xs2, rfl, hc, hxl, HO2, HB2⟩ := hrel
              by_cases hc0 : 0 < c
              · have hzr := (unhide HB2).size
                have k0 : (0 : Int) < (c : Int) := by omega
                go_wp2_with (at_builtin; go_must (refine appS rfl _ _ rfl (unhide HO2) rfl fr rfl (by omega) (by omega) hzr ?_); intro v' wh hown9 hb9)
                go_roundw
                case rel => exact ⟨c - 1, _, by go_num, by omega, by rw [List.length_append, bL_length]; omega, hide hown9, hide ((unhide HB2).trans hb9)⟩
                case measure => simp [intOf]; omega
              · obtain rfl : c = 0 := by omega
                have hcv9 := conv_ownB wr _ _ _ (unhide HO2)
                go_wp2_with fail
                go_ret
                exact ⟨_, rfl, by rw [strOfNums_size]; omega, unhide HB2⟩
        · by_cases u1 : u = 1
          · subst u1
            have HOt := HO8
            have HBt := HB8
            have HRt := HR8
            have hnt : I ≤ (bL str).length := by rw [unhide HLN]; omega
            obtain ⟨nt, hnte⟩ : ∃ nt, nt = I := ⟨_, rfl⟩
            have hn75 : nt ≤ 75 := by omega
            subst hnte
            obtain ⟨cpt, hcpt⟩ : ∃ cpt, cpt = cp := ⟨_, rfl⟩
            subst hcpt
            clear HO8 HB8 HR8
            go_wp2_with fail
            refine (once_calls w.heap.size a len cap zs 80 _ (unhide HRt) (by omega) (by omega)).mono ?_
            rintro e wo ⟨bo, rfl, hRo, hoo⟩
            have hOo := (unhide HOt).keep (hoo.block _ (unhide HOt).2.1 (by have := (unhide HOt).1; simp; omega)) hoo.size
            have HBo := hide ((unhide HBt).trans (hoo.below (Nat.le_refl _) (unhide HBt).size))
            have HRo := hide hRo
            cases bo with
            | false =>
              have hcv9 := conv_pre _ _ _ _ nt cpt _ hOo hnt
              clear hOo hRo hoo HRt HBt HOt
              go_wp2_with fail
              go_ret
              refine ⟨_, rfl, ?_, unhide HBo⟩
              rw [strOfNums_size, List.length_take]
              omega
            | true =>
              clear hOo hRo hoo HRt HBt HOt
              go_wp2_with fail
              refine (spec_WriteFrame 1 ⟨#[]⟩ _ (by decide)).mono ?_
              rintro e wf ⟨rfl, hbf⟩
              have HRf := hide ((unhide HRo).below hbf)
              have HBf := hide ((unhide HBo).trans (hbf.mono (unhide HBo).size))
              have hfs : (frameB 1 ⟨#[]⟩).size ≤ 9 := by rw [(frame_parts 1 ⟨#[]⟩ (by decide) (by decide) (by decide)).1]; decide
              clear hbf HRo HBo
              generalize frameB 1 ⟨#[]⟩ = fr at hfs
              go_wp2_with fail
              refine (below_calls w.heap.size a len cap zs 2 _ (unhide HRf) (by omega) (by omega)).mono ?_
              rintro e wg ⟨u2, rfl, hu20, hu21, hRg, hog⟩
              have HBg := hide ((unhide HBf).trans (hog.below (Nat.le_refl _) (unhide HBf).size))
              clear hRg hog HRf HBf
              go_wp2_with fail
              go_loopw [6, 8] (fun v i wr => ∃ (c : Nat) (xs : List Int), i = .int .i64 c ∧ c ≤ 2001 ∧ xs.length + 9 * c ≤ 18009 ∧ Hid (OwnB wr w.heap.size v xs) ∧ Hid (Below w.heap.size w wr)) (fun _ i _ => (intOf i).toNat)
              case atStart => exact ⟨(2000 + u2).toNat, [], by congr 1; omega, by omega, by simp; omega, ownB_nil _ _, HBg⟩
              case round =>
                obtain ⟨c, xs2, rfl, hc, hxl, HO2, HB2⟩ := hrel
                by_cases hc0 : 0 < c
                · have hzr := (unhide HB2).size
                  have k0 : (0 : Int) < (c : Int) := by omega
                  go_wp2_with (at_builtin; go_must (refine appS rfl _ _ rfl (unhide HO2) rfl fr rfl (by omega) (by omega) hzr ?_); intro v' wh hown9 hb9)
                  go_roundw
                  case rel => exact ⟨c - 1, _, by go_num, by omega, by rw [List.length_append, bL_length]; omega, hide hown9, hide ((unhide HB2).trans hb9)⟩
                  case measure => simp [intOf]; omega
                · obtain rfl : c = 0 := by omega
                  have hcv9 := conv_ownB wr _ _ _ (unhide HO2)
                  go_wp2_with fail
                  go_ret
                  exact ⟨_, rfl, by rw [strOfNums_size]; omega, unhide HB2⟩
          · by_cases u2 : u = 2
            · subst u2
              go_wp2_with fail
              refine (below_calls w.heap.size a len cap zs 120 _ (unhide HR8) (by omega) (by omega)).mono ?_
              rintro e w9 ⟨y, rfl, hy0, hy1, hR9, ho9⟩
              have hg8 := (unhide HO8).2.1
              have HO9 := hide ((unhide HO8).keep (ho9.block _ hg8 (by simp; omega)) ho9.size)
              have HB9 := hide ((unhide HB8).trans (ho9.below (Nat.le_refl _) (unhide HB8).size))
              have HR9 := hide hR9
              have hz9 : wm.heap.size ≤ w9.heap.size := by have := ho9.size; omega
              have hL9 : L < 1000000000000 := by omega
              clear hR9 ho9 HO8 HB8 HR8
              go_upto_region 18 with (at_builtin; go_must (refine appP rfl _ _ rfl (unhide HO9) (unhide HLN) rfl rfl hL9 hz9 ?_); intro g9 cpt wt hOt hbt)
              have HOt := hide hOt
              have HBt := hide ((unhide HB9).trans (hbt.mono (by omega)))
              have HRt := hide ((unhide HR9).onlyB hbt hzm)
              have hnt : L + 1 ≤ (bL str ++ [y]).length := by rw [List.length_append, unhide HLN]; simp
              obtain ⟨nt, hnte⟩ : ∃ nt, nt = L + 1 := ⟨_, rfl⟩
              rw [← hnte] at hnt
              simp only [← hnte]
              have hn76 : nt ≤ 76 := by omega
              clear hOt hbt HO9 HB9 HR9 hnte
              go_wp2_with fail
              refine (once_calls w.heap.size a len cap zs 80 _ (unhide HRt) (by omega) (by omega)).mono ?_
              rintro e wo ⟨bo, rfl, hRo, hoo⟩
              have hOo := (unhide HOt).keep (hoo.block _ (unhide HOt).2.1 (by have := (unhide HOt).1; simp; omega)) hoo.size
              have HBo := hide ((unhide HBt).trans (hoo.below (Nat.le_refl _) (unhide HBt).size))
              have HRo := hide hRo
              cases bo with
              | false =>
                have hcv9 := conv_pre _ _ _ _ nt cpt _ hOo hnt
                clear hOo hRo hoo HRt HBt HOt
                go_wp2_with fail
                go_ret
                refine ⟨_, rfl, ?_, unhide HBo⟩
                rw [strOfNums_size, List.length_take]
                omega
              | true =>
                clear hOo hRo hoo HRt HBt HOt
                go_wp2_with fail
                refine (spec_WriteFrame 1 ⟨#[]⟩ _ (by decide)).mono ?_
                rintro e wf ⟨rfl, hbf⟩
                have HRf := hide ((unhide HRo).below hbf)
                have HBf := hide ((unhide HBo).trans (hbf.mono (unhide HBo).size))
                have hfs : (frameB 1 ⟨#[]⟩).size ≤ 9 := by rw [(frame_parts 1 ⟨#[]⟩ (by decide) (by decide) (by decide)).1]; decide
                clear hbf HRo HBo
                generalize frameB 1 ⟨#[]⟩ = fr at hfs
                go_wp2_with fail
                refine (below_calls w.heap.size a len cap zs 2 _ (unhide HRf) (by omega) (by omega)).mono ?_
                rintro e wg ⟨u2, rfl, hu20, hu21, hRg, hog⟩
                have HBg := hide ((unhide HBf).trans (hog.below (Nat.le_refl _) (unhide HBf).size))
                clear hRg hog HRf HBf
                go_wp2_with fail
                go_loopw [6, 8] (fun v i wr => ∃ (c : Nat) (xs : List Int), i = .int .i64 c ∧ c ≤ 2001 ∧ xs.length + 9 * c ≤ 18009 ∧ Hid (OwnB wr w.heap.size v xs) ∧ Hid (Below w.heap.size w wr)) (fun _ i _ => (intOf i).toNat)
                case atStart => exact ⟨(2000 + u2).toNat, [], by congr 1; omega, by omega, by simp; omega, ownB_nil _ _, HBg⟩
                case round =>
                  obtain ⟨c, xs2, rfl, hc, hxl, HO2, HB2⟩ := hrel
                  by_cases hc0 : 0 < c
                  · have hzr := (unhide HB2).size
                    have k0 : (0 : Int) < (c : Int) := by omega
                    go_wp2_with (at_builtin; go_must (refine appS rfl _ _ rfl (unhide HO2) rfl fr rfl (by omega) (by omega) hzr ?_); intro v' wh hown9 hb9)
                    go_roundw
                    case rel => exact ⟨c - 1, _, by go_num, by omega, by rw [List.length_append, bL_length]; omega, hide hown9, hide ((unhide HB2).trans hb9)⟩
                    case measure => simp [intOf]; omega
                  · obtain rfl : c = 0 := by omega
                    have hcv9 := conv_ownB wr _ _ _ (unhide HO2)
                    go_wp2_with fail
                    go_ret
                    exact ⟨_, rfl, by rw [strOfNums_size]; omega, unhide HB2⟩
            · have HOt := HO8
              have HBt := HB8
              have HRt := HR8
              have hnt : L ≤ (bL str).length := by rw [unhide HLN]; omega
              obtain ⟨nt, hnte⟩ : ∃ nt, nt = L := ⟨_, rfl⟩
              subst hnte
              obtain ⟨cpt, hcpt⟩ : ∃ cpt, cpt = cp := ⟨_, rfl⟩
              subst hcpt
              clear HO8 HB8 HR8
              go_wp2_with fail
              refine (once_calls w.heap.size a len cap zs 80 _ (unhide HRt) (by omega) (by omega)).mono ?_
              rintro e wo ⟨bo, rfl, hRo, hoo⟩
              have hOo := (unhide HOt).keep (hoo.block _ (unhide HOt).2.1 (by have := (unhide HOt).1; simp; omega)) hoo.size
              have HBo := hide ((unhide HBt).trans (hoo.below (Nat.le_refl _) (unhide HBt).size))
              have HRo := hide hRo
              cases bo with
              | false =>
                have hcv9 := conv_pre _ _ _ _ nt cpt _ hOo hnt
                clear hOo hRo hoo HRt HBt HOt
                go_wp2_with fail
                go_ret
                refine ⟨_, rfl, ?_, unhide HBo⟩
                rw [strOfNums_size, List.length_take]
                omega
              | true =>
                clear hOo hRo hoo HRt HBt HOt
                go_wp2_with fail
                refine (spec_WriteFrame 1 ⟨#[]⟩ _ (by decide)).mono ?_
                rintro e wf ⟨rfl, hbf⟩
                have HRf := hide ((unhide HRo).below hbf)
                have HBf := hide ((unhide HBo).trans (hbf.mono (unhide HBo).size))
                have hfs : (frameB 1 ⟨#[]⟩).size ≤ 9 := by rw [(frame_parts 1 ⟨#[]⟩ (by decide) (by decide) (by decide)).1]; decide
                clear hbf HRo HBo
                generalize frameB 1 ⟨#[]⟩ = fr at hfs
                go_wp2_with fail
                refine (below_calls w.heap.size a len cap zs 2 _ (unhide HRf) (by omega) (by omega)).mono ?_
                rintro e wg ⟨u2, rfl, hu20, hu21, hRg, hog⟩
                have HBg := hide ((unhide HBf).trans (hog.below (Nat.le_refl _) (unhide HBf).size))
                clear hRg hog HRf HBf
                go_wp2_with fail
                go_loopw [6, 8] (fun v i wr => ∃ (c : Nat) (xs : List Int), i = .int .i64 c ∧ c ≤ 2001 ∧ xs.length + 9 * c ≤ 18009 ∧ Hid (OwnB wr w.heap.size v xs) ∧ Hid (Below w.heap.size w wr)) (fun _ i _ => (intOf i).toNat)
                case atStart => exact ⟨(2000 + u2).toNat, [], by congr 1; omega, by omega, by simp; omega, ownB_nil _ _, HBg⟩
                case round =>
                  obtain ⟨c, xs2, rfl, hc, hxl, HO2, HB2⟩ := hrel
                  by_cases hc0 : 0 < c
                  · have hzr := (unhide HB2).size
                    have k0 : (0 : Int) < (c : Int) := by omega
                    go_wp2_with (at_builtin; go_must (refine appS rfl _ _ rfl (unhide HO2) rfl fr rfl (by omega) (by omega) hzr ?_); intro v' wh hown9 hb9)
                    go_roundw
                    case rel => exact ⟨c - 1, _, by go_num, by omega, by rw [List.length_append, bL_length]; omega, hide hown9, hide ((unhide HB2).trans hb9)⟩
                    case measure => simp [intOf]; omega
                  · obtain rfl : c = 0 := by omega
                    have hcv9 := conv_ownB wr _ _ _ (unhide HO2)
                    go_wp2_with fail
                    go_ret
                    exact ⟨_, rfl, by rw [strOfNums_size]; omega, unhide HB2⟩
end Go.Proofs.Ytlkkhhelonbcbaa
