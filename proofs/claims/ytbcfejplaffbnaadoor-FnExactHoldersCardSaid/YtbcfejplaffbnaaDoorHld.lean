/- The holders of a blob, by the specification. -/
import Derived.Test.YtbcfejplaffbnaaDoorRnkJ
namespace Go.Proofs.YtbcfejplaffbnaaDoor
open Go.RowKit Plain
set_option linter.unusedVariables false

namespace Plain
/-- The first k by rank, rising. -/
def hld (f : Int → Int) (l : List Int) (k : Nat) : List Int := l.filter fun x => decide (x ∈ (rk f l).take k)
theorem okIds_filter (q : Int → Bool) : ∀ (l : List Int) (p : Int), okIds p l = true → okIds p (l.filter q) = true
  | [], p, _ => rfl
  | a :: l, p, h => by
    rw [okIds, Bool.and_eq_true, Bool.and_eq_true, decide_eq_true_iff, decide_eq_true_iff] at h
    obtain ⟨⟨h1, h2⟩, h3⟩ := h
    rw [List.filter_cons]
    split
    · rw [okIds, okIds_filter q l a h3, decide_eq_true h1, decide_eq_true h2]; rfl
    · have h4 := okIds_filter q l a h3
      cases hl : l.filter q with
      | nil => rfl
      | cons b r =>
        rw [hl, okIds, Bool.and_eq_true, Bool.and_eq_true, decide_eq_true_iff, decide_eq_true_iff] at h4
        rw [okIds, decide_eq_true (by omega : p < b), decide_eq_true h4.1.2, h4.2]
        rfl
theorem setN_same (a b : List Int) (h : ∀ x, x ∈ a ↔ x ∈ b) : setN a = setN b := by
  apply Nat.eq_of_testBit_eq
  intro i
  rw [setN_bit, setN_bit]
  congr 1
  exact decide_eq_decide.2 (h _)
theorem hld_mem (f : Int → Int) (l : List Int) (k : Nat) (x : Int) : x ∈ hld f l k ↔ x ∈ (rk f l).take k := by
  unfold hld
  rw [List.mem_filter, decide_eq_true_iff]
  exact ⟨fun h => h.2, fun h => ⟨(rk_mem f l x).1 (List.mem_of_mem_take h), h⟩⟩
theorem hld_ok (f : Int → Int) (l : List Int) (k : Nat) (h : okIds 0 l = true) : okIds 0 (hld f l k) = true := okIds_filter _ l 0 h
theorem hld_set (f : Int → Int) (l : List Int) (k : Nat) : setN (hld f l k) = setN ((rk f l).take k) := setN_same _ _ (hld_mem f l k)
theorem rk_nodup (f : Int → Int) (l : List Int) (h : okIds 0 l = true) : (rk f l).Nodup := ((rk_perm f l (okIds_lt l 0 h).1).nodup_iff).2 (okIds_facts l 0 (by decide) h).1
def onceL (T : List Int) (x : Int) (j : Nat) : List Int := if x ∈ T.take j then [x] else []
theorem onceL_zero (T : List Int) (x : Int) : onceL T x 0 = [] := by unfold onceL; simp
theorem onceL_hit (T : List Int) (x : Int) (j : Nat) (h : j < T.length) (hn : T.Nodup) (hx : T[j] = x) : onceL T x j = [] ∧ onceL T x (j + 1) = [x] := by
  unfold onceL
  constructor
  · rw [if_neg]
    intro hm
    have := hn
    rw [← List.take_append_drop j T, List.nodup_append] at this
    exact this.2.2 x hm x (by rw [List.drop_eq_getElem_cons h, hx]; simp) rfl
  · rw [if_pos]
    rw [List.take_succ_eq_append_getElem h, hx]
    simp
theorem onceL_miss (T : List Int) (x : Int) (j : Nat) (h : j < T.length) (hx : ¬ T[j] = x) : onceL T x (j + 1) = onceL T x j := by
  unfold onceL
  have : x ∈ T.take (j + 1) ↔ x ∈ T.take j := by
    rw [List.take_succ_eq_append_getElem h, List.mem_append, List.mem_singleton]
    exact ⟨fun q => q.elim id fun q => absurd q.symm hx, .inl⟩
  simp only [this]
theorem onceL_end (T : List Int) (x : Int) : onceL T x T.length = if x ∈ T then [x] else [] := by unfold onceL; rw [List.take_length]
theorem onceL_len (T : List Int) (x : Int) (j : Nat) : (onceL T x j).length ≤ 1 := by unfold onceL; split <;> simp
theorem filt_take (q : Int → Bool) (l : List Int) (k : Nat) (h : k < l.length) : (l.take (k + 1)).filter q = (l.take k).filter q ++ if q l[k] then [l[k]] else [] := by
  rw [List.take_succ_eq_append_getElem h, List.filter_append]
  congr 1
  by_cases hq : q l[k] = true
  · rw [List.filter_cons_of_pos hq, if_pos hq]; rfl
  · rw [List.filter_cons_of_neg hq, if_neg hq]; rfl
end Plain

set_option maxRecDepth 10000 in
set_option maxHeartbeats 4000000 in
theorem l13Holders_calls (d : ByteArray) (a : Option Addr) (n c : Nat) (ls : List Int) (K : Nat) (w : World) (h : IntsAt w a n ls) (hok : okIds 0 ls = true) (hd : d.size = 71) (hK1 : 1 ≤ K) (hK7 : K ≤ 7) :
    Calls Tryd.prog 28 #[.string d, .slice a n c, .int .i64 K] w fun e w' => ∃ v, e = .returned v ∧ OwnR i64E w' w.heap.size v (hld (wt d) ls K) ∧ Below w.heap.size w w' := by
  have HR := hide (l13Ranked_calls d a n c ls w h hok hd)
  have hnd := rk_nodup (wt d) ls hok
  have hrl := rk_len (wt d) ls
  rw [h.len] at hrl
  unfold hld
  generalize rk (wt d) ls = rs at HR hnd hrl ⊢
  obtain ⟨T, hT⟩ : ∃ T, T = rs.take K := ⟨_, rfl⟩
  have hTl : T.length = min K n := by rw [hT, List.length_take, hrl]
  have hTn : T.Nodup := by rw [hT]; exact hnd.sublist (List.take_sublist _ _)
  have HTG := hide (fun (j : Nat) (hj : j < T.length) => (show ∃ hj2 : j < rs.length, rs[j] = T[j] from ⟨by rw [hTl] at hj; omega, by subst hT; rw [List.getElem_take]⟩))
  have HTN := hide hTn
  have HTL := hide hTl
  rw [← hT]
  have HRL := hide hrl
  have HD := hide (fun (W : World) (hW : Below w.heap.size w W) => h.below hW)
  have hbn := h.bn
  have HLN := hide h.len
  clear h hok hd hnd hrl hT hTl hTn
  go_enter Tryd.func28, Tryd.ntmps28
  go_wp2_with fail
  refine (unhide HR).mono ?_
  rintro e w1 ⟨v, rfl, ho, hb1⟩
  obtain ⟨aR, cR, hv⟩ := ho.form
  rw [unhide HRL] at hv
  subst hv
  have HB1 := hide hb1
  have HR1 := hide ho.at
  have HO0 := hide (ownR_empty i64E w1 w.heap.size hb1.size)
  have HB0 := hide (belOnD hb1 (bel1D w1 (.cells #[] 2)))
  clear ho hb1 HR
  go_wp2_with fail
  obtain ⟨W0, hW0⟩ : ∃ W0, W0 = w1.alloc (.cells #[] 2) := ⟨_, rfl⟩
  have HR0 := hide (show RowAt i64E W0 aR rs from by rw [hW0]; exact (unhide HR1).below (bel1D _ _))
  have HBR := hide (show Below w1.heap.size w1 W0 from by rw [hW0]; exact bel1D _ _)
  change Hid (OwnR i64E (w1.alloc (.cells #[] 2)) w.heap.size (.slice (some ⟨w1.heap.size, 0, none⟩) 0 0) []) at HO0
  have HO1 := hide (show OwnR i64E W0 w1.heap.size (.slice (some ⟨w1.heap.size, 0, none⟩) 0 0) [] from by rw [hW0]; exact ownR_empty i64E w1 w1.heap.size (Nat.le_refl _))
  rw [← hW0] at HB0 ⊢
  clear HO0 hW0
  have hz1 := (unhide HB1).size
  go_loopw [8, 9] (fun s8 s9 wq => ∃ i : Nat, s9 = .int .i64 i ∧ i ≤ n ∧ w1.heap.size ≤ wq.heap.size ∧ Hid (OwnR i64E wq w1.heap.size s8 ((ls.take i).filter fun x => decide (x ∈ T))) ∧ Hid (Below w1.heap.size w1 wq)) (fun _ s9 _ => n - (intOf s9).toNat)
  case atStart => exact ⟨0, rfl, by omega, (unhide HBR).size, HO1, HBR⟩
  case round =>
    clear HO1 HBR HR0 HB0
    obtain ⟨i, rfl, hi, hzi, HO, HB⟩ := hrel
    by_cases hin : i < n
    · have hil : i < ls.length := by rw [unhide HLN]; exact hin
      have HCK := hide (fun (W : World) (hW : Below w.heap.size w W) => (unhide HD W hW).row.ix i hil)
      have HFT := hide (filt_take (fun x => decide (x ∈ T)) ls i hil)
      generalize ls[i] = x at HCK HFT
      obtain ⟨g, e1, l1, p0, -⟩ := unhide HCK wr ((unhide HB1).trans ((unhide HB).mono hz1))
      subst e1
      have HCK2 := hide (fun (W : World) (hW : Below w.heap.size w W) => (show W.cell? ⟨g, i, none⟩ = some (.int .i64 x) from by
        obtain ⟨g', e1, -, p0', -⟩ := unhide HCK W hW
        cases e1
        exact p0'))
      have hPl : ((ls.take i).filter fun x => decide (x ∈ T)).length ≤ n := Nat.le_trans (List.length_filter_le _ _) (by rw [List.length_take]; omega)
      generalize (ls.take i).filter (fun x => decide (x ∈ T)) = P at HO HFT hPl
      clear HCK p0
      have i0 : (0 : Int) ≤ (i : Int) := by omega
      have i1 : (i : Int) < (n : Int) := by omega
      go_wp2_with fail
      go_loopw [8, 10] (fun s8 s10 wq => ∃ j : Nat, s10 = .int .i64 j ∧ j ≤ T.length ∧ w1.heap.size ≤ wq.heap.size ∧ Hid (OwnR i64E wq w1.heap.size s8 (P ++ onceL T x j)) ∧ Hid (Below w1.heap.size w1 wq)) (fun _ s10 _ => n + 10 - (intOf s10).toNat)
      case atStart => exact ⟨0, rfl, Nat.zero_le _, hzi, hide (by rw [onceL_zero, List.append_nil]; exact unhide HO), HB⟩
      case round =>
        clear HO HB hzi
        obtain ⟨j, rfl, hj, hzj, HO, HB⟩ := hrel
        have HBW := hide ((unhide HB1).trans ((unhide HB).mono hz1))
        have hjm : j ≤ min K n := by rw [← unhide HTL]; exact hj
        obtain ⟨a2, c2, hv2⟩ := (unhide HO).form
        obtain ⟨q, hq⟩ : ∃ q, (P ++ onceL T x j).length = q := ⟨_, rfl⟩
        rw [hq] at hv2
        subst hv2
        have hq2 : q < 100000000 := by rw [← hq, List.length_append]; have := onceL_len T x j; omega
        have HQ := hide hq
        clear hq
        by_cases hjT : j < T.length
        · obtain ⟨hjr, hjg⟩ := unhide HTG j hjT
          obtain ⟨gr, e1, l2, pr, -⟩ := ((unhide HR1).below (unhide HB)).ix j hjr
          have HHIT := hide (onceL_hit T x j hjT (unhide HTN))
          have HMISS := hide (onceL_miss T x j hjT)
          rw [hjg] at pr
          generalize T[j] = y at pr HHIT HMISS
          subst e1
          have pk := unhide HCK2 wr (unhide HBW)
          have hjm2 : j < min K n := by rw [← unhide HTL]; exact hjT
          have j0 : (0 : Int) ≤ (j : Int) := by omega
          have j1 : (j : Int) < (n : Int) := by omega
          have j2 : (j : Int) < (K : Int) := by omega
          clear hjg hjr
          by_cases hyx : y = x
          · subst hyx
            obtain ⟨hh1, hh2⟩ := unhide HHIT rfl
            have HO2 := hide (show OwnR i64E wr w1.heap.size (.slice a2 q c2) P from by have := unhide HO; rwa [hh1, List.append_nil] at this)
            have HH2 := hide hh2
            have hlen : P.length < 100000000 := by omega
            have HLQ := hide (show (P ++ [y]).length = q + 1 from by have := unhide HQ; rw [hh1, List.append_nil] at this; rw [List.length_append, this]; rfl)
            have HO3 := hide (show OwnR i64E wr.drew w1.heap.size (.slice a2 q c2) P from unhide HO2)
            have hzd : w1.heap.size ≤ wr.drew.heap.size := hzj
            clear hh1 hh2 HHIT HMISS HO HO2
            go_wp2_with fail
            go_region
            all_goals
              go_wp2_with (at_builtin; go_must (refine appR (e := i64E) rfl _ _ rfl (unhide HO3) rfl y rfl _ rfl rfl hlen hzd ?_); intro v' w6 hown6 hb6 hg6; obtain ⟨a3, c3, hv'⟩ := hown6.form; rw [unhide HLQ] at hv'; subst hv')
              go_roundw
              case rel => exact ⟨j + 1, by go_num, by omega, by have := hb6.size; exact Nat.le_trans hzj this, hide (by rw [unhide HH2]; exact hown6), hide ((unhide HB).drew.trans hb6)⟩
              case measure => simp [intOf]; omega
          · have HM2 := hide (unhide HMISS hyx)
            clear HHIT HMISS
            have hyb : ((y : Int) == x) = false := by simpa using hyx
            go_wp2_with fail
            go_region
            all_goals
              go_wp2_with fail
              go_roundw
              case rel => exact ⟨j + 1, by go_num, by omega, hzj, hide (by rw [unhide HM2]; exact unhide HO), hide (unhide HB).drew⟩
              case measure => simp [intOf]; omega
        · obtain rfl : j = T.length := by omega
          have HO2 := hide (show OwnR i64E wr w1.heap.size (.slice a2 q c2) ((ls.take (i + 1)).filter fun x => decide (x ∈ T)) from by
            have := unhide HO
            rw [onceL_end] at this
            rw [unhide HFT]
            simpa using this)
          have hTL := unhide HTL
          generalize T.length = L at hTL hj hjT
          clear HO
          by_cases hKn : n ≤ K
          · have k1 : ¬ (L : Int) < (n : Int) := by omega
            go_wp2_with fail
            go_roundw
            case rel => exact ⟨i + 1, by go_num, by omega, hzj, HO2, HB⟩
            case measure => simp [intOf]; omega
          · have k1 : (L : Int) < (n : Int) := by omega
            have k2 : ¬ (L : Int) < (K : Int) := by omega
            go_wp2_with fail
            go_roundw
            case rel => exact ⟨i + 1, by go_num, by omega, hzj, HO2, HB⟩
            case measure => simp [intOf]; omega
    · obtain rfl : i = n := by omega
      rw [List.take_of_length_le (by rw [unhide HLN]; exact Nat.le_refl _)] at HO
      obtain ⟨a2, c2, hv2⟩ := (unhide HO).form
      generalize hPP : (ls.filter fun x => decide (x ∈ T)) = PP at HO hv2
      have HPP := hide hPP
      obtain ⟨q, hq⟩ : ∃ q, PP.length = q := ⟨_, rfl⟩
      rw [hq] at hv2
      subst hv2
      clear hq hPP
      go_wp2_with fail
      go_ret
      exact ⟨.slice a2 q c2, rfl, by rw [unhide HPP]; exact (unhide HO).le hz1, (unhide HB1).trans ((unhide HB).mono hz1)⟩
end Go.Proofs.YtbcfejplaffbnaaDoor
