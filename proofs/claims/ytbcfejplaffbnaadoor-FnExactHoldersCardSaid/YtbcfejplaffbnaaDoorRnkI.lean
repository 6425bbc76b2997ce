/- Nodes by their weights, by the program: a generic sort. -/
import Derived.Test.YtbcfejplaffbnaaDoorSrtK
import Derived.Test.YtbcfejplaffbnaaDoorSrtW
import Derived.Test.YtbcfejplaffbnaaDoorShlW
import Derived.Test.YtbcfejplaffbnaaDoorRnkS
namespace Go.Proofs.YtbcfejplaffbnaaDoor
open Go.RowKit Go.Sort Plain
set_option linter.unusedVariables false

namespace Plain
def wgL (x : Int × Int) : List Value := [.int .i64 x.1, .int .u64 x.2]
theorem cmpZ_neg (a b : Int) : cmpZ a b < 0 ↔ a < b := by unfold cmpZ; split <;> (try split) <;> omega
theorem cmpZ_zero (a b : Int) : cmpZ a b = 0 ↔ a = b := by unfold cmpZ; split <;> (try split) <;> omega
theorem ltW (x y : Int × Int) : ltOf cfW x y = decide (y.2 < x.2 ∨ (x.2 = y.2 ∧ x.1 < y.1)) := by
  unfold ltOf cfW
  rw [decide_eq_decide]
  by_cases h : cmpZ y.2 x.2 = 0
  · rw [if_neg (by simpa using h), cmpZ_neg]
    have := (cmpZ_zero _ _).1 h
    omega
  · rw [if_pos h, cmpZ_neg]
    have : ¬ y.2 = x.2 := fun e => h ((cmpZ_zero _ _).2 e)
    omega
theorem swoW : SWO (ltOf cfW) where
  irrefl x := by rw [ltW]; simp
  trans x y z h1 h2 := by rw [ltW] at *; simp at *; omega
  ntrans x y z h1 h2 := by rw [ltW] at *; simp at *; omega
theorem totW (x y : Int × Int) (h1 : ltOf cfW x y = false) (h2 : ltOf cfW y x = false) : x = y := by
  rw [ltW] at h1 h2
  simp at h1 h2
  apply Prod.ext <;> omega
/-- The sorted rows are the ranks. -/
theorem msort_rk (f : Int → Int) (l : List Int) (h : l.Pairwise (· < ·)) : ((l.map fun x => (x, f x)).mergeSort fun x y => !(ltOf cfW) y x) = (rk f l).map fun x => (x, f x) := by
  obtain ⟨S, hS⟩ : ∃ S, ((l.map fun x => (x, f x)).mergeSort fun x y => !(ltOf cfW) y x) = S := ⟨_, rfl⟩
  have hp : S.Perm (l.map fun x => (x, f x)) := by rw [← hS]; exact List.mergeSort_perm _ _
  have hs : S.Pairwise fun x y => (!(ltOf cfW) y x) = true := by
    rw [← hS]
    refine List.pairwise_mergeSort (fun a b c h1 h2 => ?_) (fun a b => ?_) _
    · rw [ltW] at *; simp at *; omega
    · rw [ltW, ltW]; simp; omega
  rw [hS]
  have hm : ∀ z ∈ S, z = (z.1, f z.1) := fun z hz => by
    obtain ⟨x, _, rfl⟩ := List.mem_map.1 (hp.mem_iff.1 hz)
    rfl
  have hT : S = (S.map Prod.fst).map fun x => (x, f x) := by
    rw [List.map_map]
    conv => lhs; rw [← List.map_id S]
    exact List.map_congr_left fun z hz => hm z hz
  have hpt : (S.map Prod.fst).Perm l := by
    have := hp.map Prod.fst
    rwa [List.map_map, show (Prod.fst ∘ fun x : Int => (x, f x)) = id from rfl, List.map_id] at this
  have hst : (S.map Prod.fst).Pairwise fun a b => ¬ ahd f b a := by
    rw [List.pairwise_map]
    refine hs.imp_of_mem ?_
    intro a b ha hb hab hh
    have ea : a.2 = f a.1 := congrArg Prod.snd (hm a ha)
    have eb : b.2 = f b.1 := congrArg Prod.snd (hm b hb)
    rw [ltW] at hab
    unfold ahd at hh
    rw [← ea, ← eb] at hh
    simp at hab
    omega
  rw [hT, rk_unique f l _ h hpt hst]
end Plain

/-- Nodes with their weights, as elements. -/
def wgE : Elem (Int × Int) where
  E := 73
  S := 71
  n := 2
  bytes := 16
  zero := .agg #[.int .i64 0, .int .u64 0]
  enc := wgL
  hund := Tryd.underlying71
  hinfo := by kernel_rfl
  hz := rfl
  hn := by decide
  hb := by decide
  hlen := fun _ => rfl
  hone := fun x u hu => by simp [wgL] at hu; rcases hu with rfl | rfl <;> rfl
theorem RowAt.wx {W : World} {a : Option Addr} {xs : List (Int × Int)} (h : RowAt wgE W a xs) (i : Nat) (hi : i < xs.length) : ∃ g, a = some ⟨g, 0, none⟩ ∧ g < W.heap.size ∧ W.cell? ⟨g, i * 2, none⟩ = some (.int .i64 xs[i].1) ∧ W.cell? ⟨g, i * 2 + 1, none⟩ = some (.int .u64 xs[i].2) := by
  obtain ⟨g, e, hl, hc⟩ := h i hi
  exact ⟨g, e, hl, (hc 0 (by decide)).1, (hc 1 (by decide)).1⟩

theorem cmpLaysW (blk off size : Nat) (w : World) : CmpLays Tryd.prog 44 #[] wgL 2 cfW blk off size w := fun _ _ _ _ x y => closW_calls x y _
theorem sortW_calls (B g n cap : Nat) (f : Int → Int) (l : List Int) (w : World) (hn : l.length = n) (hn2 : n ≤ 1048576) (hr : l.Pairwise (· < ·)) (h : OwnR wgE w B (.slice (some ⟨g, 0, none⟩) n cap) (l.map fun x => (x, f x))) :
    Calls Tryd.prog 43 #[.slice (some ⟨g, 0, none⟩) n cap, .func (.func 44) #[] #[]] w fun e w' => e = .returned (.tuple #[]) ∧ OwnR wgE w' B (.slice (some ⟨g, 0, none⟩) n cap) ((rk f l).map fun x => (x, f x)) ∧ Below B w w' := by
  have hlt := World.ownsRow.lt h g rfl
  have hsz : (l.map fun x => (x, f x)).toArray.size = n := by simp [hn]
  have eg : ∀ args w, (callFunc 44 args).run Tryd.prog w = .ok (.enter 44 args) w := enters_of Tryd.func44 (by kernel_rfl) rfl
  have C := AnyQ.slices_SortFunc_total Tryd.lShlW 2 Tryd.isAgg73 Tryd.sizeOf73 wgL (fun _ => rfl) wgE.hone cfW swoW 44 #[] g 0 cap (l.map fun x => (x, f x)).toArray w eg (cmpLaysW _ _ _ _) h.holdsK hlt.2 (by rw [hsz]; omega) totW
  rw [hsz] at C
  refine C.mono ?_
  rintro e w' ⟨rfl, m, os, rfl⟩
  have hms := msort_rk f l hr
  refine ⟨rfl, ?_, ?_⟩
  · rw [show ((l.map fun x => (x, f x)).toArray.toList.mergeSort fun x y => !(ltOf cfW) y x) = (rk f l).map fun x => (x, f x) from hms]
    exact OwnR.sortedK (e := wgE) h (by rw [List.length_map, List.length_map, rk_len]) m os
  · exact below_sortedK wgE w B g m _ os hlt.1 hlt.2

theorem sortW_none (c : Nat) (fv : Value) (w : World) :
    Calls Tryd.prog 43 #[.slice none 0 c, fv] w fun e w' => e = .returned (.tuple #[]) ∧ w' = w := AnyF.slices_SortFunc_none Tryd.lShlW none c fv w
theorem sortW_any (B : Nat) (a : Option Addr) (n cap : Nat) (f : Int → Int) (l : List Int) (w : World) (hn : l.length = n) (hn2 : n ≤ 1048576) (hr : l.Pairwise (· < ·)) (h : OwnR wgE w B (.slice a n cap) (l.map fun x => (x, f x))) (hB : B ≤ w.heap.size) :
    Calls Tryd.prog 43 #[.slice a n cap, .func (.func 44) #[] #[]] w fun e w' => e = .returned (.tuple #[]) ∧ OwnR wgE w' B (.slice a n cap) ((rk f l).map fun x => (x, f x)) ∧ Below B w w' := by
  rcases h.2 with ⟨e, e0⟩ | ⟨g, cap', cur, e, _⟩
  · simp at e
    obtain ⟨rfl, rfl, rfl⟩ := e
    refine (sortW_none 0 _ w).mono ?_
    rintro e w' ⟨rfl, rfl⟩
    obtain rfl := List.length_eq_zero_iff.1 hn
    exact ⟨rfl, ownR_nil _ _ _, Below.refl _ _⟩
  · simp at e
    obtain ⟨rfl, _⟩ := e
    exact sortW_calls B g n cap f l w hn hn2 hr h

namespace Plain
theorem okIds_lt : ∀ (l : List Int) (p : Int), okIds p l = true → l.Pairwise (· < ·) ∧ ∀ a ∈ l, p < a
  | [], _, _ => ⟨List.Pairwise.nil, fun a h => by cases h⟩
  | b :: l, p, h => by
    rw [okIds, Bool.and_eq_true, Bool.and_eq_true, decide_eq_true_iff, decide_eq_true_iff] at h
    obtain ⟨⟨h1, _⟩, h3⟩ := h
    obtain ⟨i1, i2⟩ := okIds_lt l b h3
    refine ⟨List.pairwise_cons.2 ⟨i2, i1⟩, fun a ha => ?_⟩
    rcases List.mem_cons.1 ha with rfl | ha
    · exact h1
    · have := i2 a ha; omega
end Plain

set_option maxRecDepth 10000 in
set_option maxHeartbeats 4000000 in
theorem heaviest_calls (d : ByteArray) (gd : Nat) (a : Option Addr) (n c : Nat) (ls : List Int) (w : World) (h : IntsAt w a n ls) (hok : okIds 0 ls = true) (hd : d.size = 71) (hK : KAt w) (hg : w.cell? ⟨gd, 0, none⟩ = some (.string d)) :
    Calls Tryd.prog 25 #[.slice a n c, .func (.func 48) #[] #[.pointer (some ⟨gd, 0, none⟩)]] w fun e w' => ∃ v, e = .returned v ∧ OwnR i64E w' w.heap.size v (rk (wt d) ls) ∧ Below w.heap.size w w' := by
  have h0 : 1 < w.heap.size := lt_of_cell (hK 0 (by omega))
  have hgl : gd < w.heap.size := lt_of_cell hg
  have HALL := hide (okIds_facts ls 0 (by decide) hok).2
  have hris := (okIds_lt ls 0 hok).1
  have HW := hide (fun (W : World) (hW : Below w.heap.size w W) (N : Nat) (h2 : N ≤ 50) => weigh_calls d N gd W (hK.below hW h0) hd h2 (bclW hW hgl hg))
  have HSRT := hide (fun (B : Nat) (a : Option Addr) (c : Nat) (W : World) (ho : OwnR wgE W B (.slice a n c) (ls.map fun x => (x, wt d x))) (hB : B ≤ W.heap.size) => sortW_any B a n c (wt d) ls W h.len h.bn hris ho hB)
  generalize wt d = f at HW HSRT ⊢
  have HD := hide (fun (W : World) (hW : Below w.heap.size w W) => h.below hW)
  have hbn := h.bn
  have HLN := hide h.len
  clear h hok hd hK hg hris
  go_enter Tryd.func25, Tryd.ntmps25
  go_wp2_with fail
  go_loopw [5, 13] (fun s5 s13 wr => ∃ k : Nat, s13 = .int .i64 k ∧ k ≤ n ∧ w.heap.size ≤ wr.heap.size ∧ Hid (OwnR wgE wr w.heap.size s5 ((ls.take k).map fun x => (x, f x))) ∧ Hid (Below w.heap.size w wr)) (fun _ s13 _ => n - (intOf s13).toNat)
  case atStart => exact ⟨0, rfl, by omega, Nat.le_refl _, hide (ownR_nil _ _ _), hide (Below.refl _ _)⟩
  case round =>
    obtain ⟨k, rfl, hk, hz, HO, HB⟩ := hrel
    by_cases hkn : k < n
    · have hkl : k < ls.length := by rw [unhide HLN]; exact hkn
      obtain ⟨g, e1, l1, p0, -⟩ := (unhide HD wr (unhide HB)).row.ix k hkl
      have hr := unhide HALL ls[k] (by simp)
      have HTK := hide (show (ls.take (k + 1)).map (fun x => (x, f x)) = ((ls.take k).map fun x => (x, f x)) ++ [(ls[k], f ls[k])] from by rw [List.take_succ_eq_append_getElem hkl, List.map_append]; rfl)
      have hlen : ((ls.take k).map fun x => (x, f x)).length < 100000000 := by rw [List.length_map, List.length_take]; omega
      generalize ls[k] = x at p0 hr HTK
      obtain ⟨X, rfl⟩ := Int.eq_ofNat_of_zero_le (show 0 ≤ x by omega)
      have HWX := hide (unhide HW wr (unhide HB) X (by omega))
      have HLK := hide (show ((ls.take k).map fun x => (x, f x)).length = k from by rw [List.length_map, List.length_take]; omega)
      have HLK2 := hide (show (((ls.take k).map fun x => (x, f x)) ++ [((X : Int), f (X : Int))]).length = k + 1 from by rw [List.length_append, unhide HLK]; rfl)
      obtain ⟨a1, c1, hv1⟩ := (unhide HO).form
      rw [unhide HLK] at hv1
      subst hv1
      have i0 : (0 : Int) ≤ (k : Int) := by omega
      have i1 : (k : Int) < (n : Int) := by omega
      subst e1
      clear hr HW HD
      go_wp2_with fail
      refine (unhide HWX).mono ?_
      rintro e w1 ⟨rfl, hb1⟩
      have hz1 := hb1.size
      have HB1 := hide ((unhide HB).trans (hb1.mono hz))
      have HO1 := hide ((unhide HO).keep hb1)
      have hz2 : w.heap.size ≤ w1.heap.size := by omega
      clear hb1 p0 HO HB hz1 HWX
      go_wp2_with (at_builtin; go_must (refine appR (e := wgE) rfl _ _ rfl (unhide HO1) rfl ((X : Int), f (X : Int)) rfl _ rfl rfl hlen hz2 ?_); intro v' w6 hown6 hb6 hg6; obtain ⟨a3, c3, hv'⟩ := hown6.form; rw [unhide HLK2] at hv'; subst hv')
      go_roundw
      case rel => exact ⟨k + 1, by go_num, by omega, by have := hb6.size; omega, hide (by rw [unhide HTK]; exact hown6), hide ((unhide HB1).trans hb6)⟩
      case measure => simp [intOf]; omega
    · obtain rfl : k = n := by omega
      rw [List.take_of_length_le (by rw [unhide HLN]; exact Nat.le_refl _)] at HO
      clear HW HD
      obtain ⟨a1, c1, hv1⟩ := (unhide HO).form
      rw [List.length_map, unhide HLN] at hv1
      subst hv1
      have HS := hide (unhide HSRT _ a1 c1 wr (unhide HO) hz)
      have HLR := hide (show (rk f ls).length = k from by rw [rk_len]; exact unhide HLN)
      generalize hrs : rk f ls = rs at HS HLR
      have HRS := hide hrs
      clear hrs
      clear HO HSRT
      go_wp2_with fail
      refine (unhide HS).mono ?_
      rintro e w1 ⟨rfl, ho1, hb1⟩
      have HR0 := hide ho1
      have HB1 := hide ((unhide HB).trans hb1)
      have hz1 : w.heap.size ≤ w1.heap.size := Nat.le_trans hz hb1.size
      clear hb1 ho1 HS HB hz hk hkn
      go_wp2_with fail
      go_loopw [8, 30] (fun s8 s30 wq => ∃ m : Nat, s30 = .int .i64 m ∧ m ≤ k ∧ w.heap.size ≤ wq.heap.size ∧ Hid (OwnR i64E wq w.heap.size s8 (rs.take m)) ∧ Hid (OwnR wgE wq w.heap.size (.slice a1 k c1) (rs.map fun x => (x, f x))) ∧ Hid (Below w.heap.size w wq)) (fun _ s30 _ => k - (intOf s30).toNat)
      case atStart => exact ⟨0, rfl, by omega, hz1, hide (ownR_nil _ _ _), HR0, HB1⟩
      case round =>
        clear HR0 HB1 hz1
        obtain ⟨m, rfl, hm, hzm, HO, HR, HB⟩ := hrel
        by_cases hmk : m < k
        · have hml : m < rs.length := by rw [unhide HLR]; exact hmk
          have hml2 : m < (rs.map fun x => (x, f x)).length := by rw [List.length_map]; exact hml
          obtain ⟨g, e1, l1, p0, p1⟩ := (unhide HR).at.wx m hml2
          rw [List.getElem_map] at p0 p1
          have HTK := hide (List.take_succ_eq_append_getElem hml)
          have HLK := hide (show (rs.take m).length = m from by rw [List.length_take]; omega)
          have HLK2 := hide (show (rs.take m ++ [rs[m]]).length = m + 1 from by rw [List.length_append, unhide HLK]; rfl)
          generalize rs[m] = x at p0 p1 HTK HLK2
          simp only at p0 p1
          have hlen : (rs.take m).length < 100000000 := by rw [unhide HLK]; omega
          obtain ⟨a2, c2, hv2⟩ := (unhide HO).form
          rw [unhide HLK] at hv2
          subst hv2
          subst e1
          have i0 : (0 : Int) ≤ (m : Int) := by omega
          have i1 : (m : Int) < (k : Int) := by omega
          clear hml hml2
          obtain ⟨OB, hOB⟩ : ∃ OB, OB = Obj.cells #[.int .i64 x, .int .u64 (f x)] 73 := ⟨_, rfl⟩
          have HO2 := hide ((unhide HO).keep (bel1D wr OB))
          have HR2 := hide ((unhide HR).keep (bel1D wr OB))
          have hz2 : w.heap.size ≤ (wr.alloc OB).heap.size := by simp; omega
          rw [hOB] at HO2 HR2 hz2
          have HOB := hide hOB
          clear hOB
          go_wp2_with (at_builtin; go_must (refine appR (e := i64E) rfl _ _ rfl (unhide HO2) rfl x rfl _ rfl (by simp) hlen hz2 ?_); intro v' w6 hown6 hb6 hg6; obtain ⟨a3, c3, hv'⟩ := hown6.form; rw [unhide HLK2] at hv'; subst hv')
          have HB6 := hide ((unhide HB).trans (((bel1D wr _).mono hzm).trans hb6))
          have HR6 := hide ((unhide HR2).beside (unhide HO2) (by decide) hg6)
          have hz6 := hb6.size
          clear hb6 hg6 HO2 HR2 HO HR HB p0 p1
          go_roundw
          case rel => exact ⟨m + 1, by go_num, by omega, by omega, hide (by rw [unhide HTK]; exact hown6), HR6, HB6⟩
          case measure => simp [intOf]; omega
        · obtain rfl : m = k := by omega
          rw [List.take_of_length_le (by rw [unhide HLR]; exact Nat.le_refl _)] at HO
          obtain ⟨a2, c2, hv2⟩ := (unhide HO).form
          rw [unhide HLR] at hv2
          subst hv2
          clear HR
          go_wp2_with fail
          go_ret
          exact ⟨.slice a2 m c2, rfl, by rw [unhide HRS]; exact unhide HO, unhide HB⟩
end Go.Proofs.YtbcfejplaffbnaaDoor
