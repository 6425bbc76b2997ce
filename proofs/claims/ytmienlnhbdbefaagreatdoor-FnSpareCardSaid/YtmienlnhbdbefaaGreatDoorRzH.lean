/- Texts of one kind, put together. -/
import Derived.Test.YtmienlnhbdbefaaGreatDoorRzU
import Derived.Test.YtmienlnhbdbefaaGreatDoorShlW
import Derived.Test.YtmienlnhbdbefaaGreatDoorRzK
import Derived.Test.YtmienlnhbdbefaaGreatDoorRzB
import Derived.Deep.RegionWith
import Derived.Deep.QuietTactic
import Derived.BigQuiet
import Derived.Lib.TrailingZeros
import Derived.Test.YtmienlnhbdbefaaGreatDoorRzL
import Derived.Shelf.Spec.TrailingZeros
import Derived.Deep.RegionHeld3
import Derived.Test.YtmienlnhbdbefaaGreatDoorRzC

/- Nodes by their weights, by the program: a generic sort. -/
namespace Go.Proofs.YtmienlnhbdbefaaGreatDoor
open Go.RowKit Go.Sort Plain
set_option linter.unusedVariables false

namespace Plain
def wgL (x : Int × Int) : List Value := [.int .i64 x.1, .int .u64 x.2]
theorem cmpZ_neg (a b : Int) : cmpZ a b < 0 ↔ a < b := by unfold cmpZ; split <;> (try split) <;> omega
theorem cmpZ_zero (a b : Int) : cmpZ a b = 0 ↔ a = b := by unfold cmpZ; split <;> (try split) <;> omega
theorem ltW (x y : Int × Int) : ltOf cfW x y = decide (y.2 < x.2 ∨ (x.2 = y.2 ∧ x.1 < y.1)) := by
  unfold ltOf cfW
  rw [decide_eq_decide]
  by_cases h : cmpZ y.2 x.2 = 0
  · rw [if_neg (by simpa using h), cmpZ_neg]
    have := (cmpZ_zero _ _).1 h
    omega
  · rw [if_pos h, cmpZ_neg]
    have : ¬ y.2 = x.2 := fun e => h ((cmpZ_zero _ _).2 e)
    omega
theorem swoW : SWO (ltOf cfW) where
  irrefl x := by rw [ltW]; simp
  trans x y z h1 h2 := by rw [ltW] at *; simp at *; omega
  ntrans x y z h1 h2 := by rw [ltW] at *; simp at *; omega
theorem totW (x y : Int × Int) (h1 : ltOf cfW x y = false) (h2 : ltOf cfW y x = false) : x = y := by
  rw [ltW] at h1 h2
  simp at h1 h2
  apply Prod.ext <;> omega
/-- The sorted rows are the ranks. -/
theorem msort_rk (f : Int → Int) (l : List Int) (h : l.Pairwise (· < ·)) : ((l.map fun x => (x, f x)).mergeSort fun x y => !(ltOf cfW) y x) = (rk f l).map fun x => (x, f x) := by
  obtain ⟨S, hS⟩ : ∃ S, ((l.map fun x => (x, f x)).mergeSort fun x y => !(ltOf cfW) y x) = S := ⟨_, rfl⟩
  have hp : S.Perm (l.map fun x => (x, f x)) := by rw [← hS]; exact List.mergeSort_perm _ _
  have hs : S.Pairwise fun x y => (!(ltOf cfW) y x) = true := by
    rw [← hS]
    refine List.pairwise_mergeSort (fun a b c h1 h2 => ?_) (fun a b => ?_) _
    · rw [ltW] at *; simp at *; omega
    · rw [ltW, ltW]; simp; omega
  rw [hS]
  have hm : ∀ z ∈ S, z = (z.1, f z.1) := fun z hz => by
    obtain ⟨x, _, rfl⟩ := List.mem_map.1 (hp.mem_iff.1 hz)
    rfl
  have hT : S = (S.map Prod.fst).map fun x => (x, f x) := by
    rw [List.map_map]
    conv => lhs; rw [← List.map_id S]
    exact List.map_congr_left fun z hz => hm z hz
  have hpt : (S.map Prod.fst).Perm l := by
    have := hp.map Prod.fst
    rwa [List.map_map, show (Prod.fst ∘ fun x : Int => (x, f x)) = id from rfl, List.map_id] at this
  have hst : (S.map Prod.fst).Pairwise fun a b => ¬ ahd f b a := by
    rw [List.pairwise_map]
    refine hs.imp_of_mem ?_
    intro a b ha hb hab hh
    have ea : a.2 = f a.1 := congrArg Prod.snd (hm a ha)
    have eb : b.2 = f b.1 := congrArg Prod.snd (hm b hb)
    rw [ltW] at hab
    unfold ahd at hh
    rw [← ea, ← eb] at hh
    simp at hab
    omega
  rw [hT, rk_unique f l _ h hpt hst]
end Plain

/-- Nodes with their weights, as elements. -/
def wgE : Elem (Int × Int) where
  E := 99
  S := 97
  n := 2
  bytes := 16
  zero := .agg #[.int .i64 0, .int .u64 0]
  enc := wgL
  hund := Tryz.underlying97
  hinfo := by kernel_rfl
  hz := rfl
  hn := by decide
  hb := by decide
  hlen := fun _ => rfl
  hone := fun x u hu => by simp [wgL] at hu; rcases hu with rfl | rfl <;> rfl
theorem RowAt.wx {W : World} {a : Option Addr} {xs : List (Int × Int)} (h : RowAt wgE W a xs) (i : Nat) (hi : i < xs.length) : ∃ g, a = some ⟨g, 0, none⟩ ∧ g < W.heap.size ∧ W.cell? ⟨g, i * 2, none⟩ = some (.int .i64 xs[i].1) ∧ W.cell? ⟨g, i * 2 + 1, none⟩ = some (.int .u64 xs[i].2) := by
  obtain ⟨g, e, hl, hc⟩ := h i hi
  exact ⟨g, e, hl, (hc 0 (by decide)).1, (hc 1 (by decide)).1⟩

theorem cmpLaysW (blk off size : Nat) (w : World) : CmpLays Tryz.prog 54 #[] wgL 2 cfW blk off size w := fun _ _ _ _ x y => closW_calls x y _
theorem sortW_calls (B g n cap : Nat) (f : Int → Int) (l : List Int) (w : World) (hn : l.length = n) (hn2 : n ≤ 1048576) (hr : l.Pairwise (· < ·)) (h : OwnR wgE w B (.slice (some ⟨g, 0, none⟩) n cap) (l.map fun x => (x, f x))) :
    Calls Tryz.prog 53 #[.slice (some ⟨g, 0, none⟩) n cap, .func (.func 54) #[] #[]] w fun e w' => e = .returned (.tuple #[]) ∧ OwnR wgE w' B (.slice (some ⟨g, 0, none⟩) n cap) ((rk f l).map fun x => (x, f x)) ∧ Below B w w' := by
  have hlt := World.ownsRow.lt h g rfl
  have hsz : (l.map fun x => (x, f x)).toArray.size = n := by simp [hn]
  have eg : ∀ args w, (callFunc 54 args).run Tryz.prog w = .ok (.enter 54 args) w := enters_of Tryz.func54 (by kernel_rfl) rfl
  have C := AnyQ.slices_SortFunc_total Tryz.lShlW 2 Tryz.isAgg99 Tryz.sizeOf99 wgL (fun _ => rfl) wgE.hone cfW swoW 54 #[] g 0 cap (l.map fun x => (x, f x)).toArray w eg (cmpLaysW _ _ _ _) h.holdsK hlt.2 (by rw [hsz]; omega) totW
  rw [hsz] at C
  refine C.mono ?_
  rintro e w' ⟨rfl, m, os, rfl⟩
  have hms := msort_rk f l hr
  refine ⟨rfl, ?_, ?_⟩
  · rw [show ((l.map fun x => (x, f x)).toArray.toList.mergeSort fun x y => !(ltOf cfW) y x) = (rk f l).map fun x => (x, f x) from hms]
    exact OwnR.sortedK (e := wgE) h (by rw [List.length_map, List.length_map, rk_len]) m os
  · exact below_sortedK wgE w B g m _ os hlt.1 hlt.2

theorem sortW_none (c : Nat) (fv : Value) (w : World) :
    Calls Tryz.prog 53 #[.slice none 0 c, fv] w fun e w' => e = .returned (.tuple #[]) ∧ w' = w := AnyF.slices_SortFunc_none Tryz.lShlW none c fv w
theorem sortW_any (B : Nat) (a : Option Addr) (n cap : Nat) (f : Int → Int) (l : List Int) (w : World) (hn : l.length = n) (hn2 : n ≤ 1048576) (hr : l.Pairwise (· < ·)) (h : OwnR wgE w B (.slice a n cap) (l.map fun x => (x, f x))) (hB : B ≤ w.heap.size) :
    Calls Tryz.prog 53 #[.slice a n cap, .func (.func 54) #[] #[]] w fun e w' => e = .returned (.tuple #[]) ∧ OwnR wgE w' B (.slice a n cap) ((rk f l).map fun x => (x, f x)) ∧ Below B w w' := by
  rcases h.2 with ⟨e, e0⟩ | ⟨g, cap', cur, e, _⟩
  · simp at e
    obtain ⟨rfl, rfl, rfl⟩ := e
    refine (sortW_none 0 _ w).mono ?_
    rintro e w' ⟨rfl, rfl⟩
    obtain rfl := List.length_eq_zero_iff.1 hn
    exact ⟨rfl, ownR_nil _ _ _, Below.refl _ _⟩
  · simp at e
    obtain ⟨rfl, _⟩ := e
    exact sortW_calls B g n cap f l w hn hn2 hr h

namespace Plain
theorem okIds_lt : ∀ (l : List Int) (p : Int), okIds p l = true → l.Pairwise (· < ·) ∧ ∀ a ∈ l, p < a
  | [], _, _ => ⟨List.Pairwise.nil, fun a h => by cases h⟩
  | b :: l, p, h => by
    rw [okIds, Bool.and_eq_true, Bool.and_eq_true, decide_eq_true_iff, decide_eq_true_iff] at h
    obtain ⟨⟨h1, _⟩, h3⟩ := h
    obtain ⟨i1, i2⟩ := okIds_lt l b h3
    refine ⟨List.pairwise_cons.2 ⟨i2, i1⟩, fun a ha => ?_⟩
    rcases List.mem_cons.1 ha with rfl | ha
    · exact h1
    · have := i2 a ha; omega
end Plain

set_option maxRecDepth 10000 in
set_option maxHeartbeats 4000000 in
theorem heaviest_calls (d : ByteArray) (gd : Nat) (a : Option Addr) (n c : Nat) (ls : List Int) (w : World) (h : IntsAt w a n ls) (hok : okIds 0 ls = true) (hd : d.size = 71) (hK : KAt w) (hg : w.cell? ⟨gd, 0, none⟩ = some (.string d)) :
    Calls Tryz.prog 35 #[.slice a n c, .func (.func 58) #[] #[.pointer (some ⟨gd, 0, none⟩)]] w fun e w' => ∃ v, e = .returned v ∧ OwnR i64E w' w.heap.size v (rk (wt d) ls) ∧ Below w.heap.size w w' := by
  have h0 : 2 < w.heap.size := lt_of_cell (hK 0 (by omega))
  have hgl : gd < w.heap.size := lt_of_cell hg
  have HALL := hide (okIds_facts ls 0 (by decide) hok).2
  have hris := (okIds_lt ls 0 hok).1
  have HW := hide (fun (W : World) (hW : Below w.heap.size w W) (N : Nat) (h2 : N ≤ 50) => weigh_calls d N gd W (hK.below hW h0) hd h2 (bclW hW hgl hg))
  have HSRT := hide (fun (B : Nat) (a : Option Addr) (c : Nat) (W : World) (ho : OwnR wgE W B (.slice a n c) (ls.map fun x => (x, wt d x))) (hB : B ≤ W.heap.size) => sortW_any B a n c (wt d) ls W h.len h.bn hris ho hB)
  generalize wt d = f at HW HSRT ⊢
  have HD := hide (fun (W : World) (hW : Below w.heap.size w W) => h.below hW)
  have hbn := h.bn
  have HLN := hide h.len
  clear h hok hd hK hg hris
  go_enter Tryz.func35, Tryz.ntmps35
  go_wp2_with fail
  go_loopw [5, 13] (fun s5 s13 wr => ∃ k : Nat, s13 = .int .i64 k ∧ k ≤ n ∧ w.heap.size ≤ wr.heap.size ∧ Hid (OwnR wgE wr w.heap.size s5 ((ls.take k).map fun x => (x, f x))) ∧ Hid (Below w.heap.size w wr)) (fun _ s13 _ => n - (intOf s13).toNat)
  case atStart => exact ⟨0, rfl, by omega, Nat.le_refl _, hide (ownR_nil _ _ _), hide (Below.refl _ _)⟩
  case round =>
    obtain ⟨k, rfl, hk, hz, HO, HB⟩ := hrel
    by_cases hkn : k < n
    · have hkl : k < ls.length := by rw [unhide HLN]; exact hkn
      obtain ⟨g, e1, l1, p0, -⟩ := (unhide HD wr (unhide HB)).row.ix k hkl
      have hr := unhide HALL ls[k] (by simp)
      have HTK := hide (show (ls.take (k + 1)).map (fun x => (x, f x)) = ((ls.take k).map fun x => (x, f x)) ++ [(ls[k], f ls[k])] from by rw [List.take_succ_eq_append_getElem hkl, List.map_append]; rfl)
      have hlen : ((ls.take k).map fun x => (x, f x)).length < 100000000 := by rw [List.length_map, List.length_take]; omega
      generalize ls[k] = x at p0 hr HTK
      obtain ⟨X, rfl⟩ := Int.eq_ofNat_of_zero_le (show 0 ≤ x by omega)
      have HWX := hide (unhide HW wr (unhide HB) X (by omega))
      have HLK := hide (show ((ls.take k).map fun x => (x, f x)).length = k from by rw [List.length_map, List.length_take]; omega)
      have HLK2 := hide (show (((ls.take k).map fun x => (x, f x)) ++ [((X : Int), f (X : Int))]).length = k + 1 from by rw [List.length_append, unhide HLK]; rfl)
      obtain ⟨a1, c1, hv1⟩ := (unhide HO).form
      rw [unhide HLK] at hv1
      subst hv1
      have i0 : (0 : Int) ≤ (k : Int) := by omega
      have i1 : (k : Int) < (n : Int) := by omega
      subst e1
      clear hr HW HD
      go_wp2_with fail
      refine (unhide HWX).mono ?_
      rintro e w1 ⟨rfl, hb1⟩
      have hz1 := hb1.size
      have HB1 := hide ((unhide HB).trans (hb1.mono hz))
      have HO1 := hide ((unhide HO).keep hb1)
      have hz2 : w.heap.size ≤ w1.heap.size := by omega
      clear hb1 p0 HO HB hz1 HWX
      go_wp2_with (at_builtin; go_must (refine appR (e := wgE) rfl _ _ rfl (unhide HO1) rfl ((X : Int), f (X : Int)) rfl _ rfl rfl hlen hz2 ?_); intro v' w6 hown6 hb6 hg6; obtain ⟨a3, c3, hv'⟩ := hown6.form; rw [unhide HLK2] at hv'; subst hv')
      go_roundw
      case rel => exact ⟨k + 1, by go_num, by omega, by have := hb6.size; omega, hide (by rw [unhide HTK]; exact hown6), hide ((unhide HB1).trans hb6)⟩
      case measure => simp [intOf]; omega
    · obtain rfl : k = n := by omega
      rw [List.take_of_length_le (by rw [unhide HLN]; exact Nat.le_refl _)] at HO
      clear HW HD
      obtain ⟨a1, c1, hv1⟩ := (unhide HO).form
      rw [List.length_map, unhide HLN] at hv1
      subst hv1
      have HS := hide (unhide HSRT _ a1 c1 wr (unhide HO) hz)
      have HLR := hide (show (rk f ls).length = k from by rw [rk_len]; exact unhide HLN)
      generalize hrs : rk f ls = rs at HS HLR
      have HRS := hide hrs
      clear hrs
      clear HO HSRT
      go_wp2_with fail
      refine (unhide HS).mono ?_
      rintro e w1 ⟨rfl, ho1, hb1⟩
      have HR0 := hide ho1
      have HB1 := hide ((unhide HB).trans hb1)
      have hz1 : w.heap.size ≤ w1.heap.size := Nat.le_trans hz hb1.size
      clear hb1 ho1 HS HB hz hk hkn
      go_wp2_with fail
      go_loopw [8, 30] (fun s8 s30 wq => ∃ m : Nat, s30 = .int .i64 m ∧ m ≤ k ∧ w.heap.size ≤ wq.heap.size ∧ Hid (OwnR i64E wq w.heap.size s8 (rs.take m)) ∧ Hid (OwnR wgE wq w.heap.size (.slice a1 k c1) (rs.map fun x => (x, f x))) ∧ Hid (Below w.heap.size w wq)) (fun _ s30 _ => k - (intOf s30).toNat)
      case atStart => exact ⟨0, rfl, by omega, hz1, hide (ownR_nil _ _ _), HR0, HB1⟩
      case round =>
        clear HR0 HB1 hz1
        obtain ⟨m, rfl, hm, hzm, HO, HR, HB⟩ := hrel
        by_cases hmk : m < k
        · have hml : m < rs.length := by rw [unhide HLR]; exact hmk
          have hml2 : m < (rs.map fun x => (x, f x)).length := by rw [List.length_map]; exact hml
          obtain ⟨g, e1, l1, p0, p1⟩ := (unhide HR).at.wx m hml2
          rw [List.getElem_map] at p0 p1
          have HTK := hide (List.take_succ_eq_append_getElem hml)
          have HLK := hide (show (rs.take m).length = m from by rw [List.length_take]; omega)
          have HLK2 := hide (show (rs.take m ++ [rs[m]]).length = m + 1 from by rw [List.length_append, unhide HLK]; rfl)
          generalize rs[m] = x at p0 p1 HTK HLK2
          simp only at p0 p1
          have hlen : (rs.take m).length < 100000000 := by rw [unhide HLK]; omega
          obtain ⟨a2, c2, hv2⟩ := (unhide HO).form
          rw [unhide HLK] at hv2
          subst hv2
          subst e1
          have i0 : (0 : Int) ≤ (m : Int) := by omega
          have i1 : (m : Int) < (k : Int) := by omega
          clear hml hml2
          obtain ⟨OB, hOB⟩ : ∃ OB, OB = Obj.cells #[.int .i64 x, .int .u64 (f x)] 99 := ⟨_, rfl⟩
          have HO2 := hide ((unhide HO).keep (bel1D wr OB))
          have HR2 := hide ((unhide HR).keep (bel1D wr OB))
          have hz2 : w.heap.size ≤ (wr.alloc OB).heap.size := by simp; omega
          rw [hOB] at HO2 HR2 hz2
          have HOB := hide hOB
          clear hOB
          go_wp2_with (at_builtin; go_must (refine appR (e := i64E) rfl _ _ rfl (unhide HO2) rfl x rfl _ rfl (by simp) hlen hz2 ?_); intro v' w6 hown6 hb6 hg6; obtain ⟨a3, c3, hv'⟩ := hown6.form; rw [unhide HLK2] at hv'; subst hv')
          have HB6 := hide ((unhide HB).trans (((bel1D wr _).mono hzm).trans hb6))
          have HR6 := hide ((unhide HR2).beside (unhide HO2) (by decide) hg6)
          have hz6 := hb6.size
          clear hb6 hg6 HO2 HR2 HO HR HB p0 p1
          go_roundw
          case rel => exact ⟨m + 1, by go_num, by omega, by omega, hide (by rw [unhide HTK]; exact hown6), HR6, HB6⟩
          case measure => simp [intOf]; omega
        · obtain rfl : m = k := by omega
          rw [List.take_of_length_le (by rw [unhide HLR]; exact Nat.le_refl _)] at HO
          obtain ⟨a2, c2, hv2⟩ := (unhide HO).form
          rw [unhide HLR] at hv2
          subst hv2
          clear HR
          go_wp2_with fail
          go_ret
          exact ⟨.slice a2 m c2, rfl, by rw [unhide HRS]; exact unhide HO, unhide HB⟩
end Go.Proofs.YtmienlnhbdbefaaGreatDoor


/- Members by the program: when they are right. -/
namespace Go.Proofs.YtmienlnhbdbefaaGreatDoor
open Go.RowKit Plain
set_option linter.unusedVariables false



namespace Plain
def preB (v l : List Int) : Bool := (okIds 0 v && okIds 0 l) && (decide (1 ≤ v.length) && disjB v l)
def councV (v l : List Int) : Value := if preB v l = true then .tuple #[.agg #[.int .u64 (setN v : Nat), .int .u64 (setN l : Nat)], .bool (decide (v.length ≤ 7) && decide (l.length ≤ 7))] else .tuple #[.agg #[.int .u64 0, .int .u64 0], .bool false]
theorem councV_no {v l : List Int} (h : preB v l = false) : councV v l = .tuple #[.agg #[.int .u64 0, .int .u64 0], .bool false] := by unfold councV; rw [h]; rfl
theorem councV_yes {v l : List Int} (h : preB v l = true) : councV v l = .tuple #[.agg #[.int .u64 (setN v : Nat), .int .u64 (setN l : Nat)], .bool (decide (v.length ≤ 7) && decide (l.length ≤ 7))] := by unfold councV; rw [if_pos h]
theorem confB_pre (v l : List Int) : confB v l = (preB v l && (decide (v.length ≤ 7) && decide (l.length ≤ 7))) := by unfold confB preB; simp only [Bool.and_assoc]
/-- What is told of members: their sets, where they are right. -/
theorem councV_is (v l : List Int) : ∃ V L : Nat, councV v l = .tuple #[.agg #[.int .u64 V, .int .u64 L], .bool (confB v l)] ∧ (confB v l = true → V = setN v ∧ L = setN l) := by
  rw [confB_pre]
  cases h : preB v l with
  | false => exact ⟨0, 0, councV_no h, fun h => by simp at h⟩
  | true => exact ⟨setN v, setN l, councV_yes h, fun _ => ⟨rfl, rfl⟩⟩
/-- Members in memory. -/
structure ConfAt (W : World) (av : Option Addr) (nv : Nat) (v : List Int) (al : Option Addr) (nl : Nat) (l : List Int) : Prop where
  v : IntsAt W av nv v
  l : IntsAt W al nl l
theorem ConfAt.below {W W' : World} {av : Option Addr} {nv : Nat} {v : List Int} {al : Option Addr} {nl : Nat} {l : List Int} (h : ConfAt W av nv v al nl l) (hb : Below W.heap.size W W') : ConfAt W' av nv v al nl l := ⟨h.v.below hb, h.l.below hb⟩
end Plain

end Go.Proofs.YtmienlnhbdbefaaGreatDoor

/- Members by the program: right ones, quorums, whether two sets of quorums meet. -/
namespace Go.Proofs.YtmienlnhbdbefaaGreatDoor
open Go.RowKit Plain
set_option linter.unusedVariables false

namespace Plain
theorem dec_lt (a b : Nat) : decide ((a : Int) < (b : Int)) = decide (a < b) := decide_eq_decide.2 (by omega)
theorem dec_le (a b : Nat) : decide ((a : Int) ≤ (b : Int)) = decide (a ≤ b) := decide_eq_decide.2 (by omega)
theorem maj_le {x m : Nat} (h : popN 64 x / 2 + 1 = m) : m ≤ 1000 := by
  have := popN_le 64 x
  generalize popN 64 x = a at *
  omega
theorem add_small (a b : Nat) (ha : a ≤ 1000) (hb : b ≤ 1000) : wrap64 ((a : Int) + (b : Int)) = ((a + b : Nat) : Int) := by unfold wrap64; omega
theorem add_small2 (a b : Nat) (ha : a ≤ 1000) (hb : b ≤ 1000) : IntKind.i64.wrap ((a : Int) + (b : Int)) = ((a + b : Nat) : Int) := by rw [IntKind.wrap_i64]; omega
end Plain



set_option maxRecDepth 10000 in
set_option maxHeartbeats 2000000 in
theorem setOf_calls (a : Option Addr) (n c : Nat) (ls : List Int) (w : World) (h : IntsAt w a n ls) :
    Calls Tryz.prog 37 #[.slice a n c] w fun e w' => e = .returned (.int .u64 (setN ls : Nat)) ∧ w = w' := by
  have HH := hide h
  have hbn := h.bn
  clear h
  obtain ⟨w0, rfl⟩ : ∃ w0, w0 = w := ⟨_, rfl⟩
  go_enter Tryz.func37, Tryz.ntmps37
  go_wp2_with fail
  go_loopw [3, 8] (fun s i wr => ∃ k : Nat, i = .int .i64 k ∧ s = .int .u64 (setN (ls.take k) : Nat) ∧ k ≤ n ∧ wr = w0) (fun _ i _ => n - (intOf i).toNat)
  case atStart => exact ⟨0, rfl, rfl, by omega, rfl⟩
  case round =>
    obtain ⟨k, rfl, rfl, hk, rfl⟩ := hrel
    by_cases hkn : k < n
    · have hkl : k < ls.length := by rw [(unhide HH).len]; exact hkn
      obtain ⟨g, e1, l1, p0, -⟩ := (unhide HH).row.ix k hkl
      have hsn := setN_take ls k hkl
      have hlt := setN_lt (ls.take k)
      generalize ls[k] = x at p0 hsn
      subst e1
      have i0 : (0 : Int) ≤ (k : Int) := by omega
      have i1 : (k : Int) < (n : Int) := by omega
      generalize setN (ls.take k) = S at hlt hsn
      cases hn : (decide (1 ≤ x) && decide (x ≤ 50)) with
      | false =>
        have HN := hide hn
        rw [if_neg (fun hy => by simp at hn; omega)] at hsn
        have HSN := hide hsn
        clear hn hsn
        go_wp2_with fail
        refine (nodeId_calls x _).mono ?_
        rintro e w1 ⟨rfl, rfl⟩
        rw [unhide HN]
        go_wp2_with fail
        go_roundw
        case rel => exact ⟨k + 1, by go_num, by rw [unhide HSN], by omega, trivial⟩
        case measure => simp [intOf]; omega
      | true =>
        have HN := hide hn
        have hn2 : 1 ≤ x ∧ x ≤ 50 := by simpa using hn
        rw [if_pos hn2] at hsn
        obtain ⟨n1, n2⟩ := hn2
        obtain ⟨X, rfl⟩ := Int.eq_ofNat_of_zero_le (show 0 ≤ x by omega)
        rw [Int.toNat_natCast] at hsn
        have hX : X ≤ 63 := by omega
        have hon := only_calls X wr hX
        have hpl : 2 ^ X ≤ 1125899906842624 := Nat.pow_le_pow_right (show 0 < 2 by decide) (show X ≤ 50 by omega)
        have hor : bits .or .u64 (S : Int) ((2 ^ X : Nat) : Int) = ((S ||| 2 ^ X : Nat) : Int) := u64_or_nat _ _ (by omega) (by omega)
        generalize 2 ^ X = P at hon hpl hsn hor
        rw [← hsn] at hor
        have HSN := hide hsn
        have HON := hide hon
        clear hon hn hsn
        generalize hS3 : setN (ls.take (k + 1)) = S2 at HSN hor
        have HS3 := hide hS3
        clear hS3
        go_wp2_with fail
        refine (nodeId_calls _ _).mono ?_
        rintro e w1 ⟨rfl, rfl⟩
        rw [unhide HN]
        go_wp2_with fail
        refine (unhide HON).mono ?_
        rintro e w1 ⟨rfl, rfl⟩
        go_wp2_with fail
        go_roundw
        case rel => exact ⟨k + 1, by go_num, by rw [unhide HS3], by omega, trivial⟩
        case measure => simp [intOf]; omega
    · obtain rfl : k = n := by omega
      have HL := hide (show ls.take k = ls from List.take_of_length_le (by rw [(unhide HH).len]; exact Nat.le_refl _))
      rw [unhide HL]
      go_wp2_with fail
      go_ret
      exact ⟨rfl, rfl⟩





namespace Plain
/-- How many of v are among ids. -/
def among (v ids : List Int) : Nat := (v.filter fun x => decide (x ∈ ids)).length
def quoB (v l ids : List Int) : Bool := confB v l && decide (v.length < 2 * among v ids)
theorem confB_v {v l : List Int} (h : confB v l = true) : okIds 0 v = true ∧ 1 ≤ v.length ∧ v.length ≤ 7 := by
  unfold confB at h
  simp only [Bool.and_eq_true, decide_eq_true_iff] at h
  exact ⟨h.1.1, h.2.1.1, h.2.2.1⟩
theorem among_le (v ids : List Int) : among v ids ≤ v.length := List.length_filter_le _ _
end Plain



namespace Plain
def meetB (v l u k : List Int) : Bool := (confB v l && confB u k) && decide (v.length + u.length - among v u < (v.length / 2 + 1) + (u.length / 2 + 1))
end Plain

end Go.Proofs.YtmienlnhbdbefaaGreatDoor

/- Members by the specification: right ones. -/
namespace Go.Proofs.YtmienlnhbdbefaaGreatDoor
open Go.RowKit Plain
set_option linter.unusedVariables false

theorem inI_quiet (x lo hi : Int) (w : World) (n : Nat) (b : Bool) (hb : (decide (lo ≤ x) && decide (x ≤ hi)) = b) :
    Calls Tryz.prog 28 #[.int .i64 x, .int .i64 lo, .int .i64 hi] (w.drewN n) fun e w'' => e = .returned (.bool b) ∧ ∃ m, w'' = w.drewN m := by
  subst hb
  refine (l1In_calls x lo hi _).mono ?_
  rintro e w2 ⟨rfl, rfl⟩
  exact ⟨rfl, n, rfl⟩

set_option maxRecDepth 10000 in
set_option maxHeartbeats 1000000 in
theorem l1Ints_calls (a : Option Addr) (n c : Nat) (ls : List Int) (x : Int) (w : World) (h : IntsAt w a n ls) :
    Calls Tryz.prog 15 #[.slice a n c, .int .i64 x] w fun e w' => e = .returned (.bool (decide (x ∈ ls))) ∧ w = w' := by
  have HH := hide h
  have hbn := h.bn
  clear h
  obtain ⟨R, hR⟩ : ∃ R, decide (x ∈ ls) = R := ⟨_, rfl⟩
  rw [hR]
  have HR := hide hR
  clear hR
  obtain ⟨w0, rfl⟩ : ∃ w0, w0 = w := ⟨_, rfl⟩
  go_enter Tryz.func15, Tryz.ntmps15
  go_wp2_with fail
  go_loopw [5] (fun i wr => ∃ k : Nat, i = .int .i64 k ∧ k ≤ n ∧ Hid (decide (x ∈ ls.drop k) = R) ∧ wr = w0) (fun i _ => n - (intOf i).toNat)
  case atStart => exact ⟨0, rfl, by omega, hide (unhide HR), rfl⟩
  case round =>
    obtain ⟨k, rfl, hk, HO, rfl⟩ := hrel
    by_cases hkn : k < n
    · have hkl : k < ls.length := by rw [(unhide HH).len]; exact hkn
      obtain ⟨g, e1, l1, p0, -⟩ := (unhide HH).row.ix k hkl
      have hst := unhide HO
      rw [List.drop_eq_getElem_cons hkl] at hst
      generalize ls[k] = y at p0 hst
      subst e1
      have i0 : (0 : Int) ≤ (k : Int) := by omega
      have i1 : (k : Int) < (n : Int) := by omega
      clear HO
      by_cases hxy : y = x
      · subst hxy
        have HX := hide (show R = true from by rw [← hst]; simp)
        clear hst
        go_wp2_with fail
        go_ret
        exact ⟨by rw [unhide HX]; rfl, rfl⟩
      · have HX := hide (show decide (x ∈ ls.drop (k + 1)) = R from by rw [← hst]; exact decide_eq_decide.2 (by rw [List.mem_cons]; exact ⟨fun q => .inr q, fun q => q.resolve_left (fun q2 => hxy q2.symm)⟩))
        have hne : (y == x) = false := by rw [beq_eq_false_iff_ne]; exact hxy
        clear hst
        go_wp2_with fail
        go_roundw
        case rel => exact ⟨k + 1, by go_num, by omega, HX, trivial⟩
        case measure => simp [intOf]; omega
    · obtain rfl : k = n := by omega
      have hO := unhide HO
      rw [List.drop_of_length_le (by rw [(unhide HH).len]; exact Nat.le_refl _)] at hO
      have HX := hide (show R = false from by rw [← hO]; rfl)
      clear hO HO
      go_wp2_with fail
      go_ret
      exact ⟨by rw [unhide HX]; rfl, rfl⟩

theorem ints_quiet (a : Option Addr) (n c : Nat) (ls : List Int) (x : Int) (w : World) (q : Nat) (b : Bool) (h : IntsAt w a n ls) (hb : decide (x ∈ ls) = b) :
    Calls Tryz.prog 15 #[.slice a n c, .int .i64 x] (w.drewN q) fun e w'' => e = .returned (.bool b) ∧ ∃ m, w'' = w.drewN m := by
  subst hb
  refine (l1Ints_calls a n c ls x (w.drewN q) (h.below (belQ (Below.refl _ _) _))).mono ?_
  rintro e w2 ⟨rfl, rfl⟩
  exact ⟨rfl, q, rfl⟩

set_option maxRecDepth 10000 in
set_option maxHeartbeats 4000000 in
theorem l9Ids_calls (a : Option Addr) (n c : Nat) (ls : List Int) (m : Nat) (w : World) (h : IntsAt w a n ls) (hm : m ≤ 1000) :
    Calls Tryz.prog 27 #[.slice a n c, .int .i64 m] w fun e w' => e = .returned (.bool (decide (n ≤ m) && okIds 0 ls)) ∧ Below w.heap.size w w' := by
  have HH := hide h
  have hbn := h.bn
  have HD := hide (fun (W : World) (hW : Below w.heap.size w W) => h.below hW)
  clear h
  by_cases hnm : (m : Int) < (n : Int)
  · rw [decide_eq_false (show ¬ n ≤ m by omega)]
    go_enter Tryz.func27, Tryz.ntmps27
    go_wp2_with fail
    go_ret
    exact ⟨rfl, Below.refl _ _⟩
  rw [decide_eq_true (show n ≤ m by omega), Bool.true_and]
  obtain ⟨R, hR⟩ : ∃ R, okIds 0 ls = R := ⟨_, rfl⟩
  rw [hR]
  have HR := hide hR
  clear hR
  go_enter Tryz.func27, Tryz.ntmps27
  go_wp2_with fail
  go_loopw [5] (fun i wr => ∃ k : Nat, i = .int .i64 k ∧ k ≤ n ∧ Hid (0 ≤ prevZ ls k) ∧ Hid (okIds (prevZ ls k) (ls.drop k) = R) ∧ Hid (Below w.heap.size w wr)) (fun i _ => n - (intOf i).toNat)
  case atStart => exact ⟨0, rfl, by omega, hide (Int.le_refl 0), hide (unhide HR), hide (Below.refl _ _)⟩
  case round =>
    obtain ⟨k, rfl, hk, HP, HO, HB⟩ := hrel
    by_cases hkn : k < n
    · have hkl : k < ls.length := by rw [(unhide HH).len]; exact hkn
      obtain ⟨g, e1, l1, p0, -⟩ := (unhide HD _ (unhide HB)).row.ix k hkl
      have hst := okIds_step ls k hkl
      rw [unhide HO] at hst
      have hpn : prevZ ls (k + 1) = ls[k] := by rw [prevZ, List.getElem?_eq_getElem hkl]; rfl
      have hprev : ∀ j, k = j + 1 → ∃ pt, prevZ ls k = pt ∧ wr.cell? ⟨g, j, none⟩ = some (.int .i64 pt) := by
        intro j hj
        have hjl : j < ls.length := by omega
        obtain ⟨g', e', l', r0, -⟩ := (unhide HD _ (unhide HB)).row.ix j hjl
        rw [e1] at e'
        obtain rfl : g = g' := by simpa using e'
        exact ⟨ls[j], by rw [hj, prevZ, List.getElem?_eq_getElem hjl]; rfl, r0⟩
      generalize ls[k] = x at p0 hst hpn
      subst e1
      have i0 : (0 : Int) ≤ (k : Int) := by omega
      have i1 : (k : Int) < (n : Int) := by omega
      have HPN := hide hpn
      have HST := hide hst
      have HPR := hide hprev
      clear hst hpn hprev HO
      cases hi : (decide (1 ≤ x) && decide (x ≤ 50)) with
      | false =>
        have HX := hide (show R = false from by
          have hp := unhide HP
          have : (decide (prevZ ls k < x) && decide (x ≤ 50)) = false := by
            rw [Bool.eq_false_iff]
            intro hy
            simp at hy hi
            omega
          rw [unhide HST, this]
          rfl)
        have HI := hide hi
        clear HST hi HPR
        go_wp2_with fail
        go_quiet (first | (go_at_call 28; exact inI_quiet _ _ _ _ _ _ (unhide HI)))
        all_goals (try go_wp2_with fail)
        all_goals (try go_ret)
        all_goals exact ⟨by rw [unhide HX]; rfl, belQ (unhide HB) _⟩
      | true =>
        have HI := hide hi
        have hi2 : 1 ≤ x ∧ x ≤ 50 := by simpa using hi
        obtain ⟨hi3, hi4⟩ := hi2
        rcases Nat.eq_zero_or_pos k with hk0 | hk0
        · have HX := hide (show okIds (prevZ ls (k + 1)) (ls.drop (k + 1)) = R from by rw [unhide HST, hk0, decide_eq_true (show prevZ ls 0 < x from by show (0 : Int) < x; omega), decide_eq_true hi4]; rfl)
          have HP2 := hide (show 0 ≤ prevZ ls (k + 1) from by rw [unhide HPN]; omega)
          have hk1 : ¬ 0 < k := by omega
          clear HST hi HPR hk0
          go_wp2_with fail
          go_quiet (first | (go_at_call 28; exact inI_quiet _ _ _ _ _ _ (unhide HI)))
          all_goals (try go_wp2_with fail)
          all_goals exact ⟨⟨k + 1, by go_num, by omega, HP2, HX, hide (belQ (unhide HB) _)⟩, by simp [intOf]; omega⟩
        · obtain ⟨j, hkj⟩ : ∃ j, k = j + 1 := ⟨k - 1, by omega⟩
          obtain ⟨pt, hpt, u0⟩ := unhide HPR j hkj
          have j0 : (0 : Int) ≤ (j : Int) := by omega
          have j1 : (j : Int) < (n : Int) := by omega
          have jw : IntKind.i64.wrap ((k : Int) - 1) = (j : Int) := by rw [IntKind.wrap_i64]; omega
          have hk1 : 0 < k := by omega
          rw [hpt] at HST
          by_cases hpp : x ≤ pt
          · have HX := hide (show R = false from by rw [unhide HST, decide_eq_false (show ¬ pt < x by omega)]; rfl)
            clear HST hi HPR hpt hkj hk0
            go_wp2_with fail
            go_quiet (first | (go_at_call 28; exact inI_quiet _ _ _ _ _ _ (unhide HI)))
            all_goals (try go_wp2_with fail)
            all_goals (try go_ret)
            all_goals exact ⟨by rw [unhide HX]; rfl, belQ (unhide HB) _⟩
          · have HX := hide (show okIds (prevZ ls (k + 1)) (ls.drop (k + 1)) = R from by rw [unhide HST, decide_eq_true (show pt < x by omega), decide_eq_true hi4]; rfl)
            have HP2 := hide (show 0 ≤ prevZ ls (k + 1) from by rw [unhide HPN]; omega)
            clear HST hi HPR hpt hkj hk0
            go_wp2_with fail
            go_quiet (first | (go_at_call 28; exact inI_quiet _ _ _ _ _ _ (unhide HI)))
            all_goals (try go_wp2_with fail)
            all_goals exact ⟨⟨k + 1, by go_num, by omega, HP2, HX, hide (belQ (unhide HB) _)⟩, by simp [intOf]; omega⟩
    · obtain rfl : k = n := by omega
      have hO := unhide HO
      rw [List.drop_of_length_le (by rw [(unhide HH).len]; exact Nat.le_refl _)] at hO
      have HX := hide (show R = true from by rw [← hO]; rfl)
      clear hO HO
      go_wp2_with fail
      go_ret
      exact ⟨by rw [unhide HX]; rfl, unhide HB⟩

namespace Plain
theorem disj_step (v l : List Int) (k : Nat) (h : k < l.length) : disjB v (l.drop k) = (!decide (l[k] ∈ v) && disjB v (l.drop (k + 1))) := by
  unfold disjB
  rw [List.drop_eq_getElem_cons h, List.all_cons]
end Plain

end Go.Proofs.YtmienlnhbdbefaaGreatDoor

/- Ranked, by both programs. -/
namespace Go.Proofs.YtmienlnhbdbefaaGreatDoor
open Go.RowKit Plain
set_option linter.unusedVariables false

namespace Plain
theorem okIds_len : ∀ (l : List Int) (p : Int), p ≤ 50 → okIds p l = true → (l.length : Int) ≤ 50 - p
  | [], p, hp, _ => by simp; omega
  | a :: l, p, hp, h => by
    rw [okIds, Bool.and_eq_true, Bool.and_eq_true, decide_eq_true_iff, decide_eq_true_iff] at h
    obtain ⟨⟨h1, h2⟩, h3⟩ := h
    have := okIds_len l a h2 h3
    rw [List.length_cons]
    omega
theorem ids50 (n : Nat) (l : List Int) (hl : l.length = n) : (decide (n ≤ 50) && okIds 0 l) = okIds 0 l := by
  cases h : okIds 0 l with
  | false => simp
  | true =>
    have := okIds_len l 0 (by decide) h
    rw [decide_eq_true (by omega)]
    rfl
def rnkB (d : ByteArray) (l : List Int) : Bool := digB d && okIds 0 l
def rnkL (d : ByteArray) (l : List Int) : List Int := if rnkB d l then rk (wt d) l else []
theorem rnkL_yes {d : ByteArray} {l : List Int} (h : rnkB d l = true) : rnkL d l = rk (wt d) l := if_pos h
theorem rnkL_no {d : ByteArray} {l : List Int} (h : rnkB d l = false) : rnkL d l = [] := by unfold rnkL; rw [h]; rfl
theorem rnkL_len (d : ByteArray) (l : List Int) : (rnkL d l).length ≤ l.length := by
  unfold rnkL
  split
  · rw [rk_len]; exact Nat.le_refl _
  · simp
end Plain

theorem weigher2_calls (d : ByteArray) (w : World) :
    Calls Tryz.prog 36 #[.string d] w fun e w' => e = .returned (.func (.func 58) #[] #[.pointer (some ⟨w.heap.size, 0, none⟩)]) ∧ w' = w.alloc (.cells #[.string d] 9) := by
  go_enter Tryz.func36, Tryz.ntmps36
  go_wp2_with fail
  go_ret
  exact ⟨rfl, rfl⟩



end Go.Proofs.YtmienlnhbdbefaaGreatDoor

/- The holders of a blob, by the specification. -/
namespace Go.Proofs.YtmienlnhbdbefaaGreatDoor
open Go.RowKit Plain
set_option linter.unusedVariables false

namespace Plain
/-- The first k by rank, rising. -/
def hld (f : Int → Int) (l : List Int) (k : Nat) : List Int := l.filter fun x => decide (x ∈ (rk f l).take k)
theorem okIds_filter (q : Int → Bool) : ∀ (l : List Int) (p : Int), okIds p l = true → okIds p (l.filter q) = true
  | [], p, _ => rfl
  | a :: l, p, h => by
    rw [okIds, Bool.and_eq_true, Bool.and_eq_true, decide_eq_true_iff, decide_eq_true_iff] at h
    obtain ⟨⟨h1, h2⟩, h3⟩ := h
    rw [List.filter_cons]
    split
    · rw [okIds, okIds_filter q l a h3, decide_eq_true h1, decide_eq_true h2]; rfl
    · have h4 := okIds_filter q l a h3
      cases hl : l.filter q with
      | nil => rfl
      | cons b r =>
        rw [hl, okIds, Bool.and_eq_true, Bool.and_eq_true, decide_eq_true_iff, decide_eq_true_iff] at h4
        rw [okIds, decide_eq_true (by omega : p < b), decide_eq_true h4.1.2, h4.2]
        rfl
theorem setN_same (a b : List Int) (h : ∀ x, x ∈ a ↔ x ∈ b) : setN a = setN b := by
  apply Nat.eq_of_testBit_eq
  intro i
  rw [setN_bit, setN_bit]
  congr 1
  exact decide_eq_decide.2 (h _)
theorem hld_mem (f : Int → Int) (l : List Int) (k : Nat) (x : Int) : x ∈ hld f l k ↔ x ∈ (rk f l).take k := by
  unfold hld
  rw [List.mem_filter, decide_eq_true_iff]
  exact ⟨fun h => h.2, fun h => ⟨(rk_mem f l x).1 (List.mem_of_mem_take h), h⟩⟩
theorem hld_ok (f : Int → Int) (l : List Int) (k : Nat) (h : okIds 0 l = true) : okIds 0 (hld f l k) = true := okIds_filter _ l 0 h
theorem hld_set (f : Int → Int) (l : List Int) (k : Nat) : setN (hld f l k) = setN ((rk f l).take k) := setN_same _ _ (hld_mem f l k)
theorem rk_nodup (f : Int → Int) (l : List Int) (h : okIds 0 l = true) : (rk f l).Nodup := ((rk_perm f l (okIds_lt l 0 h).1).nodup_iff).2 (okIds_facts l 0 (by decide) h).1
def onceL (T : List Int) (x : Int) (j : Nat) : List Int := if x ∈ T.take j then [x] else []
theorem onceL_zero (T : List Int) (x : Int) : onceL T x 0 = [] := by unfold onceL; simp
theorem onceL_hit (T : List Int) (x : Int) (j : Nat) (h : j < T.length) (hn : T.Nodup) (hx : T[j] = x) : onceL T x j = [] ∧ onceL T x (j + 1) = [x] := by
  unfold onceL
  constructor
  · rw [if_neg]
    intro hm
    have := hn
    rw [← List.take_append_drop j T, List.nodup_append] at this
    exact this.2.2 x hm x (by rw [List.drop_eq_getElem_cons h, hx]; simp) rfl
  · rw [if_pos]
    rw [List.take_succ_eq_append_getElem h, hx]
    simp
theorem onceL_miss (T : List Int) (x : Int) (j : Nat) (h : j < T.length) (hx : ¬ T[j] = x) : onceL T x (j + 1) = onceL T x j := by
  unfold onceL
  have : x ∈ T.take (j + 1) ↔ x ∈ T.take j := by
    rw [List.take_succ_eq_append_getElem h, List.mem_append, List.mem_singleton]
    exact ⟨fun q => q.elim id fun q => absurd q.symm hx, .inl⟩
  simp only [this]
theorem onceL_end (T : List Int) (x : Int) : onceL T x T.length = if x ∈ T then [x] else [] := by unfold onceL; rw [List.take_length]
theorem onceL_len (T : List Int) (x : Int) (j : Nat) : (onceL T x j).length ≤ 1 := by unfold onceL; split <;> simp
theorem filt_take (q : Int → Bool) (l : List Int) (k : Nat) (h : k < l.length) : (l.take (k + 1)).filter q = (l.take k).filter q ++ if q l[k] then [l[k]] else [] := by
  rw [List.take_succ_eq_append_getElem h, List.filter_append]
  congr 1
  by_cases hq : q l[k] = true
  · rw [List.filter_cons_of_pos hq, if_pos hq]; rfl
  · rw [List.filter_cons_of_neg hq, if_neg hq]; rfl
end Plain

set_option maxRecDepth 10000 in
set_option maxHeartbeats 4000000 in
theorem l13Holders_calls (d : ByteArray) (a : Option Addr) (n c : Nat) (ls : List Int) (K : Nat) (w : World) (h : IntsAt w a n ls) (hok : okIds 0 ls = true) (hd : d.size = 71) (hK1 : 1 ≤ K) (hK7 : K ≤ 7) :
    Calls Tryz.prog 13 #[.string d, .slice a n c, .int .i64 K] w fun e w' => ∃ v, e = .returned v ∧ OwnR i64E w' w.heap.size v (hld (wt d) ls K) ∧ Below w.heap.size w w' := by
  have HR := hide (l13Ranked_calls d a n c ls w h hok hd)
  have hnd := rk_nodup (wt d) ls hok
  have hrl := rk_len (wt d) ls
  rw [h.len] at hrl
  unfold hld
  generalize rk (wt d) ls = rs at HR hnd hrl ⊢
  obtain ⟨T, hT⟩ : ∃ T, T = rs.take K := ⟨_, rfl⟩
  have hTl : T.length = min K n := by rw [hT, List.length_take, hrl]
  have hTn : T.Nodup := by rw [hT]; exact hnd.sublist (List.take_sublist _ _)
  have HTG := hide (fun (j : Nat) (hj : j < T.length) => (show ∃ hj2 : j < rs.length, rs[j] = T[j] from ⟨by rw [hTl] at hj; omega, by subst hT; rw [List.getElem_take]⟩))
  have HTN := hide hTn
  have HTL := hide hTl
  rw [← hT]
  have HRL := hide hrl
  have HD := hide (fun (W : World) (hW : Below w.heap.size w W) => h.below hW)
  have hbn := h.bn
  have HLN := hide h.len
  clear h hok hd hnd hrl hT hTl hTn
  go_enter Tryz.func13, Tryz.ntmps13
  go_wp2_with fail
  refine (unhide HR).mono ?_
  rintro e w1 ⟨v, rfl, ho, hb1⟩
  obtain ⟨aR, cR, hv⟩ := ho.form
  rw [unhide HRL] at hv
  subst hv
  have HB1 := hide hb1
  have HR1 := hide ho.at
  have HO0 := hide (ownR_empty i64E w1 w.heap.size hb1.size)
  have HB0 := hide (belOnD hb1 (bel1D w1 (.cells #[] 2)))
  clear ho hb1 HR
  go_wp2_with fail
  obtain ⟨W0, hW0⟩ : ∃ W0, W0 = w1.alloc (.cells #[] 2) := ⟨_, rfl⟩
  have HR0 := hide (show RowAt i64E W0 aR rs from by rw [hW0]; exact (unhide HR1).below (bel1D _ _))
  have HBR := hide (show Below w1.heap.size w1 W0 from by rw [hW0]; exact bel1D _ _)
  change Hid (OwnR i64E (w1.alloc (.cells #[] 2)) w.heap.size (.slice (some ⟨w1.heap.size, 0, none⟩) 0 0) []) at HO0
  have HO1 := hide (show OwnR i64E W0 w1.heap.size (.slice (some ⟨w1.heap.size, 0, none⟩) 0 0) [] from by rw [hW0]; exact ownR_empty i64E w1 w1.heap.size (Nat.le_refl _))
  rw [← hW0] at HB0 ⊢
  clear HO0 hW0
  have hz1 := (unhide HB1).size
  go_loopw [8, 9] (fun s8 s9 wq => ∃ i : Nat, s9 = .int .i64 i ∧ i ≤ n ∧ w1.heap.size ≤ wq.heap.size ∧ Hid (OwnR i64E wq w1.heap.size s8 ((ls.take i).filter fun x => decide (x ∈ T))) ∧ Hid (Below w1.heap.size w1 wq)) (fun _ s9 _ => n - (intOf s9).toNat)
  case atStart => exact ⟨0, rfl, by omega, (unhide HBR).size, HO1, HBR⟩
  case round =>
    clear HO1 HBR HR0 HB0
    obtain ⟨i, rfl, hi, hzi, HO, HB⟩ := hrel
    by_cases hin : i < n
    · have hil : i < ls.length := by rw [unhide HLN]; exact hin
      have HCK := hide (fun (W : World) (hW : Below w.heap.size w W) => (unhide HD W hW).row.ix i hil)
      have HFT := hide (filt_take (fun x => decide (x ∈ T)) ls i hil)
      generalize ls[i] = x at HCK HFT
      obtain ⟨g, e1, l1, p0, -⟩ := unhide HCK wr ((unhide HB1).trans ((unhide HB).mono hz1))
      subst e1
      have HCK2 := hide (fun (W : World) (hW : Below w.heap.size w W) => (show W.cell? ⟨g, i, none⟩ = some (.int .i64 x) from by
        obtain ⟨g', e1, -, p0', -⟩ := unhide HCK W hW
        cases e1
        exact p0'))
      have hPl : ((ls.take i).filter fun x => decide (x ∈ T)).length ≤ n := Nat.le_trans (List.length_filter_le _ _) (by rw [List.length_take]; omega)
      generalize (ls.take i).filter (fun x => decide (x ∈ T)) = P at HO HFT hPl
      clear HCK p0
      have i0 : (0 : Int) ≤ (i : Int) := by omega
      have i1 : (i : Int) < (n : Int) := by omega
      go_wp2_with fail
      go_loopw [8, 10] (fun s8 s10 wq => ∃ j : Nat, s10 = .int .i64 j ∧ j ≤ T.length ∧ w1.heap.size ≤ wq.heap.size ∧ Hid (OwnR i64E wq w1.heap.size s8 (P ++ onceL T x j)) ∧ Hid (Below w1.heap.size w1 wq)) (fun _ s10 _ => n + 10 - (intOf s10).toNat)
      case atStart => exact ⟨0, rfl, Nat.zero_le _, hzi, hide (by rw [onceL_zero, List.append_nil]; exact unhide HO), HB⟩
      case round =>
        clear HO HB hzi
        obtain ⟨j, rfl, hj, hzj, HO, HB⟩ := hrel
        have HBW := hide ((unhide HB1).trans ((unhide HB).mono hz1))
        have hjm : j ≤ min K n := by rw [← unhide HTL]; exact hj
        obtain ⟨a2, c2, hv2⟩ := (unhide HO).form
        obtain ⟨q, hq⟩ : ∃ q, (P ++ onceL T x j).length = q := ⟨_, rfl⟩
        rw [hq] at hv2
        subst hv2
        have hq2 : q < 100000000 := by rw [← hq, List.length_append]; have := onceL_len T x j; omega
        have HQ := hide hq
        clear hq
        by_cases hjT : j < T.length
        · obtain ⟨hjr, hjg⟩ := unhide HTG j hjT
          obtain ⟨gr, e1, l2, pr, -⟩ := ((unhide HR1).below (unhide HB)).ix j hjr
          have HHIT := hide (onceL_hit T x j hjT (unhide HTN))
          have HMISS := hide (onceL_miss T x j hjT)
          rw [hjg] at pr
          generalize T[j] = y at pr HHIT HMISS
          subst e1
          have pk := unhide HCK2 wr (unhide HBW)
          have hjm2 : j < min K n := by rw [← unhide HTL]; exact hjT
          have j0 : (0 : Int) ≤ (j : Int) := by omega
          have j1 : (j : Int) < (n : Int) := by omega
          have j2 : (j : Int) < (K : Int) := by omega
          clear hjg hjr
          by_cases hyx : y = x
          · subst hyx
            obtain ⟨hh1, hh2⟩ := unhide HHIT rfl
            have HO2 := hide (show OwnR i64E wr w1.heap.size (.slice a2 q c2) P from by have := unhide HO; rwa [hh1, List.append_nil] at this)
            have HH2 := hide hh2
            have hlen : P.length < 100000000 := by omega
            have HLQ := hide (show (P ++ [y]).length = q + 1 from by have := unhide HQ; rw [hh1, List.append_nil] at this; rw [List.length_append, this]; rfl)
            have HO3 := hide (show OwnR i64E wr.drew w1.heap.size (.slice a2 q c2) P from unhide HO2)
            have hzd : w1.heap.size ≤ wr.drew.heap.size := hzj
            clear hh1 hh2 HHIT HMISS HO HO2
            go_wp2_with fail
            go_region
            all_goals
              go_wp2_with (at_builtin; go_must (refine appR (e := i64E) rfl _ _ rfl (unhide HO3) rfl y rfl _ rfl rfl hlen hzd ?_); intro v' w6 hown6 hb6 hg6; obtain ⟨a3, c3, hv'⟩ := hown6.form; rw [unhide HLQ] at hv'; subst hv')
              go_roundw
              case rel => exact ⟨j + 1, by go_num, by omega, by have := hb6.size; exact Nat.le_trans hzj this, hide (by rw [unhide HH2]; exact hown6), hide ((unhide HB).drew.trans hb6)⟩
              case measure => simp [intOf]; omega
          · have HM2 := hide (unhide HMISS hyx)
            clear HHIT HMISS
            have hyb : ((y : Int) == x) = false := by simpa using hyx
            go_wp2_with fail
            go_region
            all_goals
              go_wp2_with fail
              go_roundw
              case rel => exact ⟨j + 1, by go_num, by omega, hzj, hide (by rw [unhide HM2]; exact unhide HO), hide (unhide HB).drew⟩
              case measure => simp [intOf]; omega
        · obtain rfl : j = T.length := by omega
          have HO2 := hide (show OwnR i64E wr w1.heap.size (.slice a2 q c2) ((ls.take (i + 1)).filter fun x => decide (x ∈ T)) from by
            have := unhide HO
            rw [onceL_end] at this
            rw [unhide HFT]
            simpa using this)
          have hTL := unhide HTL
          generalize T.length = L at hTL hj hjT
          clear HO
          by_cases hKn : n ≤ K
          · have k1 : ¬ (L : Int) < (n : Int) := by omega
            go_wp2_with fail
            go_roundw
            case rel => exact ⟨i + 1, by go_num, by omega, hzj, HO2, HB⟩
            case measure => simp [intOf]; omega
          · have k1 : (L : Int) < (n : Int) := by omega
            have k2 : ¬ (L : Int) < (K : Int) := by omega
            go_wp2_with fail
            go_roundw
            case rel => exact ⟨i + 1, by go_num, by omega, hzj, HO2, HB⟩
            case measure => simp [intOf]; omega
    · obtain rfl : i = n := by omega
      rw [List.take_of_length_le (by rw [unhide HLN]; exact Nat.le_refl _)] at HO
      obtain ⟨a2, c2, hv2⟩ := (unhide HO).form
      generalize hPP : (ls.filter fun x => decide (x ∈ T)) = PP at HO hv2
      have HPP := hide hPP
      obtain ⟨q, hq⟩ : ∃ q, PP.length = q := ⟨_, rfl⟩
      rw [hq] at hv2
      subst hv2
      clear hq hPP
      go_wp2_with fail
      go_ret
      exact ⟨.slice a2 q c2, rfl, by rw [unhide HPP]; exact (unhide HO).le hz1, (unhide HB1).trans ((unhide HB).mono hz1)⟩
end Go.Proofs.YtmienlnhbdbefaaGreatDoor


/- Members by the specification: quorums, and whether two sets of quorums meet. -/
namespace Go.Proofs.YtmienlnhbdbefaaGreatDoor
open Go.RowKit Plain
set_option linter.unusedVariables false

namespace Plain
theorem among_take (v ids : List Int) (k : Nat) (h : k < v.length) : among (v.take (k + 1)) ids = among (v.take k) ids + (decide (v[k] ∈ ids)).toNat := by
  unfold among
  rw [List.take_succ_eq_append_getElem h, List.filter_append, List.length_append]
  cases hd : decide (v[k] ∈ ids) <;> simp [hd] <;> simpa using hd
theorem among_zero (ids : List Int) : among [] ids = 0 := rfl
end Plain



namespace Plain
/-- The specification's way to tell whether quorums meet. -/
theorem meet_way (na nb s : Nat) (ha : 1 ≤ na) (hb : 1 ≤ nb) (hs : s ≤ na) (X Y : Int) (hX : X = max 0 (((na / 2 + 1 : Nat) : Int) - ((na : Int) - (s : Int)))) (hY : Y = max 0 (((nb / 2 + 1 : Nat) : Int) - ((nb : Int) - (s : Int)))) :
    decide ((s : Int) < X + Y) = decide (na + nb - s < (na / 2 + 1) + (nb / 2 + 1)) := decide_eq_decide.2 (by omega)
theorem half_go (n : Nat) (h : n ≤ 1000) : IntKind.i64.wrap ((n : Int).tdiv 2 + 1) = ((n / 2 + 1 : Nat) : Int) := by rw [IntKind.wrap_i64, Int.tdiv_eq_ediv_of_nonneg (by omega)]; omega
theorem half_go2 (n : Nat) (h : n ≤ 1000) : IntKind.i64.wrap ((n : Int) / 2 + 1) = ((n / 2 + 1 : Nat) : Int) := by rw [IntKind.wrap_i64]; omega
theorem sub_go (a b : Int) (ha : -1000 ≤ a) (ha2 : a ≤ 1000) (hb : -1000 ≤ b) (hb2 : b ≤ 1000) : IntKind.i64.wrap (a - b) = a - b := by rw [IntKind.wrap_i64]; omega
theorem add_go (a b : Int) (ha : -1000 ≤ a) (ha2 : a ≤ 1000) (hb : -1000 ≤ b) (hb2 : b ≤ 1000) : IntKind.i64.wrap (a + b) = a + b := by rw [IntKind.wrap_i64]; omega
end Plain

end Go.Proofs.YtmienlnhbdbefaaGreatDoor

/- Changes of members as plain mathematics: a number put into a rising list and cut out of it, and the same of words. -/
namespace Go.Proofs.YtmienlnhbdbefaaGreatDoor.Plain
open Go
set_option linter.unusedVariables false

def cutZ (x : Int) (l : List Int) : List Int := l.filter fun y => decide (y ≠ x)
def putZ (x : Int) : List Int → List Int
  | [] => [x]
  | a :: l => if x < a then x :: a :: l else a :: putZ x l
theorem mem_cutZ (x y : Int) (l : List Int) : y ∈ cutZ x l ↔ y ∈ l ∧ y ≠ x := by unfold cutZ; rw [List.mem_filter]; simp
theorem mem_putZ (x y : Int) : ∀ l : List Int, y ∈ putZ x l ↔ y = x ∨ y ∈ l
  | [] => by simp [putZ]
  | a :: l => by
    rw [putZ]
    split
    · simp
    · rw [List.mem_cons, mem_putZ x y l, List.mem_cons]
      constructor
      · rintro (h | h | h)
        · exact .inr (.inl h)
        · exact .inl h
        · exact .inr (.inr h)
      · rintro (h | h | h)
        · exact .inr (.inl h)
        · exact .inl h
        · exact .inr (.inr h)
theorem okIds_mono : ∀ (l : List Int) (p q : Int), q ≤ p → okIds p l = true → okIds q l = true
  | [], _, _, _, _ => rfl
  | a :: l, p, q, h, hk => by
    rw [okIds, Bool.and_eq_true, Bool.and_eq_true, decide_eq_true_iff, decide_eq_true_iff] at hk ⊢
    exact ⟨⟨by omega, hk.1.2⟩, hk.2⟩
theorem okIds_cut (x : Int) : ∀ (l : List Int) (p : Int), okIds p l = true → okIds p (cutZ x l) = true
  | [], _, _ => rfl
  | a :: l, p, hk => by
    rw [okIds, Bool.and_eq_true, Bool.and_eq_true, decide_eq_true_iff, decide_eq_true_iff] at hk
    have ih := okIds_cut x l a hk.2
    unfold cutZ at ih ⊢
    rw [List.filter_cons]
    split
    · rw [okIds, ih, decide_eq_true hk.1.1, decide_eq_true hk.1.2]; rfl
    · exact okIds_mono _ a p (by omega) ih
theorem okIds_put (x : Int) (h50 : x ≤ 50) : ∀ (l : List Int) (p : Int), p < x → x ∉ l → okIds p l = true → okIds p (putZ x l) = true
  | [], p, hp, _, _ => by rw [putZ, okIds, okIds, decide_eq_true hp, decide_eq_true h50]; rfl
  | a :: l, p, hp, hn, hk => by
    rw [okIds, Bool.and_eq_true, Bool.and_eq_true, decide_eq_true_iff, decide_eq_true_iff] at hk
    rw [List.mem_cons] at hn
    rw [putZ]
    split
    · rename_i hxa
      rw [okIds, okIds, decide_eq_true hp, decide_eq_true h50, decide_eq_true hxa, decide_eq_true hk.1.2, hk.2]; rfl
    · rename_i hxa
      have : a < x := by omega
      rw [okIds, okIds_put x h50 l a this (fun q => hn (.inr q)) hk.2, decide_eq_true hk.1.1, decide_eq_true hk.1.2]; rfl
theorem putZ_len (x : Int) : ∀ l : List Int, (putZ x l).length = l.length + 1
  | [] => rfl
  | a :: l => by rw [putZ]; split <;> simp [putZ_len x l]
theorem cutZ_len (x : Int) (l : List Int) : (cutZ x l).length ≤ l.length := List.length_filter_le _ _

theorem setN_ext {S : Nat} {l : List Int} (h : ∀ i, S.testBit i = (decide (1 ≤ i) && decide (i ≤ 50) && decide ((i : Int) ∈ l))) : S = setN l := by
  apply Nat.eq_of_testBit_eq
  intro i
  rw [h, setN_bit]
theorem set_put (x : Nat) (h1 : 1 ≤ x) (h50 : x ≤ 50) (l : List Int) : setN l ||| 2 ^ x = setN (putZ (x : Int) l) := by
  apply setN_ext
  intro i
  rw [Nat.testBit_or, setN_bit, Nat.testBit_two_pow]
  have hm : decide ((i : Int) ∈ putZ (x : Int) l) = decide ((i : Int) = (x : Int) ∨ (i : Int) ∈ l) := decide_eq_decide.2 (mem_putZ (x : Int) (i : Int) l)
  rw [hm]
  by_cases hx : x = i
  · subst hx
    simp [h1, h50]
  · have : ¬ (i : Int) = (x : Int) := by omega
    simp [hx, this]
theorem set_cut (x : Nat) (h50 : x ≤ 50) (l : List Int) : setN l &&& (18446744073709551615 - 2 ^ x) = setN (cutZ (x : Int) l) := by
  have hp : 2 ^ x ≤ 1125899906842624 := Nat.pow_le_pow_right (show 0 < 2 by decide) h50
  apply setN_ext
  intro i
  have hm : decide ((i : Int) ∈ cutZ (x : Int) l) = decide ((i : Int) ∈ l ∧ (i : Int) ≠ (x : Int)) := decide_eq_decide.2 (mem_cutZ (x : Int) (i : Int) l)
  rw [Nat.testBit_and, setN_bit, hm]
  rw [show 18446744073709551615 - 2 ^ x = 2 ^ 64 - (2 ^ x + 1) from by omega, Nat.testBit_two_pow_sub_succ (by omega), Nat.testBit_two_pow]
  by_cases hx : x = i
  · subst hx
    simp
  · have : ¬ (i : Int) = (x : Int) := by omega
    by_cases h3 : i ≤ 50
    · have : i < 64 := by omega
      simp [*]
    · simp [h3]
theorem set_has (x : Nat) (h1 : 1 ≤ x) (h50 : x ≤ 50) (l : List Int) : (setN l &&& 2 ^ x = 0) ↔ ¬ (x : Int) ∈ l := by
  constructor
  · intro h hm
    have hb : (setN l &&& 2 ^ x).testBit x = true := by rw [Nat.testBit_and, setN_bit, Nat.testBit_two_pow]; simp [h1, h50, hm]
    rw [h] at hb
    simp at hb
  · intro h
    apply Nat.eq_of_testBit_eq
    intro i
    rw [Nat.testBit_and, setN_bit, Nat.testBit_two_pow, Nat.zero_testBit]
    by_cases hx : x = i
    · subst hx
      simp [h]
    · simp [hx]
theorem set_all (v l : List Int) : setN v ||| setN l = setN (v ++ l) := by
  apply setN_ext
  intro i
  rw [Nat.testBit_or, setN_bit, setN_bit]
  by_cases h1 : (i : Int) ∈ v <;> by_cases h2 : (i : Int) ∈ l <;> simp [h1, h2]

/-! ### The lowest bit -/
theorem setN_cons (a : Nat) (h1 : 1 ≤ a) (h50 : a ≤ 50) (l : List Int) : setN ((a : Int) :: l) = setN l ||| 2 ^ a := by
  symm
  apply setN_ext
  intro i
  rw [Nat.testBit_or, setN_bit, Nat.testBit_two_pow]
  by_cases hx : a = i
  · subst hx
    simp [h1, h50]
  · have : ¬ (i : Int) = (a : Int) := by omega
    simp [hx, this]
theorem set_split (a : Nat) (h1 : 1 ≤ a) (h50 : a ≤ 50) (l : List Int) (hk : okIds (a : Int) l = true) : ∃ q, setN l = 2 ^ (a + 1) * q ∧ setN ((a : Int) :: l) = 2 ^ (a + 1) * q + 2 ^ a := by
  have hf := (okIds_facts l a (by omega) hk).2
  have hdiv : setN l = 2 ^ (a + 1) * (setN l / 2 ^ (a + 1)) := by
    have hm : setN l % 2 ^ (a + 1) = 0 := by
      apply Nat.eq_of_testBit_eq
      intro i
      rw [Nat.testBit_mod_two_pow, setN_bit, Nat.zero_testBit]
      by_cases hi : i < a + 1
      · have : ¬ (i : Int) ∈ l := fun hm => by have := hf _ hm; omega
        simp [this]
      · simp [hi]
    have := Nat.div_add_mod (setN l) (2 ^ (a + 1))
    omega
  refine ⟨_, hdiv, ?_⟩
  rw [setN_cons a h1 h50]
  generalize setN l / 2 ^ (a + 1) = q at hdiv
  rw [hdiv]
  exact (Nat.two_pow_add_eq_or_of_lt (Nat.pow_lt_pow_right (by decide) (by omega)) q).symm
theorem and_low (a q : Nat) : (2 ^ (a + 1) * q + 2 ^ a) &&& (2 ^ (a + 1) * q + 2 ^ a - 1) = 2 ^ (a + 1) * q := by
  have hp : 0 < 2 ^ a := Nat.two_pow_pos a
  have e : 2 ^ (a + 1) * q + 2 ^ a - 1 = 2 ^ (a + 1) * q + (2 ^ a - 1) := by omega
  have hl : 2 ^ a < 2 ^ (a + 1) := Nat.pow_lt_pow_right (by decide) (by omega)
  apply Nat.eq_of_testBit_eq
  intro i
  rw [e, Nat.testBit_and, Nat.testBit_two_pow_mul_add _ hl, Nat.testBit_two_pow_mul_add _ (by omega), Nat.testBit_two_pow_mul]
  by_cases hi : i < a + 1
  · rw [if_pos hi, if_pos hi, Nat.testBit_two_pow, Nat.testBit_two_pow_sub_one]
    have h2 : ¬ (a + 1 ≤ i) := by omega
    by_cases h3 : a = i
    · subst h3
      simp
      omega
    · simp [h3]
      omega
  · rw [if_neg hi, if_neg hi, Bool.and_self]
    have h2 : a + 1 ≤ i := by omega
    simp [h2]
theorem ctz_low : ∀ (a f q : Nat), a < f → Lib.ctzFrom f (2 ^ a * (2 * q + 1)) = a
  | 0, 0, q, h => by omega
  | 0, f + 1, q, h => by rw [Lib.ctzFrom, if_pos (by omega)]
  | a + 1, 0, q, h => by omega
  | a + 1, f + 1, q, h => by
    have e : 2 ^ (a + 1) * (2 * q + 1) = 2 * (2 ^ a * (2 * q + 1)) := by rw [Nat.pow_succ, Nat.mul_comm (2 ^ a) 2, Nat.mul_assoc]
    rw [Lib.ctzFrom, e, if_neg (by omega), show 2 * (2 ^ a * (2 * q + 1)) / 2 = 2 ^ a * (2 * q + 1) from by omega, ctz_low a f q (by omega)]
    omega
theorem low_bit (a : Nat) (h1 : 1 ≤ a) (h50 : a ≤ 50) (l : List Int) (hk : okIds (a : Int) l = true) : Lib.ctz 64 (setN ((a : Int) :: l)) = a ∧ setN ((a : Int) :: l) &&& (setN ((a : Int) :: l) - 1) = setN l ∧ setN ((a : Int) :: l) ≠ 0 := by
  obtain ⟨q, e1, e2⟩ := set_split a h1 h50 l hk
  have hp : 0 < 2 ^ a := Nat.two_pow_pos a
  have h0 : setN ((a : Int) :: l) ≠ 0 := by rw [e2]; omega
  refine ⟨?_, ?_, h0⟩
  · unfold Lib.ctz
    rw [if_neg h0, e2, show 2 ^ (a + 1) * q + 2 ^ a = 2 ^ a * (2 * q + 1) from by rw [Nat.pow_succ, Nat.mul_assoc, Nat.mul_add, Nat.mul_one]]
    exact ctz_low a 64 q (by omega)
  · rw [e2, and_low, e1]
end Go.Proofs.YtmienlnhbdbefaaGreatDoor.Plain


/- The nodes of a set as a list, by the program. -/
namespace Go.Proofs.YtmienlnhbdbefaaGreatDoor
open Go.RowKit Plain
set_option linter.unusedVariables false

/-- The library's table is as its text lays it. -/
def Plain.TzAt (w : World) : Prop := TabAt 0 Lib.deBruijn64tab w ∧ 0 < w.heap.size
theorem Plain.TzAt.below {w w' : World} {B : Nat} (h : TzAt w) (hb : Below B w w') (hB : 0 < B) : TzAt w' := ⟨fun j hj => (hb.cell (p := ⟨0, j, none⟩) hB).trans (h.1 j hj), Nat.lt_of_lt_of_le h.2 hb.size⟩

set_option maxRecDepth 10000 in
set_option maxHeartbeats 1000000 in
theorem tz_core (x k idx : Nat) (w : World) (hx0 : ((x : Int) == 0) = false)
    (key : IntKind.u64.wrap (bits BinOp.and IntKind.u64 (x : Int) (IntKind.u64.wrap (-(x : Int))) * 285870213051353865) / 288230376151711744 = (idx : Int))
    (hi : idx < 64) (hk : k < 64) (hcell : w.cell? ⟨0, idx, none⟩ = some (.int .u8 k)) :
    Calls Tryz.prog 38 #[.int .u64 x] w fun e w' => e = .returned (.int .i64 k) ∧ w = w' := by
  go_enter Tryz.func38, Tryz.ntmps38
  go_wp2_with (simp only [key])
  go_ret
  exact ⟨rfl, rfl⟩
theorem TrailingZeros64_calls (x : Nat) (w : World) (hx : x < 18446744073709551616) (h0 : x ≠ 0) (hT : TzAt w) :
    Calls Tryz.prog 38 #[.int .u64 x] w fun e w' => e = .returned (.int .i64 (Lib.ctz 64 x : Nat)) ∧ w = w' := by
  obtain ⟨hlow, hk⟩ := Lib.lowest_bit 64 x h0 hx
  obtain ⟨hi, htab⟩ := Lib.deBruijn64_at _ hk
  have hcell := hT.1 _ hi
  rw [htab] at hcell
  exact tz_core x _ _ w (by simp; omega) (tz64_key x _ hx h0 hlow) hi hk hcell

set_option maxRecDepth 10000 in
set_option maxHeartbeats 2000000 in
theorem ids_calls (l : List Int) (w : World) (hk : okIds 0 l = true) (hl : l.length ≤ 100) (hT : TzAt w) :
    Calls Tryz.prog 23 #[.int .u64 (setN l : Nat)] w fun e w' => ∃ a c, e = .returned (.slice a l.length c) ∧ OwnR i64E w' w.heap.size (.slice a l.length c) l ∧ Below w.heap.size w w' := by
  have HK := hide hk
  have HT := hide hT
  have hlt := setN_lt l
  clear hT hk
  go_enter Tryz.func23, Tryz.ntmps23
  go_wp2_with fail
  go_loopw [0, 3] (fun s0 s3 wr => ∃ (k : Nat), s0 = .int .u64 (setN (l.drop k) : Nat) ∧ k ≤ l.length ∧ Hid (okIds (prevZ l k) (l.drop k) = true) ∧ w.heap.size ≤ wr.heap.size ∧ Hid (OwnR i64E wr w.heap.size s3 (l.take k)) ∧ Hid (Below w.heap.size w wr)) (fun s0 _ _ => (intOf s0).toNat)
  case atStart => exact ⟨0, rfl, by omega, hide (unhide HK), Nat.le_refl _, hide (ownR_nil _ _ _), hide (Below.refl _ _)⟩
  case round =>
    obtain ⟨k, rfl, hkl, HO, hz, HR, HB⟩ := hrel
    obtain ⟨a, c, hv⟩ := (unhide HR).form
    subst hv
    have hlk : (l.take k).length = k := by rw [List.length_take]; omega
    rw [hlk] at HR ⊢
    by_cases hkn : k < l.length
    · have hst := okIds_step l k hkn
      rw [unhide HO] at hst
      have hst2 := hst.symm
      rw [Bool.and_eq_true, Bool.and_eq_true, decide_eq_true_iff, decide_eq_true_iff] at hst2
      have hp0 : 0 ≤ prevZ l k := by
        cases k with
        | zero => exact Int.le_refl 0
        | succ k =>
          have hk2 : k < l.length := by omega
          rw [prevZ, List.getElem?_eq_getElem hk2]
          have := ((okIds_facts l 0 (by decide) (unhide HK)).2 l[k] (by simp)).1
          simp
          omega
      have hpn : prevZ l (k + 1) = l[k] := by rw [prevZ, List.getElem?_eq_getElem hkn]; rfl
      have hdr := List.drop_eq_getElem_cons hkn
      have htk := List.take_succ_eq_append_getElem hkn
      rw [hpn] at hst2
      obtain ⟨⟨b1, b2⟩, b3⟩ := hst2
      generalize l[k] = x at b1 b2 b3 hpn hdr htk
      obtain ⟨X, rfl⟩ := Int.eq_ofNat_of_zero_le (show 0 ≤ x by omega)
      obtain ⟨z1, z2, z3⟩ := low_bit X (by omega) (by omega) _ b3
      rw [← hdr] at z1 z2 z3
      have hlt2 := setN_lt (l.drop k)
      have hlt3 := setN_lt (l.drop (k + 1))
      have HTZ := hide (TrailingZeros64_calls (setN (l.drop k)) wr (by omega) z3 ((unhide HT).below (unhide HB) (unhide HT).2))
      rw [z1] at HTZ
      have hne : (((setN (l.drop k) : Nat) : Int) != 0) = true := by rw [bne_iff_ne]; omega
      have hsub : IntKind.u64.wrap (((setN (l.drop k) : Nat) : Int) - 1) = ((setN (l.drop k) - 1 : Nat) : Int) := by rw [IntKind.wrap_u64]; omega
      have hand : bits .and .u64 ((setN (l.drop k) : Nat) : Int) ((setN (l.drop k) - 1 : Nat) : Int) = ((setN (l.drop (k + 1)) : Nat) : Int) := by rw [u64_and_nat _ _ (by omega) (by omega), z2]
      have hle : setN (l.drop (k + 1)) ≤ setN (l.drop k) - 1 := by rw [← z2]; exact Nat.and_le_right
      have HO2 := hide (show okIds (prevZ l (k + 1)) (l.drop (k + 1)) = true from by rw [hpn]; exact b3)
      have HTK := hide htk
      have hlen : (l.take k).length < 100000000 := by omega
      generalize hS2 : setN (l.drop (k + 1)) = S2 at hand hle hlt3
      generalize setN (l.drop k) = S at HTZ hne hsub hand hle hlt2 z3
      have HS2 := hide hS2
      clear hst hdr htk b3 z1 z2 hS2 hlt
      have hless : S2 < S := by omega
      generalize S - 1 = S1 at hsub hand hle
      go_wp2_with fail
      refine (unhide HTZ).mono ?_
      rintro e w1 ⟨rfl, rfl⟩
      go_wp2_with (at_builtin; go_must (refine appR (e := i64E) rfl _ _ rfl (unhide HR) rfl (X : Int) rfl _ rfl rfl hlen hz ?_); intro v' w6 hown6 hb6 hg6; obtain ⟨a', c', hv'⟩ := hown6.form; subst hv')
      go_roundw
      case rel => exact ⟨k + 1, by rw [unhide HS2], by omega, HO2, by have := hb6.size; omega, hide (by rw [unhide HTK, show k + 1 = (l.take k ++ [(X : Int)]).length from by rw [List.length_append, hlk]; rfl]; exact hown6), hide ((unhide HB).trans hb6)⟩
      case measure => simp [intOf]; omega
    · obtain rfl : k = l.length := by omega
      have he : setN (l.drop l.length) = 0 := by rw [List.drop_length]; rfl
      rw [List.take_length] at HR
      rw [he]
      go_wp2_with fail
      go_ret
      exact ⟨a, c, rfl, unhide HR, unhide HB⟩
end Go.Proofs.YtmienlnhbdbefaaGreatDoor


/- The holders of a blob, by the program. -/
namespace Go.Proofs.YtmienlnhbdbefaaGreatDoor
open Go.RowKit Plain
set_option linter.unusedVariables false

namespace Plain
def kB (k : Int) : Bool := decide (1 ≤ k) && decide (k ≤ 7)
def rosB (l : List Int) (k : Int) : Bool := okIds 0 l && kB k
end Plain

theorem ownSetLow {α : Type} {e : Elem α} {W : World} {B : Nat} {v : Value} {xs : List α} (h : OwnR e W B v xs) {b : Nat} (hb : b < B) (i : Nat) (u : Value) : OwnR e (W.setCell ⟨b, i, none⟩ u) B v xs := by
  refine ⟨h.1, ?_⟩
  rcases h.2 with ⟨a, c⟩ | ⟨g, cap, cur, a, c, d, r⟩
  · exact .inl ⟨a, c⟩
  · refine .inr ⟨g, cap, cur, a, c, ?_, r⟩
    rw [Below.heap_setCell _ _ _ _ (by simp; omega)]
    exact d

set_option maxRecDepth 10000 in
set_option maxHeartbeats 2000000 in
theorem rosterOf_calls (a : Option Addr) (n c : Nat) (ls : List Int) (k : Int) (w : World) (h : IntsAt w a n ls) :
    Calls Tryz.prog 20 #[.slice a n c, .int .i64 k] w fun e w' => e = .returned (.tuple #[.agg #[.slice a n c, .int .i64 k], .bool (rosB ls k)]) ∧ Below w.heap.size w w' := by
  have HI := hide (fun (W : World) (hW : Below w.heap.size w W) => risingSet_calls a n c ls W (h.below hW))
  unfold rosB
  obtain ⟨KB, hKB⟩ : ∃ KB, kB k = KB := ⟨_, rfl⟩
  have HKB := hide hKB
  clear hKB
  cases h2 : okIds 0 ls with
  | false =>
    rw [risV_no h2] at HI
    clear h h2
    go_enter Tryz.func20, Tryz.ntmps20
    go_wp2_with fail
    refine (unhide HI _ (bel1D w _)).mono ?_
    rintro e w1 ⟨rfl, rfl⟩
    go_wp2_with fail
    exact bodyPost_ret (v := .tuple #[.agg #[.slice a n c, .int .i64 k], .bool false]) (by simp [results, Tryz.results20, go_sem]) rfl ⟨rfl, bel1D _ _⟩
  | true =>
    rw [risV_yes h2] at HI
    generalize setN ls = S at HI
    clear h h2
    by_cases k1 : 1 ≤ k
    · by_cases k2 : k ≤ 7
      · have HX1 := hide (show kB k = true from by unfold kB; rw [decide_eq_true k1, decide_eq_true k2]; rfl)
        go_enter Tryz.func20, Tryz.ntmps20
        go_wp2_with fail
        refine (unhide HI _ (bel1D w _)).mono ?_
        rintro e w1 ⟨rfl, rfl⟩
        go_wp2_with fail
        exact bodyPost_ret (v := .tuple #[.agg #[.slice a n c, .int .i64 k], .bool true]) (by simp [results, Tryz.results20, go_sem]) rfl ⟨by first | (rw [unhide HX1]; done) | (rw [unhide HX1]; rfl), bel1D _ _⟩
      · have HX1 := hide (show kB k = false from by unfold kB; rw [decide_eq_false k2, Bool.and_false])
        go_enter Tryz.func20, Tryz.ntmps20
        go_wp2_with fail
        refine (unhide HI _ (bel1D w _)).mono ?_
        rintro e w1 ⟨rfl, rfl⟩
        go_wp2_with fail
        exact bodyPost_ret (v := .tuple #[.agg #[.slice a n c, .int .i64 k], .bool false]) (by simp [results, Tryz.results20, go_sem] <;> omega) rfl ⟨by first | (rw [unhide HX1]; done) | (rw [unhide HX1]; rfl), bel1D _ _⟩
    · have HX1 := hide (show kB k = false from by unfold kB; rw [decide_eq_false k1]; rfl)
      go_enter Tryz.func20, Tryz.ntmps20
      go_wp2_with fail
      refine (unhide HI _ (bel1D w _)).mono ?_
      rintro e w1 ⟨rfl, rfl⟩
      go_wp2_with fail
      exact bodyPost_ret (v := .tuple #[.agg #[.slice a n c, .int .i64 k], .bool false]) (by simp [results, Tryz.results20, go_sem] <;> omega) rfl ⟨by first | (rw [unhide HX1]; done) | (rw [unhide HX1]; rfl), bel1D _ _⟩

set_option maxRecDepth 10000 in
set_option maxHeartbeats 4000000 in
theorem seatingOf_calls (a : Option Addr) (n c : Nat) (ls : List Int) (K : Nat) (d : ByteArray) (w : World) (h : IntsAt w a n ls) (hok : okIds 0 ls = true) (hd : d.size = 71) (hK : KAt w) (hk1 : 1 ≤ K) (hk7 : K ≤ 7) :
    Calls Tryz.prog 22 #[.agg #[.slice a n c, .int .i64 K], .string d] w fun e w' => ∃ v, e = .returned (.agg #[v, .int .u64 (setN ((rk (wt d) ls).take K) : Nat)]) ∧ OwnR i64E w' w.heap.size v (rk (wt d) ls) ∧ Below w.heap.size w w' := by
  have h0 : 2 < w.heap.size := lt_of_cell (hK 0 (by omega))
  obtain ⟨W1, hW1⟩ : ∃ W1, W1 = (w.alloc (.cells #[.slice a n c, .int .i64 K] 42)).alloc (.cells #[.slice none 0 0, .int .u64 0] 56) := ⟨_, rfl⟩
  have hz : W1.heap.size = w.heap.size + 2 := by rw [hW1]; simp
  have HB1 := hide (show Below w.heap.size w W1 from by rw [hW1]; exact belOnD (bel1D _ _) (bel1D _ _))
  have a0 : W1.cell? ⟨w.heap.size, 0, none⟩ = some (.slice a n c) := by rw [hW1]; simp [go_sem]
  have a1 : W1.cell? ⟨w.heap.size, 1, none⟩ = some (.int .i64 K) := by rw [hW1]; simp [go_sem]
  have b0 : W1.cell? ⟨w.heap.size + 1, 0, none⟩ = some (.slice none 0 0) := by rw [hW1]; simp [go_sem]
  have b1 : W1.cell? ⟨w.heap.size + 1, 1, none⟩ = some (.int .u64 0) := by rw [hW1]; simp [go_sem]
  have hblk : W1.heap[w.heap.size + 1]? = some (.cells #[.slice none 0 0, .int .u64 0] 56 (0, 0)) := by
    have := (MapKept.heap_alloc (w.alloc (.cells #[.slice a n c, .int .i64 K] 42)) (.cells #[.slice none 0 0, .int .u64 0] 56)).1
    rw [show (w.alloc (.cells #[.slice a n c, .int .i64 K] 42)).heap.size = w.heap.size + 1 from by simp] at this
    rw [hW1]
    exact this
  have f0 : W1.frozen? ⟨w.heap.size + 1, 0, none⟩ = false := frozen_of_row W1 (w.heap.size + 1) 0 _ _ hblk
  have f1 : W1.frozen? ⟨w.heap.size + 1, 1, none⟩ = false := frozen_of_row W1 (w.heap.size + 1) 1 _ _ hblk
  have l0 : w.heap.size < W1.heap.size := by omega
  have l1 : w.heap.size + 1 < W1.heap.size := by omega
  have A0 := fun (V : World) (hV : Below W1.heap.size W1 V) => bclW hV l0 a0
  have HA1 := hide (fun (V : World) (hV : Below W1.heap.size W1 V) => bclW hV l0 a1)
  have HX := hide (fun (V : World) (hV : Below W1.heap.size W1 V) => And.intro (And.intro (bclW hV l1 b0) (bclW hV l1 b1)) (And.intro ((hV.frozen (p := ⟨w.heap.size + 1, 0, none⟩) l1).trans f0) ((hV.frozen (p := ⟨w.heap.size + 1, 1, none⟩) l1).trans f1)))
  have HG := hide (weigher2_calls d W1.drew)
  have HH := hide (heaviest_calls d W1.drew.heap.size a n c ls (W1.drew.alloc (.cells #[.string d] 9)) (h.below (belOnD (unhide HB1) (belOnD (belDrew (Below.refl _ _)) (bel1D _ _)))) hok hd (hK.below (belOnD (unhide HB1) (belOnD (belDrew (Below.refl _ _)) (bel1D _ _))) h0) (by simp [go_sem]))
  have HBR := hide (Below.refl W1.heap.size W1)
  have hrl := rk_len (wt d) ls
  rw [h.len] at hrl
  have hbn := h.bn
  generalize rk (wt d) ls = rs at HH hrl ⊢
  have HRL := hide hrl
  have HW1 := hide hW1.symm
  clear h hok hd hK a0 a1 b0 b1 f0 f1 l0 l1 hW1 hrl hblk
  have HZ := hide hz
  clear hz
  go_enter Tryz.func22, Tryz.ntmps22
  go_wp2_with fail
  rw [unhide HW1]
  go_region_held3 (fun w' => Below W1.heap.size W1 w') (first | exact belDrewW (unhide HBR) | exact (by assumption) | exact (Below.alloc (by assumption) (Below.size (by assumption)) _)) (first
    | (go_at_call 36; refine (unhide HG).mono ?_; rintro e w1 ⟨rfl, rfl⟩)
    | (go_at_call 35; refine (unhide HH).mono ?_; rintro e w2 ⟨v, rfl, ho, hb2⟩; have hS2 : Below W1.heap.size W1 w2 := belOnD (belOnD (belDrew (unhide HBR)) (bel1D _ _)) hb2))
  have HS2 := hide hS2
  have hs2 := hS2.size
  obtain ⟨q1, ⟨q2, q3⟩, q4, q5⟩ := And.intro (unhide HA1 _ hS2) (unhide HX _ hS2)
  clear hb2 hS2 A0
  have hcap : ∃ aR cR, v = .slice aR n cR ∧ n ≤ cR := by
    rcases ho.2 with ⟨e1, e0⟩ | ⟨g, cap, cur, e1, _, _, h1, _⟩
    · exact ⟨none, 0, by rw [e1]; rw [unhide HRL] at e0; rw [e0], by rw [unhide HRL] at e0; omega⟩
    · rw [unhide HRL] at e1 h1
      exact ⟨_, cap, e1, h1⟩
  obtain ⟨aR, cR, rfl, hcR⟩ := hcap
  have HO := hide ho
  have hM : ∃ M : Nat, min (K : Int) (n : Int) = (M : Int) ∧ M = min K n := ⟨min K n, by omega, rfl⟩
  obtain ⟨M, hM1, hM2⟩ := hM
  have m0 : (0 : Int) ≤ (M : Int) := by omega
  have m1 : (M : Int) ≤ (cR : Int) := by omega
  have HM2 := hide hM2
  have HSO := hide (setOf_calls aR M cR (rs.take K) w2 ⟨fun i hi => by
      have hi2 : i < rs.length := by rw [List.length_take] at hi; omega
      obtain ⟨g, e1, e2, e3⟩ := (unhide HO).at i hi2
      refine ⟨g, e1, e2, ?_⟩
      rw [List.getElem_take]
      exact e3, by rw [List.length_take, unhide HRL]; exact hM2.symm, by omega⟩)
  have hz2 := unhide HZ
  have HFN := hide (fun (u1 u2 : Value) => (show OwnR i64E ((w2.setCell ⟨w.heap.size + 1, 0, none⟩ u1).setCell ⟨w.heap.size + 1, 1, none⟩ u2) w.heap.size (.slice aR n cR) rs ∧ Below w.heap.size w ((w2.setCell ⟨w.heap.size + 1, 0, none⟩ u1).setCell ⟨w.heap.size + 1, 1, none⟩ u2) from
    ⟨((ownSetLow (ownSetLow (unhide HO) (b := w.heap.size + 1) (by simp; omega) 0 u1) (b := w.heap.size + 1) (by simp; omega) 1 u2)).le (by simp; omega),
     (((unhide HB1).trans ((unhide HS2).mono (by omega))).setCell (p := ⟨w.heap.size + 1, 0, none⟩) (by simp) u1).setCell (p := ⟨w.heap.size + 1, 1, none⟩) (by simp) u2⟩))
  generalize hS : setN (rs.take K) = S at HSO
  have HS := hide hS
  clear ho hM2 hz2 hS
  go_wp2_with fail
  refine (unhide HSO).mono ?_
  rintro e w3 ⟨rfl, rfl⟩
  go_wp2_with fail
  exact bodyPost_ret (v := .agg #[.slice aR n cR, .int .u64 S]) (by simp [results, Tryz.results22, go_sem, q2, q3]) rfl ⟨_, by rw [unhide HS], unhide HFN _ _⟩
end Go.Proofs.YtmienlnhbdbefaaGreatDoor


/- Holders, by both programs. -/
namespace Go.Proofs.YtmienlnhbdbefaaGreatDoor
open Go.RowKit Plain
set_option linter.unusedVariables false

namespace Plain
def hldB (d : ByteArray) (l : List Int) (k : Int) : Bool := digB d && rosB l k
def hldL (d : ByteArray) (l : List Int) (k : Int) : List Int := if hldB d l k then hld (wt d) l k.toNat else []
theorem hldL_yes {d : ByteArray} {l : List Int} {k : Int} (h : hldB d l k = true) : hldL d l k = hld (wt d) l k.toNat := if_pos h
theorem hldL_no {d : ByteArray} {l : List Int} {k : Int} (h : hldB d l k = false) : hldL d l k = [] := by unfold hldL; rw [h]; rfl
theorem hldL_len (d : ByteArray) (l : List Int) (k : Int) : (hldL d l k).length ≤ l.length := by
  unfold hldL
  split
  · exact List.length_filter_le _ _
  · simp
theorem kB_iff (k : Int) : kB k = true ↔ 1 ≤ k ∧ k ≤ 7 := by simp [kB]
end Plain



theorem field_seat (v : Value) (S : Nat) (W : World) : (Instr.field 56 (.agg #[v, .int .u64 S]) 1).run Tryz.prog W = .ok (.int .u64 S) W := by
  simp [Instr.field, go_sem, run_underlying Tryz.underlying56, asAgg]

set_option maxRecDepth 10000 in
set_option maxHeartbeats 2000000 in
theorem impl_Holders (d : ByteArray) (a : Option Addr) (n c : Nat) (ls : List Int) (k : Int) (w : World) (h : IntsAt w a n ls) (hd : d.size ≤ 1048576) (hK : KAt w) (hT : TzAt w) :
    Calls Tryz.prog 8 #[.string d, .slice a n c, .int .i64 k] w fun e w' => ∃ v, e = .returned (.tuple #[v, .bool (hldB d ls k)]) ∧ OwnR i64E w' w.heap.size v (hldL d ls k) ∧ Below w.heap.size w w' := by
  have h0 : 2 < w.heap.size := lt_of_cell (hK 0 (by omega))
  have HD := hide (fun W => impl_DigestOk d W (by omega))
  have HI := hide (rosterOf_calls a n c ls k w h)
  cases h2 : rosB ls k with
  | false =>
    have hb : hldB d ls k = false := by unfold hldB; rw [h2, Bool.and_false]
    rw [hb, hldL_no hb]
    rw [h2] at HI
    clear h hb h2 hK hT
    go_enter Tryz.func8, Tryz.ntmps8
    go_wp2_with fail
    refine (unhide HI).mono ?_
    rintro e w1 ⟨rfl, hb1⟩
    have HB := hide hb1
    clear hb1
    go_wp2_with fail
    exact bodyPost_ret (v := .tuple #[_, .bool false]) (by simp [results, Tryz.results8, go_sem]) rfl ⟨_, rfl, ownR_nil _ _ _, belOnD (unhide HB) (bel1D _ _)⟩
  | true =>
    rw [h2] at HI
    have h3 : okIds 0 ls = true ∧ kB k = true := by
      unfold rosB at h2
      rwa [Bool.and_eq_true] at h2
    have hk := (kB_iff k).1 h3.2
    cases h1 : digB d with
    | false =>
      have hb : hldB d ls k = false := by unfold hldB; rw [h1]; rfl
      rw [hb, hldL_no hb]
      rw [h1] at HD
      clear h hb h1 h2 hK hT h3 hk
      go_enter Tryz.func8, Tryz.ntmps8
      go_wp2_with fail
      refine (unhide HI).mono ?_
      rintro e w1 ⟨rfl, hb1⟩
      have HB := hide hb1
      clear hb1
      go_wp2_with fail
      refine (unhide HD _).mono ?_
      rintro e w9 ⟨rfl, rfl⟩
      go_wp2_with fail
      exact bodyPost_ret (v := .tuple #[_, .bool false]) (by simp [results, Tryz.results8, go_sem]) rfl ⟨_, rfl, ownR_nil _ _ _, belOnD (unhide HB) (bel1D _ _)⟩
    | true =>
      have h71 := digB_len71 h1
      have hb : hldB d ls k = true := by unfold hldB; rw [h1, h2]; rfl
      rw [hb, hldL_yes hb]
      rw [h1] at HD
      obtain ⟨K, rfl⟩ := Int.eq_ofNat_of_zero_le (show 0 ≤ k by omega)
      rw [Int.toNat_natCast]
      have HS := hide (fun (W : World) (hW : Below w.heap.size w W) => seatingOf_calls a n c ls K d W (h.below hW) h3.1 h71 (hK.below hW h0) (by omega) (by omega))
      rw [← hld_set (wt d) ls K] at HS
      have hhl : (hld (wt d) ls K).length ≤ 100 := by
        have := hldL_len d ls (K : Int)
        rw [hldL_yes hb, Int.toNat_natCast] at this
        have := okIds_len ls 0 (by decide) h3.1
        omega
      have HIDS := hide (fun (W : World) (hW : Below w.heap.size w W) => ids_calls (hld (wt d) ls K) W (hld_ok _ _ _ h3.1) hhl (hT.below hW hT.2))
      generalize hld (wt d) ls K = rs at HS HIDS ⊢
      clear h hb h1 h2 h71 hK hT h3 hk hhl
      go_enter Tryz.func8, Tryz.ntmps8
      go_wp2_with fail
      refine (unhide HI).mono ?_
      rintro e w1 ⟨rfl, hb1⟩
      have HB := hide (belOnD hb1 (bel1D w1 (.cells #[.slice a n c, .int .i64 K] 42)))
      clear hb1
      go_wp2_with fail
      refine (unhide HD _).mono ?_
      rintro e w9 ⟨rfl, rfl⟩
      go_wp2_with fail
      refine (unhide HS _ (unhide HB)).mono ?_
      rintro e w2 ⟨v, rfl, -, hb2⟩
      have HB2 := hide (belOnD (unhide HB) hb2)
      clear hb2
      have hfd := field_seat v (setN rs)
      go_wp2_with fail
      clear hfd
      refine (unhide HIDS _ (unhide HB2)).mono ?_
      rintro e w3 ⟨a3, c3, rfl, ho, hb3⟩
      have HO := hide (ho.le (unhide HB2).size)
      have HB3 := hide (belOnD (unhide HB2) hb3)
      clear ho hb3
      go_wp2_with fail
      exact bodyPost_ret (v := .tuple #[.slice a3 rs.length c3, .bool true]) (by simp [results, Tryz.results8, go_sem]) rfl ⟨_, rfl, unhide HO, unhide HB3⟩
end Go.Proofs.YtmienlnhbdbefaaGreatDoor


/- The loads of nodes, by the specification. -/
namespace Go.Proofs.YtmienlnhbdbefaaGreatDoor
open Go.RowKit Plain
set_option linter.unusedVariables false

namespace Plain
/-- Of how many digests a node is a holder. -/
def cntL (ls : List Int) (K : Nat) (ds : List ByteArray) (x : Int) : Nat := (ds.filter fun d => decide (x ∈ hld (wt d) ls K)).length
def ldsL (ls : List Int) (K : Nat) (ds : List ByteArray) : List Int := ls.map fun x => (cntL ls K ds x : Int)
theorem cntL_le (ls : List Int) (K : Nat) (ds : List ByteArray) (x : Int) : cntL ls K ds x ≤ ds.length := List.length_filter_le _ _
theorem ldsL_len (ls : List Int) (K : Nat) (ds : List ByteArray) : (ldsL ls K ds).length = ls.length := by simp [ldsL]
theorem cntL_take (ls : List Int) (K : Nat) (ds : List ByteArray) (i : Nat) (h : i < ds.length) (x : Int) : cntL ls K (ds.take (i + 1)) x = cntL ls K (ds.take i) x + (if x ∈ hld (wt ds[i]) ls K then 1 else 0) := by
  unfold cntL
  rw [List.take_succ_eq_append_getElem h, List.filter_append, List.length_append]
  congr 1
  by_cases hx : x ∈ hld (wt ds[i]) ls K
  · rw [if_pos hx, List.filter_cons_of_pos (by simpa using hx)]; rfl
  · rw [if_neg hx, List.filter_cons_of_neg (by simpa using hx)]; rfl
/-- While one digest is reckoned in. -/
def mixL (A B : List Int) (j : Nat) : List Int := B.take j ++ A.drop j
theorem mixL_zero (A B : List Int) : mixL A B 0 = A := by simp [mixL]
theorem mixL_end (A B : List Int) (h : A.length = B.length) : mixL A B B.length = B := by simp [mixL, h]
theorem mixL_len (A B : List Int) (j : Nat) (h : A.length = B.length) (hj : j ≤ A.length) : (mixL A B j).length = A.length := by simp [mixL]; omega
theorem mixL_get (A B : List Int) (j : Nat) (h : A.length = B.length) (hj : j < A.length) : (mixL A B j)[j]? = some A[j] := by
  unfold mixL
  rw [List.getElem?_append_right (by rw [List.length_take]; omega), List.length_take, Nat.min_eq_left (by omega), Nat.sub_self, List.drop_eq_getElem_cons hj]
  rfl
theorem mixL_set (A B : List Int) (j : Nat) (h : A.length = B.length) (hj : j < A.length) (y : Int) (hy : B[j]'(by omega) = y) : (mixL A B j).set j y = mixL A B (j + 1) := by
  unfold mixL
  have h1 : (B.take j).length = j := by rw [List.length_take]; omega
  rw [List.set_append_right _ _ (by omega), h1, Nat.sub_self, List.drop_eq_getElem_cons hj, List.set_cons_zero, List.take_succ_eq_append_getElem (by omega), hy, List.append_assoc]
  rfl
theorem mixL_same (A B : List Int) (j : Nat) (h : A.length = B.length) (hj : j < A.length) (hy : B[j]'(by omega) = A[j]) : mixL A B j = mixL A B (j + 1) := by
  unfold mixL
  rw [List.drop_eq_getElem_cons hj, List.take_succ_eq_append_getElem (by omega : j < B.length), hy, List.append_assoc]
  rfl
theorem ldsL_step (ls : List Int) (K : Nat) (ds : List ByteArray) (i : Nat) (h : i < ds.length) (j : Nat) (hj : j < ls.length) :
    (ldsL ls K (ds.take (i + 1)))[j]'(by rw [ldsL_len]; exact hj) = (ldsL ls K (ds.take i))[j]'(by rw [ldsL_len]; exact hj) + (if ls[j] ∈ hld (wt ds[i]) ls K then 1 else 0) := by
  unfold ldsL
  rw [List.getElem_map, List.getElem_map, cntL_take ls K ds i h]
  split <;> simp
theorem ldsL_bound (ls : List Int) (K : Nat) (ds : List ByteArray) (z : Int) (h : z ∈ ldsL ls K ds) : 0 ≤ z ∧ z ≤ ds.length := by
  unfold ldsL at h
  obtain ⟨x, _, rfl⟩ := List.mem_map.1 h
  have := cntL_le ls K ds x
  omega
theorem rep_map : ∀ l : List Int, List.replicate l.length (0 : Int) = l.map fun _ => 0
  | [] => rfl
  | x :: l => by rw [List.length_cons, List.replicate_succ, rep_map l, List.map_cons]
def ldB (ds : List ByteArray) (ls : List Int) (k : Int) : Bool := setB ds && rosB ls k
def ldL (ds : List ByteArray) (ls : List Int) (k : Int) : List Int := if ldB ds ls k then ldsL ls k.toNat ds else []
theorem ldL_yes {ds : List ByteArray} {ls : List Int} {k : Int} (h : ldB ds ls k = true) : ldL ds ls k = ldsL ls k.toNat ds := if_pos h
theorem ldL_no {ds : List ByteArray} {ls : List Int} {k : Int} (h : ldB ds ls k = false) : ldL ds ls k = [] := by unfold ldL; rw [h]; rfl
theorem ldL_len (ds : List ByteArray) (ls : List Int) (k : Int) : (ldL ds ls k).length ≤ ls.length := by
  unfold ldL
  split
  · rw [ldsL_len]; exact Nat.le_refl _
  · simp
theorem okS_all : ∀ (l : List ByteArray) (p : Option ByteArray), okS p l = true → ∀ s ∈ l, digB s = true := by
  intro l p h
  rw [okS_split, Bool.and_eq_true] at h
  exact List.all_eq_true.1 h.2
theorem setB_all {l : List ByteArray} (h : setB l = true) : l.length ≤ 200 ∧ ∀ s ∈ l, digB s = true := by
  unfold setB at h
  rw [Bool.and_eq_true, decide_eq_true_iff] at h
  exact ⟨h.1, okS_all l none h.2⟩
theorem ownCell {W : World} {B g n c : Nat} {xs : List Int} (h : OwnR i64E W B (.slice (some ⟨g, 0, none⟩) n c) xs) (k : Nat) {z : Int} (hv : xs[k]? = some z) : W.cell? ⟨g, k, none⟩ = some (.int .i64 z) ∧ W.frozen? ⟨g, k, none⟩ = false := by
  obtain ⟨hk, rfl⟩ := List.getElem?_eq_some_iff.1 hv
  obtain ⟨g', e, _, h1, h2⟩ := h.at.ix k hk
  cases e
  exact ⟨h1, h2⟩
theorem ownSet1 {W : World} {B g n c : Nat} {xs : List Int} (h : OwnR i64E W B (.slice (some ⟨g, 0, none⟩) n c) xs) (hn : xs.length = n) (k : Nat) (hk : k < xs.length) (y : Int) : OwnR i64E (W.setCell ⟨g, k, none⟩ (.int .i64 y)) B (.slice (some ⟨g, 0, none⟩) n c) (xs.set k y) := by
  have := OwnR.setJ (e := i64E) h hn k hk 0 (by decide) (.int .i64 y) y rfl
  rwa [show k * i64E.n + 0 = k from by show k * 1 + 0 = k; omega] at this
theorem rowSetOff {W : World} {a : Option Addr} {xs : List Int} {b i : Nat} {u : Value} (h : RowAt i64E W a xs) (hne : ∀ g, a = some ⟨g, 0, none⟩ → g ≠ b) : RowAt i64E (W.setCell ⟨b, i, none⟩ u) a xs := fun j hj => by
  obtain ⟨g, e, l, hc⟩ := h j hj
  refine ⟨g, e, by simpa using l, fun m hm => ⟨?_, by rw [World.frozen?_setCell]; exact (hc m hm).2⟩⟩
  rw [World.cell?_setCell_other _ _ _ _ (fun q => hne g e (by have := congrArg Addr.block q; simpa using this.symm))]
  exact (hc m hm).1
end Plain

end Go.Proofs.YtmienlnhbdbefaaGreatDoor

/- The loads of nodes, by the program. -/
namespace Go.Proofs.YtmienlnhbdbefaaGreatDoor
open Go.RowKit Plain
set_option linter.unusedVariables false

theorem has_calls (l : List Int) (x : Int) (w : World) (h1 : 1 ≤ x) (h2 : x ≤ 50) :
    Calls Tryz.prog 19 #[.int .u64 (setN l : Nat), .int .i64 x] w fun e w' => e = .returned (.bool (decide (x ∈ l))) ∧ w = w' := by
  obtain ⟨X, rfl⟩ := Int.eq_ofNat_of_zero_le (show 0 ≤ x by omega)
  have hlt := setN_lt l
  have hpl : 2 ^ X ≤ 1125899906842624 := Nat.pow_le_pow_right (show 0 < 2 by decide) (show X ≤ 50 by omega)
  have HON := hide (fun W => only_calls X W (by omega))
  have hand : bits .and .u64 ((setN l : Nat) : Int) ((2 ^ X : Nat) : Int) = ((setN l &&& 2 ^ X : Nat) : Int) := u64_and_nat _ _ (by omega) (by omega)
  have hbit := setN_bit l X
  have hx1 : 1 ≤ X := by omega
  have hx2 : X ≤ 50 := by omega
  rw [decide_eq_true hx1, decide_eq_true hx2, Bool.true_and, Bool.true_and] at hbit
  have hpos : 0 < 2 ^ X := Nat.pow_pos (by decide)
  have hres : ((((setN l &&& 2 ^ X : Nat) : Int)) != 0) = decide ((X : Int) ∈ l) := by
    rw [← hbit]
    cases hb : (setN l).testBit X with
    | false =>
      have : setN l &&& 2 ^ X = 0 := by
        apply Nat.eq_of_testBit_eq
        intro i
        rw [Nat.testBit_and, Nat.testBit_two_pow, Nat.zero_testBit]
        by_cases hi : X = i
        · subst hi; rw [hb]; rfl
        · simp [hi]
      rw [this]
      rfl
    | true =>
      have : (setN l &&& 2 ^ X).testBit X = true := by rw [Nat.testBit_and, Nat.testBit_two_pow, hb]; simp
      have hne : setN l &&& 2 ^ X ≠ 0 := fun e => by rw [e, Nat.zero_testBit] at this; cases this
      rw [bne_iff_ne]
      omega
  generalize setN l = S at hand hres
  generalize decide ((X : Int) ∈ l) = R at hres
  generalize hA : S &&& 2 ^ X = A at hand hres
  generalize 2 ^ X = P at HON hand
  clear hlt hpl hbit hpos hA
  go_enter Tryz.func19, Tryz.ntmps19
  go_wp2_with fail
  refine (unhide HON _).mono ?_
  rintro e w1 ⟨rfl, rfl⟩
  go_wp2_with fail
  go_ret
  exact ⟨rfl, rfl⟩

end Go.Proofs.YtmienlnhbdbefaaGreatDoor
