/- The loads of nodes, by the specification. -/
import Derived.Test.YtbcfejplaffbnaaDoorRzL
import Derived.Test.YtbcfejplaffbnaaDoorRzH
namespace Go.Proofs.YtbcfejplaffbnaaDoor
open Go.RowKit Plain
set_option linter.unusedVariables false

namespace Plain
/-- Of how many digests a node is a holder. -/
def cntL (ls : List Int) (K : Nat) (ds : List ByteArray) (x : Int) : Nat := (ds.filter fun d => decide (x ∈ hld (wt d) ls K)).length
def ldsL (ls : List Int) (K : Nat) (ds : List ByteArray) : List Int := ls.map fun x => (cntL ls K ds x : Int)
theorem cntL_le (ls : List Int) (K : Nat) (ds : List ByteArray) (x : Int) : cntL ls K ds x ≤ ds.length := List.length_filter_le _ _
theorem ldsL_len (ls : List Int) (K : Nat) (ds : List ByteArray) : (ldsL ls K ds).length = ls.length := by simp [ldsL]
theorem cntL_take (ls : List Int) (K : Nat) (ds : List ByteArray) (i : Nat) (h : i < ds.length) (x : Int) : cntL ls K (ds.take (i + 1)) x = cntL ls K (ds.take i) x + (if x ∈ hld (wt ds[i]) ls K then 1 else 0) := by
  unfold cntL
  rw [List.take_succ_eq_append_getElem h, List.filter_append, List.length_append]
  congr 1
  by_cases hx : x ∈ hld (wt ds[i]) ls K
  · rw [if_pos hx, List.filter_cons_of_pos (by simpa using hx)]; rfl
  · rw [if_neg hx, List.filter_cons_of_neg (by simpa using hx)]; rfl
/-- While one digest is reckoned in. -/
def mixL (A B : List Int) (j : Nat) : List Int := B.take j ++ A.drop j
theorem mixL_zero (A B : List Int) : mixL A B 0 = A := by simp [mixL]
theorem mixL_end (A B : List Int) (h : A.length = B.length) : mixL A B B.length = B := by simp [mixL, h]
theorem mixL_len (A B : List Int) (j : Nat) (h : A.length = B.length) (hj : j ≤ A.length) : (mixL A B j).length = A.length := by simp [mixL]; omega
theorem mixL_get (A B : List Int) (j : Nat) (h : A.length = B.length) (hj : j < A.length) : (mixL A B j)[j]? = some A[j] := by
  unfold mixL
  rw [List.getElem?_append_right (by rw [List.length_take]; omega), List.length_take, Nat.min_eq_left (by omega), Nat.sub_self, List.drop_eq_getElem_cons hj]
  rfl
theorem mixL_set (A B : List Int) (j : Nat) (h : A.length = B.length) (hj : j < A.length) (y : Int) (hy : B[j]'(by omega) = y) : (mixL A B j).set j y = mixL A B (j + 1) := by
  unfold mixL
  have h1 : (B.take j).length = j := by rw [List.length_take]; omega
  rw [List.set_append_right _ _ (by omega), h1, Nat.sub_self, List.drop_eq_getElem_cons hj, List.set_cons_zero, List.take_succ_eq_append_getElem (by omega), hy, List.append_assoc]
  rfl
theorem mixL_same (A B : List Int) (j : Nat) (h : A.length = B.length) (hj : j < A.length) (hy : B[j]'(by omega) = A[j]) : mixL A B j = mixL A B (j + 1) := by
  unfold mixL
  rw [List.drop_eq_getElem_cons hj, List.take_succ_eq_append_getElem (by omega : j < B.length), hy, List.append_assoc]
  rfl
theorem ldsL_step (ls : List Int) (K : Nat) (ds : List ByteArray) (i : Nat) (h : i < ds.length) (j : Nat) (hj : j < ls.length) :
    (ldsL ls K (ds.take (i + 1)))[j]'(by rw [ldsL_len]; exact hj) = (ldsL ls K (ds.take i))[j]'(by rw [ldsL_len]; exact hj) + (if ls[j] ∈ hld (wt ds[i]) ls K then 1 else 0) := by
  unfold ldsL
  rw [List.getElem_map, List.getElem_map, cntL_take ls K ds i h]
  split <;> simp
theorem ldsL_bound (ls : List Int) (K : Nat) (ds : List ByteArray) (z : Int) (h : z ∈ ldsL ls K ds) : 0 ≤ z ∧ z ≤ ds.length := by
  unfold ldsL at h
  obtain ⟨x, _, rfl⟩ := List.mem_map.1 h
  have := cntL_le ls K ds x
  omega
theorem rep_map : ∀ l : List Int, List.replicate l.length (0 : Int) = l.map fun _ => 0
  | [] => rfl
  | x :: l => by rw [List.length_cons, List.replicate_succ, rep_map l, List.map_cons]
def ldB (ds : List ByteArray) (ls : List Int) (k : Int) : Bool := setB ds && rosB ls k
def ldL (ds : List ByteArray) (ls : List Int) (k : Int) : List Int := if ldB ds ls k then ldsL ls k.toNat ds else []
theorem ldL_yes {ds : List ByteArray} {ls : List Int} {k : Int} (h : ldB ds ls k = true) : ldL ds ls k = ldsL ls k.toNat ds := if_pos h
theorem ldL_no {ds : List ByteArray} {ls : List Int} {k : Int} (h : ldB ds ls k = false) : ldL ds ls k = [] := by unfold ldL; rw [h]; rfl
theorem ldL_len (ds : List ByteArray) (ls : List Int) (k : Int) : (ldL ds ls k).length ≤ ls.length := by
  unfold ldL
  split
  · rw [ldsL_len]; exact Nat.le_refl _
  · simp
theorem okS_all : ∀ (l : List ByteArray) (p : Option ByteArray), okS p l = true → ∀ s ∈ l, digB s = true := by
  intro l p h
  rw [okS_split, Bool.and_eq_true] at h
  exact List.all_eq_true.1 h.2
theorem setB_all {l : List ByteArray} (h : setB l = true) : l.length ≤ 200 ∧ ∀ s ∈ l, digB s = true := by
  unfold setB at h
  rw [Bool.and_eq_true, decide_eq_true_iff] at h
  exact ⟨h.1, okS_all l none h.2⟩
theorem ownCell {W : World} {B g n c : Nat} {xs : List Int} (h : OwnR i64E W B (.slice (some ⟨g, 0, none⟩) n c) xs) (k : Nat) {z : Int} (hv : xs[k]? = some z) : W.cell? ⟨g, k, none⟩ = some (.int .i64 z) ∧ W.frozen? ⟨g, k, none⟩ = false := by
  obtain ⟨hk, rfl⟩ := List.getElem?_eq_some_iff.1 hv
  obtain ⟨g', e, _, h1, h2⟩ := h.at.ix k hk
  cases e
  exact ⟨h1, h2⟩
theorem ownSet1 {W : World} {B g n c : Nat} {xs : List Int} (h : OwnR i64E W B (.slice (some ⟨g, 0, none⟩) n c) xs) (hn : xs.length = n) (k : Nat) (hk : k < xs.length) (y : Int) : OwnR i64E (W.setCell ⟨g, k, none⟩ (.int .i64 y)) B (.slice (some ⟨g, 0, none⟩) n c) (xs.set k y) := by
  have := OwnR.setJ (e := i64E) h hn k hk 0 (by decide) (.int .i64 y) y rfl
  rwa [show k * i64E.n + 0 = k from by show k * 1 + 0 = k; omega] at this
theorem rowSetOff {W : World} {a : Option Addr} {xs : List Int} {b i : Nat} {u : Value} (h : RowAt i64E W a xs) (hne : ∀ g, a = some ⟨g, 0, none⟩ → g ≠ b) : RowAt i64E (W.setCell ⟨b, i, none⟩ u) a xs := fun j hj => by
  obtain ⟨g, e, l, hc⟩ := h j hj
  refine ⟨g, e, by simpa using l, fun m hm => ⟨?_, by rw [World.frozen?_setCell]; exact (hc m hm).2⟩⟩
  rw [World.cell?_setCell_other _ _ _ _ (fun q => hne g e (by have := congrArg Addr.block q; simpa using this.symm))]
  exact (hc m hm).1
end Plain

set_option maxRecDepth 10000 in
set_option maxHeartbeats 4000000 in
theorem spec_Loads (ad : Option Addr) (nd cd : Nat) (ds : List ByteArray) (a : Option Addr) (n c : Nat) (ls : List Int) (k : Int) (w : World) (hs : TxtsAt w ad nd ds) (h : IntsAt w a n ls) :
    Calls Tryd.prog 15 #[.slice ad nd cd, .slice a n c, .int .i64 k] w fun e w' => ∃ v, e = .returned (.tuple #[v, .bool (ldB ds ls k)]) ∧ OwnR i64E w' w.heap.size v (ldL ds ls k) ∧ Below w.heap.size w w' := by
  obtain ⟨W0, hW0⟩ : ∃ W0, W0 = w.alloc (.cells #[] 2) := ⟨_, rfl⟩
  have HB0 := hide (show Below w.heap.size w W0 from by rw [hW0]; exact bel1D _ _)
  have HO0 := hide (show OwnR i64E W0 w.heap.size (.slice (some ⟨w.heap.size, 0, none⟩) 0 0) [] from by rw [hW0]; exact ownR_empty i64E w w.heap.size (Nat.le_refl _))
  have HD := hide (l7Set_calls ad nd cd ds W0 (hs.below (unhide HB0)))
  have HI := hide (fun (W : World) (hW : Below w.heap.size w W) => l9Ids_calls a n c ls 50 W (h.below hW) (by decide))
  rw [ids50 n ls h.len] at HI
  have HN := hide (fun W => l1In_calls k 1 7 W)
  rw [show (decide (1 ≤ k) && decide (k ≤ 7)) = kB k from rfl] at HN
  have HW0 := hide hW0.symm
  clear hW0
  cases h1 : setB ds with
  | false =>
    have hb : ldB ds ls k = false := by unfold ldB; rw [h1]; rfl
    rw [hb, ldL_no hb]
    rw [h1] at HD
    clear h hs hb h1
    go_enter Tryd.func15, Tryd.ntmps15
    go_wp2_with fail
    rw [unhide HW0]
    refine (unhide HD).mono ?_
    rintro e w1 ⟨rfl, hb1⟩
    have HB1 := hide (belOnD (unhide HB0) hb1)
    have HO1 := hide ((unhide HO0).keep hb1)
    clear hb1
    go_wp2_with fail
    exact bodyPost_ret (v := .tuple #[_, .bool false]) (by simp [results, Tryd.results15, go_sem]) rfl ⟨_, rfl, unhide HO1, unhide HB1⟩
  | true =>
    rw [h1] at HD
    cases h2 : okIds 0 ls with
    | false =>
      have hb : ldB ds ls k = false := by unfold ldB rosB; rw [h2, Bool.false_and, Bool.and_false]
      rw [hb, ldL_no hb]
      rw [h2] at HI
      clear h hs hb h1 h2
      go_enter Tryd.func15, Tryd.ntmps15
      go_wp2_with fail
      rw [unhide HW0]
      refine (unhide HD).mono ?_
      rintro e w1 ⟨rfl, hb1⟩
      have HB1 := hide (belOnD (unhide HB0) hb1)
      have HO1 := hide ((unhide HO0).keep hb1)
      clear hb1
      go_wp2_with fail
      refine (unhide HI _ (unhide HB1)).mono ?_
      rintro e w2 ⟨rfl, hb2⟩
      have HB2 := hide (belOnD (unhide HB1) hb2)
      have HO2 := hide ((unhide HO1).keep hb2)
      clear hb2
      go_wp2_with fail
      exact bodyPost_ret (v := .tuple #[_, .bool false]) (by simp [results, Tryd.results15, go_sem]) rfl ⟨_, rfl, unhide HO2, unhide HB2⟩
    | true =>
      rw [h2] at HI
      cases h3 : kB k with
      | false =>
        have hb : ldB ds ls k = false := by unfold ldB rosB; rw [h3, Bool.and_false, Bool.and_false]
        rw [hb, ldL_no hb]
        rw [h3] at HN
        clear h hs hb h1 h2 h3
        go_enter Tryd.func15, Tryd.ntmps15
        go_wp2_with fail
        rw [unhide HW0]
        refine (unhide HD).mono ?_
        rintro e w1 ⟨rfl, hb1⟩
        have HB1 := hide (belOnD (unhide HB0) hb1)
        have HO1 := hide ((unhide HO0).keep hb1)
        clear hb1
        go_wp2_with fail
        refine (unhide HI _ (unhide HB1)).mono ?_
        rintro e w2 ⟨rfl, hb2⟩
        have HB2 := hide (belOnD (unhide HB1) hb2)
        have HO2 := hide ((unhide HO1).keep hb2)
        clear hb2
        go_wp2_with fail
        refine (unhide HN _).mono ?_
        rintro e w9 ⟨rfl, rfl⟩
        go_wp2_with fail
        exact bodyPost_ret (v := .tuple #[_, .bool false]) (by simp [results, Tryd.results15, go_sem]) rfl ⟨_, rfl, unhide HO2, unhide HB2⟩
      | true =>
        have hb : ldB ds ls k = true := by unfold ldB rosB; rw [h1, h2, h3]; rfl
        rw [hb, ldL_yes hb]
        rw [h3] at HN
        have hk := (kB_iff k).1 h3
        obtain ⟨K, rfl⟩ := Int.eq_ofNat_of_zero_le (show 0 ≤ k by omega)
        rw [Int.toNat_natCast]
        have hall := setB_all h1
        have HH := hide (fun (W : World) (hW : Below w.heap.size w W) (d : ByteArray) (hd : d ∈ ds) => l13Holders_calls d a n c ls K W (h.below hW) h2 (digB_len71 (hall.2 d hd)) (by omega) (by omega))
        have HDS := hide (fun (W : World) (hW : Below w.heap.size w W) => hs.below hW)
        have HLS := hide (fun (W : World) (hW : Below w.heap.size w W) => h.below hW)
        have hnb := h.bn
        have hdb := hs.len
        have HLN := hide h.len
        have HDN := hide hs.len
        have hd200 := hall.1
        rw [hs.len] at hd200
        clear h hs hb h1 h2 h3 hk hall hdb
        go_enter Tryd.func15, Tryd.ntmps15
        go_wp2_with fail
        rw [unhide HW0]
        refine (unhide HD).mono ?_
        rintro e w1 ⟨rfl, hb1⟩
        have HB1 := hide (belOnD (unhide HB0) hb1)
        have HO1 := hide ((unhide HO0).keep hb1)
        clear hb1
        go_wp2_with fail
        refine (unhide HI _ (unhide HB1)).mono ?_
        rintro e w2 ⟨rfl, hb2⟩
        have HB2 := hide (belOnD (unhide HB1) hb2)
        have HO2 := hide ((unhide HO1).keep hb2)
        clear hb2
        go_wp2_with fail
        refine (unhide HN _).mono ?_
        rintro e w9 ⟨rfl, rfl⟩
        go_wp2_with fail
        clear HB0 HO0 HB1 HO1 HD HI HN HW0
        go_loopw [8, 9] (fun s8 s9 wr => ∃ (i : Nat), s9 = .int .i64 i ∧ i ≤ n ∧ w.heap.size ≤ wr.heap.size ∧ Hid (OwnR i64E wr w.heap.size s8 (List.replicate i 0)) ∧ Hid (Below w.heap.size w wr)) (fun _ s9 _ => n - (intOf s9).toNat)
        case atStart => exact ⟨0, rfl, by omega, (unhide HB2).size, HO2, HB2⟩
        case round =>
          clear HO2 HB2
          obtain ⟨i, rfl, hi, hz, HO, HB⟩ := hrel
          obtain ⟨a8, c8, hv8⟩ := (unhide HO).form
          rw [List.length_replicate] at hv8
          subst hv8
          by_cases hin : i < n
          · have HRP := hide (show List.replicate i (0 : Int) ++ [0] = List.replicate (i + 1) 0 from List.replicate_succ'.symm)
            have hlen : (List.replicate i (0 : Int)).length < 100000000 := by rw [List.length_replicate]; omega
            have i1 : (i : Int) < (n : Int) := by omega
            go_wp2_with (at_builtin; go_must (refine appR (e := i64E) rfl _ _ rfl (unhide HO) rfl (0 : Int) rfl _ rfl rfl hlen hz ?_); intro v' w6 hown6 hb6 hg6; rw [unhide HRP] at hown6; obtain ⟨a3, c3, hv'⟩ := hown6.form; rw [List.length_replicate] at hv'; subst hv')
            go_roundw
            case rel => exact ⟨i + 1, by go_num, by omega, by have := hb6.size; omega, hide hown6, hide ((unhide HB).trans hb6)⟩
            case measure => simp [intOf]; omega
          · obtain rfl : i = n := by omega
            have HZ := hide (show List.replicate i (0 : Int) = ldsL ls K (ds.take 0) from by
              rw [List.take_zero]
              unfold ldsL cntL
              rw [← unhide HLN]
              simpa using rep_map ls)
            rw [unhide HZ] at HO
            go_wp2_with fail
            go_loopw [10] (fun s10 wq => ∃ (m : Nat), s10 = .int .i64 m ∧ m ≤ nd ∧ w.heap.size ≤ wq.heap.size ∧ Hid (OwnR i64E wq w.heap.size (.slice a8 i c8) (ldsL ls K (ds.take m))) ∧ Hid (Below w.heap.size w wq)) (fun s10 _ => nd - (intOf s10).toNat)
            case atStart => exact ⟨0, rfl, by omega, hz, HO, HB⟩
            case round =>
              clear HO HB hz HZ
              obtain ⟨m, rfl, hm, hz, HO, HB⟩ := hrel
              by_cases hmn : m < nd
              · have hml : m < ds.length := by rw [unhide HDN]; exact hmn
                obtain ⟨gd, e1, l1, p0, -⟩ := (unhide HDS wr (unhide HB)).row.str m hml
                have HHD := hide (unhide HH wr (unhide HB) ds[m] (by simp))
                have HST := hide (fun (j : Nat) (hj : j < ls.length) (hA : j < (ldsL ls K (ds.take m)).length) (hB : j < (ldsL ls K (ds.take (m + 1))).length) => (show (ldsL ls K (ds.take (m + 1)))[j] = (ldsL ls K (ds.take m))[j] + (if ls[j] ∈ hld (wt ds[m]) ls K then 1 else 0) from ldsL_step ls K ds m hml j hj))
                have hAl : (ldsL ls K (ds.take m)).length = i := by rw [ldsL_len]; exact unhide HLN
                have hBl : (ldsL ls K (ds.take (m + 1))).length = i := by rw [ldsL_len]; exact unhide HLN
                have HAB := hide (fun (z : Int) (hz : z ∈ ldsL ls K (ds.take m)) => (show 0 ≤ z ∧ z ≤ 200 from by
                  have h1 := ldsL_bound ls K (ds.take m) z hz
                  rw [List.length_take] at h1
                  have := unhide HDN
                  omega))
                have hHl : (hld (wt ds[m]) ls K).length ≤ i := Nat.le_trans (List.length_filter_le _ _) (by rw [unhide HLN]; exact Nat.le_refl _)
                generalize ds[m] = d at p0 HHD HST hHl
                generalize hld (wt d) ls K = H at HHD HST hHl
                generalize ldsL ls K (ds.take m) = A at HO HST hAl HAB
                generalize hBB : ldsL ls K (ds.take (m + 1)) = B at HST hBl
                have HBB := hide hBB
                have HAL := hide hAl
                have HBL := hide hBl
                subst e1
                have i0 : (0 : Int) ≤ (m : Int) := by omega
                have i1 : (m : Int) < (nd : Int) := by omega
                clear hBB hAl hBl
                go_wp2_with fail
                refine (unhide HHD).mono ?_
                rintro e w3 ⟨vH, rfl, oH, hb3⟩
                obtain ⟨aH, cH, hvH⟩ := oH.form
                obtain ⟨nH, hnH⟩ : ∃ nH, H.length = nH := ⟨_, rfl⟩
                rw [hnH] at hvH hHl
                subst hvH
                have HHL := hide hnH
                have HBH := hide (fun g (hg : aH = some ⟨g, 0, none⟩) => (show wr.heap.size ≤ g from (World.ownsRow.lt oH g (by rw [hg]; rfl)).1))
                have HRH := hide oH.at
                have HO3 := hide ((unhide HO).keep hb3)
                have HB3 := hide ((unhide HB).trans (hb3.mono hz))
                have hz3 := hb3.size
                have HLO := hide (unhide HO).lt
                clear oH hb3 HHD hnH p0
                go_wp2_with fail
                go_loopw [12] (fun s12 wq => ∃ (j : Nat), s12 = .int .i64 j ∧ j ≤ i ∧ wr.heap.size ≤ wq.heap.size ∧ Hid (OwnR i64E wq w.heap.size (.slice a8 i c8) (mixL A B j)) ∧ Hid (RowAt i64E wq aH H) ∧ Hid (Below w.heap.size w wq)) (fun s12 _ => i - (intOf s12).toNat)
                case atStart => exact ⟨0, rfl, by omega, hz3, hide (by rw [mixL_zero]; exact unhide HO3), HRH, HB3⟩
                case round =>
                  clear HO HO3 HRH HB3 hz3
                  obtain ⟨j, rfl, hj, hzj, HOj, HRj, HBj⟩ := hrel
                  by_cases hjn : j < i
                  · have hjl : j < ls.length := by rw [unhide HLN]; exact hjn
                    have hjA : j < A.length := by rw [unhide HAL]; exact hjn
                    have hjB : j < B.length := by rw [unhide HBL]; exact hjn
                    have hAB : A.length = B.length := by rw [unhide HAL, unhide HBL]
                    obtain ⟨gn, e2, l2, pn, -⟩ := (unhide HLS wr (unhide HBj)).row.ix j hjl
                    have hst := unhide HST j hjl hjA hjB
                    have hml := mixL_len A B j hAB (Nat.le_of_lt hjA)
                    rw [unhide HAL] at hml
                    obtain ⟨g8, c8', e8⟩ := (unhide HOj).asome (by omega)
                    rw [hml] at e8
                    cases e8
                    obtain ⟨pc, pf⟩ := ownCell (unhide HOj) j (mixL_get A B j hAB hjA)
                    have hbd := unhide HAB A[j] (by simp)
                    have HSET := hide (fun (y : Int) (hy : B[j] = y) => (show OwnR i64E (wr.setCell ⟨g8, j, none⟩ (.int .i64 y)) w.heap.size (.slice (some ⟨g8, 0, none⟩) i c8) (mixL A B (j + 1)) from by
                      have := ownSet1 (unhide HOj) hml j (by omega) y
                      rwa [mixL_set A B j hAB hjA y hy] at this))
                    have HSAM := hide (fun (hy : B[j] = A[j]) => mixL_same A B j hAB hjA hy)
                    have hg8 := World.ownsRow.lt (unhide HOj) g8 rfl
                    have hg9 := unhide HLO g8 rfl
                    have HRS := hide (fun (y : Int) => rowSetOff (b := g8) (i := j) (u := .int .i64 y) (unhide HRj) (fun g hg => by have := unhide HBH g hg; omega))
                    have HBS := hide (fun (y : Int) => (unhide HBj).setCell (p := ⟨g8, j, none⟩) hg8.1 (.int .i64 y))
                    generalize ls[j] = x at pn hst
                    have HIN := hide (l1Ints_calls aH nH cH H x wr ⟨unhide HRj, unhide HHL, by omega⟩)
                    generalize A[j] = aj at pc hst HSAM hbd
                    generalize B[j] = bj at hst HSET HSAM
                    subst e2
                    have j0 : (0 : Int) ≤ (j : Int) := by omega
                    have j1 : (j : Int) < (i : Int) := by omega
                    have hwr : IntKind.i64.wrap (aj + 1) = aj + 1 := by rw [IntKind.wrap_i64]; omega
                    cases hx : decide (x ∈ H) with
                    | true =>
                      rw [hx] at HIN
                      rw [if_pos (by simpa using hx)] at hst
                      have HS2 := hide (unhide HSET (aj + 1) hst)
                      have HR2 := hide (unhide HRS (aj + 1))
                      have HB2 := hide (unhide HBS (aj + 1))
                      clear hx hst HSET HSAM HRS HBS HOj
                      go_wp2_with fail
                      refine (unhide HIN).mono ?_
                      rintro e w9 ⟨rfl, rfl⟩
                      go_wp2_with fail
                      go_roundw
                      case rel => exact ⟨j + 1, by go_num, by omega, by simpa using hzj, HS2, HR2, HB2⟩
                      case measure => simp [intOf]; omega
                    | false =>
                      rw [hx] at HIN
                      rw [if_neg (by simpa using hx), Int.add_zero] at hst
                      have HS2 := hide (unhide HSAM hst)
                      clear hx hst HSET HSAM HRS HBS
                      go_wp2_with fail
                      refine (unhide HIN).mono ?_
                      rintro e w9 ⟨rfl, rfl⟩
                      go_wp2_with fail
                      go_roundw
                      case rel => exact ⟨j + 1, by go_num, by omega, hzj, hide (by rw [← unhide HS2]; exact unhide HOj), HRj, HBj⟩
                      case measure => simp [intOf]; omega
                  · obtain rfl : j = i := by omega
                    have HOE := hide (show OwnR i64E wr w.heap.size (.slice a8 j c8) (ldsL ls K (ds.take (m + 1))) from by
                      have h1 := mixL_end A B (by rw [unhide HAL, unhide HBL])
                      rw [unhide HBL] at h1
                      have h2 := unhide HOj
                      rw [h1] at h2
                      rw [unhide HBB]
                      exact h2)
                    clear HOj
                    go_wp2_with fail
                    go_roundw
                    case rel => exact ⟨m + 1, by go_num, by omega, by omega, HOE, HBj⟩
                    case measure => simp [intOf]; omega
              · obtain rfl : m = nd := by omega
                rw [List.take_of_length_le (by rw [unhide HDN]; exact Nat.le_refl _)] at HO
                go_wp2_with fail
                exact bodyPost_ret (v := .tuple #[.slice a8 i c8, .bool true]) (by simp [results, Tryd.results15, go_sem]) rfl ⟨_, rfl, unhide HO, unhide HB⟩
end Go.Proofs.YtbcfejplaffbnaaDoor
