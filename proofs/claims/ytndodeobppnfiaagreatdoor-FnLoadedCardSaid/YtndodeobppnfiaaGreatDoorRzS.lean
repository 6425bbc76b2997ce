/- Texts of one kind, put together. -/
import Derived.Test.YtndodeobppnfiaaGreatDoorRzL
import Derived.Test.YtndodeobppnfiaaGreatDoorRzH

/- The loads of nodes, by the specification. -/
namespace Go.Proofs.YtndodeobppnfiaaGreatDoor
open Go.RowKit Plain
set_option linter.unusedVariables false

namespace Plain
/-- Of how many digests a node is a holder. -/
def cntL (ls : List Int) (K : Nat) (ds : List ByteArray) (x : Int) : Nat := (ds.filter fun d => decide (x ∈ hld (wt d) ls K)).length
def ldsL (ls : List Int) (K : Nat) (ds : List ByteArray) : List Int := ls.map fun x => (cntL ls K ds x : Int)
theorem cntL_le (ls : List Int) (K : Nat) (ds : List ByteArray) (x : Int) : cntL ls K ds x ≤ ds.length := List.length_filter_le _ _
theorem ldsL_len (ls : List Int) (K : Nat) (ds : List ByteArray) : (ldsL ls K ds).length = ls.length := by simp [ldsL]
theorem cntL_take (ls : List Int) (K : Nat) (ds : List ByteArray) (i : Nat) (h : i < ds.length) (x : Int) : cntL ls K (ds.take (i + 1)) x = cntL ls K (ds.take i) x + (if x ∈ hld (wt ds[i]) ls K then 1 else 0) := by
  unfold cntL
  rw [List.take_succ_eq_append_getElem h, List.filter_append, List.length_append]
  congr 1
  by_cases hx : x ∈ hld (wt ds[i]) ls K
  · rw [if_pos hx, List.filter_cons_of_pos (by simpa using hx)]; rfl
  · rw [if_neg hx, List.filter_cons_of_neg (by simpa using hx)]; rfl
/-- While one digest is reckoned in. -/
def mixL (A B : List Int) (j : Nat) : List Int := B.take j ++ A.drop j
theorem mixL_zero (A B : List Int) : mixL A B 0 = A := by simp [mixL]
theorem mixL_end (A B : List Int) (h : A.length = B.length) : mixL A B B.length = B := by simp [mixL, h]
theorem mixL_len (A B : List Int) (j : Nat) (h : A.length = B.length) (hj : j ≤ A.length) : (mixL A B j).length = A.length := by simp [mixL]; omega
theorem mixL_get (A B : List Int) (j : Nat) (h : A.length = B.length) (hj : j < A.length) : (mixL A B j)[j]? = some A[j] := by
  unfold mixL
  rw [List.getElem?_append_right (by rw [List.length_take]; omega), List.length_take, Nat.min_eq_left (by omega), Nat.sub_self, List.drop_eq_getElem_cons hj]
  rfl
theorem mixL_set (A B : List Int) (j : Nat) (h : A.length = B.length) (hj : j < A.length) (y : Int) (hy : B[j]'(by omega) = y) : (mixL A B j).set j y = mixL A B (j + 1) := by
  unfold mixL
  have h1 : (B.take j).length = j := by rw [List.length_take]; omega
  rw [List.set_append_right _ _ (by omega), h1, Nat.sub_self, List.drop_eq_getElem_cons hj, List.set_cons_zero, List.take_succ_eq_append_getElem (by omega), hy, List.append_assoc]
  rfl
theorem mixL_same (A B : List Int) (j : Nat) (h : A.length = B.length) (hj : j < A.length) (hy : B[j]'(by omega) = A[j]) : mixL A B j = mixL A B (j + 1) := by
  unfold mixL
  rw [List.drop_eq_getElem_cons hj, List.take_succ_eq_append_getElem (by omega : j < B.length), hy, List.append_assoc]
  rfl
theorem ldsL_step (ls : List Int) (K : Nat) (ds : List ByteArray) (i : Nat) (h : i < ds.length) (j : Nat) (hj : j < ls.length) :
    (ldsL ls K (ds.take (i + 1)))[j]'(by rw [ldsL_len]; exact hj) = (ldsL ls K (ds.take i))[j]'(by rw [ldsL_len]; exact hj) + (if ls[j] ∈ hld (wt ds[i]) ls K then 1 else 0) := by
  unfold ldsL
  rw [List.getElem_map, List.getElem_map, cntL_take ls K ds i h]
  split <;> simp
theorem ldsL_bound (ls : List Int) (K : Nat) (ds : List ByteArray) (z : Int) (h : z ∈ ldsL ls K ds) : 0 ≤ z ∧ z ≤ ds.length := by
  unfold ldsL at h
  obtain ⟨x, _, rfl⟩ := List.mem_map.1 h
  have := cntL_le ls K ds x
  omega
theorem rep_map : ∀ l : List Int, List.replicate l.length (0 : Int) = l.map fun _ => 0
  | [] => rfl
  | x :: l => by rw [List.length_cons, List.replicate_succ, rep_map l, List.map_cons]
def ldB (ds : List ByteArray) (ls : List Int) (k : Int) : Bool := setB ds && rosB ls k
def ldL (ds : List ByteArray) (ls : List Int) (k : Int) : List Int := if ldB ds ls k then ldsL ls k.toNat ds else []
theorem ldL_yes {ds : List ByteArray} {ls : List Int} {k : Int} (h : ldB ds ls k = true) : ldL ds ls k = ldsL ls k.toNat ds := if_pos h
theorem ldL_no {ds : List ByteArray} {ls : List Int} {k : Int} (h : ldB ds ls k = false) : ldL ds ls k = [] := by unfold ldL; rw [h]; rfl
theorem ldL_len (ds : List ByteArray) (ls : List Int) (k : Int) : (ldL ds ls k).length ≤ ls.length := by
  unfold ldL
  split
  · rw [ldsL_len]; exact Nat.le_refl _
  · simp
theorem okS_all : ∀ (l : List ByteArray) (p : Option ByteArray), okS p l = true → ∀ s ∈ l, digB s = true := by
  intro l p h
  rw [okS_split, Bool.and_eq_true] at h
  exact List.all_eq_true.1 h.2
theorem setB_all {l : List ByteArray} (h : setB l = true) : l.length ≤ 200 ∧ ∀ s ∈ l, digB s = true := by
  unfold setB at h
  rw [Bool.and_eq_true, decide_eq_true_iff] at h
  exact ⟨h.1, okS_all l none h.2⟩
theorem ownCell {W : World} {B g n c : Nat} {xs : List Int} (h : OwnR i64E W B (.slice (some ⟨g, 0, none⟩) n c) xs) (k : Nat) {z : Int} (hv : xs[k]? = some z) : W.cell? ⟨g, k, none⟩ = some (.int .i64 z) ∧ W.frozen? ⟨g, k, none⟩ = false := by
  obtain ⟨hk, rfl⟩ := List.getElem?_eq_some_iff.1 hv
  obtain ⟨g', e, _, h1, h2⟩ := h.at.ix k hk
  cases e
  exact ⟨h1, h2⟩
theorem ownSet1 {W : World} {B g n c : Nat} {xs : List Int} (h : OwnR i64E W B (.slice (some ⟨g, 0, none⟩) n c) xs) (hn : xs.length = n) (k : Nat) (hk : k < xs.length) (y : Int) : OwnR i64E (W.setCell ⟨g, k, none⟩ (.int .i64 y)) B (.slice (some ⟨g, 0, none⟩) n c) (xs.set k y) := by
  have := OwnR.setJ (e := i64E) h hn k hk 0 (by decide) (.int .i64 y) y rfl
  rwa [show k * i64E.n + 0 = k from by show k * 1 + 0 = k; omega] at this
theorem rowSetOff {W : World} {a : Option Addr} {xs : List Int} {b i : Nat} {u : Value} (h : RowAt i64E W a xs) (hne : ∀ g, a = some ⟨g, 0, none⟩ → g ≠ b) : RowAt i64E (W.setCell ⟨b, i, none⟩ u) a xs := fun j hj => by
  obtain ⟨g, e, l, hc⟩ := h j hj
  refine ⟨g, e, by simpa using l, fun m hm => ⟨?_, by rw [World.frozen?_setCell]; exact (hc m hm).2⟩⟩
  rw [World.cell?_setCell_other _ _ _ _ (fun q => hne g e (by have := congrArg Addr.block q; simpa using this.symm))]
  exact (hc m hm).1
end Plain

set_option maxRecDepth 10000 in
set_option maxHeartbeats 4000000 in
theorem spec_Loads (ad : Option Addr) (nd cd : Nat) (ds : List ByteArray) (a : Option Addr) (n c : Nat) (ls : List Int) (k : Int) (w : World) (hs : TxtsAt w ad nd ds) (h : IntsAt w a n ls) :
    Calls Tryz.prog 6 #[.slice ad nd cd, .slice a n c, .int .i64 k] w fun e w' => ∃ v, e = .returned (.tuple #[v, .bool (ldB ds ls k)]) ∧ OwnR i64E w' w.heap.size v (ldL ds ls k) ∧ Below w.heap.size w w' := by
  obtain ⟨W0, hW0⟩ : ∃ W0, W0 = w.alloc (.cells #[] 2) := ⟨_, rfl⟩
  have HB0 := hide (show Below w.heap.size w W0 from by rw [hW0]; exact bel1D _ _)
  have HO0 := hide (show OwnR i64E W0 w.heap.size (.slice (some ⟨w.heap.size, 0, none⟩) 0 0) [] from by rw [hW0]; exact ownR_empty i64E w w.heap.size (Nat.le_refl _))
  have HD := hide (l7Set_calls ad nd cd ds W0 (hs.below (unhide HB0)))
  have HI := hide (fun (W : World) (hW : Below w.heap.size w W) => l9Ids_calls a n c ls 50 W (h.below hW) (by decide))
  rw [ids50 n ls h.len] at HI
  have HN := hide (fun W => l1In_calls k 1 7 W)
  rw [show (decide (1 ≤ k) && decide (k ≤ 7)) = kB k from rfl] at HN
  have HW0 := hide hW0.symm
  clear hW0
  cases h1 : setB ds with
  | false =>
    have hb : ldB ds ls k = false := by unfold ldB; rw [h1]; rfl
    rw [hb, ldL_no hb]
    rw [h1] at HD
    clear h hs hb h1
    go_enter Tryz.func6, Tryz.ntmps6
    go_wp2_with fail
    rw [unhide HW0]
    refine (unhide HD).mono ?_
    rintro e w1 ⟨rfl, hb1⟩
    have HB1 := hide (belOnD (unhide HB0) hb1)
    have HO1 := hide ((unhide HO0).keep hb1)
    clear hb1
    go_wp2_with fail
    exact bodyPost_ret (v := .tuple #[_, .bool false]) (by simp [results, Tryz.results6, go_sem]) rfl ⟨_, rfl, unhide HO1, unhide HB1⟩
  | true =>
    rw [h1] at HD
    cases h2 : okIds 0 ls with
    | false =>
      have hb : ldB ds ls k = false := by unfold ldB rosB; rw [h2, Bool.false_and, Bool.and_false]
      rw [hb, ldL_no hb]
      rw [h2] at HI
      clear h hs hb h1 h2
      go_enter Tryz.func6, Tryz.ntmps6
      go_wp2_with fail
      rw [unhide HW0]
      refine (unhide HD).mono ?_
      rintro e w1 ⟨rfl, hb1⟩
      have HB1 := hide (belOnD (unhide HB0) hb1)
      have HO1 := hide ((unhide HO0).keep hb1)
      clear hb1
      go_wp2_with fail
      refine (unhide HI _ (unhide HB1)).mono ?_
      rintro e w2 ⟨rfl, hb2⟩
      have HB2 := hide (belOnD (unhide HB1) hb2)
      have HO2 := hide ((unhide HO1).keep hb2)
      clear hb2
      go_wp2_with fail
      exact bodyPost_ret (v := .tuple #[_, .bool false]) (by simp [results, Tryz.results6, go_sem]) rfl ⟨_, rfl, unhide HO2, unhide HB2⟩
    | true =>
      rw [h2] at HI
      cases h3 : kB k with
      | false =>
        have hb : ldB ds ls k = false := by unfold ldB rosB; rw [h3, Bool.and_false, Bool.and_false]
        rw [hb, ldL_no hb]
        rw [h3] at HN
        clear h hs hb h1 h2 h3
        go_enter Tryz.func6, Tryz.ntmps6
        go_wp2_with fail
        rw [unhide HW0]
        refine (unhide HD).mono ?_
        rintro e w1 ⟨rfl, hb1⟩
        have HB1 := hide (belOnD (unhide HB0) hb1)
        have HO1 := hide ((unhide HO0).keep hb1)
        clear hb1
        go_wp2_with fail
        refine (unhide HI _ (unhide HB1)).mono ?_
        rintro e w2 ⟨rfl, hb2⟩
        have HB2 := hide (belOnD (unhide HB1) hb2)
        have HO2 := hide ((unhide HO1).keep hb2)
        clear hb2
        go_wp2_with fail
        refine (unhide HN _).mono ?_
        rintro e w9 ⟨rfl, rfl⟩
        go_wp2_with fail
        exact bodyPost_ret (v := .tuple #[_, .bool false]) (by simp [results, Tryz.results6, go_sem]) rfl ⟨_, rfl, unhide HO2, unhide HB2⟩
      | true =>
        have hb : ldB ds ls k = true := by unfold ldB rosB; rw [h1, h2, h3]; rfl
        rw [hb, ldL_yes hb]
        rw [h3] at HN
        have hk := (kB_iff k).1 h3
        obtain ⟨K, rfl⟩ := Int.eq_ofNat_of_zero_le (show 0 ≤ k by omega)
        rw [Int.toNat_natCast]
        have hall := setB_all h1
        have HH := hide (fun (W : World) (hW : Below w.heap.size w W) (d : ByteArray) (hd : d ∈ ds) => l13Holders_calls d a n c ls K W (h.below hW) h2 (digB_len71 (hall.2 d hd)) (by omega) (by omega))
        have HDS := hide (fun (W : World) (hW : Below w.heap.size w W) => hs.below hW)
        have HLS := hide (fun (W : World) (hW : Below w.heap.size w W) => h.below hW)
        have hnb := h.bn
        have hdb := hs.len
        have HLN := hide h.len
        have HDN := hide hs.len
        have hd200 := hall.1
        rw [hs.len] at hd200
        clear h hs hb h1 h2 h3 hk hall hdb
        go_enter Tryz.func6, Tryz.ntmps6
        go_wp2_with fail
        rw [unhide HW0]
        refine (unhide HD).mono ?_
        rintro e w1 ⟨rfl, hb1⟩
        have HB1 := hide (belOnD (unhide HB0) hb1)
        have HO1 := hide ((unhide HO0).keep hb1)
        clear hb1
        go_wp2_with fail
        refine (unhide HI _ (unhide HB1)).mono ?_
        rintro e w2 ⟨rfl, hb2⟩
        have HB2 := hide (belOnD (unhide HB1) hb2)
        have HO2 := hide ((unhide HO1).keep hb2)
        clear hb2
        go_wp2_with fail
        refine (unhide HN _).mono ?_
        rintro e w9 ⟨rfl, rfl⟩
        go_wp2_with fail
        clear HB0 HO0 HB1 HO1 HD HI HN HW0
        go_loopw [8, 9] (fun s8 s9 wr => ∃ (i : Nat), s9 = .int .i64 i ∧ i ≤ n ∧ w.heap.size ≤ wr.heap.size ∧ Hid (OwnR i64E wr w.heap.size s8 (List.replicate i 0)) ∧ Hid (Below w.heap.size w wr)) (fun _ s9 _ => n - (intOf s9).toNat)
        case atStart => exact ⟨0, rfl, by omega, (unhide HB2).size, HO2, HB2⟩
        case round =>
          clear HO2 HB2
          obtain ⟨i, rfl, hi, hz, HO, HB⟩ := hrel
          obtain ⟨a8, c8, hv8⟩ := (unhide HO).form
          rw [List.length_replicate] at hv8
          subst hv8
          by_cases hin : i < n
          · have HRP := hide (show List.replicate i (0 : Int) ++ [0] = List.replicate (i + 1) 0 from List.replicate_succ'.symm)
            have hlen : (List.replicate i (0 : Int)).length < 100000000 := by rw [List.length_replicate]; omega
            have i1 : (i : Int) < (n : Int) := by omega
            go_wp2_with (at_builtin; go_must (refine appR (e := i64E) rfl _ _ rfl (unhide HO) rfl (0 : Int) rfl _ rfl rfl hlen hz ?_); intro v' w6 hown6 hb6 hg6; rw [unhide HRP] at hown6; obtain ⟨a3, c3, hv'⟩ := hown6.form; rw [List.length_replicate] at hv'; subst hv')
            go_roundw
            case rel => exact ⟨i + 1, by go_num, by omega, by have := hb6.size; omega, hide hown6, hide ((unhide HB).trans hb6)⟩
            case measure => simp [intOf]; omega
          · obtain rfl : i = n := by omega
            have HZ := hide (show List.replicate i (0 : Int) = ldsL ls K (ds.take 0) from by
              rw [List.take_zero]
              unfold ldsL cntL
              rw [← unhide HLN]
              simpa using rep_map ls)
            rw [unhide HZ] at HO
            go_wp2_with fail
            go_loopw [10] (fun s10 wq => ∃ (m : Nat), s10 = .int .i64 m ∧ m ≤ nd ∧ w.heap.size ≤ wq.heap.size ∧ Hid (OwnR i64E wq w.heap.size (.slice a8 i c8) (ldsL ls K (ds.take m))) ∧ Hid (Below w.heap.size w wq)) (fun s10 _ => nd - (intOf s10).toNat)
            case atStart => exact ⟨0, rfl, by omega, hz, HO, HB⟩
            case round =>
              clear HO HB hz HZ
              obtain ⟨m, rfl, hm, hz, HO, HB⟩ := hrel
              by_cases hmn : m < nd
              · have hml : m < ds.length := by rw [unhide HDN]; exact hmn
                obtain ⟨gd, e1, l1, p0, -⟩ := (unhide HDS wr (unhide HB)).row.str m hml
                have HHD := hide (unhide HH wr (unhide HB) ds[m] (by simp))
                have HST := hide (fun (j : Nat) (hj : j < ls.length) (hA : j < (ldsL ls K (ds.take m)).length) (hB : j < (ldsL ls K (ds.take (m + 1))).length) => (show (ldsL ls K (ds.take (m + 1)))[j] = (ldsL ls K (ds.take m))[j] + (if ls[j] ∈ hld (wt ds[m]) ls K then 1 else 0) from ldsL_step ls K ds m hml j hj))
                have hAl : (ldsL ls K (ds.take m)).length = i := by rw [ldsL_len]; exact unhide HLN
                have hBl : (ldsL ls K (ds.take (m + 1))).length = i := by rw [ldsL_len]; exact unhide HLN
                have HAB := hide (fun (z : Int) (hz : z ∈ ldsL ls K (ds.take m)) => (show 0 ≤ z ∧ z ≤ 200 from by
                  have h1 := ldsL_bound ls K (ds.take m) z hz
                  rw [List.length_take] at h1
                  have := unhide HDN
                  omega))
                have hHl : (hld (wt ds[m]) ls K).length ≤ i := Nat.le_trans (List.length_filter_le _ _) (by rw [unhide HLN]; exact Nat.le_refl _)
                generalize ds[m] = d at p0 HHD HST hHl
                generalize hld (wt d) ls K = H at HHD HST hHl
                generalize ldsL ls K (ds.take m) = A at HO HST hAl HAB
                generalize hBB : ldsL ls K (ds.take (m + 1)) = B at HST hBl
                have HBB := hide hBB
                have HAL := hide hAl
                have HBL := hide hBl
                subst e1
                have i0 : (0 : Int) ≤ (m : Int) := by omega
                have i1 : (m : Int) < (nd : Int) := by omega
                clear hBB hAl hBl
                go_wp2_with fail
                refine (unhide HHD).mono ?_
                rintro e w3 ⟨vH, rfl, oH, hb3⟩
                obtain ⟨aH, cH, hvH⟩ := oH.form
                obtain ⟨nH, hnH⟩ : ∃ nH, H.length = nH := ⟨_, rfl⟩
                rw [hnH] at hvH hHl
                subst hvH
                have HHL := hide hnH
                have HBH := hide (fun g (hg : aH = some ⟨g, 0, none⟩) => (show wr.heap.size ≤ g from (World.ownsRow.lt oH g (by rw [hg]; rfl)).1))
                have HRH := hide oH.at
                have HO3 := hide ((unhide HO).keep hb3)
                have HB3 := hide ((unhide HB).trans (hb3.mono hz))
                have hz3 := hb3.size
                have HLO := hide (unhide HO).lt
                clear oH hb3 HHD hnH p0
                go_wp2_with fail
                go_loopw [12] (fun s12 wq => ∃ (j : Nat), s12 = .int .i64 j ∧ j ≤ i ∧ wr.heap.size ≤ wq.heap.size ∧ Hid (OwnR i64E wq w.heap.size (.slice a8 i c8) (mixL A B j)) ∧ Hid (RowAt i64E wq aH H) ∧ Hid (Below w.heap.size w wq)) (fun s12 _ => i - (intOf s12).toNat)
                case atStart => exact ⟨0, rfl, by omega, hz3, hide (by rw [mixL_zero]; exact unhide HO3), HRH, HB3⟩
                case round =>
                  clear HO HO3 HRH HB3 hz3
                  obtain ⟨j, rfl, hj, hzj, HOj, HRj, HBj⟩ := hrel
                  by_cases hjn : j < i
                  · have hjl : j < ls.length := by rw [unhide HLN]; exact hjn
                    have hjA : j < A.length := by rw [unhide HAL]; exact hjn
                    have hjB : j < B.length := by rw [unhide HBL]; exact hjn
                    have hAB : A.length = B.length := by rw [unhide HAL, unhide HBL]
                    obtain ⟨gn, e2, l2, pn, -⟩ := (unhide HLS wr (unhide HBj)).row.ix j hjl
                    have hst := unhide HST j hjl hjA hjB
                    have hml := mixL_len A B j hAB (Nat.le_of_lt hjA)
                    rw [unhide HAL] at hml
                    obtain ⟨g8, c8', e8⟩ := (unhide HOj).asome (by omega)
                    rw [hml] at e8
                    cases e8
                    obtain ⟨pc, pf⟩ := ownCell (unhide HOj) j (mixL_get A B j hAB hjA)
                    have hbd := unhide HAB A[j] (by simp)
                    have HSET := hide (fun (y : Int) (hy : B[j] = y) => (show OwnR i64E (wr.setCell ⟨g8, j, none⟩ (.int .i64 y)) w.heap.size (.slice (some ⟨g8, 0, none⟩) i c8) (mixL A B (j + 1)) from by
                      have := ownSet1 (unhide HOj) hml j (by omega) y
                      rwa [mixL_set A B j hAB hjA y hy] at this))
                    have HSAM := hide (fun (hy : B[j] = A[j]) => mixL_same A B j hAB hjA hy)
                    have hg8 := World.ownsRow.lt (unhide HOj) g8 rfl
                    have hg9 := unhide HLO g8 rfl
                    have HRS := hide (fun (y : Int) => rowSetOff (b := g8) (i := j) (u := .int .i64 y) (unhide HRj) (fun g hg => by have := unhide HBH g hg; omega))
                    have HBS := hide (fun (y : Int) => (unhide HBj).setCell (p := ⟨g8, j, none⟩) hg8.1 (.int .i64 y))
                    generalize ls[j] = x at pn hst
                    have HIN := hide (l1Ints_calls aH nH cH H x wr ⟨unhide HRj, unhide HHL, by omega⟩)
                    generalize A[j] = aj at pc hst HSAM hbd
                    generalize B[j] = bj at hst HSET HSAM
                    subst e2
                    have j0 : (0 : Int) ≤ (j : Int) := by omega
                    have j1 : (j : Int) < (i : Int) := by omega
                    have hwr : IntKind.i64.wrap (aj + 1) = aj + 1 := by rw [IntKind.wrap_i64]; omega
                    cases hx : decide (x ∈ H) with
                    | true =>
                      rw [hx] at HIN
                      rw [if_pos (by simpa using hx)] at hst
                      have HS2 := hide (unhide HSET (aj + 1) hst)
                      have HR2 := hide (unhide HRS (aj + 1))
                      have HB2 := hide (unhide HBS (aj + 1))
                      clear hx hst HSET HSAM HRS HBS HOj
                      go_wp2_with fail
                      refine (unhide HIN).mono ?_
                      rintro e w9 ⟨rfl, rfl⟩
                      go_wp2_with fail
                      go_roundw
                      case rel => exact ⟨j + 1, by go_num, by omega, by simpa using hzj, HS2, HR2, HB2⟩
                      case measure => simp [intOf]; omega
                    | false =>
                      rw [hx] at HIN
                      rw [if_neg (by simpa using hx), Int.add_zero] at hst
                      have HS2 := hide (unhide HSAM hst)
                      clear hx hst HSET HSAM HRS HBS
                      go_wp2_with fail
                      refine (unhide HIN).mono ?_
                      rintro e w9 ⟨rfl, rfl⟩
                      go_wp2_with fail
                      go_roundw
                      case rel => exact ⟨j + 1, by go_num, by omega, hzj, hide (by rw [← unhide HS2]; exact unhide HOj), HRj, HBj⟩
                      case measure => simp [intOf]; omega
                  · obtain rfl : j = i := by omega
                    have HOE := hide (show OwnR i64E wr w.heap.size (.slice a8 j c8) (ldsL ls K (ds.take (m + 1))) from by
                      have h1 := mixL_end A B (by rw [unhide HAL, unhide HBL])
                      rw [unhide HBL] at h1
                      have h2 := unhide HOj
                      rw [h1] at h2
                      rw [unhide HBB]
                      exact h2)
                    clear HOj
                    go_wp2_with fail
                    go_roundw
                    case rel => exact ⟨m + 1, by go_num, by omega, by omega, HOE, HBj⟩
                    case measure => simp [intOf]; omega
              · obtain rfl : m = nd := by omega
                rw [List.take_of_length_le (by rw [unhide HDN]; exact Nat.le_refl _)] at HO
                go_wp2_with fail
                exact bodyPost_ret (v := .tuple #[.slice a8 i c8, .bool true]) (by simp [results, Tryz.results6, go_sem]) rfl ⟨_, rfl, unhide HO, unhide HB⟩
end Go.Proofs.YtndodeobppnfiaaGreatDoor


/- The loads of nodes, by the program. -/
namespace Go.Proofs.YtndodeobppnfiaaGreatDoor
open Go.RowKit Plain
set_option linter.unusedVariables false

theorem has_calls (l : List Int) (x : Int) (w : World) (h1 : 1 ≤ x) (h2 : x ≤ 50) :
    Calls Tryz.prog 21 #[.int .u64 (setN l : Nat), .int .i64 x] w fun e w' => e = .returned (.bool (decide (x ∈ l))) ∧ w = w' := by
  obtain ⟨X, rfl⟩ := Int.eq_ofNat_of_zero_le (show 0 ≤ x by omega)
  have hlt := setN_lt l
  have hpl : 2 ^ X ≤ 1125899906842624 := Nat.pow_le_pow_right (show 0 < 2 by decide) (show X ≤ 50 by omega)
  have HON := hide (fun W => only_calls X W (by omega))
  have hand : bits .and .u64 ((setN l : Nat) : Int) ((2 ^ X : Nat) : Int) = ((setN l &&& 2 ^ X : Nat) : Int) := u64_and_nat _ _ (by omega) (by omega)
  have hbit := setN_bit l X
  have hx1 : 1 ≤ X := by omega
  have hx2 : X ≤ 50 := by omega
  rw [decide_eq_true hx1, decide_eq_true hx2, Bool.true_and, Bool.true_and] at hbit
  have hpos : 0 < 2 ^ X := Nat.pow_pos (by decide)
  have hres : ((((setN l &&& 2 ^ X : Nat) : Int)) != 0) = decide ((X : Int) ∈ l) := by
    rw [← hbit]
    cases hb : (setN l).testBit X with
    | false =>
      have : setN l &&& 2 ^ X = 0 := by
        apply Nat.eq_of_testBit_eq
        intro i
        rw [Nat.testBit_and, Nat.testBit_two_pow, Nat.zero_testBit]
        by_cases hi : X = i
        · subst hi; rw [hb]; rfl
        · simp [hi]
      rw [this]
      rfl
    | true =>
      have : (setN l &&& 2 ^ X).testBit X = true := by rw [Nat.testBit_and, Nat.testBit_two_pow, hb]; simp
      have hne : setN l &&& 2 ^ X ≠ 0 := fun e => by rw [e, Nat.zero_testBit] at this; cases this
      rw [bne_iff_ne]
      omega
  generalize setN l = S at hand hres
  generalize decide ((X : Int) ∈ l) = R at hres
  generalize hA : S &&& 2 ^ X = A at hand hres
  generalize 2 ^ X = P at HON hand
  clear hlt hpl hbit hpos hA
  go_enter Tryz.func21, Tryz.ntmps21
  go_wp2_with fail
  refine (unhide HON _).mono ?_
  rintro e w1 ⟨rfl, rfl⟩
  go_wp2_with fail
  go_ret
  exact ⟨rfl, rfl⟩

set_option maxRecDepth 10000 in
set_option maxHeartbeats 4000000 in
theorem impl_Loads (ad : Option Addr) (nd cd : Nat) (ds : List ByteArray) (a : Option Addr) (n c : Nat) (ls : List Int) (k : Int) (w : World) (hs : TxtsAt w ad nd ds) (h : IntsAt w a n ls) (hK : KAt w) :
    Calls Tryz.prog 7 #[.slice ad nd cd, .slice a n c, .int .i64 k] w fun e w' => ∃ v, e = .returned (.tuple #[v, .bool (ldB ds ls k)]) ∧ OwnR i64E w' w.heap.size v (ldL ds ls k) ∧ Below w.heap.size w w' := by
  have h0 : 0 < w.heap.size := lt_of_cell (hK 0 (by omega))
  have HD := hide (readSet_calls ad nd cd ds w hs)
  have HI := hide (fun (W : World) (hW : Below w.heap.size w W) => rosterOf_calls a n c ls k W (h.below hW))
  cases h1 : setB ds with
  | false =>
    have hb : ldB ds ls k = false := by unfold ldB; rw [h1]; rfl
    rw [hb, ldL_no hb]
    rw [h1] at HD
    clear h hs hb h1 hK
    generalize rosB ls k = rb at HI
    go_enter Tryz.func7, Tryz.ntmps7
    go_wp2_with fail
    refine (unhide HD).mono ?_
    rintro e w1 ⟨mv, rfl, hb1⟩
    have HB1 := hide hb1
    clear hb1
    go_wp2_with fail
    refine (unhide HI _ (unhide HB1)).mono ?_
    rintro e w2 ⟨rfl, hb2⟩
    have HB2 := hide (belOnD (belOnD (unhide HB1) hb2) (bel1D w2 (.cells #[.slice a n c, .int .i64 k] 46)))
    clear hb2
    go_wp2_with fail
    exact bodyPost_ret (v := .tuple #[_, .bool false]) (by simp [results, Tryz.results7, go_sem]) rfl ⟨_, rfl, ownR_nil _ _ _, unhide HB2⟩
  | true =>
    rw [h1] at HD
    cases h2 : rosB ls k with
    | false =>
      have hb : ldB ds ls k = false := by unfold ldB; rw [h2, Bool.and_false]
      rw [hb, ldL_no hb]
      rw [h2] at HI
      clear h hs hb h1 h2 hK
      go_enter Tryz.func7, Tryz.ntmps7
      go_wp2_with fail
      refine (unhide HD).mono ?_
      rintro e w1 ⟨mv, rfl, hb1⟩
      have HB1 := hide hb1
      clear hb1
      go_wp2_with fail
      refine (unhide HI _ (unhide HB1)).mono ?_
      rintro e w2 ⟨rfl, hb2⟩
      have HB2 := hide (belOnD (belOnD (unhide HB1) hb2) (bel1D w2 (.cells #[.slice a n c, .int .i64 k] 46)))
      clear hb2
      go_wp2_with fail
      exact bodyPost_ret (v := .tuple #[_, .bool false]) (by simp [results, Tryz.results7, go_sem]) rfl ⟨_, rfl, ownR_nil _ _ _, unhide HB2⟩
    | true =>
      have hb : ldB ds ls k = true := by unfold ldB; rw [h1, h2]; rfl
      rw [hb, ldL_yes hb]
      rw [h2] at HI
      have h3 : okIds 0 ls = true ∧ kB k = true := by unfold rosB at h2; rwa [Bool.and_eq_true] at h2
      have hk := (kB_iff k).1 h3.2
      obtain ⟨K, rfl⟩ := Int.eq_ofNat_of_zero_le (show 0 ≤ k by omega)
      rw [Int.toNat_natCast]
      have hall := setB_all h1
      have HSE := hide (fun (W : World) (hW : Below w.heap.size w W) (d : ByteArray) (hd : d ∈ ds) => (show Calls Tryz.prog 20 #[.agg #[.slice a n c, .int .i64 K], .string d] W fun e w' => ∃ v, e = .returned (.agg #[v, .int .u64 (setN (hld (wt d) ls K) : Nat)]) ∧ Below W.heap.size W w' from by
        refine (seatingOf_calls a n c ls K d W (h.below hW) h3.1 (digB_len71 (hall.2 d hd)) (hK.below hW h0) (by omega) (by omega)).mono ?_
        rintro e w' ⟨v, rfl, -, hb⟩
        exact ⟨v, by rw [hld_set], hb⟩))
      have HDS := hide (fun (W : World) (hW : Below w.heap.size w W) => hs.below hW)
      have HLS := hide (fun (W : World) (hW : Below w.heap.size w W) => h.below hW)
      have HRG := hide (okIds_facts ls 0 (by decide) h3.1).2
      have hnb := h.bn
      have HLN := hide h.len
      have HDN := hide hs.len
      have hd200 := hall.1
      rw [hs.len] at hd200
      clear h hs hb h1 h2 h3 hk hall hK
      go_enter Tryz.func7, Tryz.ntmps7
      go_wp2_with fail
      refine (unhide HD).mono ?_
      rintro e w1 ⟨mv, rfl, hb1⟩
      have HB1 := hide hb1
      clear hb1
      go_wp2_with fail
      refine (unhide HI _ (unhide HB1)).mono ?_
      rintro e w2 ⟨rfl, hb2⟩
      obtain ⟨W3, hW3⟩ : ∃ W3, W3 = w2.alloc (.cells #[.slice a n c, .int .i64 K] 46) := ⟨_, rfl⟩
      have HB3 := hide (show Below w.heap.size w W3 from by rw [hW3]; exact belOnD (belOnD (unhide HB1) hb2) (bel1D _ _))
      have hl3 : w2.heap.size < W3.heap.size := by rw [hW3]; simp
      have q0 : W3.cell? ⟨w2.heap.size, 0, none⟩ = some (.slice a n c) := by rw [hW3]; simp [go_sem]
      have q1 : W3.cell? ⟨w2.heap.size, 1, none⟩ = some (.int .i64 K) := by rw [hW3]; simp [go_sem]
      have HQ := hide (fun (W : World) (hW : Below W3.heap.size W3 W) => And.intro (bclW hW hl3 q0) (bclW hW hl3 q1))
      have hmk : (Instr.makeSlice 25 (.int .i64 n) (.int .i64 n)).run Tryz.prog W3 = _ := make_row i64E n W3 (by omega)
      have HO0 := hide (own_made i64E 0 rfl n W3 (by omega))
      have HB4 := hide (bel1D W3 (.cells (madeCells i64E.zero.cells (n * i64E.n)) i64E.E))
      obtain ⟨W4, hW4⟩ : ∃ W4, W4 = W3.alloc (.cells (madeCells i64E.zero.cells (n * i64E.n)) i64E.E) := ⟨_, rfl⟩
      rw [← hW4] at hmk HO0 HB4
      have hmk1 : (Instr.makeSlice 25 (.int .i64 n) (.int .i64 n)).run Tryz.prog (w2.alloc (.cells #[.slice a n c, .int .i64 K] 46)) = .ok (.slice (some ⟨W3.heap.size, 0, none⟩) n n) W4 := by rw [← hW3]; exact hmk
      clear hmk
      have HW3 := hide hW3.symm
      have hz3 := (unhide HB3).size
      clear hb2 q0 q1 hW3 hW4 HB1 HD HI
      go_wp2_with fail
      clear hmk1 HW3
      have HZ := hide (show List.replicate n (0 : Int) = ldsL ls K (ds.take 0) from by
        rw [List.take_zero]
        unfold ldsL cntL
        rw [← unhide HLN]
        simpa using rep_map ls)
      rw [unhide HZ] at HO0
      go_loopw [40] (fun s40 wq => ∃ (m : Nat), s40 = .int .i64 m ∧ m ≤ nd ∧ W3.heap.size < wq.heap.size ∧ Hid (OwnR i64E wq W3.heap.size (.slice (some ⟨W3.heap.size, 0, none⟩) n n) (ldsL ls K (ds.take m))) ∧ Hid (Below W3.heap.size W3 wq)) (fun s40 _ => nd - (intOf s40).toNat)
      case atStart => exact ⟨0, rfl, by omega, (unhide HO0).lt _ rfl, HO0, HB4⟩
      case round =>
        clear HO0 HB4 HZ
        obtain ⟨m, rfl, hm, hz, HO, HB⟩ := hrel
        have HBW := hide (belOnD (unhide HB3) (unhide HB))
        by_cases hmn : m < nd
        · have hml : m < ds.length := by rw [unhide HDN]; exact hmn
          obtain ⟨gd, e1, l1, p0, -⟩ := (unhide HDS wr (unhide HBW)).row.str m hml
          obtain ⟨q0, q1⟩ := unhide HQ wr (unhide HB)
          have HHD := hide (unhide HSE wr (unhide HBW) ds[m] (by simp))
          have HST := hide (fun (j : Nat) (hj : j < ls.length) (hA : j < (ldsL ls K (ds.take m)).length) (hB : j < (ldsL ls K (ds.take (m + 1))).length) => (show (ldsL ls K (ds.take (m + 1)))[j] = (ldsL ls K (ds.take m))[j] + (if ls[j] ∈ hld (wt ds[m]) ls K then 1 else 0) from ldsL_step ls K ds m hml j hj))
          have hAl : (ldsL ls K (ds.take m)).length = n := by rw [ldsL_len]; exact unhide HLN
          have hBl : (ldsL ls K (ds.take (m + 1))).length = n := by rw [ldsL_len]; exact unhide HLN
          have HAB := hide (fun (z : Int) (hz : z ∈ ldsL ls K (ds.take m)) => (show 0 ≤ z ∧ z ≤ 200 from by
            have h1 := ldsL_bound ls K (ds.take m) z hz
            rw [List.length_take] at h1
            have := unhide HDN
            omega))
          generalize ds[m] = d at p0 HHD HST
          generalize hld (wt d) ls K = H at HHD HST
          generalize ldsL ls K (ds.take m) = A at HO HST hAl HAB
          generalize hBB : ldsL ls K (ds.take (m + 1)) = B at HST hBl
          have HBB := hide hBB
          have HAL := hide hAl
          have HBL := hide hBl
          subst e1
          have i0 : (0 : Int) ≤ (m : Int) := by omega
          have i1 : (m : Int) < (nd : Int) := by omega
          clear hBB hAl hBl
          go_wp2_with fail
          refine (unhide HHD).mono ?_
          rintro e w3 ⟨v, rfl, hb3⟩
          have HO3 := hide ((unhide HO).keep hb3)
          have HB3' := hide ((unhide HB).trans (hb3.mono (Nat.le_of_lt hz)))
          have hz3' : W3.heap.size < w3.heap.size := Nat.lt_of_lt_of_le hz hb3.size
          have hfd := field_seat v (setN H)
          clear hb3 HHD p0 HO HB HBW q0 q1
          go_wp2_with fail
          clear hfd
          go_loopw [50] (fun s50 wq => ∃ (j : Nat), s50 = .int .i64 j ∧ j ≤ n ∧ W3.heap.size < wq.heap.size ∧ Hid (OwnR i64E wq W3.heap.size (.slice (some ⟨W3.heap.size, 0, none⟩) n n) (mixL A B j)) ∧ Hid (Below W3.heap.size W3 wq)) (fun s50 _ => n - (intOf s50).toNat)
          case atStart => exact ⟨0, rfl, by omega, hz3', hide (by rw [mixL_zero]; exact unhide HO3), HB3'⟩
          case round =>
            clear HO3 HB3' hz3' hz
            obtain ⟨j, rfl, hj, hzj, HOj, HBj⟩ := hrel
            by_cases hjn : j < n
            · have hjl : j < ls.length := by rw [unhide HLN]; exact hjn
              have hjA : j < A.length := by rw [unhide HAL]; exact hjn
              have hjB : j < B.length := by rw [unhide HBL]; exact hjn
              have hAB : A.length = B.length := by rw [unhide HAL, unhide HBL]
              obtain ⟨gn, e2, l2, pn, -⟩ := (unhide HLS wr (belOnD (unhide HB3) (unhide HBj))).row.ix j hjl
              have hst := unhide HST j hjl hjA hjB
              have hml := mixL_len A B j hAB (Nat.le_of_lt hjA)
              rw [unhide HAL] at hml
              obtain ⟨pc, pf⟩ := ownCell (unhide HOj) j (mixL_get A B j hAB hjA)
              have hbd := unhide HAB A[j] (by simp)
              have hrg := unhide HRG ls[j] (by simp)
              have HSET := hide (fun (y : Int) (hy : B[j] = y) => (show OwnR i64E (wr.setCell ⟨W3.heap.size, j, none⟩ (.int .i64 y)) W3.heap.size (.slice (some ⟨W3.heap.size, 0, none⟩) n n) (mixL A B (j + 1)) from by
                have := ownSet1 (unhide HOj) hml j (by omega) y
                rwa [mixL_set A B j hAB hjA y hy] at this))
              have HSAM := hide (fun (hy : B[j] = A[j]) => mixL_same A B j hAB hjA hy)
              have HBS := hide (fun (y : Int) => (unhide HBj).setCell (p := ⟨W3.heap.size, j, none⟩) (Nat.le_refl _) (.int .i64 y))
              generalize ls[j] = x at pn hst hrg
              have HIN := hide (has_calls H x wr (by omega) (by omega))
              generalize setN H = SH at HIN
              generalize A[j] = aj at pc hst HSAM hbd
              generalize B[j] = bj at hst HSET HSAM
              subst e2
              have j0 : (0 : Int) ≤ (j : Int) := by omega
              have j1 : (j : Int) < (n : Int) := by omega
              have hwr : IntKind.i64.wrap (aj + 1) = aj + 1 := by rw [IntKind.wrap_i64]; omega
              cases hx : decide (x ∈ H) with
              | true =>
                rw [hx] at HIN
                rw [if_pos (by simpa using hx)] at hst
                have HS2 := hide (unhide HSET (aj + 1) hst)
                have HB2 := hide (unhide HBS (aj + 1))
                clear hx hst HSET HSAM HBS HOj
                go_wp2_with fail
                refine (unhide HIN).mono ?_
                rintro e w9 ⟨rfl, rfl⟩
                go_wp2_with fail
                go_roundw
                case rel => exact ⟨j + 1, by go_num, by omega, by simpa using hzj, HS2, HB2⟩
                case measure => simp [intOf]; omega
              | false =>
                rw [hx] at HIN
                rw [if_neg (by simpa using hx), Int.add_zero] at hst
                have HS2 := hide (unhide HSAM hst)
                clear hx hst HSET HSAM HBS
                go_wp2_with fail
                refine (unhide HIN).mono ?_
                rintro e w9 ⟨rfl, rfl⟩
                go_wp2_with fail
                go_roundw
                case rel => exact ⟨j + 1, by go_num, by omega, hzj, hide (by rw [← unhide HS2]; exact unhide HOj), HBj⟩
                case measure => simp [intOf]; omega
            · obtain rfl : j = n := by omega
              have HOE := hide (show OwnR i64E wr W3.heap.size (.slice (some ⟨W3.heap.size, 0, none⟩) j j) (ldsL ls K (ds.take (m + 1))) from by
                have h1 := mixL_end A B (by rw [unhide HAL, unhide HBL])
                rw [unhide HBL] at h1
                have h2 := unhide HOj
                rw [h1] at h2
                rw [unhide HBB]
                exact h2)
              clear HOj
              go_wp2_with fail
              go_roundw
              case rel => exact ⟨m + 1, by go_num, by omega, hzj, HOE, HBj⟩
              case measure => simp [intOf]; omega
        · obtain rfl : m = nd := by omega
          rw [List.take_of_length_le (by rw [unhide HDN]; exact Nat.le_refl _)] at HO
          go_wp2_with fail
          exact bodyPost_ret (v := .tuple #[.slice (some ⟨W3.heap.size, 0, none⟩) n n, .bool true]) (by simp [results, Tryz.results7, go_sem]) rfl ⟨_, rfl, (unhide HO).le hz3, unhide HBW⟩
end Go.Proofs.YtndodeobppnfiaaGreatDoor


/- The loads of all nodes together are as many as the blobs have holders: plain mathematics. -/
namespace Go.Proofs.YtndodeobppnfiaaGreatDoor
open Go.RowKit Plain
set_option linter.unusedVariables false

namespace Plain
theorem filt_take_nodup (T : List Int) (h : T.Nodup) (K : Nat) : T.filter (fun x => decide (x ∈ T.take K)) = T.take K := by
  have e : T.take K ++ T.drop K = T := List.take_append_drop K T
  have hd : ∀ a ∈ T.take K, ∀ b ∈ T.drop K, a ≠ b := by
    rw [← e] at h
    exact (List.nodup_append.1 h).2.2
  have h1 : (T.take K).filter (fun x => decide (x ∈ T.take K)) = T.take K := List.filter_eq_self.2 fun a ha => decide_eq_true ha
  have h2 : (T.drop K).filter (fun x => decide (x ∈ T.take K)) = [] := List.filter_eq_nil_iff.2 fun a ha => by
    intro hc
    exact hd a (of_decide_eq_true hc) a ha rfl
  have h3 : T.filter (fun x => decide (x ∈ T.take K)) = (T.take K ++ T.drop K).filter (fun x => decide (x ∈ T.take K)) := by rw [e]
  rw [h3, List.filter_append, h1, h2, List.append_nil]
theorem hld_count (f : Int → Int) (l : List Int) (K : Nat) (h : okIds 0 l = true) : (hld f l K).length = min K l.length := by
  have hp := (rk_perm f l (okIds_lt l 0 h).1).filter fun x => decide (x ∈ (rk f l).take K)
  have h1 := hp.length_eq
  rw [filt_take_nodup _ (rk_nodup f l h), List.length_take, rk_len] at h1
  exact h1.symm
theorem filt_hld (f : Int → Int) (l : List Int) (K : Nat) : l.filter (fun x => decide (x ∈ hld f l K)) = hld f l K := by
  conv => rhs; unfold hld
  refine List.filter_congr fun x _ => ?_
  rw [Bool.eq_iff_iff, decide_eq_true_iff, decide_eq_true_iff, hld_mem]
theorem sum_ind (p : Int → Bool) (g : Int → Nat) : ∀ l : List Int, (l.map fun x => ((g x + (if p x = true then 1 else 0) : Nat) : Int)).sum = (l.map fun x => (g x : Int)).sum + ((l.filter p).length : Int)
  | [] => rfl
  | a :: l => by
    rw [List.map_cons, List.sum_cons, List.map_cons, List.sum_cons, sum_ind p g l, List.filter_cons]
    cases hp : p a <;> simp <;> omega
theorem sum_lds (ls : List Int) (K : Nat) (h : okIds 0 ls = true) : ∀ ds : List ByteArray, (ldsL ls K ds).sum = ((ds.length * min K ls.length : Nat) : Int)
  | [] => by
    have e : ldsL ls K [] = ls.map fun _ => (0 : Int) := rfl
    rw [e, List.length_nil, Nat.zero_mul]
    clear e h
    induction ls with
    | nil => rfl
    | cons a l ih => rw [List.map_cons, List.sum_cons, ih]; rfl
  | d :: ds => by
    have e : ldsL ls K (d :: ds) = ls.map fun x => ((cntL ls K ds x + (if decide (x ∈ hld (wt d) ls K) = true then 1 else 0) : Nat) : Int) := by
      unfold ldsL
      refine List.map_congr_left fun x _ => ?_
      unfold cntL
      rw [List.filter_cons]
      by_cases hx : x ∈ hld (wt d) ls K <;> simp [hx]
    have ih := sum_lds ls K h ds
    unfold ldsL at ih
    rw [e, sum_ind, ih, filt_hld, hld_count _ _ _ h, List.length_cons, Nat.add_mul, Nat.one_mul]
    omega
theorem sum_take (R : List Int) (j : Nat) (h : j < R.length) : (R.take (j + 1)).sum = (R.take j).sum + R[j] := by
  rw [List.take_succ_eq_append_getElem h, List.sum_append]
  simp
theorem sum_bnd (C : Nat) : ∀ R : List Int, (∀ x ∈ R, 0 ≤ x ∧ x ≤ (C : Int)) → 0 ≤ R.sum ∧ R.sum ≤ ((C * R.length : Nat) : Int)
  | [], _ => by simp
  | a :: R, h => by
    have h1 := sum_bnd C R fun x hx => h x (List.mem_cons_of_mem _ hx)
    have h2 := h a (by simp)
    rw [List.sum_cons, List.length_cons, Nat.mul_succ]
    omega
theorem lds_bnd (ls : List Int) (K : Nat) (ds : List ByteArray) : ∀ x ∈ ldsL ls K ds, 0 ≤ x ∧ x ≤ (ds.length : Int) := by
  intro x hx
  unfold ldsL at hx
  obtain ⟨y, _, rfl⟩ := List.mem_map.1 hx
  have := cntL_le ls K ds y
  omega
end Plain
end Go.Proofs.YtndodeobppnfiaaGreatDoor

