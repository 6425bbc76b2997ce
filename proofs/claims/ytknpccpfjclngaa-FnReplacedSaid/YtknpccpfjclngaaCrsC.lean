/- Which ops are kept: their places, by the program. -/
import Derived.Test.YtknpccpfjclngaaCrsB
import Derived.Test.YtknpccpfjclngaaGAE
import Derived.Test.YtknpccpfjclngaaGAF
namespace Go.Proofs.Ytknpccpfjclngaa
open Go.RowKit Go.Maps Plain
set_option linter.unusedVariables false

namespace Plain
/-- Places that rise and are below a number. -/
def PlAt (cnt : Int) (ls : List Int) (k : Nat) : Prop := (0 ≤ ls.getD k 0 ∧ ls.getD k 0 < cnt) ∧ (0 < k → ls.getD (k - 1) 0 < ls.getD k 0)
def PlOk (cnt : Int) (ls : List Int) : Prop := ∀ k, k < ls.length → PlAt cnt ls k
open Classical in
noncomputable def plB (cnt : Int) (ls : List Int) : Bool := decide (PlOk cnt ls)
open Classical in
theorem plB_no {cnt : Int} {ls : List Int} {k : Nat} (hk : k < ls.length) (h : ¬ PlAt cnt ls k) : plB cnt ls = false := by unfold plB; exact decide_eq_false fun q => h (q k hk)
open Classical in
theorem plB_yes {cnt : Int} {ls : List Int} (h : PlOk cnt ls) : plB cnt ls = true := by unfold plB; exact decide_eq_true h
open Classical in
theorem plB_ok {cnt : Int} {ls : List Int} (h : plB cnt ls = true) : PlOk cnt ls := by unfold plB at h; exact of_decide_eq_true h
theorem getD_at (ls : List Int) (k : Nat) (h : k < ls.length) : ls.getD k 0 = ls[k] := by rw [List.getD_eq_getElem?_getD, List.getElem?_eq_getElem h]; rfl
end Plain

set_option maxRecDepth 10000 in
set_option maxHeartbeats 2000000 in
theorem placesOk_calls (a : Option Addr) (n c : Nat) (ls : List Int) (cnt : Nat) (w : World) (hn : ls.length = n) (hn2 : n ≤ 1048576) (h : RowAt i64E w a ls) :
    Calls Try.prog 25 #[.slice a n c, .int .i64 cnt] w fun e w' => e = .returned (.bool (plB cnt ls)) ∧ w = w' := by
  have H := hide h
  have HN := hide hn
  obtain ⟨R, hR⟩ : ∃ R, plB cnt ls = R := ⟨_, rfl⟩
  rw [hR]
  have HR := hide hR
  clear h hn hR
  go_enter Try.func25, Try.ntmps25
  go_wp2_with fail
  go_loopw [9] (fun i wr => ∃ k : Nat, i = .int .i64 k ∧ k ≤ n ∧ Hid (∀ j, j < k → PlAt cnt ls j) ∧ wr = w) (fun i _ => n - (intOf i).toNat)
  case atStart => exact ⟨0, rfl, by omega, hide (fun j hj => by omega), rfl⟩
  case round =>
    obtain ⟨k, rfl, hk, HV, rfl⟩ := hrel
    by_cases hkn : k < n
    · have hkl : k < ls.length := by rw [unhide HN]; exact hkn
      obtain ⟨g, e1, l1, p0, -⟩ := (unhide H).ix k hkl
      have hgx := getD_at ls k hkl
      obtain ⟨x, hx⟩ : ∃ x, ls[k] = x := ⟨_, rfl⟩
      rw [hx] at p0 hgx
      subst e1
      have i0 : (0 : Int) ≤ (k : Int) := by omega
      have i1 : (k : Int) < (n : Int) := by omega
      have HGX := hide hgx
      by_cases hx0 : x < 0
      · have HF := hide (show R = false from by rw [← unhide HR]; exact plB_no hkl (fun q => by have := q.1.1; rw [unhide HGX] at this; omega))
        clear hgx hx
        go_wp2_with fail
        go_ret
        exact ⟨by rw [unhide HF]; rfl, rfl⟩
      by_cases hxc : (cnt : Int) ≤ x
      · have HF := hide (show R = false from by rw [← unhide HR]; exact plB_no hkl (fun q => by have := q.1.2; rw [unhide HGX] at this; omega))
        clear hgx hx
        go_wp2_with fail
        go_ret
        exact ⟨by rw [unhide HF]; rfl, rfl⟩
      rcases Nat.eq_zero_or_pos k with hk0 | hk0
      · subst hk0
        have HNX := hide (show ∀ j, j < 0 + 1 → PlAt cnt ls j from fun j hj => by
          obtain rfl : j = 0 := by omega
          exact ⟨by rw [unhide HGX]; omega, fun q => by omega⟩)
        clear hgx hx HV
        go_wp2_with fail
        go_roundw
        case rel => exact ⟨0 + 1, by go_num, by omega, HNX, by first | rfl | trivial⟩
        case measure => simp [intOf]; omega
      · obtain ⟨k, rfl⟩ : ∃ k', k = k' + 1 := ⟨k - 1, by omega⟩
        obtain ⟨g', e2, l2, p1, -⟩ := (unhide H).ix k (by omega)
        have hgg : g = g' := by simpa using e2
        subst hgg
        have hgy := getD_at ls k (by omega)
        obtain ⟨y, hy⟩ : ∃ y, ls[k]'(by omega) = y := ⟨_, rfl⟩
        rw [hy] at p1 hgy
        have HGY := hide hgy
        have i2 : ((k + 1 : Nat) : Int) - 1 = (k : Int) := by omega
        have i3 : (0 : Int) ≤ (k : Int) := by omega
        have i4 : (k : Int) < (n : Int) := by omega
        have i5 : (0 : Int) < ((k + 1 : Nat) : Int) := by omega
        by_cases hxy : x ≤ y
        · have HF := hide (show R = false from by rw [← unhide HR]; exact plB_no hkl (fun q => by have := q.2 (by omega); rw [unhide HGX, show k + 1 - 1 = k from rfl, unhide HGY] at this; omega))
          clear hgx hx hgy hy e2
          go_wp2_with fail
          go_ret
          exact ⟨by rw [unhide HF]; rfl, rfl⟩
        · have HNX := hide (show ∀ j, j < k + 1 + 1 → PlAt cnt ls j from fun j hj => by
            by_cases q : j < k + 1
            · exact unhide HV j q
            · obtain rfl : j = k + 1 := by omega
              exact ⟨by rw [unhide HGX]; omega, fun _ => by rw [unhide HGX, show k + 1 - 1 = k from rfl, unhide HGY]; omega⟩)
          clear hgx hx hgy hy e2 HV
          go_wp2_with fail
          go_roundw
          case rel => exact ⟨k + 1 + 1, by go_num, by omega, HNX, by first | rfl | trivial⟩
          case measure => simp [intOf]; omega
    · obtain rfl : k = n := by omega
      have HF := hide (show R = true from by rw [← unhide HR]; exact plB_yes (fun j hj => unhide HV j (by rw [unhide HN] at hj; exact hj)))
      go_wp2_with fail
      go_ret
      exact ⟨by rw [unhide HF]; rfl, rfl⟩

namespace Plain
def opAt (ops : List Dop) (p : Int) : Dop := ops.getD p.toNat ⟨0, ⟨#[]⟩, ⟨#[]⟩, ⟨#[]⟩⟩
def kc0 (ops : List Dop) (ks : List Int) : List Chg := ks.map fun p => .op (opAt ops p)
def tornC (t : Int) (o : Dop) : Chg := if o.kind = 1 ∧ t < (o.data.size : Int) then .tear o.name o.data t.toNat else .op o
/-- The changes of the ops that are kept, the last one torn. -/
def kcs (ops : List Dop) (ks : List Int) (t : Int) : List Chg := (kc0 ops ks).set (ks.length - 1) (tornC t (opAt ops (ks.getD (ks.length - 1) 0)))
theorem opAt_at (ops : List Dop) (P : Nat) (h : P < ops.length) : opAt ops (P : Int) = ops[P] := by unfold opAt; rw [Int.toNat_natCast, List.getD_eq_getElem?_getD, List.getElem?_eq_getElem h]; rfl
theorem chV_form {o : Dop} (h : formB o = true) : ∃ T U, chV o = .iface T U := by
  unfold formB at h
  simp only [Bool.and_eq_true, decide_eq_true_eq] at h
  obtain ⟨⟨⟨k1, k2⟩, hn⟩, ht⟩ := h
  unfold chV
  rw [if_pos hn]
  by_cases e1 : o.kind = 1
  · exact ⟨_, _, if_pos e1⟩
  · by_cases e2 : o.kind = 2
    · exact ⟨_, _, by rw [if_neg e1, if_pos e2]⟩
    · exact ⟨_, _, by rw [if_neg e1, if_neg e2, if_pos (by omega)]⟩
theorem kc0_take (ops : List Dop) (ks : List Int) (k : Nat) (h : k < ks.length) : (kc0 ops ks).take (k + 1) = (kc0 ops ks).take k ++ [.op (opAt ops ks[k])] := by
  rw [List.take_succ_eq_append_getElem (by simpa [kc0] using h)]
  simp [kc0]
end Plain

/-- What keptChanges leaves. -/
def KeptPost (cs : List Chg) (n : Nat) (w : World) (e : Ending) (w' : World) : Prop := ∃ a c, e = .returned (.slice a n c) ∧ RowAt chgE w' a cs ∧ (∀ g, inB a g → w.heap.size ≤ g) ∧ Below w.heap.size w w'

set_option maxRecDepth 10000 in
set_option maxHeartbeats 4000000 in
theorem keptChanges_callsO (a1 : Option Addr) (nO cO : Nat) (ops : List Dop) (a2 : Option Addr) (n c : Nat) (ks : List Int) (t : Nat) (w : World) (hO : ops.length = nO) (hO2 : nO ≤ 200) (hn : ks.length = n) (hpl : PlOk nO ks) (hn2 : n ≤ 200) (hform : ∀ o ∈ ops, formB o = true ∧ SmO o) (h1 : RowO dopE w a1 ops) (h2 : RowAt i64E w a2 ks) :
    Calls Try.prog 28 #[.slice a1 nO cO, .slice a2 n c, .int .i64 t] w (KeptPost (kcs ops ks t) n w) := by
  have H1 := hide (fun (W : World) (hW : Below w.heap.size w W) => h1.below hW)
  have H2 := hide (fun (W : World) (hW : Below w.heap.size w W) => h2.below hW)
  have HN := hide hn
  have HO := hide hO
  have HPL := hide hpl
  have HFM := hide hform
  have HE := hide (show OwnR chgE w w.heap.size (.slice none 0 0) ((kc0 ops ks).take 0) from World.ownsRow_nil _ _ _ _)
  clear h1 h2 hn hO hpl hform
  go_enter Try.func28, Try.ntmps28
  go_wp2_with fail
  go_loopw [7, 17] (fun s i wr => ∃ (k : Nat) (a : Option Addr) (c' : Nat), s = .slice a k c' ∧ i = .int .i64 k ∧ k ≤ n ∧ Hid (OwnR chgE wr w.heap.size (.slice a k c') ((kc0 ops ks).take k)) ∧ Hid (Below w.heap.size w wr)) (fun _ i _ => n - (intOf i).toNat)
  case atStart => exact ⟨0, none, 0, rfl, rfl, by omega, HE, hide (Below.refl _ _)⟩
  case round =>
    clear HE
    obtain ⟨k, a, c', rfl, rfl, hk, HW, HB⟩ := hrel
    by_cases hkn : k < n
    · have hkl : k < ks.length := by rw [unhide HN]; exact hkn
      obtain ⟨g2, e2, l2, p0, -⟩ := (unhide H2 _ (unhide HB)).ix k hkl
      have hpa := (unhide HPL k hkl).1
      have hst := kc0_take ops ks k hkl
      rw [getD_at ks k hkl] at hpa
      obtain ⟨x, hx⟩ : ∃ x, ks[k] = x := ⟨_, rfl⟩
      rw [hx] at p0 hpa hst
      obtain ⟨P, rfl⟩ := Int.eq_ofNat_of_zero_le hpa.1
      have hPl : P < ops.length := by rw [unhide HO]; have := hpa.2; omega
      rw [opAt_at ops P hPl] at hst
      obtain ⟨g1, ob, e1, l1, r0, r1, r2, r3⟩ := (unhide H1 _ (unhide HB)).dop P hPl
      have hfm := unhide HFM ops[P] (by simp)
      obtain ⟨o, ho⟩ : ∃ o, ops[P] = o := ⟨_, rfl⟩
      rw [ho] at hst r0 r1 r2 r3 hfm
      have HCH := hide (fun W => changeOf_calls o W hfm.2.fit)
      obtain ⟨T, U, hV⟩ := chV_form hfm.1
      obtain ⟨kd, nm, tx, dt⟩ := o
      have hDV : dopV ⟨kd, nm, tx, dt⟩ = .agg #[.int .i64 kd, .string nm, .string tx, .string dt] := rfl
      rw [hDV, hV] at HCH
      simp only at r0 r1 r2 r3
      have hlen : ((kc0 ops ks).take k).length < 100000000 := by rw [List.length_take]; have := unhide HN; omega
      have hlk : ((kc0 ops ks).take k).length = k := by rw [List.length_take]; simp [kc0, unhide HN]; omega
      have HST := hide hst
      generalize (kc0 ops ks).take k = cur at HW hlen HST hlk
      have HLK := hide hlk
      subst e1 e2
      have i0 : (0 : Int) ≤ (k : Int) := by omega
      have i1 : (k : Int) < (n : Int) := by omega
      have i2 : (0 : Int) ≤ (P : Int) := by omega
      have i3 : (P : Int) < (nO : Int) := hpa.2
      have hz := (unhide HB).size
      clear hpa hx hst hPl hfm ho hDV hlk hkl
      go_wp2_with fail
      refine (unhide HCH _).mono ?_
      rintro e w1 ⟨rfl, hb1⟩
      have HW1 := hide ((unhide HW).keep hb1)
      have HB1 := hide (belOn (unhide HB) hb1)
      have hz1 := Nat.le_trans hz hb1.size
      rw [show (Value.slice a k c') = .slice a cur.length c' from by rw [unhide HLK]] at HW1
      clear hb1
      have hen : chgE.enc (.op ⟨kd, nm, tx, dt⟩) = [.iface T U] := by show [chV _] = _; rw [hV]
      go_wp2_with (at_builtin; go_must (refine appR (e := chgE) rfl _ _ rfl (unhide HW1) (by rw [unhide HLK]; rfl) (.op ⟨kd, nm, tx, dt⟩) hen.symm _ rfl rfl hlen hz1 ?_); intro v' w6 hown6 hb6 hg6; obtain ⟨a3, c3, hv'⟩ := hown6.form; subst hv')
      rw [List.length_append, List.length_singleton, unhide HLK] at hown6
      have HW6 := hide hown6
      have HB6 := hide ((unhide HB1).trans hb6)
      clear hown6 hb6 hg6
      simp only [unhide HLK]
      go_wp2_with fail
      go_roundw
      case rel => exact ⟨k + 1, a3, c3, rfl, by go_num, by omega, by rw [unhide HST]; exact HW6, HB6⟩
      case measure => simp [intOf]; omega
    · obtain rfl : k = n := by omega
      have hcur : (kc0 ops ks).length = k := by simp [kc0, unhide HN]
      have hW := unhide HW
      rw [List.take_of_length_le (by omega)] at hW
      have HWF := hide hW
      clear HW hW
      rcases Nat.eq_zero_or_pos k with hk0 | hk0
      · subst hk0
        have hks : ks = [] := List.eq_nil_of_length_eq_zero (unhide HN)
        have HKN := hide (show kcs ops ks t = [] from by rw [hks]; rfl)
        clear hks
        go_wp2_with fail
        go_ret
        exact ⟨none, 0, rfl, (by rw [unhide HKN]; exact fun i hi => (by simp at hi)), (fun g ⟨o, e⟩ => (by cases e)), unhide HB⟩
      · obtain ⟨m, rfl⟩ : ∃ m, k = m + 1 := ⟨k - 1, by omega⟩
        have hml : m < ks.length := by rw [unhide HN]; omega
        have hpa := (unhide HPL m hml).1
        have hgm := getD_at ks m hml
        rw [hgm] at hpa
        obtain ⟨x, hx⟩ : ∃ x, ks[m] = x := ⟨_, rfl⟩
        rw [hx] at hpa hgm
        obtain ⟨P, rfl⟩ := Int.eq_ofNat_of_zero_le hpa.1
        have hPl : P < ops.length := by rw [unhide HO]; have := hpa.2; omega
        have hoa := opAt_at ops P hPl
        have hfm := unhide HFM ops[P] (by simp)
        obtain ⟨o, ho⟩ : ∃ o, ops[P] = o := ⟨_, rfl⟩
        rw [ho] at hoa hfm
        have hcm : (kc0 ops ks)[m]'(by rw [hcur]; omega) = .op o := by simp [kc0, hx, hoa]
        have HKC := hide (show kcs ops ks t = (kc0 ops ks).set m (tornC t o) from by
          unfold kcs
          rw [unhide HN, show m + 1 - 1 = m from rfl, hgm, hoa])
        obtain ⟨g, e1, l1, p0⟩ := (unhide HWF).at.chg m (by rw [hcur]; omega)
        obtain ⟨g', e1', l1', z⟩ := (unhide HWF).at m (by rw [hcur]; omega)
        have hgg : g = g' := by rw [e1] at e1'; simpa using e1'
        subst hgg
        have z0 : wr.frozen? ⟨g, m, none⟩ = false := by have := (z 0 (by decide)).2; rw [show m * chgE.n + 0 = m from Nat.mul_one m] at this; exact this
        rw [hcm] at p0
        have p0' : wr.cell? ⟨g, m, none⟩ = some (chV o) := p0
        have hset : (kc0 ops ks).set m (.op o) = kc0 ops ks := by rw [← hcm]; exact List.set_getElem_self _
        subst e1
        have hne0 : ((m + 1 : Nat) : Int) - 1 = (m : Int) := by omega
        have i0 : (0 : Int) ≤ (m : Int) := by omega
        have i1 : (m : Int) < ((m + 1 : Nat) : Int) := by omega
        have hnz : (((m + 1 : Nat) : Int) == 0) = false := by rw [beq_eq_false_iff_ne]; omega
        have hg0 := (World.ownsRow.lt (unhide HWF) g rfl).1
        have HBL := hide (show ∀ g', inB (some ⟨g, 0, none⟩) g' → w.heap.size ≤ g' from fun g' ⟨o, e⟩ => by cases e; exact hg0)
        have hz := (unhide HB).size
        obtain ⟨kd, nm, tx, dt⟩ := o
        have hfo := hfm.1
        unfold formB at hfo
        simp only [Bool.and_eq_true, decide_eq_true_eq] at hfo
        obtain ⟨⟨⟨k1, k2⟩, hnn⟩, -⟩ := hfo
        unfold chV at p0'
        simp only [hnn, if_true] at p0'
        clear p0 z e1' l1' hpa hx hPl hoa hfm ho hgm HPL HFM
        by_cases e1 : kd = 1
        · rw [if_pos e1] at p0'
          subst e1
          have hta := ta_app nm dt
          by_cases ht : (t : Int) < (dt.size : Int)
          · have htn : t ≤ dt.size := by omega
            have HTC := hide (show tornC t ⟨1, nm, tx, dt⟩ = .tear nm dt t from by unfold tornC; rw [if_pos ⟨rfl, ht⟩]; rfl)
            have S2 := (unhide HWF).setJ hcur m (by rw [hcur]; omega) 0 (by decide) (.iface 93 (.agg #[.string nm, .string dt, .int .i64 t])) (.tear nm dt t) rfl
            rw [show m * chgE.n + 0 = m from Nat.mul_one m] at S2
            have HS2 := hide S2
            have y0 := bcl (bel1 wr (.cells #[.string nm, .string dt] 90)) l1 p0'
            have z2 := ((bel1 wr (.cells #[.string nm, .string dt] 90)).frozen (p := ⟨g, m, none⟩) l1).trans z0
            clear S2 hset
            go_wp2_with fail
            go_ret
            refine ⟨some ⟨g, 0, none⟩, c', rfl, ?_, unhide HBL, ?_⟩
            · rw [unhide HKC, unhide HTC]
              exact ((unhide HS2).keep (bel1 _ _)).at
            · exact belOn ((unhide HB).setCell hg0 _) (bel1 _ _)
          · have HSAME := hide (show kcs ops ks t = kc0 ops ks from by rw [unhide HKC, show tornC t ⟨1, nm, tx, dt⟩ = .op ⟨1, nm, tx, dt⟩ from by unfold tornC; rw [if_neg (fun q => ht q.2)], hset])
            clear hset
            go_wp2_with fail
            go_ret
            exact ⟨some ⟨g, 0, none⟩, c', rfl, by rw [unhide HSAME]; exact ((unhide HWF).keep (bel1 _ _)).at, unhide HBL, belOn (unhide HB) (bel1 _ _)⟩
        · have HSAME := hide (show kcs ops ks t = kc0 ops ks from by rw [unhide HKC, show tornC t ⟨kd, nm, tx, dt⟩ = .op ⟨kd, nm, tx, dt⟩ from by unfold tornC; rw [if_neg (fun q => e1 q.1)], hset])
          rw [if_neg e1] at p0'
          by_cases e2 : kd = 2
          · rw [if_pos e2] at p0'
            have hta := ta_ren1 nm tx
            clear hset
            go_wp2_with fail
            go_ret
            exact ⟨some ⟨g, 0, none⟩, c', rfl, by rw [unhide HSAME]; exact ((unhide HWF).keep (bel1 _ _)).at, unhide HBL, belOn (unhide HB) (bel1 _ _)⟩
          · rw [if_neg e2, if_pos (by omega)] at p0'
            have hta := ta_rem1 nm
            clear hset
            go_wp2_with fail
            go_ret
            exact ⟨some ⟨g, 0, none⟩, c', rfl, by rw [unhide HSAME]; exact ((unhide HWF).keep (bel1 _ _)).at, unhide HBL, belOn (unhide HB) (bel1 _ _)⟩

end Go.Proofs.Ytknpccpfjclngaa
