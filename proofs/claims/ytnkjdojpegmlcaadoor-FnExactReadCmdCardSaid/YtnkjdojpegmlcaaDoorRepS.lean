/- RepoOk of the specification by its contract. -/
import Derived.Test.YtnkjdojpegmlcaaDoorCut
import Derived.Test.YtnkjdojpegmlcaaDoorLow
import Derived.Deep.RegionWith
namespace Go.Proofs.YtnkjdojpegmlcaaDoor
open Go.RowKit Plain
set_option linter.unusedVariables false

namespace Plain
def hyFrom (m : List UInt8) (k : Nat) : Bool := (m.drop k).all fun c => c.toNat == 45
theorem hyFrom_step (m : List UInt8) (k : Nat) (h : k < m.length) : hyFrom m k = ((m[k].toNat == 45) && hyFrom m (k + 1)) := by
  unfold hyFrom
  rw [List.drop_eq_getElem_cons h]
  rfl
theorem hyFrom_end (m : List UInt8) (k : Nat) (h : m.length ≤ k) : hyFrom m k = true := by
  unfold hyFrom
  rw [List.drop_of_length_le h]
  rfl
theorem mrk_of (m : List UInt8) (h1 : (m == [46]) = false) (h2 : (m == [95]) = false) (h3 : (m == [95, 95]) = false) : mrk m = (decide (0 < m.length) && hyFrom m 0) := by
  unfold mrk hyFrom
  rw [h1, h2, h3]
  cases m <;> simp
end Plain

set_option maxHeartbeats 1000000 in
theorem l3Mark_calls (s : ByteArray) (w : World) (hs : s.size ≤ 1000000000000) :
    Calls Tryd.prog 53 #[.string s] w fun e w' => e = .returned (.bool (mrk s.data.toList)) ∧ w = w' := by
  have e := ByteArray.toList_eq s
  cases h1 : (s.data.toList == [46]) with
  | true =>
    rw [show mrk s.data.toList = true from by unfold mrk; rw [h1]; rfl]
    have h1' : (s.toList == [46]) = true := by rw [e]; exact h1
    clear h1 e
    go_enter Tryd.func53, Tryd.ntmps53
    go_wp2_with fail
    go_ret
    exact ⟨rfl, rfl⟩
  | false =>
    have h1' : (s.toList == [46]) = false := by rw [e]; exact h1
    cases h2 : (s.data.toList == [95]) with
    | true =>
      rw [show mrk s.data.toList = true from by unfold mrk; rw [h1, h2]; rfl]
      have h2' : (s.toList == [95]) = true := by rw [e]; exact h2
      clear h1 h2 e
      go_enter Tryd.func53, Tryd.ntmps53
      go_wp2_with fail
      go_ret
      exact ⟨rfl, rfl⟩
    | false =>
      have h2' : (s.toList == [95]) = false := by rw [e]; exact h2
      cases h3 : (s.data.toList == [95, 95]) with
      | true =>
        rw [show mrk s.data.toList = true from by unfold mrk; rw [h1, h2, h3]; rfl]
        have h3' : (s.toList == [95, 95]) = true := by rw [e]; exact h3
        clear h1 h2 h3 e
        go_enter Tryd.func53, Tryd.ntmps53
        go_wp2_with fail
        go_ret
        exact ⟨rfl, rfl⟩
      | false =>
        have h3' : (s.toList == [95, 95]) = false := by rw [e]; exact h3
        have hm := mrk_of _ h1 h2 h3
        rw [len_data] at hm
        rw [hm]
        clear h1 h2 h3 hm e
        go_enter Tryd.func53, Tryd.ntmps53
        go_wp2_with fail
        go_loop [3] (fun i => ∃ k : Nat, i = .int .i64 k ∧ k ≤ s.size ∧ Hid (hyFrom s.data.toList k = hyFrom s.data.toList 0)) (fun i => s.size - (intOf i).toNat)
        case atStart => exact ⟨0, rfl, by omega, rfl⟩
        case round =>
          obtain ⟨k, rfl, hk, HR⟩ := hrel
          by_cases hlt : k < s.size
          · obtain ⟨c, hc⟩ : ∃ c, s[k].toNat = c := ⟨_, rfl⟩
            have hc256 : c < 256 := by rw [← hc]; exact s[k].toNat_lt
            have hll : k < s.data.toList.length := by rw [len_data]; exact hlt
            have hcl : (s.data.toList[k]).toNat = c := hc
            have hst := hyFrom_step _ k hll
            rw [hcl] at hst
            by_cases h45 : c = 45
            · have hn := hide ((by rw [hst, h45]; rfl : hyFrom s.data.toList (k + 1) = hyFrom s.data.toList k).trans (unhide HR))
              have hb : ((c : Int) != 45) = false := by simp; omega
              clear hst hcl hll HR h45
              go_wp2_with fail
              go_round
              case rel => exact ⟨k + 1, by go_num, by omega, hn⟩
              case measure => simp [intOf]; omega
            · have hn := hide ((unhide HR).symm.trans (by rw [hst, show (c == 45) = false from by simpa using h45]; rfl) : hyFrom s.data.toList 0 = false)
              have hb : ((c : Int) != 45) = true := by simp; omega
              clear hst hcl hll HR h45
              go_wp2_with fail
              go_ret
              exact ⟨by rw [unhide hn, Bool.and_false]; rfl, rfl⟩
          · have hn := hide ((unhide HR).symm.trans (hyFrom_end _ k (by rw [len_data]; omega)))
            clear HR
            go_wp2_with fail
            go_ret
            exact ⟨ret_bool (by rw [unhide hn]; simp), rfl⟩

namespace Plain
theorem prt_last (l : List UInt8) (c : UInt8) (h : lowB c.toNat = false) : ∀ q, prt q (l ++ [c]) = false := by
  induction l with
  | nil => intro q; simp [prt, h]
  | cons x l ih => intro q; rw [List.cons_append, prt]; simp [ih]
theorem prt_one (l : List UInt8) (h : 0 < l.length) (hl : lowB l[0].toNat = true) : prt 1 (l.drop 0) = prt 0 l := by
  cases l with
  | nil => simp at h
  | cons c l =>
    have hl' : lowB c.toNat = true := hl
    rw [List.drop_zero, prt_low _ _ _ hl', prt_low _ _ _ hl']
theorem prt_end (l : List UInt8) (k : Nat) (h : l.length ≤ k) : prt 1 (l.drop k) = true := by rw [List.drop_of_length_le h]; rfl
theorem prt_first (l : List UInt8) (h : 0 < l.length) (hl : lowB l[0].toNat = false) : prt 0 l = false := by
  cases l with
  | nil => rfl
  | cons c l => simp at hl; simp [prt, hl]
theorem prt_back (l : List UInt8) (h : l.length - 1 < l.length) (hl : lowB (l[l.length - 1]).toNat = false) : prt 0 l = false := by
  have e : l = l.take (l.length - 1) ++ [l[l.length - 1]] := by
    have := List.take_succ_eq_append_getElem h
    rw [show l.length - 1 + 1 = l.length from by omega, List.take_length] at this
    exact this
  rw [e]
  exact prt_last _ _ hl 0
end Plain

set_option maxHeartbeats 4000000 in
theorem l3Part_calls (s : ByteArray) (w : World) (hs : s.size ≤ 1000000000000) :
    Calls Tryd.prog 42 #[.string s] w fun e w' => e = .returned (.bool (prt 0 s.data.toList)) ∧ w = w' := by
  have e := ByteArray.toList_eq s
  by_cases h0 : 0 < s.size
  · have he : s.toList.isEmpty = false := by
      rw [e]
      cases h : s.data.toList with
      | nil => have := congrArg List.length h; rw [len_data] at this; simp only [List.length_nil] at this; omega
      | cons => rfl
    clear e
    obtain ⟨c, hc⟩ : ∃ c, s[0].toNat = c := ⟨_, rfl⟩
    have hc256 : c < 256 := by rw [← hc]; exact s[0].toNat_lt
    have hll : 0 < s.data.toList.length := by rw [len_data]; exact h0
    have hcl : (s.data.toList[0]).toNat = c := hc
    cases hlow : lowI (c : Int) with
    | false =>
      rw [prt_first _ hll (by rw [hcl, ← lowI_nat]; exact hlow)]
      have HL := hide hlow
      clear hlow hcl hll
      go_enter Tryd.func42, Tryd.ntmps42
      go_wp2_with (go_at_call 43; refine (spec_low _ _ (by omega) (by omega)).mono ?_; rintro e w' ⟨rfl, rfl⟩; rw [unhide HL])
      go_ret
      exact ⟨rfl, rfl⟩
    | true =>
      have hl1 : s.size - 1 < s.size := by omega
      obtain ⟨d, hd⟩ : ∃ d, (s[s.size - 1]).toNat = d := ⟨_, rfl⟩
      have hd256 : d < 256 := by rw [← hd]; exact (s[s.size - 1]).toNat_lt
      have hdl : (s.data.toList[s.data.toList.length - 1]'(by omega)).toNat = d := by simp only [len_data]; exact hd
      have hone := prt_one _ hll (by rw [hcl, ← lowI_nat]; exact hlow)
      have i1 : ((s.size : Int) - 1) = ((s.size - 1 : Nat) : Int) := by omega
      cases hlast : lowI (d : Int) with
      | false =>
        rw [prt_back _ (by omega) (by rw [hdl, ← lowI_nat]; exact hlast)]
        have HL := hide hlow
        have HD := hide hlast
        clear hlow hcl hll hone hlast hdl
        go_enter Tryd.func42, Tryd.ntmps42
        go_wp2_with (go_at_call 43; refine (spec_low _ _ (by omega) (by omega)).mono ?_; rintro e w' ⟨rfl, rfl⟩; first | rw [unhide HL] | rw [unhide HD])
        go_ret
        exact ⟨rfl, rfl⟩
      | true =>
        have HL := hide hlow
        have HD := hide hlast
        have HONE := hide hone
        have HBK := hide (show lowB (s.data.toList[s.data.toList.length - 1]'(by omega)).toNat = true from by rw [hdl, ← lowI_nat]; exact hlast)
        clear hlow hcl hone hlast hdl
        go_enter Tryd.func42, Tryd.ntmps42
        go_wp2_with (go_at_call 43; refine (spec_low _ _ (by omega) (by omega)).mono ?_; rintro e w' ⟨rfl, rfl⟩; first | rw [unhide HL] | rw [unhide HD])
        clear HL HD hc hd hc256 hd256 i1
        go_loop [3] (fun i => ∃ I : Nat, i = .int .i64 I ∧ I ≤ s.size ∧ Hid (prt 1 (s.data.toList.drop I) = prt 0 s.data.toList)) (fun i => s.size - (intOf i).toNat)
        case atStart => exact ⟨0, rfl, by omega, HONE⟩
        case round =>
          clear HONE
          obtain ⟨I, rfl, hI, HR⟩ := hrel
          by_cases hIs : I < s.size
          · go_wp2_with fail
            go_loop [4] (fun k => ∃ K : Nat, k = .int .i64 K ∧ I ≤ K ∧ K ≤ s.size ∧ Hid (∀ x ∈ (s.data.toList.drop I).take (K - I), lowB x.toNat = false)) (fun k => s.size - (intOf k).toNat)
            case atStart => exact ⟨I, rfl, by omega, by omega, by simp [Hid]⟩
            case round =>
              obtain ⟨K, rfl, hIK, hK, HN⟩ := hrel
              by_cases hKs : K < s.size
              · obtain ⟨c, hc⟩ : ∃ c, s[K].toNat = c := ⟨_, rfl⟩
                have hc256 : c < 256 := by rw [← hc]; exact s[K].toNat_lt
                have hll : K < s.data.toList.length := by rw [len_data]; exact hKs
                have hcl : (s.data.toList[K]).toNat = c := hc
                cases hlow : lowI (c : Int) with
                | false =>
                  have HN2 := hide (show ∀ x ∈ (s.data.toList.drop I).take (K + 1 - I), lowB x.toNat = false from by
                    rw [mid_snoc _ I K hll hIK]
                    intro x hx
                    rcases List.mem_append.1 hx with h | h
                    · exact unhide HN x h
                    · obtain rfl := List.mem_singleton.1 h
                      rw [hcl, ← lowI_nat]; exact hlow)
                  have HL := hide hlow
                  clear HN hlow hcl hll
                  go_wp2_with (go_at_call 43; refine (spec_low _ _ (by omega) (by omega)).mono ?_; rintro e w' ⟨rfl, rfl⟩; rw [unhide HL])
                  go_round
                  case rel => exact ⟨K + 1, by go_num, by omega, by omega, HN2⟩
                  case measure => simp [intOf]; omega
                | true =>
                  have hpm := prt_mark ((s.data.toList.drop I).take (K - I)) (s.data.toList.drop (K + 1)) s.data.toList[K] (by rw [hcl, ← lowI_nat]; exact hlow) (unhide HN)
                  rw [← mid_cons _ I K hll hIK] at hpm
                  have HL := hide hlow
                  clear HN hlow hcl hll
                  by_cases hgt : I < K
                  · have hem : ((s.data.toList.drop I).take (K - I)).isEmpty = false := by
                      cases h : (s.data.toList.drop I).take (K - I) with
                      | nil => have := congrArg List.length h; rw [List.length_take, List.length_drop, len_data] at this; simp only [List.length_nil] at this; omega
                      | cons => rfl
                    rw [hem, Bool.false_or] at hpm
                    have hme : (s.extract I K).data.toList = (s.data.toList.drop I).take (K - I) := by rw [ext_mid]; rfl
                    have hmz : (s.extract I K).size ≤ 1000000000000 := by rw [ByteArray.size_extract]; omega
                    have HC := fun W => l3Mark_calls (s.extract I K) W hmz
                    rw [hme] at HC
                    clear hem hme hmz
                    cases hm : mrk ((s.data.toList.drop I).take (K - I)) with
                    | true =>
                      rw [hm, Bool.true_and] at hpm
                      rw [hm] at HC
                      have HR2 := hide (hpm.symm.trans (unhide HR))
                      clear hpm hm HR
                      go_wp2_with (first | (go_at_call 43; refine (spec_low _ _ (by omega) (by omega)).mono ?_; rintro e w' ⟨rfl, rfl⟩; rw [unhide HL]) | (go_at_call 53; refine (HC _).mono ?_; rintro e w' ⟨rfl, rfl⟩))
                      go_round
                      case rel => exact ⟨K + 1, by go_num, by omega, HR2⟩
                      case measure => simp [intOf]; omega
                    | false =>
                      rw [hm, Bool.false_and] at hpm
                      rw [hm] at HC
                      have HR2 := hide ((unhide HR).symm.trans hpm)
                      clear hpm hm HR
                      go_wp2_with (first | (go_at_call 43; refine (spec_low _ _ (by omega) (by omega)).mono ?_; rintro e w' ⟨rfl, rfl⟩; rw [unhide HL]) | (go_at_call 53; refine (HC _).mono ?_; rintro e w' ⟨rfl, rfl⟩))
                      go_ret
                      exact ⟨by rw [unhide HR2]; rfl, rfl⟩
                  · obtain rfl : I = K := by omega
                    rw [Nat.sub_self, List.take_zero, List.isEmpty_nil, Bool.true_or, Bool.true_and] at hpm
                    have HR2 := hide (hpm.symm.trans (unhide HR))
                    clear hpm HR
                    go_wp2_with (first | (go_at_call 43; refine (spec_low _ _ (by omega) (by omega)).mono ?_; rintro e w' ⟨rfl, rfl⟩; rw [unhide HL]))
                    go_round
                    case rel => exact ⟨I + 1, by go_num, by omega, HR2⟩
                    case measure => simp [intOf]; omega
              · exfalso
                obtain rfl : K = s.size := by omega
                have hb := unhide HBK
                have hn := unhide HN
                rw [List.take_of_length_le (by rw [List.length_drop, len_data]; omega)] at hn
                have hmem : s.data.toList[s.data.toList.length - 1]'(by rw [len_data]; omega) ∈ s.data.toList.drop I := by
                  rw [List.mem_drop_iff_getElem]
                  refine ⟨s.size - 1 - I, by rw [len_data]; omega, ?_⟩
                  congr 1
                  rw [len_data]; omega
                rw [hn _ hmem] at hb
                cases hb
          · have HR2 := hide ((unhide HR).symm.trans (prt_end _ I (by rw [len_data]; omega)))
            clear HR
            go_wp2_with fail
            go_ret
            exact ⟨by rw [unhide HR2]; rfl, rfl⟩
  · have hl : s.data.toList = [] := List.eq_nil_of_length_eq_zero (by rw [len_data]; omega)
    have he : s.toList.isEmpty = true := by rw [e, hl]; rfl
    rw [hl]
    clear e hl
    go_enter Tryd.func42, Tryd.ntmps42
    go_wp2_with fail
    go_ret
    exact ⟨rfl, rfl⟩

namespace Plain
theorem rep_splt (l : List UInt8) : ∀ q, ∃ h t, splt 47 l = h :: t ∧ rep q l = (prt q h && t.all (prt 0)) := by
  induction l with
  | nil => intro q; exact ⟨[], [], rfl, by simp [rep, prt]⟩
  | cons c l ih =>
    intro q
    by_cases hc : c.toNat = 47
    · obtain ⟨h, t, e1, e2⟩ := ih 0
      refine ⟨[], h :: t, by rw [splt, if_pos hc, e1], ?_⟩
      have h1 := lowB_not (c := c.toNat) (by omega)
      rw [List.all_cons, ← e2]
      have h2 : lowB 47 = false := rfl
      by_cases hq : q = 1 <;> simp [rep, prt, h2, hc, hq]
    · obtain ⟨h, t, e1, _⟩ := ih 0
      refine ⟨c :: h, t, by rw [splt, if_neg hc, e1], ?_⟩
      have ih2 : ∀ q, rep q l = (prt q h && t.all (prt 0)) := fun q => by
        obtain ⟨h', t', e1', e2'⟩ := ih q
        rw [e1] at e1'
        cases e1'
        exact e2'
      rw [rep, prt]
      simp only [ih2]
      have hc2 : ¬ (q = 1 ∧ c.toNat = 47) := fun h => hc h.2
      rw [if_neg hc2]
      repeat' split
      all_goals simp
theorem repoB_cut (s : ByteArray) (h : s.size ≤ 100) : repoB s = (cutB 47 s).all fun p => prt 0 p.data.toList := by
  obtain ⟨x, t, e1, e2⟩ := rep_splt s.data.toList 0
  unfold repoB cutB
  rw [e1, e2]
  simp [h, List.all_map, toB]
  rfl
def allFrom (ps : List ByteArray) (k : Nat) : Bool := (ps.drop k).all fun p => prt 0 p.data.toList
theorem allFrom_step (ps : List ByteArray) (k : Nat) (h : k < ps.length) : allFrom ps k = (prt 0 ps[k].data.toList && allFrom ps (k + 1)) := by
  unfold allFrom
  rw [List.drop_eq_getElem_cons h]
  rfl
theorem allFrom_end (ps : List ByteArray) (k : Nat) (h : ps.length ≤ k) : allFrom ps k = true := by
  unfold allFrom
  rw [List.drop_of_length_le h]
  rfl
theorem splt_mem (m : Nat) (l : List UInt8) : ∀ x ∈ splt m l, x.length ≤ l.length := by
  induction l with
  | nil => intro x hx; simp [splt] at hx; simp [hx]
  | cons c l ih =>
    obtain ⟨h, t, e⟩ := splt_ne m l
    rw [e] at ih
    intro x hx
    rw [splt, e] at hx
    split at hx
    · rcases List.mem_cons.1 hx with rfl | hx
      · simp
      · have := ih x hx; simp; omega
    · rcases List.mem_cons.1 hx with rfl | hx
      · have := ih h (by simp); simp; omega
      · have := ih x (by simp [hx]); simp; omega
theorem cutB_mem (m : Nat) (s : ByteArray) : ∀ x ∈ cutB m s, x.size ≤ s.size := by
  intro x hx
  obtain ⟨l, hl, rfl⟩ := List.mem_map.1 hx
  have := splt_mem m _ l hl
  rw [len_data] at this
  exact this
theorem cutB_len (m : Nat) (s : ByteArray) : (cutB m s).length ≤ s.size + 1 := by
  unfold cutB
  rw [List.length_map]
  have := splt_len m s.data.toList
  rw [len_data] at this
  exact this
end Plain

set_option maxHeartbeats 1000000 in
theorem spec_RepoOk (s : ByteArray) (w : World) (hs : s.size ≤ 1000000000000) :
    Calls Tryd.prog 27 #[.string s] w fun e w' => e = .returned (.bool (repoB s)) ∧ Below w.heap.size w w' := by
  by_cases hbig : 100 < s.size
  · rw [show repoB s = false from by unfold repoB; simp; intro; omega]
    go_enter Tryd.func27, Tryd.ntmps27
    go_wp2_with fail
    go_ret
    exact ⟨rfl, Below.refl _ _⟩
  · rw [repoB_cut s (by omega)]
    have hpl := cutB_len 47 s
    have hpm := cutB_mem 47 s
    have HC := fun W => l3Cut_calls s 47 W (by omega) (by omega)
    generalize cutB 47 s = ps at hpl hpm HC
    change Calls _ _ _ _ fun e w' => e = .returned (.bool (allFrom ps 0)) ∧ _
    have HPM := hide hpm
    obtain ⟨n, hn⟩ : ∃ n, ps.length = n := ⟨_, rfl⟩
    rw [hn] at hpl
    have HN := hide hn
    clear hpm hn
    go_enter Tryd.func27, Tryd.ntmps27
    go_wp2_with fail
    refine (HC _).mono ?_
    rintro e w1 ⟨v, rfl, hO, hb1⟩
    obtain ⟨a, cap, rfl⟩ := hO.form
    have HA := hide hO.at
    have HB := hide hb1
    rw [unhide HN]
    clear hO hb1
    go_wp2_with fail
    go_loopw [4] (fun i wr => ∃ k : Nat, i = .int .i64 k ∧ k ≤ n ∧ Hid (allFrom ps k = allFrom ps 0) ∧ Hid (Below w1.heap.size w1 wr)) (fun i _ => n - (intOf i).toNat)
    case atStart => exact ⟨0, rfl, by omega, rfl, Below.refl _ _⟩
    case round =>
      obtain ⟨k, rfl, hk, HR, HW⟩ := hrel
      by_cases hlt : k < n
      · have hkl : k < ps.length := by rw [unhide HN]; exact hlt
        obtain ⟨g, rfl, hg, hcell, -⟩ := ((unhide HA).below (unhide HW)).str k hkl
        have hsz := unhide HPM _ (List.getElem_mem hkl)
        have hst := allFrom_step ps k hkl
        have HP := fun W => l3Part_calls ps[k] W (by omega)
        generalize ps[k] = pk at hcell hsz hst HP
        have i0 : (0 : Int) ≤ (k : Int) := by omega
        have i1 : (k : Int) < (n : Int) := by omega
        cases hp : prt 0 pk.data.toList with
        | true =>
          rw [hp, Bool.true_and] at hst
          rw [hp] at HP
          have HR2 := hide (hst.symm.trans (unhide HR))
          clear hst hp HR
          go_wp2_with (go_at_call 42; refine (HP _).mono ?_; rintro e w' ⟨rfl, rfl⟩)
          go_roundw
          case rel => exact ⟨k + 1, by go_num, by omega, HR2, HW⟩
          case measure => simp [intOf]; omega
        | false =>
          rw [hp, Bool.false_and] at hst
          rw [hp] at HP
          have HR2 := hide ((unhide HR).symm.trans hst)
          clear hst hp HR
          go_wp2_with (go_at_call 42; refine (HP _).mono ?_; rintro e w' ⟨rfl, rfl⟩)
          go_ret
          exact ⟨by rw [unhide HR2]; rfl, (unhide HB).trans ((unhide HW).mono (unhide HB).size)⟩
      · have HR2 := hide ((unhide HR).symm.trans (allFrom_end ps k (by rw [unhide HN]; omega)))
        clear HR
        go_wp2_with fail
        go_ret
        exact ⟨by rw [unhide HR2]; rfl, (unhide HB).trans ((unhide HW).mono (unhide HB).size)⟩
end Go.Proofs.YtnkjdojpegmlcaaDoor
