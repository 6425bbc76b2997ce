/- RepoOk of the program by its contract: its scanner's word, mark and slash. -/
import Derived.Test.YtnkjdojpegmlcaaDoorLow
import Derived.Test.YtnkjdojpegmlcaaDoorCur
import Derived.Deep.RegionWith
namespace Go.Proofs.YtnkjdojpegmlcaaDoor
open Go.RowKit Plain
set_option linter.unusedVariables false

namespace Plain
theorem toList_data (s : ByteArray) : s.toList = s.data.toList := ByteArray.toList_eq s
theorem len_list (s : ByteArray) : s.data.toList.length = s.size := Array.length_toList
theorem ext_list (s : ByteArray) (p : Nat) : (s.extract p s.size).data.toList = s.data.toList.drop p := by
  rw [ByteArray.data_extract, Array.toList_extract, List.extract_eq_take_drop]
  exact List.take_of_length_le (by simp)
theorem ext_take (s : ByteArray) (n : Nat) : (s.extract 0 n).data.toList = s.data.toList.take n := by
  rw [ByteArray.data_extract, Array.toList_extract, List.extract_eq_take_drop]
  simp
def hpB (s p : ByteArray) : Bool := p.data.toList.isPrefixOf s.data.toList
theorem hp_short {s p : ByteArray} (h : s.size < p.size) : hpB s p = false := by
  unfold hpB
  cases e : p.data.toList.isPrefixOf s.data.toList with
  | false => rfl
  | true =>
    have := (List.isPrefixOf_iff_prefix.1 e).length_le
    simp at this
    change p.size ≤ s.size at this
    omega
theorem hp_eq {s p : ByteArray} (h : p.size ≤ s.size) : ((s.extract 0 p.size).toList == p.toList) = hpB s p := by
  rw [toList_data, toList_data, ext_take]
  unfold hpB
  rw [Bool.eq_iff_iff, List.isPrefixOf_iff_prefix, List.prefix_iff_eq_take]
  simp
  exact ⟨fun h => h.symm, fun h => h.symm⟩
end Plain

theorem hasPrefix_calls (s p : ByteArray) (w : World) (hs : s.size ≤ 1000000000000) (hp : p.size ≤ 1000000000000) :
    Calls Tryd.prog 59 #[.string s, .string p] w fun e w' => e = .returned (.bool (hpB s p)) ∧ w = w' := by
  by_cases h : p.size ≤ s.size
  · have e := hp_eq h
    have H := hide e
    clear e
    go_enter Tryd.func59, Tryd.ntmps59
    go_wp2
    go_ret
    exact ⟨ret_bool (unhide H), rfl⟩
  · rw [hp_short (by omega)]
    have h2 : s.size < p.size := by omega
    go_enter Tryd.func59, Tryd.ntmps59
    go_wp2
    go_ret
    exact ⟨rfl, rfl⟩

theorem trimHy (w : World) (s : ByteArray) (hs : s.size ≤ 1000000000000) :
    Calls Tryd.prog 64 #[.string s, .int .u8 45] w fun e w' => e = .returned (.string (s.extract (hy s.data.toList) s.size)) ∧ w = w' := by
  go_enter Tryd.func64, Tryd.ntmps64
  go_wp2_with fail
  go_loop [0] (fun t => ∃ u : ByteArray, t = .string u ∧ u.size ≤ s.size ∧ Hid (u.extract (hy u.data.toList) u.size = s.extract (hy s.data.toList) s.size)) (fun t => match t with | .string u => u.size | _ => 0)
  case atStart => exact ⟨s, rfl, Nat.le_refl _, rfl⟩
  case round =>
    obtain ⟨u, rfl, hu, HU⟩ := hrel
    by_cases h0 : 0 < u.size
    · obtain ⟨c, hc⟩ : ∃ c, u[0].toNat = c := ⟨_, rfl⟩
      have hc256 : c < 256 := by rw [← hc]; exact u[0].toNat_lt
      have hl : u.data.toList = u[0] :: (u.data.toList.drop 1) := by
        have e := List.drop_eq_getElem_cons (l := u.data.toList) (i := 0) (by simpa using h0)
        rw [List.drop_zero] at e
        exact e
      by_cases h45 : c = 45
      · have hn : (u.extract 1 u.size).extract (hy (u.extract 1 u.size).data.toList) (u.extract 1 u.size).size = u.extract (hy u.data.toList) u.size := by
          rw [ext_list u 1, show hy u.data.toList = hy (u.data.toList.drop 1) + 1 from by rw [hl, hy_yes _ _ (hc.trans h45)]; rfl, ByteArray.size_extract, ByteArray.extract_extract]
          congr 1 <;> omega
        have HN := hide (hn.trans (unhide HU))
        have hz : (u.extract 1 u.size).size = u.size - 1 := by rw [ByteArray.size_extract]; omega
        have HZ := hide hz
        clear hn HU hl hz
        subst h45
        go_wp2_with fail
        go_round
        case rel => exact ⟨_, rfl, by have := unhide HZ; omega, HN⟩
        case measure => have := unhide HZ; simp; omega
      · have hn : u.extract (hy u.data.toList) u.size = u := by rw [hl, hy_no _ _ (by omega)]; simp
        have HN := hide (hn.symm.trans (unhide HU))
        have hb : ((c : Int) == 45) = false := by simp; omega
        clear hn HU hl
        go_wp2_with fail
        go_ret
        exact ⟨by rw [unhide HN]; rfl, rfl⟩
    · have hn : u.extract (hy u.data.toList) u.size = u := by
        have hl : u.data.toList = [] := List.eq_nil_of_length_eq_zero (by rw [len_list]; omega)
        rw [hl, hy]; simp
      have HN := hide (hn.symm.trans (unhide HU))
      clear hn HU
      go_wp2_with fail
      go_ret
      exact ⟨by rw [unhide HN]; rfl, rfl⟩

set_option maxRecDepth 100000 in
theorem trimLeft_calls (w : World) (s : ByteArray) (hs : s.size ≤ 1000000000000) :
    Calls Tryd.prog 60 #[.string s, .string { data := #[45] }] w fun e w' => e = .returned (.string (s.extract (hy s.data.toList) s.size)) ∧ w = w' := by
  by_cases h0 : 0 < s.size
  · have he : s.toList.isEmpty = false := by
      rw [toList_data]
      cases h : s.data.toList with
      | nil => have := congrArg List.length h; rw [len_list] at this; simp only [List.length_nil] at this; omega
      | cons => rfl
    go_enter Tryd.func60, Tryd.ntmps60
    go_wp2_with (go_at_call 64; refine (trimHy _ s hs).mono ?_; rintro e w' ⟨rfl, rfl⟩)
    go_ret
    exact ⟨rfl, rfl⟩
  · have hl : s.data.toList = [] := List.eq_nil_of_length_eq_zero (by rw [len_list]; omega)
    have hn : s.extract (hy s.data.toList) s.size = s := by rw [hl, hy]; simp
    have he : s.toList.isEmpty = true := by rw [toList_data, hl]; rfl
    rw [hn]
    clear hn hl
    go_enter Tryd.func60, Tryd.ntmps60
    go_wp2_with fail
    go_ret
    exact ⟨rfl, rfl⟩

set_option maxHeartbeats 1000000 in
theorem word_ok (b : Nat) (s : ByteArray) (p : Nat) (w : World) (hc0 : w.cell? ⟨b, 0, none⟩ = some (.string s)) (hc1 : w.cell? ⟨b, 1, none⟩ = some (.int .i64 p))
    (hf : w.frozen? ⟨b, 1, none⟩ = false) (hs : s.size ≤ 1000000000000) (hp : p ≤ s.size) :
    Calls Tryd.prog 47 #[.pointer (some ⟨b, 0, none⟩)] w fun e w' => e = .returned (.bool (decide (0 < wd (s.data.toList.drop p)))) ∧ OnlyAt ⟨b, 1, none⟩ w w' ∧ w'.cell? ⟨b, 1, none⟩ = some (.int .i64 ((p + wd (s.data.toList.drop p) : Nat) : Int)) := by
  have hl := ext_list s p
  have hz : (s.extract p s.size).size = s.size - p := by rw [ByteArray.size_extract]; omega
  have hR := rest_ok b 0 s p w hc0 hc1 hs hp
  generalize s.extract p s.size = t at hl hz hR
  have hwl := wd_le t.data.toList
  rw [len_list] at hwl
  rw [← hl]
  have HL := hide hl
  have HR := hide hR
  have hts : t.size ≤ 1000000000000 := by omega
  clear hl hR
  obtain ⟨N, hN⟩ : ∃ N, wd t.data.toList = N := ⟨_, rfl⟩
  rw [hN] at hwl ⊢
  have HN := hide hN
  clear hN
  go_enter Tryd.func47, Tryd.ntmps47
  go_wp2_with fail
  refine (unhide HR).mono ?_
  rintro e w1 ⟨rfl, kk, rfl⟩
  go_wp2_with fail
  go_loop [4] (fun n => ∃ k : Nat, n = .int .i64 k ∧ k ≤ t.size ∧ Hid (k + wd (t.data.toList.drop k) = N)) (fun n => t.size - (intOf n).toNat)
  case atStart => exact ⟨0, rfl, by omega, hide (by simpa using unhide HN)⟩
  case round =>
    obtain ⟨k, rfl, hk, HK⟩ := hrel
    by_cases hlt : k < t.size
    · obtain ⟨c, hc⟩ : ∃ c, t[k].toNat = c := ⟨_, rfl⟩
      have hc256 : c < 256 := by rw [← hc]; exact t[k].toNat_lt
      have hll : k < t.data.toList.length := by rw [len_list]; exact hlt
      have hcl : (t.data.toList[k]).toNat = c := hc
      cases hlow : lowI (c : Int) with
      | true =>
        have h1 := wd_low t.data.toList k hll (by rw [hcl, ← lowI_nat]; exact hlow)
        have HK2 := hide (show k + 1 + wd (t.data.toList.drop (k + 1)) = N from by have := unhide HK; omega)
        have HW := hide hlow
        clear HK h1 hlow hcl hll
        go_wp2_with (go_at_call 58; refine (impl_low _ _ (by omega) (by omega)).mono ?_; rintro e w' ⟨rfl, rfl⟩; rw [unhide HW])
        go_round
        case rel => exact ⟨k + 1, by go_num, by omega, HK2⟩
        case measure => simp [intOf]; omega
      | false =>
        have h1 := wd_not t.data.toList k hll (by rw [hcl, ← lowI_nat]; exact hlow)
        have hkN : k = N := by have := unhide HK; omega
        have HW := hide hlow
        clear HK h1 hlow hcl hll
        subst hkN
        have HTK := take_ok b 0 s p (k : Int) (w.drewN kk) hc0 hc1 hf hs hp (by omega) (by omega)
        go_wp2_with (first | (go_at_call 58; refine (impl_low _ _ (by omega) (by omega)).mono ?_; rintro e w' ⟨rfl, rfl⟩; rw [unhide HW]) | (go_at_call 51; refine HTK.mono ?_; rintro e w' ⟨rfl, ho, hcell⟩))
        go_ret
        exact ⟨ret_bool (by simp), (OnlyAt.refl _ _).drewN kk |>.trans ho, by rw [hcell]; go_num⟩
    · have hkN : k = N := by
        have := unhide HK
        rw [wd_end _ _ (by rw [len_list]; omega)] at this
        omega
      subst hkN
      clear HK
      have HTK := take_ok b 0 s p (k : Int) (w.drewN kk) hc0 hc1 hf hs hp (by omega) (by omega)
      go_wp2_with (go_at_call 51; refine HTK.mono ?_; rintro e w' ⟨rfl, ho, hcell⟩)
      go_ret
      exact ⟨ret_bool (by simp), (OnlyAt.refl _ _).drewN kk |>.trans ho, by rw [hcell]; go_num⟩

namespace Plain
def hpL (l p : List UInt8) : Bool := p.isPrefixOf l
/-- Which test of mark strikes, and what it takes then. -/
theorem mk_cases (l : List UInt8) : (hpL l [95, 95] = true ∧ mk l = 2) ∨ (hpL l [95, 95] = false ∧ hpL l [95] = true ∧ mk l = 1) ∨
    (hpL l [95, 95] = false ∧ hpL l [95] = false ∧ hpL l [46] = true ∧ mk l = 1) ∨ (hpL l [95, 95] = false ∧ hpL l [95] = false ∧ hpL l [46] = false ∧ mk l = hy l) := by
  unfold hpL
  cases l with
  | nil => simp [mk, hy]
  | cons c l =>
    by_cases h1 : c = 95
    · subst h1
      cases l with
      | nil => simp [mk, un]
      | cons d l =>
        by_cases h2 : d = 95
        · subst h2; simp [mk, un]
        · have h3 : ¬ d.toNat = 95 := fun e => h2 (by rw [u8 (by omega) e]; rfl)
          have h4 : ((95 : UInt8) == d) = false := by simpa using fun e => h2 e.symm
          simp [mk, un, h3, List.isPrefixOf, h4]
    · have h3 : ¬ c.toNat = 95 := fun e => h1 (by rw [u8 (by omega) e]; rfl)
      have h4 : ((95 : UInt8) == c) = false := by simpa using fun e => h1 e.symm
      by_cases h5 : c = 46
      · subst h5; simp [mk, List.isPrefixOf]
      · have h6 : ¬ c.toNat = 46 := fun e => h5 (by rw [u8 (by omega) e]; rfl)
        have h7 : ((46 : UInt8) == c) = false := by simpa using fun e => h5 e.symm
        simp [mk, h3, h6, List.isPrefixOf, h4, h7]
end Plain

set_option maxHeartbeats 1000000 in
theorem mark_ok (b : Nat) (s : ByteArray) (p : Nat) (w : World) (hc0 : w.cell? ⟨b, 0, none⟩ = some (.string s)) (hc1 : w.cell? ⟨b, 1, none⟩ = some (.int .i64 p))
    (hf : w.frozen? ⟨b, 1, none⟩ = false) (hs : s.size ≤ 1000000000000) (hp : p ≤ s.size) :
    Calls Tryd.prog 48 #[.pointer (some ⟨b, 0, none⟩)] w fun e w' => e = .returned (.bool (decide (0 < mk (s.data.toList.drop p)))) ∧ OnlyAt ⟨b, 1, none⟩ w w' ∧ w'.cell? ⟨b, 1, none⟩ = some (.int .i64 ((p + mk (s.data.toList.drop p) : Nat) : Int)) := by
  have hl := ext_list s p
  have hz : (s.extract p s.size).size = s.size - p := by rw [ByteArray.size_extract]; omega
  have hR := rest_ok b 0 s p w hc0 hc1 hs hp
  generalize s.extract p s.size = t at hl hz hR
  have hwl := mk_le t.data.toList
  have hyl := hy_le t.data.toList
  rw [len_list] at hwl hyl
  rw [← hl]
  have HR := hide hR
  have hts : t.size ≤ 1000000000000 := by omega
  clear hl hR
  have HTK := fun (k : Nat) (hk : k ≤ t.size) (kk : Nat) => take_ok b 0 s p (k : Int) (w.drewN kk) hc0 hc1 hf hs hp (by omega) (by omega)
  have H2 := fun (w : World) => hasPrefix_calls t ⟨#[95, 95]⟩ w hts (by decide)
  have H1 := fun (w : World) => hasPrefix_calls t ⟨#[95]⟩ w hts (by decide)
  have H0 := fun (w : World) => hasPrefix_calls t ⟨#[46]⟩ w hts (by decide)
  have HT := fun (w : World) => trimLeft_calls w t hts
  have hc := mk_cases t.data.toList
  change (hpB t ⟨#[95, 95]⟩ = true ∧ _) ∨ (hpB t ⟨#[95, 95]⟩ = false ∧ hpB t ⟨#[95]⟩ = true ∧ _) ∨ (hpB t ⟨#[95, 95]⟩ = false ∧ hpB t ⟨#[95]⟩ = false ∧ hpB t ⟨#[46]⟩ = true ∧ _) ∨ (hpB t ⟨#[95, 95]⟩ = false ∧ hpB t ⟨#[95]⟩ = false ∧ hpB t ⟨#[46]⟩ = false ∧ _) at hc
  obtain ⟨N, hN⟩ : ∃ N, mk t.data.toList = N := ⟨_, rfl⟩
  obtain ⟨Y, hY⟩ : ∃ Y, hy t.data.toList = Y := ⟨_, rfl⟩
  rw [hN] at hwl hc ⊢
  rw [hY] at hyl hc
  simp only [hY] at HT
  have hzy : (t.extract Y t.size).size = t.size - Y := by rw [ByteArray.size_extract]; omega
  have HZY := hide hzy
  clear hN hY hzy hz
  rcases hc with ⟨h2, rfl⟩ | ⟨h2, h1, rfl⟩ | ⟨h2, h1, h0, rfl⟩ | ⟨h2, h1, h0, rfl⟩
  · rw [h2] at H2
    clear h2
    go_enter Tryd.func48, Tryd.ntmps48
    go_wp2_with fail
    refine (unhide HR).mono ?_
    rintro e w1 ⟨rfl, kk, rfl⟩
    go_wp2_with (first | (go_at_call 59; refine (H2 _).mono ?_; rintro e w' ⟨rfl, rfl⟩) | (go_at_call 51; refine (HTK 2 (by omega) kk).mono ?_; rintro e w' ⟨rfl, ho, hcell⟩))
    go_ret
    exact ⟨rfl, (OnlyAt.refl _ _).drewN kk |>.trans ho, by rw [hcell]; go_num⟩
  · rw [h2] at H2
    rw [h1] at H1
    clear h2 h1
    go_enter Tryd.func48, Tryd.ntmps48
    go_wp2_with fail
    refine (unhide HR).mono ?_
    rintro e w1 ⟨rfl, kk, rfl⟩
    go_wp2_with (first | (go_at_call 59; refine (H2 _).mono ?_; rintro e w' ⟨rfl, rfl⟩) | (go_at_call 59; refine (H1 _).mono ?_; rintro e w' ⟨rfl, rfl⟩) | (go_at_call 51; refine (HTK 1 (by omega) kk).mono ?_; rintro e w' ⟨rfl, ho, hcell⟩))
    go_ret
    exact ⟨rfl, (OnlyAt.refl _ _).drewN kk |>.trans ho, by rw [hcell]; go_num⟩
  · rw [h2] at H2
    rw [h1] at H1
    rw [h0] at H0
    clear h2 h1 h0
    go_enter Tryd.func48, Tryd.ntmps48
    go_wp2_with fail
    refine (unhide HR).mono ?_
    rintro e w1 ⟨rfl, kk, rfl⟩
    go_wp2_with (first | (go_at_call 59; refine (H2 _).mono ?_; rintro e w' ⟨rfl, rfl⟩) | (go_at_call 59; refine (H1 _).mono ?_; rintro e w' ⟨rfl, rfl⟩) | (go_at_call 59; refine (H0 _).mono ?_; rintro e w' ⟨rfl, rfl⟩) | (go_at_call 51; refine (HTK 1 (by omega) kk).mono ?_; rintro e w' ⟨rfl, ho, hcell⟩))
    go_ret
    exact ⟨rfl, (OnlyAt.refl _ _).drewN kk |>.trans ho, by rw [hcell]; go_num⟩
  · rw [h2] at H2
    rw [h1] at H1
    rw [h0] at H0
    clear h2 h1 h0
    go_enter Tryd.func48, Tryd.ntmps48
    go_wp2_with fail
    refine (unhide HR).mono ?_
    rintro e w1 ⟨rfl, kk, rfl⟩
    go_wp2_with (first | (go_at_call 59; refine (H2 _).mono ?_; rintro e w' ⟨rfl, rfl⟩) | (go_at_call 59; refine (H1 _).mono ?_; rintro e w' ⟨rfl, rfl⟩) | (go_at_call 59; refine (H0 _).mono ?_; rintro e w' ⟨rfl, rfl⟩) | (go_at_call 60; refine (HT _).mono ?_; rintro e w' ⟨rfl, rfl⟩))
    rw [show ((t.size : Int) - ((t.size - N : Nat) : Int)) = (N : Int) from by omega]
    refine (HTK N (by omega) kk).mono ?_
    rintro e w' ⟨rfl, ho, hcell⟩
    go_wp2_with fail
    go_ret
    exact ⟨ret_bool (by simp), (OnlyAt.refl _ _).drewN kk |>.trans ho, by rw [hcell]; go_num⟩

theorem slash_ok (b : Nat) (s : ByteArray) (p : Nat) (w : World) (hc0 : w.cell? ⟨b, 0, none⟩ = some (.string s)) (hc1 : w.cell? ⟨b, 1, none⟩ = some (.int .i64 p))
    (hf : w.frozen? ⟨b, 1, none⟩ = false) (hs : s.size ≤ 1000000000000) (hp : p ≤ s.size) (B : Bool) (hB : hpL (s.data.toList.drop p) [47] = B) (hlt : B = true → p < s.size) :
    Calls Tryd.prog 49 #[.pointer (some ⟨b, 0, none⟩)] w fun e w' => e = .returned (.bool B) ∧ OnlyAt ⟨b, 1, none⟩ w w' ∧ w'.cell? ⟨b, 1, none⟩ = some (.int .i64 ((p + (if B then 1 else 0) : Nat) : Int)) := by
  have hl := ext_list s p
  have hz : (s.extract p s.size).size = s.size - p := by rw [ByteArray.size_extract]; omega
  have hR := rest_ok b 0 s p w hc0 hc1 hs hp
  generalize s.extract p s.size = t at hl hz hR
  rw [← hl] at hB
  have HR := hide hR
  have hts : t.size ≤ 1000000000000 := by omega
  clear hl hR
  have H1 := fun (w : World) => hasPrefix_calls t ⟨#[47]⟩ w hts (by decide)
  change hpB t ⟨#[47]⟩ = B at hB
  rw [hB] at H1
  clear hB
  cases B with
  | true =>
    have HTK := fun (kk : Nat) => take_ok b 0 s p 1 (w.drewN kk) hc0 hc1 hf hs hp (by omega) (by have := hlt rfl; omega)
    clear hlt
    go_enter Tryd.func49, Tryd.ntmps49
    go_wp2_with fail
    refine (unhide HR).mono ?_
    rintro e w1 ⟨rfl, kk, rfl⟩
    go_wp2_with (first | (go_at_call 59; refine (H1 _).mono ?_; rintro e w' ⟨rfl, rfl⟩) | (go_at_call 51; refine (HTK kk).mono ?_; rintro e w' ⟨rfl, ho, hcell⟩))
    go_ret
    exact ⟨rfl, (OnlyAt.refl _ _).drewN kk |>.trans ho, hcell⟩
  | false =>
    clear hlt
    go_enter Tryd.func49, Tryd.ntmps49
    go_wp2_with fail
    refine (unhide HR).mono ?_
    rintro e w1 ⟨rfl, kk, rfl⟩
    go_wp2_with (first | (go_at_call 59; refine (H1 _).mono ?_; rintro e w' ⟨rfl, rfl⟩))
    go_ret
    exact ⟨rfl, (OnlyAt.refl _ _).drewN kk, by simpa using hc1⟩
end Go.Proofs.YtnkjdojpegmlcaaDoor
