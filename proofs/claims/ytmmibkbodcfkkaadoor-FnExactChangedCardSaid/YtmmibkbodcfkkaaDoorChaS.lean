/- Changes of members, by the specification: lists copied, put into, cut out of. -/
import Derived.Test.YtmmibkbodcfkkaaDoorChaK
import Derived.Test.YtmmibkbodcfkkaaDoorStpM
namespace Go.Proofs.YtmmibkbodcfkkaaDoor
open Go.RowKit Plain
set_option linter.unusedVariables false

/-- A list that is answered. -/
def LsPost (ls : List Int) (w : World) (e : Ending) (w' : World) : Prop := ∃ a1 c1, e = .returned (.slice a1 ls.length c1) ∧ RowAt i64E w' a1 ls ∧ Below w.heap.size w w' ∧ ∀ g, inB a1 g → w.heap.size ≤ g ∧ g < w'.heap.size

set_option maxRecDepth 10000 in
set_option maxHeartbeats 2000000 in
theorem l9Cut_calls (a : Option Addr) (n c : Nat) (ls : List Int) (x : Int) (w : World) (h : IntsAt w a n ls) :
    Calls Tryd.prog 23 #[.slice a n c, .int .i64 x] w (LsPost (cutZ x ls) w) := by
  have HH := hide h
  have hbn := h.bn
  clear h
  go_enter Tryd.func23, Tryd.ntmps23
  go_wp2_with fail
  go_loopw [5, 6] (fun s5 s6 wr => ∃ k : Nat, s6 = .int .i64 k ∧ k ≤ n ∧ w.heap.size ≤ wr.heap.size ∧ Hid (OwnR i64E wr w.heap.size s5 (cutZ x (ls.take k))) ∧ Hid (Below w.heap.size w wr)) (fun _ s6 _ => n - (intOf s6).toNat)
  case atStart => exact ⟨0, rfl, by omega, by simp, hide (ownR_empty i64E _ _ (Nat.le_refl _)), hide (bel1 _ _)⟩
  case round =>
    obtain ⟨k, rfl, hk, hz, HO, HB⟩ := hrel
    obtain ⟨a2, c2, hv⟩ := (unhide HO).form
    subst hv
    have hcl := cutZ_len x (ls.take k)
    rw [List.length_take] at hcl
    obtain ⟨q, hq⟩ : ∃ q, (cutZ x (ls.take k)).length = q := ⟨_, rfl⟩
    rw [hq] at HO hcl ⊢
    by_cases hkn : k < n
    · have hkl : k < ls.length := by rw [(unhide HH).len]; exact hkn
      obtain ⟨g, e1, l1, p0, -⟩ := ((unhide HH).below (unhide HB)).row.ix k hkl
      have htk : cutZ x (ls.take (k + 1)) = cutZ x (ls.take k) ++ (if ls[k] = x then [] else [ls[k]]) := by
        unfold cutZ
        rw [List.take_succ_eq_append_getElem hkl, List.filter_append, List.filter_cons, List.filter_nil]
        by_cases hx : ls[k] = x <;> simp [hx]
      generalize ls[k] = y at p0 htk
      subst e1
      have i0 : (0 : Int) ≤ (k : Int) := by omega
      have i1 : (k : Int) < (n : Int) := by omega
      by_cases hxy : y = x
      · subst hxy
        rw [if_pos rfl, List.append_nil] at htk
        have HT := hide htk
        clear htk
        go_wp2_with fail
        go_roundw
        case rel => exact ⟨k + 1, by go_num, by omega, hz, hide (by rw [unhide HT]; exact unhide HO), HB⟩
        case measure => simp [intOf]; omega
      · rw [if_neg hxy] at htk
        have HT := hide htk
        have hne : (y != x) = true := by rw [bne_iff_ne]; exact hxy
        have hlen : (cutZ x (ls.take k)).length < 100000000 := by omega
        clear htk
        go_wp2_with (at_builtin; go_must (refine appR (e := i64E) rfl _ _ rfl (unhide HO) rfl y rfl _ rfl rfl hlen hz ?_); intro v' w6 hown6 hb6 hg6; obtain ⟨a3, c3, hv'⟩ := hown6.form; subst hv')
        go_roundw
        case rel => exact ⟨k + 1, by go_num, by omega, by have := hb6.size; omega, hide (by rw [unhide HT, show q + 1 = (cutZ x (ls.take k) ++ [y]).length from by rw [List.length_append, hq]; rfl]; exact hown6), hide ((unhide HB).trans hb6)⟩
        case measure => simp [intOf]; omega
    · obtain rfl : k = n := by omega
      have ht : ls.take k = ls := List.take_of_length_le (by rw [(unhide HH).len]; exact Nat.le_refl _)
      rw [ht] at HO hq
      subst hq
      go_wp2_with fail
      go_ret
      exact ⟨a2, c2, rfl, (unhide HO).at, unhide HB, (unhide HO).bl⟩

set_option maxRecDepth 10000 in
set_option maxHeartbeats 4000000 in
theorem l9Put_calls (a : Option Addr) (n c : Nat) (ls : List Int) (x : Int) (w : World) (h : IntsAt w a n ls) :
    Calls Tryd.prog 22 #[.slice a n c, .int .i64 x] w (LsPost (putZ x ls) w) := by
  have HH := hide h
  have hbn := h.bn
  clear h
  go_enter Tryd.func22, Tryd.ntmps22
  go_wp2_with fail
  go_loopw [5, 6, 7] (fun s5 s6 s7 wr => ∃ (k : Nat) (d : Bool) (o : List Int), s6 = .bool d ∧ s7 = .int .i64 k ∧ k ≤ n ∧ o.length ≤ k + 1 ∧ Hid (d = false → o.length ≤ k) ∧ w.heap.size ≤ wr.heap.size ∧ Hid (o ++ (if d = true then ls.drop k else putZ x (ls.drop k)) = putZ x ls) ∧ Hid (OwnR i64E wr w.heap.size s5 o) ∧ Hid (Below w.heap.size w wr)) (fun _ _ s7 _ => n - (intOf s7).toNat)
  case atStart => exact ⟨0, false, [], rfl, rfl, by omega, by simp, hide (by simp), by simp, hide (by simp), hide (ownR_empty i64E _ _ (Nat.le_refl _)), hide (bel1 _ _)⟩
  case round =>
    obtain ⟨k, d, o, rfl, rfl, hk, ho, HDF, hz, HE, HO, HB⟩ := hrel
    obtain ⟨a2, c2, hv⟩ := (unhide HO).form
    subst hv
    obtain ⟨q, hq⟩ : ∃ q, o.length = q := ⟨_, rfl⟩
    rw [hq] at HO ho ⊢
    have hlen : o.length < 100000000 := by omega
    by_cases hkn : k < n
    · have hkl : k < ls.length := by rw [(unhide HH).len]; exact hkn
      have HRW := hide (fun (W : World) (hW : Below w.heap.size w W) => ((unhide HH).below hW).row.ix k hkl)
      obtain ⟨g, e1, l1, p0, -⟩ := ((unhide HH).below (unhide HB)).row.ix k hkl
      have hdr := List.drop_eq_getElem_cons hkl
      have hE := unhide HE
      rw [hdr] at hE
      have HC := hide (fun (W : World) (hW : Below w.heap.size w W) => (show W.cell? ⟨g, k, none⟩ = some (.int .i64 ls[k]) from by
        obtain ⟨g', e', -, r0, -⟩ := unhide HRW W hW
        rw [e1] at e'
        obtain rfl : g = g' := by simpa using e'
        exact r0))
      generalize ls[k] = y at p0 hE HC
      subst e1
      have i0 : (0 : Int) ≤ (k : Int) := by omega
      have i1 : (k : Int) < (n : Int) := by omega
      clear HE hdr HRW
      cases d with
      | true =>
        rw [if_pos rfl] at hE
        have HE2 := hide (show (o ++ [y]) ++ (if true = true then ls.drop (k + 1) else putZ x (ls.drop (k + 1))) = putZ x ls from by rw [if_pos rfl, List.append_assoc]; exact hE)
        clear hE
        go_wp2_with (at_builtin; go_must (refine appR (e := i64E) rfl _ _ rfl (unhide HO) rfl y rfl _ rfl rfl hlen hz ?_); intro v' w6 hown6 hb6 hg6; obtain ⟨a3, c3, hv'⟩ := hown6.form; subst hv')
        go_roundw
        case rel => exact ⟨k + 1, true, o ++ [y], rfl, by go_num, by omega, by simp; omega, hide (by simp), by have := hb6.size; omega, HE2, hide (by rw [show q + 1 = (o ++ [y]).length from by rw [List.length_append, hq]; rfl]; exact hown6), hide ((unhide HB).trans hb6)⟩
        case measure => simp [intOf]; omega
      | false =>
        rw [if_neg (by decide)] at hE
        rw [putZ] at hE
        by_cases hxy : x < y
        · rw [if_pos hxy] at hE
          have HE2 := hide (show (o ++ [x] ++ [y]) ++ (if true = true then ls.drop (k + 1) else putZ x (ls.drop (k + 1))) = putZ x ls from by rw [if_pos rfl, List.append_assoc, List.append_assoc]; exact hE)
          clear hE
          have hlen2 : (o ++ [x]).length < 100000000 := by rw [List.length_append, List.length_singleton]; omega
          have hq1 : (o ++ [x]).length = q + 1 := by rw [List.length_append, hq]; rfl
          go_wp2_with (first
            | (at_builtin; refine appR (e := i64E) rfl _ _ rfl (unhide HO) rfl x rfl _ rfl rfl hlen hz ?_; intro v' w6 hown6 hb6 hg6; obtain ⟨a3, c3, hv'⟩ := hown6.form; subst hv'; rw [hq1] at hown6; have HO6 := hide hown6; have hz6 : w.heap.size ≤ w6.heap.size := Nat.le_trans hz hb6.size; have p6 := unhide HC w6 ((unhide HB).trans hb6); rw [hq1])
            | (at_builtin; refine appR (e := i64E) rfl _ _ rfl (unhide HO6) rfl y rfl _ rfl rfl hlen2 hz6 ?_; intro v'' w7 hown7 hb7 hg7; obtain ⟨a4, c4, hv''⟩ := hown7.form; subst hv''))
          go_roundw
          case rel => exact ⟨k + 1, true, o ++ [x] ++ [y], rfl, by go_num, by omega, by have := unhide HDF rfl; simp; omega, hide (by simp), by have := hb7.size; omega, HE2, hide (by first | exact hown7 | (rw [show q + 1 + 1 = (o ++ [x] ++ [y]).length from by rw [List.length_append, List.length_append, hq]; rfl]; exact hown7)), hide (((unhide HB).trans hb6).trans hb7)⟩
          case measure => simp [intOf]; omega
        · rw [if_neg hxy] at hE
          have HE2 := hide (show (o ++ [y]) ++ (if false = true then ls.drop (k + 1) else putZ x (ls.drop (k + 1))) = putZ x ls from by rw [if_neg (by decide), List.append_assoc]; exact hE)
          clear hE
          go_wp2_with (at_builtin; go_must (refine appR (e := i64E) rfl _ _ rfl (unhide HO) rfl y rfl _ rfl rfl hlen hz ?_); intro v' w6 hown6 hb6 hg6; obtain ⟨a3, c3, hv'⟩ := hown6.form; subst hv')
          go_roundw
          case rel => exact ⟨k + 1, false, o ++ [y], by simp, by go_num, by omega, by simp; omega, hide (fun _ => by have := unhide HDF rfl; simp; omega), by have := hb6.size; omega, HE2, hide (by rw [show q + 1 = (o ++ [y]).length from by rw [List.length_append, hq]; rfl]; exact hown6), hide ((unhide HB).trans hb6)⟩
          case measure => simp [intOf]; omega
    · obtain rfl : k = n := by omega
      have ht : ls.drop k = [] := List.drop_of_length_le (by rw [(unhide HH).len]; exact Nat.le_refl _)
      have hE := unhide HE
      rw [ht] at hE
      clear HE
      cases d with
      | true =>
        rw [if_pos rfl, List.append_nil] at hE
        subst hE
        subst hq
        go_wp2_with fail
        go_ret
        exact ⟨a2, c2, rfl, (unhide HO).at, unhide HB, (unhide HO).bl⟩
      | false =>
        rw [if_neg (by decide), putZ] at hE
        have HE2 := hide hE
        clear hE
        go_wp2_with (at_builtin; go_must (refine appR (e := i64E) rfl _ _ rfl (unhide HO) rfl x rfl _ rfl rfl hlen hz ?_); intro v' w6 hown6 hb6 hg6; obtain ⟨a3, c3, hv'⟩ := hown6.form; subst hv')
        go_ret
        rw [unhide HE2] at hown6
        exact ⟨a3, c3, by rw [← unhide HE2]; first | rfl | simp [hq], hown6.at, (unhide HB).trans hb6, hown6.bl⟩
end Go.Proofs.YtmmibkbodcfkkaaDoor
