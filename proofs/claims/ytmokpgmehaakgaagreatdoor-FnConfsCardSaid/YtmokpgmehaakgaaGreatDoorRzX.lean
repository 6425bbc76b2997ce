/- Texts of one kind, put together. -/
import Derived.Test.YtmokpgmehaakgaaGreatDoorChaK
import Derived.Test.YtmokpgmehaakgaaGreatDoorStpM

/- Changes of members, by the specification: lists copied, put into, cut out of. -/
namespace Go.Proofs.YtmokpgmehaakgaaGreatDoor
open Go.RowKit Plain
set_option linter.unusedVariables false

/-- A list that is answered. -/
def LsPost (ls : List Int) (w : World) (e : Ending) (w' : World) : Prop := ∃ a1 c1, e = .returned (.slice a1 ls.length c1) ∧ RowAt i64E w' a1 ls ∧ Below w.heap.size w w' ∧ ∀ g, inB a1 g → w.heap.size ≤ g ∧ g < w'.heap.size

set_option maxRecDepth 10000 in
set_option maxHeartbeats 2000000 in
theorem l9Cut_calls (a : Option Addr) (n c : Nat) (ls : List Int) (x : Int) (w : World) (h : IntsAt w a n ls) :
    Calls Tryz.prog 24 #[.slice a n c, .int .i64 x] w (LsPost (cutZ x ls) w) := by
  have HH := hide h
  have hbn := h.bn
  clear h
  go_enter Tryz.func24, Tryz.ntmps24
  go_wp2_with fail
  go_loopw [5, 6] (fun s5 s6 wr => ∃ k : Nat, s6 = .int .i64 k ∧ k ≤ n ∧ w.heap.size ≤ wr.heap.size ∧ Hid (OwnR i64E wr w.heap.size s5 (cutZ x (ls.take k))) ∧ Hid (Below w.heap.size w wr)) (fun _ s6 _ => n - (intOf s6).toNat)
  case atStart => exact ⟨0, rfl, by omega, by simp, hide (ownR_empty i64E _ _ (Nat.le_refl _)), hide (bel1 _ _)⟩
  case round =>
    obtain ⟨k, rfl, hk, hz, HO, HB⟩ := hrel
    obtain ⟨a2, c2, hv⟩ := (unhide HO).form
    subst hv
    have hcl := cutZ_len x (ls.take k)
    rw [List.length_take] at hcl
    obtain ⟨q, hq⟩ : ∃ q, (cutZ x (ls.take k)).length = q := ⟨_, rfl⟩
    rw [hq] at HO hcl ⊢
    by_cases hkn : k < n
    · have hkl : k < ls.length := by rw [(unhide HH).len]; exact hkn
      obtain ⟨g, e1, l1, p0, -⟩ := ((unhide HH).below (unhide HB)).row.ix k hkl
      have htk : cutZ x (ls.take (k + 1)) = cutZ x (ls.take k) ++ (if ls[k] = x then [] else [ls[k]]) := by
        unfold cutZ
        rw [List.take_succ_eq_append_getElem hkl, List.filter_append, List.filter_cons, List.filter_nil]
        by_cases hx : ls[k] = x <;> simp [hx]
      generalize ls[k] = y at p0 htk
      subst e1
      have i0 : (0 : Int) ≤ (k : Int) := by omega
      have i1 : (k : Int) < (n : Int) := by omega
      by_cases hxy : y = x
      · subst hxy
        rw [if_pos rfl, List.append_nil] at htk
        have HT := hide htk
        clear htk
        go_wp2_with fail
        go_roundw
        case rel => exact ⟨k + 1, by go_num, by omega, hz, hide (by rw [unhide HT]; exact unhide HO), HB⟩
        case measure => simp [intOf]; omega
      · rw [if_neg hxy] at htk
        have HT := hide htk
        have hne : (y != x) = true := by rw [bne_iff_ne]; exact hxy
        have hlen : (cutZ x (ls.take k)).length < 100000000 := by omega
        clear htk
        go_wp2_with (at_builtin; go_must (refine appR (e := i64E) rfl _ _ rfl (unhide HO) rfl y rfl _ rfl rfl hlen hz ?_); intro v' w6 hown6 hb6 hg6; obtain ⟨a3, c3, hv'⟩ := hown6.form; subst hv')
        go_roundw
        case rel => exact ⟨k + 1, by go_num, by omega, by have := hb6.size; omega, hide (by rw [unhide HT, show q + 1 = (cutZ x (ls.take k) ++ [y]).length from by rw [List.length_append, hq]; rfl]; exact hown6), hide ((unhide HB).trans hb6)⟩
        case measure => simp [intOf]; omega
    · obtain rfl : k = n := by omega
      have ht : ls.take k = ls := List.take_of_length_le (by rw [(unhide HH).len]; exact Nat.le_refl _)
      rw [ht] at HO hq
      subst hq
      go_wp2_with fail
      go_ret
      exact ⟨a2, c2, rfl, (unhide HO).at, unhide HB, (unhide HO).bl⟩

set_option maxRecDepth 10000 in
set_option maxHeartbeats 4000000 in
theorem l9Put_calls (a : Option Addr) (n c : Nat) (ls : List Int) (x : Int) (w : World) (h : IntsAt w a n ls) :
    Calls Tryz.prog 23 #[.slice a n c, .int .i64 x] w (LsPost (putZ x ls) w) := by
  have HH := hide h
  have hbn := h.bn
  clear h
  go_enter Tryz.func23, Tryz.ntmps23
  go_wp2_with fail
  go_loopw [5, 6, 7] (fun s5 s6 s7 wr => ∃ (k : Nat) (d : Bool) (o : List Int), s6 = .bool d ∧ s7 = .int .i64 k ∧ k ≤ n ∧ o.length ≤ k + 1 ∧ Hid (d = false → o.length ≤ k) ∧ w.heap.size ≤ wr.heap.size ∧ Hid (o ++ (if d = true then ls.drop k else putZ x (ls.drop k)) = putZ x ls) ∧ Hid (OwnR i64E wr w.heap.size s5 o) ∧ Hid (Below w.heap.size w wr)) (fun _ _ s7 _ => n - (intOf s7).toNat)
  case atStart => exact ⟨0, false, [], rfl, rfl, by omega, by simp, hide (by simp), by simp, hide (by simp), hide (ownR_empty i64E _ _ (Nat.le_refl _)), hide (bel1 _ _)⟩
  case round =>
    obtain ⟨k, d, o, rfl, rfl, hk, ho, HDF, hz, HE, HO, HB⟩ := hrel
    obtain ⟨a2, c2, hv⟩ := (unhide HO).form
    subst hv
    obtain ⟨q, hq⟩ : ∃ q, o.length = q := ⟨_, rfl⟩
    rw [hq] at HO ho ⊢
    have hlen : o.length < 100000000 := by omega
    by_cases hkn : k < n
    · have hkl : k < ls.length := by rw [(unhide HH).len]; exact hkn
      have HRW := hide (fun (W : World) (hW : Below w.heap.size w W) => ((unhide HH).below hW).row.ix k hkl)
      obtain ⟨g, e1, l1, p0, -⟩ := ((unhide HH).below (unhide HB)).row.ix k hkl
      have hdr := List.drop_eq_getElem_cons hkl
      have hE := unhide HE
      rw [hdr] at hE
      have HC := hide (fun (W : World) (hW : Below w.heap.size w W) => (show W.cell? ⟨g, k, none⟩ = some (.int .i64 ls[k]) from by
        obtain ⟨g', e', -, r0, -⟩ := unhide HRW W hW
        rw [e1] at e'
        obtain rfl : g = g' := by simpa using e'
        exact r0))
      generalize ls[k] = y at p0 hE HC
      subst e1
      have i0 : (0 : Int) ≤ (k : Int) := by omega
      have i1 : (k : Int) < (n : Int) := by omega
      clear HE hdr HRW
      cases d with
      | true =>
        rw [if_pos rfl] at hE
        have HE2 := hide (show (o ++ [y]) ++ (if true = true then ls.drop (k + 1) else putZ x (ls.drop (k + 1))) = putZ x ls from by rw [if_pos rfl, List.append_assoc]; exact hE)
        clear hE
        go_wp2_with (at_builtin; go_must (refine appR (e := i64E) rfl _ _ rfl (unhide HO) rfl y rfl _ rfl rfl hlen hz ?_); intro v' w6 hown6 hb6 hg6; obtain ⟨a3, c3, hv'⟩ := hown6.form; subst hv')
        go_roundw
        case rel => exact ⟨k + 1, true, o ++ [y], rfl, by go_num, by omega, by simp; omega, hide (by simp), by have := hb6.size; omega, HE2, hide (by rw [show q + 1 = (o ++ [y]).length from by rw [List.length_append, hq]; rfl]; exact hown6), hide ((unhide HB).trans hb6)⟩
        case measure => simp [intOf]; omega
      | false =>
        rw [if_neg (by decide)] at hE
        rw [putZ] at hE
        by_cases hxy : x < y
        · rw [if_pos hxy] at hE
          have HE2 := hide (show (o ++ [x] ++ [y]) ++ (if true = true then ls.drop (k + 1) else putZ x (ls.drop (k + 1))) = putZ x ls from by rw [if_pos rfl, List.append_assoc, List.append_assoc]; exact hE)
          clear hE
          have hlen2 : (o ++ [x]).length < 100000000 := by rw [List.length_append, List.length_singleton]; omega
          have hq1 : (o ++ [x]).length = q + 1 := by rw [List.length_append, hq]; rfl
          go_wp2_with (first
            | (at_builtin; refine appR (e := i64E) rfl _ _ rfl (unhide HO) rfl x rfl _ rfl rfl hlen hz ?_; intro v' w6 hown6 hb6 hg6; obtain ⟨a3, c3, hv'⟩ := hown6.form; subst hv'; rw [hq1] at hown6; have HO6 := hide hown6; have hz6 : w.heap.size ≤ w6.heap.size := Nat.le_trans hz hb6.size; have p6 := unhide HC w6 ((unhide HB).trans hb6); rw [hq1])
            | (at_builtin; refine appR (e := i64E) rfl _ _ rfl (unhide HO6) rfl y rfl _ rfl rfl hlen2 hz6 ?_; intro v'' w7 hown7 hb7 hg7; obtain ⟨a4, c4, hv''⟩ := hown7.form; subst hv''))
          go_roundw
          case rel => exact ⟨k + 1, true, o ++ [x] ++ [y], rfl, by go_num, by omega, by have := unhide HDF rfl; simp; omega, hide (by simp), by have := hb7.size; omega, HE2, hide (by first | exact hown7 | (rw [show q + 1 + 1 = (o ++ [x] ++ [y]).length from by rw [List.length_append, List.length_append, hq]; rfl]; exact hown7)), hide (((unhide HB).trans hb6).trans hb7)⟩
          case measure => simp [intOf]; omega
        · rw [if_neg hxy] at hE
          have HE2 := hide (show (o ++ [y]) ++ (if false = true then ls.drop (k + 1) else putZ x (ls.drop (k + 1))) = putZ x ls from by rw [if_neg (by decide), List.append_assoc]; exact hE)
          clear hE
          go_wp2_with (at_builtin; go_must (refine appR (e := i64E) rfl _ _ rfl (unhide HO) rfl y rfl _ rfl rfl hlen hz ?_); intro v' w6 hown6 hb6 hg6; obtain ⟨a3, c3, hv'⟩ := hown6.form; subst hv')
          go_roundw
          case rel => exact ⟨k + 1, false, o ++ [y], by simp, by go_num, by omega, by simp; omega, hide (fun _ => by have := unhide HDF rfl; simp; omega), by have := hb6.size; omega, HE2, hide (by rw [show q + 1 = (o ++ [y]).length from by rw [List.length_append, hq]; rfl]; exact hown6), hide ((unhide HB).trans hb6)⟩
          case measure => simp [intOf]; omega
    · obtain rfl : k = n := by omega
      have ht : ls.drop k = [] := List.drop_of_length_le (by rw [(unhide HH).len]; exact Nat.le_refl _)
      have hE := unhide HE
      rw [ht] at hE
      clear HE
      cases d with
      | true =>
        rw [if_pos rfl, List.append_nil] at hE
        subst hE
        subst hq
        go_wp2_with fail
        go_ret
        exact ⟨a2, c2, rfl, (unhide HO).at, unhide HB, (unhide HO).bl⟩
      | false =>
        rw [if_neg (by decide), putZ] at hE
        have HE2 := hide hE
        clear hE
        go_wp2_with (at_builtin; go_must (refine appR (e := i64E) rfl _ _ rfl (unhide HO) rfl x rfl _ rfl rfl hlen hz ?_); intro v' w6 hown6 hb6 hg6; obtain ⟨a3, c3, hv'⟩ := hown6.form; subst hv')
        go_ret
        rw [unhide HE2] at hown6
        exact ⟨a3, c3, by rw [← unhide HE2]; first | rfl | simp [hq], hown6.at, (unhide HB).trans hb6, hown6.bl⟩
end Go.Proofs.YtmokpgmehaakgaaGreatDoor


/- Members copied, by the specification. -/
namespace Go.Proofs.YtmokpgmehaakgaaGreatDoor
open Go.RowKit Plain
set_option linter.unusedVariables false

/-- What l9Copy leaves. -/
def C9Post (v l : List Int) (w : World) (e : Ending) (w' : World) : Prop := ∃ a1 c1 a2 c2, e = .returned (.agg #[.slice a1 v.length c1, .slice a2 l.length c2]) ∧ CcPost v l w a1 c1 a2 c2 w'
/-- The block of the answer may be written. -/
structure Plain.NQ2 (b : Nat) (W : World) : Prop where
  lt : b < W.heap.size
  e0 : ∃ u, W.cell? ⟨b, 0, none⟩ = some u
  e1 : ∃ u, W.cell? ⟨b, 1, none⟩ = some u
  z0 : W.frozen? ⟨b, 0, none⟩ = false
  z1 : W.frozen? ⟨b, 1, none⟩ = false
/-- What holds while members are copied. -/
def Plain.SX2 (n : Nat) (W0 W : World) : Prop := Below (n + 1) W0 W ∧ NQ2 (n + 1) W
theorem Plain.SX2.step {n : Nat} {W0 X X' : World} (h : SX2 n W0 X) (hb : Below X.heap.size X X') (hn : n + 1 ≤ W0.heap.size) : SX2 n W0 X' := by
  obtain ⟨h1, h2⟩ := h
  obtain ⟨u0, q0⟩ := h2.e0
  obtain ⟨u1, q1⟩ := h2.e1
  exact ⟨h1.trans (hb.mono (Nat.le_trans hn h1.size)), Nat.lt_of_lt_of_le h2.lt hb.size, ⟨u0, bcl hb h2.lt q0⟩, ⟨u1, bcl hb h2.lt q1⟩, (hb.frozen (p := ⟨n + 1, 0, none⟩) h2.lt).trans h2.z0, (hb.frozen (p := ⟨n + 1, 1, none⟩) h2.lt).trans h2.z1⟩
theorem Plain.SX2.al {n : Nat} {W0 X : World} {o : Obj} (h : SX2 n W0 X) (hn : n + 1 ≤ W0.heap.size) : SX2 n W0 (X.alloc o) := h.step (bel1 X o) hn
theorem Plain.SX2.ald {n : Nat} {W0 X : World} {o : Obj} (h : SX2 n W0 X.drew) (hn : n + 1 ≤ W0.heap.size) : SX2 n W0 (X.alloc o).drew := h.step (bel1 X.drew o) hn
theorem Plain.cell_setI {W : World} {b i : Nat} {u v : Value} (h : W.cell? ⟨b, i, none⟩ = some v) : (W.setCell ⟨b, i, none⟩ u).cell? ⟨b, i, none⟩ = some u := World.cell?_setCell_same' _ _ _ (by rw [h]; rfl)
theorem Plain.cell_offI {W : World} {b i g j : Nat} {u : Value} (h : b ≠ g ∨ i ≠ j) : (W.setCell ⟨b, i, none⟩ u).cell? ⟨g, j, none⟩ = W.cell? ⟨g, j, none⟩ := World.cell?_setCell_other _ ⟨b, i, none⟩ ⟨g, j, none⟩ _ (fun q => by have h1 := congrArg Addr.block q; have h2 := congrArg Addr.off q; simp at h1 h2; omega)
theorem Plain.SX2.set {n : Nat} {W0 X : World} {v0 v1 : Value} (h : SX2 n W0 X) : SX2 n W0 ((X.setCell ⟨n + 1, 0, none⟩ v0).setCell ⟨n + 1, 1, none⟩ v1) := by
  obtain ⟨h1, h2⟩ := h
  obtain ⟨u0, q0⟩ := h2.e0
  obtain ⟨u1, q1⟩ := h2.e1
  refine ⟨(h1.setCell (Nat.le_refl _) _).setCell (Nat.le_refl _) _, by simpa using h2.lt, ⟨v0, ?_⟩, ⟨v1, ?_⟩, ?_, ?_⟩
  · exact (cell_offI (.inr (by decide))).trans (cell_setI q0)
  · exact cell_setI ((cell_offI (.inr (by decide))).trans q1)
  · rw [World.frozen?_setCell, World.frozen?_setCell]; exact h2.z0
  · rw [World.frozen?_setCell, World.frozen?_setCell]; exact h2.z1
theorem ccRet {w w4 : World} {B rb : Nat} {y1 y2 : Option Addr} {k1 k2 : Nat} {v l : List Int} (h1 : RowAt i64E w4 y1 v) (h2 : RowAt i64E w4 y2 l)
    (m1 : ∀ k, inB y1 k → B ≤ k ∧ k < w4.heap.size) (m2 : ∀ k, inB y2 k → B ≤ k ∧ k < w4.heap.size) (hrb : w.heap.size ≤ rb) (hB : rb < B) (hb : Below w.heap.size w w4) : C9Post v l w (.returned (.agg #[.slice y1 v.length k1, .slice y2 l.length k2])) ((w4.setCell ⟨rb, 0, none⟩ (.slice y1 v.length k1)).setCell ⟨rb, 1, none⟩ (.slice y2 l.length k2)) :=
  ⟨y1, k1, y2, k2, rfl, h1.set2 (fun k hk => by have := m1 k hk; omega), h2.set2 (fun k hk => by have := m2 k hk; omega), fun k hk => by have := m1 k hk; simp; omega, fun k hk => by have := m2 k hk; simp; omega, (hb.setCell hrb _).setCell hrb _⟩

set_option maxRecDepth 10000 in
set_option maxHeartbeats 8000000 in
theorem l9Copy_callsA (aV : Option Addr) (nv cv : Nat) (v : List Int) (aL : Option Addr) (nl cl : Nat) (l : List Int) (w : World) (h : ConfAt w aV nv v aL nl l) (dV : AdG aV cv) (dL : AdG aL cl) :
    Calls Tryz.prog 20 #[.agg #[.slice aV nv cv, .slice aL nl cl]] w (C9Post v l w) := by
  obtain ⟨Wa, hWa⟩ : ∃ Wa, Wa = w.alloc (.cells #[.slice aV nv cv, .slice aL nl cl] 26) := ⟨_, rfl⟩
  obtain ⟨W0, hW0⟩ : ∃ W0, W0 = Wa.alloc (.cells #[.slice none 0 0, .slice none 0 0] 26) := ⟨_, rfl⟩
  have hba : Below w.heap.size w Wa := by rw [hWa]; exact bel1 _ _
  have hsa : Wa.heap.size = w.heap.size + 1 := by rw [hWa]; simp
  have hs0 : W0.heap.size = w.heap.size + 2 := by rw [hW0]; simp [hsa]
  have hb0 : Below Wa.heap.size Wa W0 := by rw [hW0]; exact bel1 _ _
  have c0 : W0.cell? ⟨w.heap.size, 0, none⟩ = some (.slice aV nv cv) := bcl hb0 (by omega) (by rw [hWa]; simp [go_sem])
  have c1 : W0.cell? ⟨w.heap.size, 1, none⟩ = some (.slice aL nl cl) := bcl hb0 (by omega) (by rw [hWa]; simp [go_sem])
  have hr : ∀ i, i < 2 → W0.cell? ⟨w.heap.size + 1, i, none⟩ = some (.slice none 0 0) ∧ W0.frozen? ⟨w.heap.size + 1, i, none⟩ = false := by
    intro i hi
    rw [hW0, ← hsa]
    rcases i with _ | _ | i
    all_goals first | omega | simp [go_sem]
  have HFIN := hide (fun (W : World) (hW : Below W0.heap.size W0 W) => belOn (belOn hba hb0) hW)
  have HW0 := hide (show (w.alloc (.cells #[.slice aV nv cv, .slice aL nl cl] 26)).alloc (.cells #[.slice none 0 0, .slice none 0 0] 26) = W0 from by rw [hW0, hWa])
  have HLV := hide h.v.len
  have HDV := hide dV
  have HDL := hide dL
  have HLL := hide h.l.len
  have hbv := h.v.bn
  have hbl := h.l.bn
  have l0 : w.heap.size < W0.heap.size := by omega
  have l1 : w.heap.size + 1 < W0.heap.size := by omega
  obtain ⟨r0, z0⟩ := hr 0 (by decide)
  obtain ⟨r1, z1⟩ := hr 1 (by decide)
  have hn1 : w.heap.size + 1 ≤ W0.heap.size := by omega
  have X0 := fun (W : World) (hW : SX2 w.heap.size W0 W) => bcl hW.1 (show w.heap.size < w.heap.size + 1 by omega) c0
  have X1 := fun (W : World) (hW : SX2 w.heap.size W0 W) => bcl hW.1 (show w.heap.size < w.heap.size + 1 by omega) c1
  have hbw := belOn hba hb0
  have HRV := hide (fun (W : World) (hW : SX2 w.heap.size W0 W) => h.v.row.below (hbw.trans (hW.1.mono (by omega))))
  have HRL := hide (fun (W : World) (hW : SX2 w.heap.size W0 W) => h.l.row.below (hbw.trans (hW.1.mono (by omega))))
  have Q0 : SX2 w.heap.size W0 W0.drew := ⟨belDrew (Below.refl _ _), l1, ⟨_, r0⟩, ⟨_, r1⟩, z0, z1⟩
  clear hba hb0 hWa hW0 hr h hsa hs0 hbw dV dL
  go_enter Tryz.func20, Tryz.ntmps20
  go_wp2_with fail
  rw [unhide HW0]
  go_region_held3 (fun w' => SX2 w.heap.size W0 w') (first | exact SX2.ald (by assumption) hn1 | exact SX2.al (by assumption) hn1 | exact Q2 | exact Q1 | exact Q0 | exact SX2.set Q2) (first
    | (refine stepNA (e := i64E) rfl (.tmp 3) (.tmp 5) rfl _ rfl (by first | omega | (simp <;> omega)) aV nv cv rfl (unhide HLV) (unhide HRV _ (by assumption)) (unhide HDV) hbv ?_; intro y1 k1 w2 ap1; have Q1 : SX2 w.heap.size W0 w2 := SX2.step (by assumption) ap1.below hn1; have Z2 := ap1.below.size; (try simp at Z2))
    | (refine stepNA (e := i64E) rfl (.tmp 7) (.tmp 9) rfl _ rfl (by first | omega | (simp <;> omega)) aL nl cl rfl (unhide HLL) (unhide HRL _ (by assumption)) (unhide HDL) hbl ?_; intro y2 k2 w3 ap2; have Q2 : SX2 w.heap.size W0 w3 := SX2.step (by assumption) ap2.below hn1; obtain ⟨-, nlt, ⟨u0, t0⟩, ⟨u1, t1⟩, v0, v1⟩ := Q2; have Q2 : SX2 w.heap.size W0 w3 := SX2.step (by assumption) ap2.below hn1))
  all_goals (have B2 : Below W0.heap.size W0 _ := belOn (by first | exact belDrew (bel1 _ _) | exact belDrew (belOn (bel1 _ _) (bel1 _ _))) ap1.below)
  all_goals (have K23 : Below w2.heap.size w2 w3 := belOn (by first | exact Below.refl _ _ | exact bel1 _ _ | exact belOn (bel1 _ _) (bel1 _ _)) ap2.below)
  all_goals (have B4 := belOn B2 K23)
  all_goals (have Z4 := ap2.below.size)
  all_goals (try simp at Z4)
  all_goals (have HY1 := hide (ap1.row.below K23))
  all_goals (have HY2 := hide ap2.row)
  all_goals (have HM1 := hide (show ∀ k, inB y1 k → W0.heap.size ≤ k ∧ k < w3.heap.size from fun k hk => by have h2 := (ap1.bl k hk).2; have := K23.size; rcases (ap1.bl k hk).1 with q | q; all_goals (first | omega | (simp at q; omega))))
  all_goals (have HM2 := hide (show ∀ k, inB y2 k → W0.heap.size ≤ k ∧ k < w3.heap.size from fun k hk => by have h2 := (ap2.bl k hk).2; rcases (ap2.bl k hk).1 with q | q; all_goals (first | omega | (simp at q; omega))))
  all_goals (have HB4 := hide B4)
  all_goals clear ap1 ap2 B2 B4 K23 Z2 Z4 c0 c1 r0 r1 z0 z1 Q0 Q1 Q2
  all_goals (try go_wp2_with fail)
  all_goals refine bodyPost_ret (v := .agg #[.slice y1 nv k1, .slice y2 nl k2]) (by simp [results, Tryz.results20, go_sem, t0, t1]) rfl ?_
  all_goals (have hn1 := unhide HLV)
  all_goals (have hn2 := unhide HLL)
  all_goals (subst hn1 hn2)
  all_goals exact ccRet (unhide HY1) (unhide HY2) (unhide HM1) (unhide HM2) (by omega) l1 (unhide HFIN _ (unhide HB4))
end Go.Proofs.YtmokpgmehaakgaaGreatDoor


/- Changes of members: the specification's ways. -/
namespace Go.Proofs.YtmokpgmehaakgaaGreatDoor
open Go.RowKit Plain
set_option linter.unusedVariables false
namespace Plain
theorem cutZ_off (x : Int) (l : List Int) (h : x ∉ l) : cutZ x l = l := by
  unfold cutZ
  rw [List.filter_eq_self]
  intro a ha
  simp only [decide_eq_true_iff]
  rintro rfl
  exact h ha
theorem cf_facts (v l : List Int) (h : confB v l = true) : okIds 0 v = true ∧ okIds 0 l = true ∧ 1 ≤ v.length ∧ disjB v l = true ∧ v.length ≤ 7 ∧ l.length ≤ 7 := by
  unfold confB at h
  simp only [Bool.and_eq_true, decide_eq_true_iff] at h
  exact ⟨h.1.1, h.1.2, h.2.1.1, h.2.1.2, h.2.2.1, h.2.2.2⟩
theorem disj_not {v l : List Int} (h : disjB v l = true) (x : Int) (hx : x ∈ l) : x ∉ v := by
  unfold disjB at h
  rw [List.all_eq_true] at h
  simpa using h x hx
theorem nxt_disj (kind id : Int) (v l : List Int) (h : disjB v l = true) : disjB (nxtV kind id v) (nxtL kind id l) = true := by
  unfold disjB
  rw [List.all_eq_true]
  intro y hy
  have hv : y ∉ nxtV kind id v := by
    intro hv
    unfold nxtL at hy
    unfold nxtV at hv
    have a1 : (y = id ∧ kind = 1) ∨ (y ≠ id ∧ y ∈ l) := by
      split at hy
      · rw [mem_putZ, mem_cutZ] at hy
        rcases hy with q | q
        · exact .inl ⟨q, by assumption⟩
        · exact .inr ⟨q.2, q.1⟩
      · rw [mem_cutZ] at hy
        exact .inr ⟨hy.2, hy.1⟩
    have a2 : (y = id ∧ kind = 2) ∨ (y ≠ id ∧ y ∈ v) := by
      split at hv
      · rw [mem_putZ, mem_cutZ] at hv
        rcases hv with q | q
        · exact .inl ⟨q, by assumption⟩
        · exact .inr ⟨q.2, q.1⟩
      · rw [mem_cutZ] at hv
        exact .inr ⟨hv.2, hv.1⟩
    rcases a1 with q1 | q1 <;> rcases a2 with q2 | q2
    · omega
    · exact q2.1 q1.1
    · exact q1.1 q2.1
    · exact disj_not h y q1.2 q2.2
  simpa using hv
theorem nxt_conf (kind id : Int) (v l : List Int) (h : confB v l = true) (i1 : 1 ≤ id) (i50 : id ≤ 50) (hn : (nxtV kind id v).length ≠ 0) : confB (nxtV kind id v) (nxtL kind id l) = (decide ((nxtV kind id v).length ≤ 7) && decide ((nxtL kind id l).length ≤ 7)) := by
  obtain ⟨o1, o2, -, dj, -, -⟩ := cf_facts v l h
  unfold confB
  rw [nxtV_ok kind id v i1 i50 o1, nxtL_ok kind id l i1 i50 o2, nxt_disj kind id v l dj, decide_eq_true (show 1 ≤ (nxtV kind id v).length by omega)]
  simp only [Bool.and_self, Bool.true_and]
/-- A change that is found and leaves a voter. -/
theorem chg_go (kind id : Int) (v l x y : List Int) (h : confB v l = true) (k1 : 1 ≤ kind) (k3 : kind ≤ 3) (i1 : 1 ≤ id) (i50 : id ≤ 50) (hf : findB kind id v l = true) (hx : nxtV kind id v = x) (hy : nxtL kind id l = y) (hn : x.length ≠ 0) :
    chgS kind id v l = if confB x y = true then (x, y, 0) else (v, l, 14) := by
  have hc := nxt_conf kind id v l h i1 i50 (by rw [hx]; exact hn)
  unfold chgS
  rw [if_pos (by simp [k1, k3, i1, i50]), if_pos hf, hx, hy, if_neg hn]
  rw [hx, hy] at hc
  rw [hc]
  by_cases q1 : x.length ≤ 7
  · by_cases q2 : y.length ≤ 7
    · rw [if_neg (by omega), if_pos (by simp [q1, q2])]
    · rw [if_pos (by omega), if_neg (by simp [q2])]
  · rw [if_pos (by omega), if_neg (by simp [q1])]
theorem chg_there (kind id : Int) (v l : List Int) (k1 : 1 ≤ kind) (k3 : kind ≤ 3) (i1 : 1 ≤ id) (i50 : id ≤ 50) (hf : findB kind id v l = false) : chgS kind id v l = (v, l, 12) := by
  unfold chgS
  rw [if_pos (by simp [k1, k3, i1, i50]), if_neg (by rw [hf]; decide)]
theorem chg_form (kind id : Int) (v l : List Int) (h : ((decide (1 ≤ kind) && decide (kind ≤ 3)) && (decide (1 ≤ id) && decide (id ≤ 50))) = false) : chgS kind id v l = (v, l, 11) := by
  unfold chgS
  rw [if_neg (by rw [h]; decide)]
theorem chg_last (id : Int) (v l : List Int) (i1 : 1 ≤ id) (i50 : id ≤ 50) (hv : id ∈ v) (h1 : v.length = 1) : chgS 3 id v l = (v, l, 13) := by
  unfold chgS
  rw [if_pos (by simp [i1, i50]), if_pos (by unfold findB; simp [hv])]
  rw [if_pos]
  match v, h1 with
  | [a], _ =>
    have : id = a := by simpa using hv
    subst this
    simp [nxtV, cutZ]
theorem cut_some (id : Int) (v : List Int) (h : okIds 0 v = true) (h1 : 1 ≤ v.length) (hn : ¬ (id ∈ v ∧ v.length = 1)) : (cutZ id v).length ≠ 0 := by
  intro q
  have hnil : cutZ id v = [] := List.length_eq_zero_iff.1 q
  have hall : ∀ a ∈ v, a = id := fun a ha => by
    by_cases e : a = id
    · exact e
    · have := (mem_cutZ id a v).2 ⟨ha, e⟩
      rw [hnil] at this
      cases this
  have hnd := (okIds_facts v 0 (by decide) h).1
  match v, h1 with
  | [a], _ => exact hn ⟨by simp [hall a (by simp)], rfl⟩
  | a :: b :: r, _ =>
    have e1 := hall a (by simp)
    have e2 := hall b (by simp)
    simp [e1, e2] at hnd
theorem chg_1 (id : Int) (v l : List Int) (h : confB v l = true) (i1 : 1 ≤ id) (i50 : id ≤ 50) (hv : id ∉ v) (hl : id ∉ l) : chgS 1 id v l = if confB v (putZ id l) = true then (v, putZ id l, 0) else (v, l, 14) :=
  chg_go 1 id v l v (putZ id l) h (by decide) (by decide) i1 i50 (by unfold findB; simp [hv, hl]) (by unfold nxtV; rw [if_neg (by decide), cutZ_off id v hv]) (by unfold nxtL; rw [if_pos rfl, cutZ_off id l hl]) (by have := (cf_facts v l h).2.2.1; omega)
theorem chg_2 (id : Int) (v l : List Int) (h : confB v l = true) (i1 : 1 ≤ id) (i50 : id ≤ 50) (hl : id ∈ l) : chgS 2 id v l = if confB (putZ id v) (cutZ id l) = true then (putZ id v, cutZ id l, 0) else (v, l, 14) :=
  chg_go 2 id v l (putZ id v) (cutZ id l) h (by decide) (by decide) i1 i50 (by unfold findB; simp [hl]) (by unfold nxtV; rw [if_pos rfl, cutZ_off id v (disj_not (cf_facts v l h).2.2.2.1 id hl)]) (by unfold nxtL; rw [if_neg (by decide)]) (by rw [putZ_len]; omega)
theorem chg_3 (id : Int) (v l : List Int) (h : confB v l = true) (i1 : 1 ≤ id) (i50 : id ≤ 50) (hm : id ∈ v ∨ id ∈ l) (hn : ¬ (id ∈ v ∧ v.length = 1)) : chgS 3 id v l = if confB (cutZ id v) (cutZ id l) = true then (cutZ id v, cutZ id l, 0) else (v, l, 14) :=
  chg_go 3 id v l (cutZ id v) (cutZ id l) h (by decide) (by decide) i1 i50 (by unfold findB; simp [hm]) (by unfold nxtV; rw [if_neg (by decide)]) (by unfold nxtL; rw [if_neg (by decide)]) (cut_some id v (cf_facts v l h).1 (cf_facts v l h).2.2.1 hn)
end Plain
end Go.Proofs.YtmokpgmehaakgaaGreatDoor

