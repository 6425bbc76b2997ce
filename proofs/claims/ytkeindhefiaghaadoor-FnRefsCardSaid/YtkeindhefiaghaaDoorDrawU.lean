/- What is drawn for references: the references and texts. -/
import Derived.Test.YtkeindhefiaghaaDoorDrawQ
import Derived.Test.YtkeindhefiaghaaDoorRef
import Derived.Deep.RegionHeld3
namespace Go.Proofs.YtkeindhefiaghaaDoor
open Go.RowKit Plain
set_option linter.unusedVariables false

namespace Plain
def RefAt (W : World) (b : Nat) (r t d : ByteArray) : Prop := W.cell? ⟨b, 0, none⟩ = some (.string r) ∧ W.cell? ⟨b, 1, none⟩ = some (.string t) ∧ W.cell? ⟨b, 2, none⟩ = some (.string d) ∧ W.frozen? ⟨b, 0, none⟩ = false ∧ W.frozen? ⟨b, 1, none⟩ = false ∧ W.frozen? ⟨b, 2, none⟩ = false
theorem RefAt.only {R b : Nat} {W W' : World} {r t d : ByteArray} (h : RefAt W b r t d) (ho : OnlyAt ⟨R, 1, none⟩ W W') (hb : b ≠ R) : RefAt W' b r t d :=
  ⟨ho.c h.1 hb, ho.c h.2.1 hb, ho.c h.2.2.1 hb, ho.z (lt_of_cell h.1) h.2.2.2.1, ho.z (lt_of_cell h.1) h.2.2.2.2.1, ho.z (lt_of_cell h.1) h.2.2.2.2.2⟩
theorem RefAt.below {b : Nat} {W W' : World} {r t d : ByteArray} (h : RefAt W b r t d) (hb : Below W.heap.size W W') : RefAt W' b r t d := by
  have hl := lt_of_cell h.1
  exact ⟨(hb.cell (p := ⟨b, 0, none⟩) hl).trans h.1, (hb.cell (p := ⟨b, 1, none⟩) hl).trans h.2.1, (hb.cell (p := ⟨b, 2, none⟩) hl).trans h.2.2.1, (hb.frozen (p := ⟨b, 0, none⟩) hl).trans h.2.2.2.1, (hb.frozen (p := ⟨b, 1, none⟩) hl).trans h.2.2.2.2.1, (hb.frozen (p := ⟨b, 2, none⟩) hl).trans h.2.2.2.2.2⟩
theorem RefAt.new (W : World) (r t d : ByteArray) (T : TypeId) : RefAt (W.alloc (.cells #[.string r, .string t, .string d] T)) W.heap.size r t d :=
  ⟨by simp [go_sem], by simp [go_sem], by simp [go_sem], by simp [go_sem], by simp [go_sem], by simp [go_sem]⟩
theorem RefAt.set0 {W : World} {b : Nat} {r t d : ByteArray} (h : RefAt W b r t d) (x : ByteArray) : RefAt (W.setCell ⟨b, 0, none⟩ (.string x)) b x t d :=
  ⟨World.cell?_setCell_same _ _ _ h.1, (World.cell?_setCell_other _ ⟨b, 0, none⟩ ⟨b, 1, none⟩ _ (by simp)).trans h.2.1, (World.cell?_setCell_other _ ⟨b, 0, none⟩ ⟨b, 2, none⟩ _ (by simp)).trans h.2.2.1, by simpa using h.2.2.2.1, by simpa using h.2.2.2.2.1, by simpa using h.2.2.2.2.2⟩
theorem RefAt.set1 {W : World} {b : Nat} {r t d : ByteArray} (h : RefAt W b r t d) (x : ByteArray) : RefAt (W.setCell ⟨b, 1, none⟩ (.string x)) b r x d :=
  ⟨(World.cell?_setCell_other _ ⟨b, 1, none⟩ ⟨b, 0, none⟩ _ (by simp)).trans h.1, World.cell?_setCell_same _ _ _ h.2.1, (World.cell?_setCell_other _ ⟨b, 1, none⟩ ⟨b, 2, none⟩ _ (by simp)).trans h.2.2.1, by simpa using h.2.2.2.1, by simpa using h.2.2.2.2.1, by simpa using h.2.2.2.2.2⟩
theorem RefAt.set2 {W : World} {b : Nat} {r t d : ByteArray} (h : RefAt W b r t d) (x : ByteArray) : RefAt (W.setCell ⟨b, 2, none⟩ (.string x)) b r t x :=
  ⟨(World.cell?_setCell_other _ ⟨b, 2, none⟩ ⟨b, 0, none⟩ _ (by simp)).trans h.1, (World.cell?_setCell_other _ ⟨b, 2, none⟩ ⟨b, 1, none⟩ _ (by simp)).trans h.2.1, World.cell?_setCell_same _ _ _ h.2.2.1, by simpa using h.2.2.2.1, by simpa using h.2.2.2.2.1, by simpa using h.2.2.2.2.2⟩
theorem RefAt.far {W : World} {b b' i : Nat} {r t d : ByteArray} (h : RefAt W b r t d) (hne : b' ≠ b) (x : Value) : RefAt (W.setCell ⟨b', i, none⟩ x) b r t d :=
  ⟨(World.cell?_setCell_other _ ⟨b', i, none⟩ ⟨b, 0, none⟩ _ (fun e => hne (congrArg Addr.block e))).trans h.1, (World.cell?_setCell_other _ ⟨b', i, none⟩ ⟨b, 1, none⟩ _ (fun e => hne (congrArg Addr.block e))).trans h.2.1, (World.cell?_setCell_other _ ⟨b', i, none⟩ ⟨b, 2, none⟩ _ (fun e => hne (congrArg Addr.block e))).trans h.2.2.1, by simpa using h.2.2.2.1, by simpa using h.2.2.2.2.1, by simpa using h.2.2.2.2.2⟩
end Plain

set_option maxHeartbeats 4000000 in
theorem ref_calls (R : Nat) (a : Option Addr) (len cap : Nat) (zs : List Int) (w : World) (h : Rd w R a len cap zs) :
    Calls Tryd.prog 21 #[.pointer (some ⟨R, 0, none⟩)] w fun e w' => ∃ r t d : ByteArray, e = .returned (.agg #[.string r, .string t, .string d]) ∧ r.size ≤ 100 ∧ t.size ≤ 100 ∧ d.size ≤ 100 ∧ Rd w' R a len cap zs ∧ OnlyAt ⟨R, 1, none⟩ w w' := by
  have hR := h.lt
  have H := hide ((DS.start h).alloc (.cells #[.string ⟨#[]⟩, .string ⟨#[]⟩, .string ⟨#[]⟩] 25))
  have HZ := hide (RefAt.new w ⟨#[]⟩ ⟨#[]⟩ ⟨#[]⟩ 25)
  clear h
  go_enter Tryd.func21, Tryd.ntmps21
  go_wp2_with fail
  refine (repo_calls R a len cap zs _ (unhide H).rd).mono ?_
  rintro e w1 ⟨r, rfl, hr, hR1, ho1⟩
  have hz1 : w.heap.size < w1.heap.size := by have := ho1.size; simp at this; omega
  have HD := hide (((unhide H).call hR1 ho1).alloc (.cells #[.string r, .string ⟨#[]⟩, .string ⟨#[]⟩] 25))
  have HZ1 := hide (((unhide HZ).only ho1 (by omega)).below (W' := w1.alloc (.cells #[.string r, .string ⟨#[]⟩, .string ⟨#[]⟩] 25)) ((Below.refl _ _).alloc (Nat.le_refl _) _))
  have HS1 := hide (RefAt.new w1 r ⟨#[]⟩ ⟨#[]⟩ 25)
  clear hR1 ho1 H HZ
  go_wp2_with fail
  refine (once_calls R a len cap zs 2 _ (unhide HD).rd (by omega) (by omega)).mono ?_
  rintro e w2 ⟨v, rfl, hR2, ho2⟩
  have HD2 := hide ((unhide HD).call hR2 ho2)
  have HZ2 := hide ((unhide HZ1).only ho2 (by omega))
  have HS2 := hide ((unhide HS1).only ho2 (by omega))
  clear hR2 ho2 HD HZ1 HS1
  cases v with
  | true =>
    go_wp2_with fail
    refine (tagg_calls R a len cap zs _ (unhide HD2).rd).mono ?_
    rintro e w3 ⟨t, rfl, ht, hR3, ho3⟩
    have HS3a := hide ((unhide HS2).only ho3 (by omega))
    have HD3 := hide (((unhide HD2).call hR3 ho3).set (b := w1.heap.size) (i := 1) hR (by omega) (.string t))
    have HZ3 := hide (((unhide HZ2).only ho3 (by omega)).far (b' := w1.heap.size) (i := 1) (by omega) (.string t))
    have HS3 := hide ((unhide HS3a).set1 t)
    obtain ⟨s0, s1, s2, f0, f1, f2⟩ := unhide HS3a
    clear hR3 ho3 HD2 HZ2 HS2 HS3a
    go_wp2_with fail
    clear s0 s1 s2 f0 f1 f2
    refine (once_calls R a len cap zs 2 _ (unhide HD3).rd (by omega) (by omega)).mono ?_
    rintro e w4 ⟨u, rfl, hR4, ho4⟩
    have HD4 := hide ((unhide HD3).call hR4 ho4)
    have HZ4 := hide ((unhide HZ3).only ho4 (by omega))
    have HS4 := hide ((unhide HS3).only ho4 (by omega))
    clear hR4 ho4 HD3 HZ3 HS3
    cases u with
    | true =>
      
      go_wp2_with fail
      refine (digest_calls R a len cap zs _ (unhide HD4).rd).mono ?_
      rintro e w5 ⟨d, rfl, hd, hR5, ho5⟩
      have hd1 : d.size ≤ 100 := by omega
      have HS5a := hide ((unhide HS4).only ho5 (by omega))
      have HD5 := hide (((unhide HD4).call hR5 ho5).set (b := w1.heap.size) (i := 2) hR (by omega) (.string d))
      have HZ5 := hide ((unhide HZ4).only ho5 (by omega))
      have HS5 := HS5a
      clear hR5 ho5 HD4 HZ4 HS4 HS5a hd
      obtain ⟨s0, s1, s2, f0, f1, f2⟩ := unhide HS5
      obtain ⟨q0, q1, q2, g0, g1, g2⟩ := unhide HZ5
      have hne : w.heap.size ≠ w1.heap.size := by omega
      clear HS5 HZ5
      go_wp2_with fail
      refine bodyPost_ret (v := .agg #[.string r, .string t, .string d]) (by simp [results, Tryd.results21, go_sem, q0, q1, q2]) rfl ⟨r, t, d, rfl, by omega, by omega, by omega, ?_⟩
      have hfin := (((unhide HD5).set (i := 0) hR (Nat.le_refl _) (.string r)).set (i := 1) hR (Nat.le_refl _) (.string t)).set (i := 2) hR (Nat.le_refl _) (.string d)
      exact ⟨hfin.rd, hfin.only⟩
    | false =>
      have HD5 := HD4
      have HZ5 := HZ4
      have HS5 := HS4
      clear HD4 HZ4 HS4
      obtain ⟨s0, s1, s2, f0, f1, f2⟩ := unhide HS5
      obtain ⟨q0, q1, q2, g0, g1, g2⟩ := unhide HZ5
      have hne : w.heap.size ≠ w1.heap.size := by omega
      clear HS5 HZ5
      go_wp2_with fail
      refine bodyPost_ret (v := .agg #[.string r, .string t, .string ⟨#[]⟩]) (by simp [results, Tryd.results21, go_sem, q0, q1, q2]) rfl ⟨r, t, ⟨#[]⟩, rfl, by omega, by omega, by decide, ?_⟩
      have hfin := (((unhide HD5).set (i := 0) hR (Nat.le_refl _) (.string r)).set (i := 1) hR (Nat.le_refl _) (.string t)).set (i := 2) hR (Nat.le_refl _) (.string ⟨#[]⟩)
      exact ⟨hfin.rd, hfin.only⟩
  | false =>
    have HD3 := HD2
    have HZ3 := HZ2
    have HS3 := HS2
    clear HD2 HZ2 HS2
    go_wp2_with fail
    refine (once_calls R a len cap zs 2 _ (unhide HD3).rd (by omega) (by omega)).mono ?_
    rintro e w4 ⟨u, rfl, hR4, ho4⟩
    have HD4 := hide ((unhide HD3).call hR4 ho4)
    have HZ4 := hide ((unhide HZ3).only ho4 (by omega))
    have HS4 := hide ((unhide HS3).only ho4 (by omega))
    clear hR4 ho4 HD3 HZ3 HS3
    cases u with
    | true =>
      go_wp2_with fail
      refine (digest_calls R a len cap zs _ (unhide HD4).rd).mono ?_
      rintro e w5 ⟨d, rfl, hd, hR5, ho5⟩
      have hd1 : d.size ≤ 100 := by omega
      have HS5a := hide ((unhide HS4).only ho5 (by omega))
      have HD5 := hide (((unhide HD4).call hR5 ho5).set (b := w1.heap.size) (i := 2) hR (by omega) (.string d))
      have HZ5 := hide ((unhide HZ4).only ho5 (by omega))
      have HS5 := HS5a
      clear hR5 ho5 HD4 HZ4 HS4 HS5a hd
      obtain ⟨s0, s1, s2, f0, f1, f2⟩ := unhide HS5
      obtain ⟨q0, q1, q2, g0, g1, g2⟩ := unhide HZ5
      have hne : w.heap.size ≠ w1.heap.size := by omega
      clear HS5 HZ5
      go_wp2_with fail
      refine bodyPost_ret (v := .agg #[.string r, .string ⟨#[]⟩, .string d]) (by simp [results, Tryd.results21, go_sem, q0, q1, q2]) rfl ⟨r, ⟨#[]⟩, d, rfl, by omega, by decide, by omega, ?_⟩
      have hfin := (((unhide HD5).set (i := 0) hR (Nat.le_refl _) (.string r)).set (i := 1) hR (Nat.le_refl _) (.string ⟨#[]⟩)).set (i := 2) hR (Nat.le_refl _) (.string d)
      exact ⟨hfin.rd, hfin.only⟩
    | false =>
      have HD5 := HD4
      have HZ5 := HZ4
      have HS5 := HS4
      clear HD4 HZ4 HS4
      obtain ⟨s0, s1, s2, f0, f1, f2⟩ := unhide HS5
      obtain ⟨q0, q1, q2, g0, g1, g2⟩ := unhide HZ5
      have hne : w.heap.size ≠ w1.heap.size := by omega
      clear HS5 HZ5
      go_wp2_with fail
      refine bodyPost_ret (v := .agg #[.string r, .string ⟨#[]⟩, .string ⟨#[]⟩]) (by simp [results, Tryd.results21, go_sem, q0, q1, q2]) rfl ⟨r, ⟨#[]⟩, ⟨#[]⟩, rfl, by omega, by decide, by decide, ?_⟩
      have hfin := (((unhide HD5).set (i := 0) hR (Nat.le_refl _) (.string r)).set (i := 1) hR (Nat.le_refl _) (.string ⟨#[]⟩)).set (i := 2) hR (Nat.le_refl _) (.string ⟨#[]⟩)
      exact ⟨hfin.rd, hfin.only⟩
namespace Plain
def sepL : List ByteArray := [⟨#[58]⟩, ⟨#[64]⟩, ⟨#[]⟩, ⟨#[120]⟩, ⟨#[47]⟩, ⟨#[58, 118, 49, 64]⟩]
def sepV : Array Value := (sepL.map Value.string).toArray
theorem sepV_get (k : Nat) (h : k < 6) : sepV[k]? = some (.string (sepL.getD k ByteArray.empty)) := by
  match k, h with
  | 0, _ => rfl
  | 1, _ => rfl
  | 2, _ => rfl
  | 3, _ => rfl
  | 4, _ => rfl
  | 5, _ => rfl
theorem sep_size : ∀ k : Fin 6, (sepL.getD k.val ByteArray.empty).size ≤ 4 := by decide +kernel
end Plain
theorem Plain.DS.drew {w W : World} {R : Nat} {a : Option Addr} {len cap : Nat} {zs : List Int} (h : DS w R a len cap zs W) : DS w R a len cap zs W.drew := h.drewN 1
theorem sep_calls (R : Nat) (a : Option Addr) (len cap : Nat) (zs : List Int) (w W : World) (h : DS w R a len cap zs W) :
    Calls Tryd.prog 22 #[.pointer (some ⟨R, 0, none⟩), .int .i64 6] (W.alloc (.cells sepV 9)).drew fun e w' => ∃ (J : Nat) (x : ByteArray), e = .returned (.int .i64 J) ∧ (0 : Int) ≤ J ∧ (J : Int) < 6 ∧ x.size ≤ 4 ∧ w'.cell? ⟨W.heap.size, J, none⟩ = some (.string x) ∧ Hid (DS w R a len cap zs w') := by
  have hlt := h.rd.lt
  refine (below_calls R a len cap zs 6 _ (h.alloc _).drew.rd (by omega) (by omega)).mono ?_
  rintro e w2 ⟨v, rfl, hv0, hv1, hR2, ho2⟩
  obtain ⟨K, rfl⟩ := Int.eq_ofNat_of_zero_le hv0
  have hK : K < 6 := by omega
  refine ⟨K, _, rfl, hv0, hv1, sep_size ⟨K, hK⟩, ?_, hide ((h.alloc _).drew.call hR2 ho2)⟩
  rw [ho2.cell ⟨W.heap.size, K, none⟩ (by simp) (by simp)]
  exact (cell_of_row _ _ K sepV _ _ (h_new W _ rfl)).trans (sepV_get K hK)

theorem sep2_calls (R : Nat) (a : Option Addr) (len cap : Nat) (zs : List Int) (w W : World) (h : DS w R a len cap zs W) :
    Calls Tryd.prog 22 #[.pointer (some ⟨R, 0, none⟩), .int .i64 6] W.drew fun e w' => ∃ (J : Nat) (x : ByteArray), e = .returned (.int .i64 J) ∧ (0 : Int) ≤ J ∧ (J : Int) < 6 ∧ x.size ≤ 4 ∧ (#[Value.string { data := #[58] }, Value.string { data := #[64] }, Value.string { data := #[] }, Value.string { data := #[120] }, Value.string { data := #[47] }, Value.string { data := #[58, 118, 49, 64] }] : Array Value)[J]? = some (.string x) ∧ Hid (DS w R a len cap zs w') := by
  refine (below_calls R a len cap zs 6 _ h.drew.rd (by omega) (by omega)).mono ?_
  rintro e w2 ⟨v, rfl, hv0, hv1, hR2, ho2⟩
  obtain ⟨K, rfl⟩ := Int.eq_ofNat_of_zero_le hv0
  have hK : K < 6 := by omega
  exact ⟨K, _, rfl, hv0, hv1, sep_size ⟨K, hK⟩, sepV_get K hK, hide (h.drew.call hR2 ho2)⟩

theorem rowBel {w w' : World} {a : Option Addr} {len cap : Nat} {zs : List Int} (h : IsRow .u8 w a len cap zs) (hb : Below w.heap.size w w') : IsRow .u8 w' a len cap zs := by
  rcases h with h | ⟨x, hx, h1, h2, h3, h4, h5⟩
  · exact .inl h
  · exact .inr ⟨x, hx, h1, h2, h3, fun i hi => (hb.cell (lt_of_cell (h4 i hi))).trans (h4 i hi), h5⟩

set_option maxRecDepth 10000 in
set_option maxHeartbeats 4000000 in
theorem DrawWriteRef_calls (a : Option Addr) (len cap : Nat) (zs : List Int) (w : World) (h : IsRow .u8 w a len cap zs) (hl : len ≤ 1048576) :
    Calls Tryd.prog 8 #[.slice a len cap] w fun e w' => ∃ r t d : ByteArray, e = .returned (.agg #[.string r, .string t, .string d]) ∧ r.size ≤ 100 ∧ t.size ≤ 100 ∧ d.size ≤ 100 ∧ Below w.heap.size w w' := by
  have hba : Below w.heap.size w (w.alloc (.cells #[.string ⟨#[]⟩, .string ⟨#[]⟩, .string ⟨#[]⟩] 25)) := (Below.refl _ _).alloc (Nat.le_refl _) _
  have H := hide (rowBel h hba)
  have HZ := hide (RefAt.new w ⟨#[]⟩ ⟨#[]⟩ ⟨#[]⟩ 25)
  have HBA := hide hba
  clear h hba
  go_enter Tryd.func8, Tryd.ntmps8
  go_wp2_with fail
  refine (open_calls a len cap zs _ (unhide H) hl).mono ?_
  rintro e w1 ⟨rfl, hR1, hb1⟩
  obtain ⟨R, hR⟩ : ∃ R, (w.alloc (.cells #[.string ⟨#[]⟩, .string ⟨#[]⟩, .string ⟨#[]⟩] 25)).heap.size = R := ⟨_, rfl⟩
  have hRw : w.heap.size < R := by rw [← hR]; simp
  have HZ1 := hide ((unhide HZ).below hb1)
  have HB1 := hide ((unhide HBA).trans (hb1.mono (by simp)))
  rw [hR] at hR1 ⊢
  have hlt1 := hR1.lt
  have HD1 := hide (DS.start hR1)
  clear hR1 hb1 HZ HBA hR
  go_wp2_with fail
  refine (ref_calls R a len cap zs _ (unhide HD1).rd).mono ?_
  rintro e w2 ⟨r, t, d, rfl, hr, ht, hd, hR2, ho2⟩
  have hz2 := ho2.size
  have HD2 := hide (((unhide HD1).call hR2 ho2).alloc (.cells #[.string r, .string t, .string d] 25))
  have HZ2 := hide (((unhide HZ1).only ho2 (by omega)).below (W' := w2.alloc (.cells #[.string r, .string t, .string d] 25)) ((Below.refl _ _).alloc (Nat.le_refl _) _))
  have HS2 := hide (RefAt.new w2 r t d 25)
  clear hR2 ho2 HD1 HZ1
  go_wp2_with fail
  refine (below_calls R a len cap zs 16 _ (unhide HD2).rd (by omega) (by omega)).mono ?_
  rintro e w3 ⟨v, rfl, hv0, hv1, hR3, ho3⟩
  have HD3 := hide ((unhide HD2).call hR3 ho3)
  have HZ3 := hide ((unhide HZ2).only ho3 (by omega))
  have HS3 := hide ((unhide HS2).only ho3 (by omega))
  have hne : w.heap.size ≠ w2.heap.size := by omega
  clear hR3 ho3 HD2 HZ2 HS2
  by_cases c0 : v = 0
  · subst c0
    obtain ⟨s0, s1, s2, f0, f1, f2⟩ := unhide HS3
    obtain ⟨q0, q1, q2, g0, g1, g2⟩ := unhide HZ3
    clear HS3 HZ3
    go_wp2_with fail
    refine bodyPost_ret (v := .agg #[.string ⟨#[]⟩, .string t, .string d]) (by simp [results, Tryd.results8, go_sem, q0, q1, q2]) rfl ⟨⟨#[]⟩, t, d, rfl, by decide, ht, hd, ?_⟩
    have hb9 := (unhide HB1).trans ((unhide HD3).only.below (Nat.le_of_lt hRw) (unhide HB1).size)
    exact ((((hb9.setCell (p := ⟨w2.heap.size, 0, none⟩) (by simp; omega) (.string ⟨#[]⟩)).setCell (p := ⟨w.heap.size, 0, none⟩) (Nat.le_refl _) (.string ⟨#[]⟩)).setCell (p := ⟨w.heap.size, 1, none⟩) (Nat.le_refl _) (.string t)).setCell (p := ⟨w.heap.size, 2, none⟩) (Nat.le_refl _) (.string d))
  · have b0 : (v == 0) = false := by simpa using c0
    by_cases c1 : v = 1
    · subst c1
      obtain ⟨s0, s1, s2, f0, f1, f2⟩ := unhide HS3
      obtain ⟨q0, q1, q2, g0, g1, g2⟩ := unhide HZ3
      clear HS3 HZ3
      go_wp2_with fail
      refine bodyPost_ret (v := .agg #[.string r, .string ⟨#[46, 120]⟩, .string d]) (by simp [results, Tryd.results8, go_sem, q0, q1, q2]) rfl ⟨r, ⟨#[46, 120]⟩, d, rfl, hr, by decide, hd, ?_⟩
      have hb9 := (unhide HB1).trans ((unhide HD3).only.below (Nat.le_of_lt hRw) (unhide HB1).size)
      exact ((((hb9.setCell (p := ⟨w2.heap.size, 1, none⟩) (by simp; omega) (.string ⟨#[46, 120]⟩)).setCell (p := ⟨w.heap.size, 0, none⟩) (Nat.le_refl _) (.string r)).setCell (p := ⟨w.heap.size, 1, none⟩) (Nat.le_refl _) (.string ⟨#[46, 120]⟩)).setCell (p := ⟨w.heap.size, 2, none⟩) (Nat.le_refl _) (.string d))
    · have b1 : (v == 1) = false := by simpa using c1
      by_cases c2 : v = 2
      · subst c2
        go_wp2_with fail
        refine (oddDigest_calls R a len cap zs _ (unhide HD3).rd).mono ?_
        rintro e w4 ⟨o, rfl, ho, hR4, ho4⟩
        have HD4 := hide ((unhide HD3).call hR4 ho4)
        have HZ4 := hide ((unhide HZ3).only ho4 (by omega))
        have HS4 := hide ((unhide HS3).only ho4 (by omega))
        clear hR4 ho4 HD3 HZ3 HS3
        obtain ⟨s0, s1, s2, f0, f1, f2⟩ := unhide HS4
        obtain ⟨q0, q1, q2, g0, g1, g2⟩ := unhide HZ4
        clear HS4 HZ4
        go_wp2_with fail
        refine bodyPost_ret (v := .agg #[.string r, .string t, .string o]) (by simp [results, Tryd.results8, go_sem, q0, q1, q2]) rfl ⟨r, t, o, rfl, hr, ht, by omega, ?_⟩
        have hb9 := (unhide HB1).trans ((unhide HD4).only.below (Nat.le_of_lt hRw) (unhide HB1).size)
        exact ((((hb9.setCell (p := ⟨w2.heap.size, 2, none⟩) (by simp; omega) (.string o)).setCell (p := ⟨w.heap.size, 0, none⟩) (Nat.le_refl _) (.string r)).setCell (p := ⟨w.heap.size, 1, none⟩) (Nat.le_refl _) (.string t)).setCell (p := ⟨w.heap.size, 2, none⟩) (Nat.le_refl _) (.string o))
      · have b2 : (v == 2) = false := by simpa using c2
        obtain ⟨s0, s1, s2, f0, f1, f2⟩ := unhide HS3
        obtain ⟨q0, q1, q2, g0, g1, g2⟩ := unhide HZ3
        clear HS3 HZ3
        go_wp2_with fail
        refine bodyPost_ret (v := .agg #[.string r, .string t, .string d]) (by simp [results, Tryd.results8, go_sem, q0, q1, q2]) rfl ⟨r, t, d, rfl, hr, ht, hd, ?_⟩
        have hb9 := (unhide HB1).trans ((unhide HD3).only.below (Nat.le_of_lt hRw) (unhide HB1).size)
        exact (((hb9.setCell (p := ⟨w.heap.size, 0, none⟩) (Nat.le_refl _) (.string r)).setCell (p := ⟨w.heap.size, 1, none⟩) (Nat.le_refl _) (.string t)).setCell (p := ⟨w.heap.size, 2, none⟩) (Nat.le_refl _) (.string d))

set_option maxRecDepth 10000 in
set_option maxHeartbeats 4000000 in
theorem DrawReadRef_calls (a : Option Addr) (len cap : Nat) (zs : List Int) (w : World) (h : IsRow .u8 w a len cap zs) (hl : len ≤ 1048576) :
    Calls Tryd.prog 14 #[.slice a len cap] w fun e w' => ∃ s : ByteArray, e = .returned (.string s) ∧ s.size ≤ 1000 ∧ Below w.heap.size w w' := by
  have H := hide h
  clear h
  go_enter Tryd.func14, Tryd.ntmps14
  go_wp2_with fail
  refine (open_calls a len cap zs _ (unhide H) hl).mono ?_
  rintro e w1 ⟨rfl, hR1, hb1⟩
  have HB1 := hide hb1
  have hlt1 := hR1.lt
  have HD1 := hide (DS.start hR1)
  clear hR1 hb1
  go_wp2_with fail
  refine (ref_calls w.heap.size a len cap zs _ (unhide HD1).rd).mono ?_
  rintro e w2 ⟨r, t, d, rfl, hr, ht, hd, hR2, ho2⟩
  have HD2 := hide ((unhide HD1).call hR2 ho2)
  clear hR2 ho2 HD1
  go_wp2_with fail
  refine (spec_WriteRef r t d _ (by omega) (by omega) (by omega)).mono ?_
  rintro e w3 ⟨rfl, hb3⟩
  have HD3 := hide ((unhide HD2).below hb3)
  have hsz : (wrefS r t d).size ≤ 302 := by
    unfold wrefS
    split
    · have := addS_size 64 (addS 58 r t) d
      have := addS_size 58 r t
      omega
    · decide
  generalize wrefS r t d = s at hsz
  clear hb3 HD2
  go_wp2_with fail
  refine (once_calls w.heap.size a len cap zs 2 _ (unhide HD3).rd (by omega) (by omega)).mono ?_
  rintro e w4 ⟨b, rfl, hR4, ho4⟩
  have HD4 := hide ((unhide HD3).call hR4 ho4)
  clear hR4 ho4 HD3
  cases b with
  | false =>
    go_wp2_with fail
    go_ret
    exact ⟨s, rfl, by omega, (unhide HB1).trans ((unhide HD4).only.below (Nat.le_refl _) (unhide HB1).size)⟩
  | true =>
    go_wp2_with fail
    refine (below_calls w.heap.size a len cap zs (s.size + 1) _ (unhide HD4).rd (by omega) (by omega)).mono ?_
    rintro e w5 ⟨v, rfl, hv0, hv1, hR5, ho5⟩
    have HD5 := hide ((unhide HD4).call hR5 ho5)
    clear hR5 ho5 HD4
    obtain ⟨K, rfl⟩ := Int.eq_ofNat_of_zero_le hv0
    have i1 : (K : Int) ≤ (s.size : Int) := by omega
    have hb9 : ∀ W : World, (W.alloc (.cells sepV 9)).heap.size = W.heap.size + 1 := fun W => by simp
    have z2 : (s.extract 0 K).size = K := by rw [ByteArray.size_extract]; omega
    have z3 : (s.extract K s.size).size = s.size - K := by rw [ByteArray.size_extract]; omega
    clear hb9
    go_wp2_with fail
    go_region_with (go_at_call 22; first | (refine (sep_calls w.heap.size a len cap zs _ _ (unhide HD5)).mono ?_; rintro e w6 ⟨J, x, rfl, hJ0, hJ1, hx, hc, HD6⟩) | (refine (sep2_calls w.heap.size a len cap zs _ _ (unhide HD5)).mono ?_; rintro e w6 ⟨J, x, rfl, hJ0, hJ1, hx, hc, HD6⟩))
    all_goals (try go_wp2_with fail)
    all_goals go_ret
    all_goals exact ⟨_, rfl, by rw [ByteArray.size_append, ByteArray.size_append, z2, z3]; omega, by first | exact (unhide HB1).trans ((unhide HD6).only.below (Nat.le_refl _) (unhide HB1).size) | exact (unhide HB1).trans (((unhide HD6).alloc _).only.below (Nat.le_refl _) (unhide HB1).size) | exact (unhide HB1).trans ((unhide HD6).drew.only.below (Nat.le_refl _) (unhide HB1).size)⟩
end Go.Proofs.YtkeindhefiaghaaDoor
