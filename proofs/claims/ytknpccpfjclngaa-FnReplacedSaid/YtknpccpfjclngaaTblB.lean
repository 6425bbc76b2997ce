/- What a rename and a removal do to the program's table of files. -/
import Derived.Test.YtknpccpfjclngaaTblA
namespace Go.Proofs.Ytknpccpfjclngaa
open Go.RowKit Go.Maps Plain
set_option linter.unusedVariables false

theorem file_ren (n t : ByteArray) (w : World) : Calls Try.prog 105 #[.agg #[.string n, .string t]] w fun e w' => e = .returned (.string n) ∧ Below w.heap.size w w' := by
  go_enter Try.func105, Try.ntmps105
  go_wp2
  go_ret
  exact ⟨rfl, bel1 _ _⟩
theorem file_rem (n : ByteArray) (w : World) : Calls Try.prog 106 #[.agg #[.string n]] w fun e w' => e = .returned (.string n) ∧ Below w.heap.size w w' := by
  go_enter Try.func106, Try.ntmps106
  go_wp2
  go_ret
  exact ⟨rfl, bel1 _ _⟩
theorem meth_ren (n t : ByteArray) (w : World) : (method 247 99 (.agg #[.string n, .string t]) "loop.example/g00141/impl.file").run Try.prog w = .ok (105, .agg #[.string n, .string t]) w := by kernel_rfl
theorem meth_rem (n : ByteArray) (w : World) : (method 247 101 (.agg #[.string n]) "loop.example/g00141/impl.file").run Try.prog w = .ok (106, .agg #[.string n]) w := by kernel_rfl
theorem ta_ren1 (n t : ByteArray) (w : World) : (Instr.typeAssert (.iface 99 (.agg #[.string n, .string t])) 68 90 true).run Try.prog w = .ok (.tuple #[.agg #[.string ⟨#[]⟩, .string ⟨#[]⟩], .bool false]) w := by kernel_rfl
theorem ta_ren2 (n t : ByteArray) (w : World) : (Instr.typeAssert (.iface 99 (.agg #[.string n, .string t])) 68 93 true).run Try.prog w = .ok (.tuple #[.agg #[.string ⟨#[]⟩, .string ⟨#[]⟩, .int .i64 0], .bool false]) w := by kernel_rfl
theorem ta_ren3 (n t : ByteArray) (w : World) : (Instr.typeAssert (.iface 99 (.agg #[.string n, .string t])) 68 99 true).run Try.prog w = .ok (.tuple #[.agg #[.string n, .string t], .bool true]) w := by kernel_rfl
theorem ta_rem1 (n : ByteArray) (w : World) : (Instr.typeAssert (.iface 101 (.agg #[.string n])) 68 90 true).run Try.prog w = .ok (.tuple #[.agg #[.string ⟨#[]⟩, .string ⟨#[]⟩], .bool false]) w := by kernel_rfl
theorem ta_rem2 (n : ByteArray) (w : World) : (Instr.typeAssert (.iface 101 (.agg #[.string n])) 68 93 true).run Try.prog w = .ok (.tuple #[.agg #[.string ⟨#[]⟩, .string ⟨#[]⟩, .int .i64 0], .bool false]) w := by kernel_rfl
theorem ta_rem3 (n : ByteArray) (w : World) : (Instr.typeAssert (.iface 101 (.agg #[.string n])) 68 99 true).run Try.prog w = .ok (.tuple #[.agg #[.string ⟨#[]⟩, .string ⟨#[]⟩], .bool false]) w := by kernel_rfl
theorem ta_rem4 (n : ByteArray) (w : World) : (Instr.typeAssert (.iface 101 (.agg #[.string n])) 68 101 true).run Try.prog w = .ok (.tuple #[.agg #[.string n], .bool true]) w := by kernel_rfl
/-- The two ways of a look at a name. -/
theorem Plain.TabD.look {D : DataW Unit} {f : ByteArray → Option ByteArray} (hD : TabD D f) (n : ByteArray) : (f n = none ∧ Maps.has D (keyL n) = false ∧ D.atKey (keyL n) (flD (⟨#[]⟩, ⟨#[]⟩)) = flD (⟨#[]⟩, ⟨#[]⟩)) ∨ (∃ o, f n = some o ∧ Maps.has D (keyL n) = true ∧ D.atKey (keyL n) (flD (⟨#[]⟩, ⟨#[]⟩)) = flD (n, o)) := by
  have hx := hD n
  cases hfn : f n with
  | none => rw [hfn] at hx; exact .inl ⟨rfl, hx, atKey_of_not_has hx _⟩
  | some o => rw [hfn] at hx; exact .inr ⟨o, rfl, hx.1, hx.2 _⟩

theorem ownsMap_of {w w' : World} {b m : Nat} {D : DataW Unit} (h : w.ownsMap Try.prog 9 flElem b m D) (hb : Below w.heap.size w w') : w'.ownsMap Try.prog 9 flElem b m D := by
  obtain ⟨es, clock, h1, h2, h3, h4⟩ := h
  exact ⟨es, clock, (hb.block b (Array.getElem?_eq_some_iff.1 h1).1).trans h1, h2, h3, h4⟩
theorem ownsMap_le {w : World} {b m m' : Nat} {D : DataW Unit} (h : w.ownsMap Try.prog 9 flElem b m D) (hm : m ≤ m') : w.ownsMap Try.prog 9 flElem b m' D := by
  obtain ⟨es, clock, h1, h2, h3, h4⟩ := h
  exact ⟨es, clock, h1, h2, Nat.le_trans h3 hm, h4⟩
theorem isMap_del {D : DataW Unit} (h : IsMap D) (k : Lit) : IsMap (D.del k) := by obtain ⟨es, rfl⟩ := h; exact ⟨_, rfl⟩
theorem four_cells {w w5 : World} {b : Nat} {x0 x1 y0 y1 : Value} {T T' : TypeId} (h : ((w.alloc (.cells #[x0, x1] T)).alloc (.cells #[y0, y1] T')).grownBy w5 (some b)) (h1 : b ≠ w.heap.size) (h2 : b ≠ w.heap.size + 1) :
    w5.cell? ⟨w.heap.size, 0, none⟩ = some x0 ∧ w5.cell? ⟨w.heap.size, 1, none⟩ = some x1 ∧ w5.cell? ⟨w.heap.size + 1, 0, none⟩ = some y0 ∧ w5.cell? ⟨w.heap.size + 1, 1, none⟩ = some y1 := by
  refine ⟨h.cell (by simp [go_sem]) (by simp; omega), h.cell (by simp [go_sem]) (by simp; omega), h.cell (by simp [go_sem]) (by simp; omega), h.cell (by simp [go_sem]) (by simp; omega)⟩

set_option maxRecDepth 10000 in
set_option maxHeartbeats 4000000 in
theorem apply_ren (b m : Nat) (f : ByteArray → Option ByteArray) (n t : ByteArray) (w : World) (h : Tab w b m f) (hm : m ≤ 1000000) (hn : n.size ≤ 1000000000000) (ht : t.size ≤ 1000000000000) :
    Calls Try.prog 36 #[.map (some b), .iface 99 (.agg #[.string n, .string t])] w fun e w' => e = .returned (.bool (f n).isSome) ∧ Hid (Tab w' b (m + 1) (match f n with | none => f | some o => updT (updT f n none) t (some o))) ∧ OnlyRow (some ⟨b, 0, none⟩) w w' := by
  have hlt := h.lt
  obtain ⟨D, hown, hD⟩ := h
  have HKEY := hide (show keyOf Try.prog 9 (.string n) = some (keyL n) from Go.WideMaps.keyOf_string_mk Try.underlying9 (by unfold maxLen; omega))
  have HOW := hide hown
  have HDD := hide hD
  have HIM := hide hown.isMap
  have HV := hide (hD.look n)
  clear hown hD
  have HKT := hide (show keyOf Try.prog 9 (.string t) = some (keyL t) from Go.WideMaps.keyOf_string_mk Try.underlying9 (by unfold maxLen; omega))
  have hme := meth_ren n t w
  have h1 := ta_ren1 n t
  have h2 := ta_ren2 n t
  have h3 := ta_ren3 n t
  rcases unhide HV with ⟨v1, v2, v3⟩ | ⟨o, v1, v2, v3⟩
  · rw [v1]
    have H2 := hide v2
    have H3 := hide v3
    clear HV v1 v2 v3
    go_enter Try.func36, Try.ntmps36
    go_wp2_with fail
    refine (file_ren n t w).mono ?_
    rintro e w1 ⟨rfl, hb1⟩
    have HO1 := hide (ownsMap_below (unhide HOW) hb1 hlt)
    have HB1 := hide (OnlyRow.of (a := some ⟨b, 0, none⟩) hb1)
    clear hme hb1
    go_wp2_with (at_lookup; refine wpList_lookup_own_ok _ rfl _ _ 56 rfl 9 65 law_str Try.underlying56 flElem (zeroF _) (flD (⟨#[]⟩, ⟨#[]⟩)) [] (flElem_mk _ _) b m D rfl (unhide HO1) _ (keyL n) rfl (unhide HKEY) ?_; intro v ps hv; rw [unhide H3] at hv; obtain rfl := flElem_inv hv; clear hv; rw [unhide H2])
    go_ret
    exact ⟨rfl, hide ⟨D, ownsMap_le (ownsMap_of (unhide HO1) (belOn (bel1 w1 _) (bel1 _ _))) (by omega), unhide HDD⟩, (unhide HB1).trans (OnlyRow.of (belOn (bel1 w1 _) (bel1 _ _)))⟩
  · rw [v1]
    have H2 := hide v2
    have H3 := hide v3
    have HDP := hide (((unhide HDD).del n).put (isMap_del (unhide HIM) (keyL n)) t o)
    clear HV v1 v2 v3
    go_enter Try.func36, Try.ntmps36
    go_wp2_with fail
    refine (file_ren n t w).mono ?_
    rintro e w1 ⟨rfl, hb1⟩
    have HO1 := hide (ownsMap_below (unhide HOW) hb1 hlt)
    have HB1 := hide (OnlyRow.of (a := some ⟨b, 0, none⟩) hb1)
    clear hme hb1
    go_wp2_with (first
      | (at_lookup; refine wpList_lookup_own_ok _ rfl _ _ 56 rfl 9 65 law_str Try.underlying56 flElem (zeroF _) (flD (⟨#[]⟩, ⟨#[]⟩)) [] (flElem_mk _ _) b m D rfl (unhide HO1) _ (keyL n) rfl (unhide HKEY) ?_; intro v ps hv; rw [unhide H3] at hv; obtain rfl := flElem_inv hv; clear hv; rw [unhide H2])
      | (at_delete; refine wpList_delete_own _ rfl _ _ 56 9 rfl 65 law_str Try.underlying56 flElem b m D rfl (((unhide HO1).alloc _).alloc _) _ (keyL n) rfl (unhide HKEY) ?_; intro w5 hown5 hturn5; have HO5 := hide hown5; obtain ⟨z0, z1, z2, z3⟩ := four_cells hturn5.grown (show b ≠ w1.heap.size from by have := (unhide HB1).size; omega) (show b ≠ w1.heap.size + 1 from by have := (unhide HB1).size; omega))
      | (at_mapUpdate; refine wpList_mapUpdate_own _ rfl _ _ _ 56 rfl 9 65 law_str Try.underlying56 flElem b m _ rfl (unhide HO5) (by unfold maxLen; omega) _ _ (keyL t) rfl rfl (unhide HKT) _ [] (flElem_mk t _) ?_; intro w6 hown6 hgrow6))
    go_ret
    exact ⟨rfl, hide ⟨_, hown6, unhide HDP⟩, (((unhide HB1).trans (OnlyRow.of (belOn (bel1 w1 _) (bel1 _ _)))).trans (OnlyRow.grown hturn5.grown)).trans (OnlyRow.grown hgrow6)⟩

set_option maxRecDepth 10000 in
set_option maxHeartbeats 4000000 in
theorem apply_rem (b m : Nat) (f : ByteArray → Option ByteArray) (n : ByteArray) (w : World) (h : Tab w b m f) (hm : m ≤ 1000000) (hn : n.size ≤ 1000000000000) :
    Calls Try.prog 36 #[.map (some b), .iface 101 (.agg #[.string n])] w fun e w' => e = .returned (.bool (f n).isSome) ∧ Hid (Tab w' b (m + 1) (updT f n none)) ∧ OnlyRow (some ⟨b, 0, none⟩) w w' := by
  have hlt := h.lt
  obtain ⟨D, hown, hD⟩ := h
  have HKEY := hide (show keyOf Try.prog 9 (.string n) = some (keyL n) from Go.WideMaps.keyOf_string_mk Try.underlying9 (by unfold maxLen; omega))
  have HOW := hide hown
  have HDD := hide hD
  have HIM := hide hown.isMap
  have HV := hide (hD.look n)
  clear hown hD
  have hme := meth_rem n w
  have h1 := ta_rem1 n
  have h2 := ta_rem2 n
  have h3 := ta_rem3 n
  have h4 := ta_rem4 n
  have HDP := hide ((unhide HDD).del n)
  rcases unhide HV with ⟨v1, v2, v3⟩ | ⟨o, v1, v2, v3⟩
  · rw [v1]
    have H2 := hide v2
    have H3 := hide v3
    clear HV v1 v2 v3
    go_enter Try.func36, Try.ntmps36
    go_wp2_with fail
    refine (file_rem n w).mono ?_
    rintro e w1 ⟨rfl, hb1⟩
    have HO1 := hide (ownsMap_below (unhide HOW) hb1 hlt)
    have HB1 := hide (OnlyRow.of (a := some ⟨b, 0, none⟩) hb1)
    clear hme hb1
    go_wp2_with (first
      | (at_lookup; refine wpList_lookup_own_ok _ rfl _ _ 56 rfl 9 65 law_str Try.underlying56 flElem (zeroF _) (flD (⟨#[]⟩, ⟨#[]⟩)) [] (flElem_mk _ _) b m D rfl (unhide HO1) _ (keyL n) rfl (unhide HKEY) ?_; intro v ps hv; rw [unhide H3] at hv; obtain rfl := flElem_inv hv; clear hv; rw [unhide H2])
      | (at_delete; refine wpList_delete_own _ rfl _ _ 56 9 rfl 65 law_str Try.underlying56 flElem b m D rfl (((unhide HO1).alloc _).alloc _) _ (keyL n) rfl (unhide HKEY) ?_; intro w5 hown5 hturn5))
    go_ret
    exact ⟨rfl, hide ⟨_, ownsMap_le hown5 (by omega), unhide HDP⟩, ((unhide HB1).trans (OnlyRow.of (belOn (bel1 w1 _) (bel1 _ _)))).trans (OnlyRow.grown hturn5.grown)⟩
  · rw [v1]
    have H2 := hide v2
    have H3 := hide v3
    clear HV v1 v2 v3
    go_enter Try.func36, Try.ntmps36
    go_wp2_with fail
    refine (file_rem n w).mono ?_
    rintro e w1 ⟨rfl, hb1⟩
    have HO1 := hide (ownsMap_below (unhide HOW) hb1 hlt)
    have HB1 := hide (OnlyRow.of (a := some ⟨b, 0, none⟩) hb1)
    clear hme hb1
    go_wp2_with (first
      | (at_lookup; refine wpList_lookup_own_ok _ rfl _ _ 56 rfl 9 65 law_str Try.underlying56 flElem (zeroF _) (flD (⟨#[]⟩, ⟨#[]⟩)) [] (flElem_mk _ _) b m D rfl (unhide HO1) _ (keyL n) rfl (unhide HKEY) ?_; intro v ps hv; rw [unhide H3] at hv; obtain rfl := flElem_inv hv; clear hv; rw [unhide H2])
      | (at_delete; refine wpList_delete_own _ rfl _ _ 56 9 rfl 65 law_str Try.underlying56 flElem b m D rfl (((unhide HO1).alloc _).alloc _) _ (keyL n) rfl (unhide HKEY) ?_; intro w5 hown5 hturn5))
    go_ret
    exact ⟨rfl, hide ⟨_, ownsMap_le hown5 (by omega), unhide HDP⟩, ((unhide HB1).trans (OnlyRow.of (belOn (bel1 w1 _) (bel1 _ _)))).trans (OnlyRow.grown hturn5.grown)⟩
end Go.Proofs.Ytknpccpfjclngaa
