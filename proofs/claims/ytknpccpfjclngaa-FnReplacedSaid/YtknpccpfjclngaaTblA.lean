/- What a change does to the program's table of files. -/
import Derived.Test.YtknpccpfjclngaaTbl
import Derived.Test.YtknpccpfjclngaaGAB
namespace Go.Proofs.Ytknpccpfjclngaa
open Go.RowKit Go.Maps Plain
set_option linter.unusedVariables false

theorem file_app (n d : ByteArray) (w : World) : Calls Try.prog 104 #[.agg #[.string n, .string d]] w fun e w' => e = .returned (.string n) ∧ Below w.heap.size w w' := by
  go_enter Try.func104, Try.ntmps104
  go_wp2
  go_ret
  exact ⟨rfl, bel1 _ _⟩

theorem meth_app (n d : ByteArray) (w : World) : (method 247 90 (.agg #[.string n, .string d]) "loop.example/g00141/impl.file").run Try.prog w = .ok (104, .agg #[.string n, .string d]) w := by kernel_rfl

theorem Plain.OnlyRow.grown {w w' : World} {b : Nat} (h : w.grownBy w' (some b)) : OnlyRow (some ⟨b, 0, none⟩) w w' := ⟨h.os, h.tape, h.output, h.size, fun k hk hne => h.block k hk (fun e => hne 0 (by cases e; rfl))⟩
theorem ta_app (n d : ByteArray) (w : World) : (Instr.typeAssert (.iface 90 (.agg #[.string n, .string d])) 68 90 true).run Try.prog w = .ok (.tuple #[.agg #[.string n, .string d], .bool true]) w := by kernel_rfl
theorem zeroF (w : World) : (zeroValue 65).run Try.prog w = .ok (.agg #[.string ⟨#[]⟩, .string ⟨#[]⟩]) w := by kernel_rfl
theorem ownsMap_below {w w' : World} {b m B : Nat} {D : DataW Unit} (h : w.ownsMap Try.prog 9 flElem b m D) (hb : Below B w w') (hB : b < B) : w'.ownsMap Try.prog 9 flElem b m D := by
  obtain ⟨es, clock, h1, h2, h3, h4⟩ := h
  exact ⟨es, clock, (hb.block b hB).trans h1, h2, h3, h4⟩
theorem Plain.Tab.lt {w : World} {b m : Nat} {f : ByteArray → Option ByteArray} (h : Tab w b m f) : b < w.heap.size := by
  obtain ⟨D, ⟨es, clock, h1, _⟩, _⟩ := h
  exact (Array.getElem?_eq_some_iff.1 h1).1

set_option maxRecDepth 10000 in
set_option maxHeartbeats 4000000 in
theorem apply_app (b m : Nat) (f : ByteArray → Option ByteArray) (n d : ByteArray) (w : World) (h : Tab w b m f) (hm : m ≤ 1000000) (hn : n.size ≤ 1000000000000) (hd : d.size ≤ 1000000000000) (hf : ∀ x y, f x = some y → y.size ≤ 1000000000000) :
    Calls Try.prog 36 #[.map (some b), .iface 90 (.agg #[.string n, .string d])] w fun e w' => e = .returned (.bool true) ∧ Hid (Tab w' b (m + 1) (updT f n (some ((f n).getD ⟨#[]⟩ ++ d)))) ∧ OnlyRow (some ⟨b, 0, none⟩) w w' := by
  obtain ⟨old, hold⟩ : ∃ old, (f n).getD ⟨#[]⟩ = old := ⟨_, rfl⟩
  rw [hold]
  have hos : old.size ≤ 1000000000000 := by
    rw [← hold]
    cases hfn : f n with
    | none => decide
    | some y => exact hf n y hfn
  have hlt := h.lt
  obtain ⟨D, hown, hD⟩ := h
  have hval : (f n = none ∧ Maps.has D (keyL n) = false ∧ D.atKey (keyL n) (flD (⟨#[]⟩, ⟨#[]⟩)) = flD (⟨#[]⟩, ⟨#[]⟩)) ∨ (∃ o, f n = some o ∧ Maps.has D (keyL n) = true ∧ D.atKey (keyL n) (flD (⟨#[]⟩, ⟨#[]⟩)) = flD (n, o)) := by
    have hx := hD n
    cases hfn : f n with
    | none => rw [hfn] at hx; exact .inl ⟨rfl, hx, atKey_of_not_has hx _⟩
    | some o => rw [hfn] at hx; exact .inr ⟨o, rfl, hx.1, hx.2 _⟩
  have hkey : keyOf Try.prog 9 (.string n) = some (keyL n) := Go.WideMaps.keyOf_string_mk Try.underlying9 (by unfold maxLen; omega)
  have HKEY := hide hkey
  have HOW := hide hown
  have HDP := hide (hD.put hown.isMap n (old ++ d))
  have hme := meth_app n d w
  have HV := hide hval
  have HOLD := hide hold
  clear hkey hown hD hval hold hf
  rcases unhide HV with ⟨v1, v2, v3⟩ | ⟨o, v1, v2, v3⟩
  · have hoo : old = ⟨#[]⟩ := by have := unhide HOLD; rw [v1] at this; exact this.symm
    subst hoo
    have H2 := hide v2
    have H3 := hide v3
    clear HV v1 v2 v3
    have hta := ta_app n d
    go_enter Try.func36, Try.ntmps36
    go_wp2_with fail
    refine (file_app n d w).mono ?_
    rintro e w1 ⟨rfl, hb1⟩
    have HO1 := hide (ownsMap_below (unhide HOW) hb1 hlt)
    have HB1 := hide (OnlyRow.of (a := some ⟨b, 0, none⟩) hb1)
    clear hme hb1
    go_wp2_with (first
      | (at_lookup; refine wpList_lookup_own_ok _ rfl _ _ 56 rfl 9 65 law_str Try.underlying56 flElem (zeroF _) (flD (⟨#[]⟩, ⟨#[]⟩)) [] (flElem_mk _ _) b m D rfl (unhide HO1) _ (keyL n) rfl (unhide HKEY) ?_; intro v ps hv; rw [unhide H3] at hv; obtain rfl := flElem_inv hv; clear hv; rw [unhide H2])
      | (at_mapUpdate; refine wpList_mapUpdate_own _ rfl _ _ _ 56 rfl 9 65 law_str Try.underlying56 flElem b m D rfl (((unhide HO1).alloc _).alloc _) (by unfold maxLen; omega) _ _ (keyL n) rfl rfl (unhide HKEY) _ [] (flElem_mk n _) ?_; intro w6 hown6 hgrow6))
    go_ret
    exact ⟨rfl, hide ⟨_, hown6, unhide HDP⟩, ((unhide HB1).trans (OnlyRow.of (belOn (bel1 w1 _) (bel1 _ _)))).trans (OnlyRow.grown hgrow6)⟩
  · have hoo : old = o := by have := unhide HOLD; rw [v1] at this; exact this.symm
    subst hoo
    have H2 := hide v2
    have H3 := hide v3
    clear HV v1 v2 v3
    have hta := ta_app n d
    go_enter Try.func36, Try.ntmps36
    go_wp2_with fail
    refine (file_app n d w).mono ?_
    rintro e w1 ⟨rfl, hb1⟩
    have HO1 := hide (ownsMap_below (unhide HOW) hb1 hlt)
    have HB1 := hide (OnlyRow.of (a := some ⟨b, 0, none⟩) hb1)
    clear hme hb1
    go_wp2_with (first
      | (at_lookup; refine wpList_lookup_own_ok _ rfl _ _ 56 rfl 9 65 law_str Try.underlying56 flElem (zeroF _) (flD (⟨#[]⟩, ⟨#[]⟩)) [] (flElem_mk _ _) b m D rfl (unhide HO1) _ (keyL n) rfl (unhide HKEY) ?_; intro v ps hv; rw [unhide H3] at hv; obtain rfl := flElem_inv hv; clear hv; rw [unhide H2])
      | (at_mapUpdate; refine wpList_mapUpdate_own _ rfl _ _ _ 56 rfl 9 65 law_str Try.underlying56 flElem b m D rfl (((unhide HO1).alloc _).alloc _) (by unfold maxLen; omega) _ _ (keyL n) rfl rfl (unhide HKEY) _ [] (flElem_mk n _) ?_; intro w6 hown6 hgrow6))
    go_ret
    exact ⟨rfl, hide ⟨_, hown6, unhide HDP⟩, ((unhide HB1).trans (OnlyRow.of (belOn (bel1 w1 _) (bel1 _ _)))).trans (OnlyRow.grown hgrow6)⟩
end Go.Proofs.Ytknpccpfjclngaa
