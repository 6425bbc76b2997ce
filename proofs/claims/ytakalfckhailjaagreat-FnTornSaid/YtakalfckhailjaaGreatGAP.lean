/- Texts of one kind, put together. -/
import Derived.Test.YtakalfckhailjaaGreatDskW
import Derived.Maps.Own
import Derived.Maps.OwnOps
import Derived.Maps.OwnSet
import Derived.Maps.Views
import Derived.StringKeys
import Derived.Test.YtakalfckhailjaaGreatGAL

/- The program's table of files: a map from a name to its file. -/
namespace Go.Proofs.YtakalfckhailjaaGreat
open Go.RowKit Go.Maps Plain
set_option linter.unusedVariables false

namespace Plain
def flD (f : Fl) : DataW Unit := .agg [.lit (.string f.1.data.toList), .lit (.string f.2.data.toList)]
/-- How a file reads that is a map's element. -/
def flElem (v : Value) : Option (DataW Unit × List MemPlace) := match v with
  | .agg cs => match cs.toList with
    | [.string n, .string d] => some (flD (n, d), [])
    | _ => none
  | _ => none
theorem flElem_mk (n d : ByteArray) : flElem (.agg #[.string n, .string d]) = some (flD (n, d), []) := rfl
theorem flElem_inv {v : Value} {f : Fl} {ps : List MemPlace} (h : flElem v = some (flD f, ps)) : v = .agg #[.string f.1, .string f.2] := by
  unfold flElem at h
  split at h
  · next cs =>
    split at h
    · next n d hcs =>
      simp [flD] at h
      obtain ⟨⟨h1, h2⟩, _⟩ := h
      have e1 : n = f.1 := ByteArray.ext h1
      have e2 : d = f.2 := ByteArray.ext h2
      subst e1 e2
      congr 1
      exact Array.toList_inj.1 hcs
    · simp at h
  · simp at h
def keyL (n : ByteArray) : Lit := .string n.data.toList
theorem key_ok (n : ByteArray) : WideAt.IsKeyLit (keyL n) := trivial
theorem keyL_inj {a b : ByteArray} (h : keyL a = keyL b) : a = b := by
  unfold keyL at h
  simp at h
  exact ByteArray.ext h
/-- What is read of a table: under each name a text or none. -/
def TabD (D : DataW Unit) (f : ByteArray → Option ByteArray) : Prop := ∀ n, match f n with
  | none => Maps.has D (keyL n) = false
  | some d => Maps.has D (keyL n) = true ∧ ∀ z, D.atKey (keyL n) z = flD (n, d)
def Tab (W : World) (b m : Nat) (f : ByteArray → Option ByteArray) : Prop := ∃ D, W.ownsMap Tryz.prog 9 flElem b m D ∧ TabD D f
noncomputable def updT (f : ByteArray → Option ByteArray) (n : ByteArray) (d : Option ByteArray) : ByteArray → Option ByteArray := fun x => if x = n then d else f x
theorem TabD.put {D : DataW Unit} {f : ByteArray → Option ByteArray} (h : TabD D f) (hm : IsMap D) (n d : ByteArray) : TabD (D.put (keyL n) (flD (n, d))) (updT f n (some d)) := by
  intro x
  unfold updT
  by_cases e : x = n
  · subst e
    rw [if_pos rfl]
    exact ⟨has_put_same hm (key_ok x) _, fun z => atKey_put_same hm (key_ok x) _ z⟩
  · rw [if_neg e]
    have hne : keyL x ≠ keyL n := fun h => e (keyL_inj h)
    have hx := h x
    cases hf : f x with
    | none => rw [hf] at hx; exact (has_put_other hne _).trans hx
    | some y => rw [hf] at hx; exact ⟨(has_put_other hne _).trans hx.1, fun z => (atKey_put_other hne _ z).trans (hx.2 z)⟩
theorem TabD.del {D : DataW Unit} {f : ByteArray → Option ByteArray} (h : TabD D f) (n : ByteArray) : TabD (D.del (keyL n)) (updT f n none) := by
  intro x
  unfold updT
  by_cases e : x = n
  · subst e
    rw [if_pos rfl]
    exact has_del_same
  · rw [if_neg e]
    have hne : keyL x ≠ keyL n := fun h => e (keyL_inj h)
    have hx := h x
    cases hf : f x with
    | none => rw [hf] at hx; exact (has_del_other hne).trans hx
    | some y => rw [hf] at hx; exact ⟨(has_del_other hne).trans hx.1, fun z => (atKey_del_other hne z).trans (hx.2 z)⟩
theorem TabD.empty : TabD (.map []) (fun _ => none) := fun n => rfl
/-- The file's text under a name, in a row in which no name stands twice: the last. -/
noncomputable def tabF : List Fl → ByteArray → Option ByteArray
  | [] => fun _ => none
  | f :: t => fun x => match tabF t x with | some d => some d | none => if x = f.1 then some f.2 else none
theorem tabF_snoc (fs : List Fl) (f : Fl) : tabF (fs ++ [f]) = updT (tabF fs) f.1 (some f.2) := by
  funext x
  induction fs with
  | nil => simp [tabF, updT]
  | cons g t ih =>
    rw [List.cons_append]
    show (match tabF (t ++ [f]) x with | some d => some d | none => if x = g.1 then some g.2 else none) = _
    rw [ih]
    unfold updT
    by_cases e : x = f.1
    · simp [e]
    · simp only [if_neg e]; rfl
end Plain

theorem make_tab (n : Nat) (w : World) : (Instr.makeMap 71 (some (.int .i64 n))).run Tryz.prog w = .ok (.map (some w.heap.size)) (w.alloc (.map #[] 0)) := by
  simp [Instr.makeMap, run_underlying Tryz.underlying71, asInt, asIntOf]
theorem law_str : Keyed Tryz.prog 9 := string_keyed Tryz.underlying9

set_option maxRecDepth 10000 in
set_option maxHeartbeats 4000000 in
theorem tableOf_calls (a : Option Addr) (n c : Nat) (fs : List Fl) (w : World) (hn : fs.length = n) (hn2 : n ≤ 1000000) (hf : FitF fs) (h : RowAt fileE w a fs) :
    Calls Tryz.prog 38 #[.slice a n c] w fun e w' => ∃ b m, e = .returned (.map (some b)) ∧ w.heap.size ≤ b ∧ m ≤ n ∧ Hid (Tab w' b m (tabF fs)) ∧ Below w.heap.size w w' := by
  have H := hide h
  have HN := hide hn
  have HF := hide hf
  clear h hn hf
  have hmm := make_tab n w
  have HT0 := hide (show Tab (w.alloc (.map #[] 0)) w.heap.size 0 (tabF []) from ⟨_, World.ownsMap_made w Tryz.prog 9 flElem, TabD.empty⟩)
  have HB0 := hide (bel1 w (.map #[] 0))
  go_enter Tryz.func38, Tryz.ntmps38
  go_wp2_with fail
  go_loopw [11] (fun i wr => ∃ k : Nat, i = .int .i64 k ∧ k ≤ n ∧ Hid (Tab wr w.heap.size k (tabF (fs.take k))) ∧ Hid (Below w.heap.size w wr)) (fun i _ => n - (intOf i).toNat)
  case atStart => exact ⟨0, rfl, by omega, HT0, HB0⟩
  case round =>
    clear hmm
    obtain ⟨k, rfl, hk, HT, HB⟩ := hrel
    by_cases hkn : k < n
    · have hkl : k < fs.length := by rw [unhide HN]; exact hkn
      obtain ⟨g, e1, l1, p0, p1⟩ := ((unhide H).below (unhide HB)).file k hkl
      have hfit := unhide HF fs[k] (by simp)
      have htk : tabF (fs.take (k + 1)) = updT (tabF (fs.take k)) fs[k].1 (some fs[k].2) := by rw [List.take_succ_eq_append_getElem hkl, tabF_snoc]
      generalize fs[k] = f at p0 p1 hfit htk
      obtain ⟨fn, fd⟩ := f
      simp only at p0 p1 hfit htk
      obtain ⟨D, hown, hD⟩ := unhide HT
      have HO := hide (hown.alloc (.cells #[.string fn, .string fd] 67))
      have HDP := hide (hD.put hown.isMap fn fd)
      have HTK := hide htk
      have hkey : keyOf Tryz.prog 9 (.string fn) = some (keyL fn) := Go.WideMaps.keyOf_string_mk Tryz.underlying9 (by unfold maxLen; omega)
      have HKEY := hide hkey
      subst e1
      have i0 : (0 : Int) ≤ (k : Int) := by omega
      have i1 : (k : Int) < (n : Int) := by omega
      clear hown hD htk hkey
      go_wp2_with (at_mapUpdate; go_must (refine wpList_mapUpdate_own _ rfl _ _ _ 71 rfl 9 67 law_str Tryz.underlying71 flElem w.heap.size k D rfl (unhide HO) (by unfold maxLen; omega) _ _ (keyL fn) rfl rfl (unhide HKEY) _ [] (flElem_mk fn fd) ?_); intro w1 hown1 hgrow1)
      go_roundw
      case rel => exact ⟨k + 1, by go_num, by omega, hide ⟨_, hown1, by rw [unhide HTK]; exact unhide HDP⟩, hide (((unhide HB).alloc (unhide HB).size _).grown hgrow1 (Nat.le_trans (unhide HB).size (by simp)) (fun j hj => by cases hj; exact Nat.le_refl _))⟩
      case measure => simp [intOf]; omega
    · obtain rfl : k = n := by omega
      have HT2 := unhide HT
      rw [List.take_of_length_le (by rw [unhide HN]; exact Nat.le_refl _)] at HT2
      have HT3 := hide HT2
      clear HT HT2
      go_wp2_with fail
      go_ret
      exact ⟨_, _, rfl, Nat.le_refl _, Nat.le_refl _, HT3, unhide HB⟩
end Go.Proofs.YtakalfckhailjaaGreat


/- What a change does to the program's table of files. -/
namespace Go.Proofs.YtakalfckhailjaaGreat
open Go.RowKit Go.Maps Plain
set_option linter.unusedVariables false

theorem file_app (n d : ByteArray) (w : World) : Calls Tryz.prog 165 #[.agg #[.string n, .string d]] w fun e w' => e = .returned (.string n) ∧ Below w.heap.size w w' := by
  go_enter Tryz.func165, Tryz.ntmps165
  go_wp2
  go_ret
  exact ⟨rfl, bel1 _ _⟩

theorem meth_app (n d : ByteArray) (w : World) : (method 330 135 (.agg #[.string n, .string d]) "loop.example/g00141/impl.file").run Tryz.prog w = .ok (165, .agg #[.string n, .string d]) w := by kernel_rfl

theorem Plain.OnlyRow.grown {w w' : World} {b : Nat} (h : w.grownBy w' (some b)) : OnlyRow (some ⟨b, 0, none⟩) w w' := ⟨h.os, h.tape, h.output, h.size, fun k hk hne => h.block k hk (fun e => hne 0 (by cases e; rfl))⟩
theorem ta_app (n d : ByteArray) (w : World) : (Instr.typeAssert (.iface 135 (.agg #[.string n, .string d])) 114 135 true).run Tryz.prog w = .ok (.tuple #[.agg #[.string n, .string d], .bool true]) w := by kernel_rfl
theorem zeroF (w : World) : (zeroValue 67).run Tryz.prog w = .ok (.agg #[.string ⟨#[]⟩, .string ⟨#[]⟩]) w := by kernel_rfl
theorem ownsMap_below {w w' : World} {b m B : Nat} {D : DataW Unit} (h : w.ownsMap Tryz.prog 9 flElem b m D) (hb : Below B w w') (hB : b < B) : w'.ownsMap Tryz.prog 9 flElem b m D := by
  obtain ⟨es, clock, h1, h2, h3, h4⟩ := h
  exact ⟨es, clock, (hb.block b hB).trans h1, h2, h3, h4⟩
theorem Plain.Tab.lt {w : World} {b m : Nat} {f : ByteArray → Option ByteArray} (h : Tab w b m f) : b < w.heap.size := by
  obtain ⟨D, ⟨es, clock, h1, _⟩, _⟩ := h
  exact (Array.getElem?_eq_some_iff.1 h1).1

set_option maxRecDepth 10000 in
set_option maxHeartbeats 4000000 in
theorem apply_app (b m : Nat) (f : ByteArray → Option ByteArray) (n d : ByteArray) (w : World) (h : Tab w b m f) (hm : m ≤ 1000000) (hn : n.size ≤ 1000000000000) (hd : d.size ≤ 1000000000000) (hf : ∀ x y, f x = some y → y.size ≤ 1000000000000) :
    Calls Tryz.prog 76 #[.map (some b), .iface 135 (.agg #[.string n, .string d])] w fun e w' => e = .returned (.bool true) ∧ Hid (Tab w' b (m + 1) (updT f n (some ((f n).getD ⟨#[]⟩ ++ d)))) ∧ OnlyRow (some ⟨b, 0, none⟩) w w' := by
  obtain ⟨old, hold⟩ : ∃ old, (f n).getD ⟨#[]⟩ = old := ⟨_, rfl⟩
  rw [hold]
  have hos : old.size ≤ 1000000000000 := by
    rw [← hold]
    cases hfn : f n with
    | none => decide
    | some y => exact hf n y hfn
  have hlt := h.lt
  obtain ⟨D, hown, hD⟩ := h
  have hval : (f n = none ∧ Maps.has D (keyL n) = false ∧ D.atKey (keyL n) (flD (⟨#[]⟩, ⟨#[]⟩)) = flD (⟨#[]⟩, ⟨#[]⟩)) ∨ (∃ o, f n = some o ∧ Maps.has D (keyL n) = true ∧ D.atKey (keyL n) (flD (⟨#[]⟩, ⟨#[]⟩)) = flD (n, o)) := by
    have hx := hD n
    cases hfn : f n with
    | none => rw [hfn] at hx; exact .inl ⟨rfl, hx, atKey_of_not_has hx _⟩
    | some o => rw [hfn] at hx; exact .inr ⟨o, rfl, hx.1, hx.2 _⟩
  have hkey : keyOf Tryz.prog 9 (.string n) = some (keyL n) := Go.WideMaps.keyOf_string_mk Tryz.underlying9 (by unfold maxLen; omega)
  have HKEY := hide hkey
  have HOW := hide hown
  have HDP := hide (hD.put hown.isMap n (old ++ d))
  have hme := meth_app n d w
  have HV := hide hval
  have HOLD := hide hold
  clear hkey hown hD hval hold hf
  rcases unhide HV with ⟨v1, v2, v3⟩ | ⟨o, v1, v2, v3⟩
  · have hoo : old = ⟨#[]⟩ := by have := unhide HOLD; rw [v1] at this; exact this.symm
    subst hoo
    have H2 := hide v2
    have H3 := hide v3
    clear HV v1 v2 v3
    have hta := ta_app n d
    go_enter Tryz.func76, Tryz.ntmps76
    go_wp2_with fail
    refine (file_app n d w).mono ?_
    rintro e w1 ⟨rfl, hb1⟩
    have HO1 := hide (ownsMap_below (unhide HOW) hb1 hlt)
    have HB1 := hide (OnlyRow.of (a := some ⟨b, 0, none⟩) hb1)
    clear hme hb1
    go_wp2_with (first
      | (at_lookup; refine wpList_lookup_own_ok _ rfl _ _ 71 rfl 9 67 law_str Tryz.underlying71 flElem (zeroF _) (flD (⟨#[]⟩, ⟨#[]⟩)) [] (flElem_mk _ _) b m D rfl (unhide HO1) _ (keyL n) rfl (unhide HKEY) ?_; intro v ps hv; rw [unhide H3] at hv; obtain rfl := flElem_inv hv; clear hv; rw [unhide H2])
      | (at_mapUpdate; refine wpList_mapUpdate_own _ rfl _ _ _ 71 rfl 9 67 law_str Tryz.underlying71 flElem b m D rfl (((unhide HO1).alloc _).alloc _) (by unfold maxLen; omega) _ _ (keyL n) rfl rfl (unhide HKEY) _ [] (flElem_mk n _) ?_; intro w6 hown6 hgrow6))
    go_ret
    exact ⟨rfl, hide ⟨_, hown6, unhide HDP⟩, ((unhide HB1).trans (OnlyRow.of (belOn (bel1 w1 _) (bel1 _ _)))).trans (OnlyRow.grown hgrow6)⟩
  · have hoo : old = o := by have := unhide HOLD; rw [v1] at this; exact this.symm
    subst hoo
    have H2 := hide v2
    have H3 := hide v3
    clear HV v1 v2 v3
    have hta := ta_app n d
    go_enter Tryz.func76, Tryz.ntmps76
    go_wp2_with fail
    refine (file_app n d w).mono ?_
    rintro e w1 ⟨rfl, hb1⟩
    have HO1 := hide (ownsMap_below (unhide HOW) hb1 hlt)
    have HB1 := hide (OnlyRow.of (a := some ⟨b, 0, none⟩) hb1)
    clear hme hb1
    go_wp2_with (first
      | (at_lookup; refine wpList_lookup_own_ok _ rfl _ _ 71 rfl 9 67 law_str Tryz.underlying71 flElem (zeroF _) (flD (⟨#[]⟩, ⟨#[]⟩)) [] (flElem_mk _ _) b m D rfl (unhide HO1) _ (keyL n) rfl (unhide HKEY) ?_; intro v ps hv; rw [unhide H3] at hv; obtain rfl := flElem_inv hv; clear hv; rw [unhide H2])
      | (at_mapUpdate; refine wpList_mapUpdate_own _ rfl _ _ _ 71 rfl 9 67 law_str Tryz.underlying71 flElem b m D rfl (((unhide HO1).alloc _).alloc _) (by unfold maxLen; omega) _ _ (keyL n) rfl rfl (unhide HKEY) _ [] (flElem_mk n _) ?_; intro w6 hown6 hgrow6))
    go_ret
    exact ⟨rfl, hide ⟨_, hown6, unhide HDP⟩, ((unhide HB1).trans (OnlyRow.of (belOn (bel1 w1 _) (bel1 _ _)))).trans (OnlyRow.grown hgrow6)⟩
end Go.Proofs.YtakalfckhailjaaGreat


/- What a rename and a removal do to the program's table of files. -/
namespace Go.Proofs.YtakalfckhailjaaGreat
open Go.RowKit Go.Maps Plain
set_option linter.unusedVariables false

theorem file_ren (n t : ByteArray) (w : World) : Calls Tryz.prog 166 #[.agg #[.string n, .string t]] w fun e w' => e = .returned (.string n) ∧ Below w.heap.size w w' := by
  go_enter Tryz.func166, Tryz.ntmps166
  go_wp2
  go_ret
  exact ⟨rfl, bel1 _ _⟩
theorem file_rem (n : ByteArray) (w : World) : Calls Tryz.prog 167 #[.agg #[.string n]] w fun e w' => e = .returned (.string n) ∧ Below w.heap.size w w' := by
  go_enter Tryz.func167, Tryz.ntmps167
  go_wp2
  go_ret
  exact ⟨rfl, bel1 _ _⟩
theorem meth_ren (n t : ByteArray) (w : World) : (method 330 167 (.agg #[.string n, .string t]) "loop.example/g00141/impl.file").run Tryz.prog w = .ok (166, .agg #[.string n, .string t]) w := by kernel_rfl
theorem meth_rem (n : ByteArray) (w : World) : (method 330 169 (.agg #[.string n]) "loop.example/g00141/impl.file").run Tryz.prog w = .ok (167, .agg #[.string n]) w := by kernel_rfl
theorem ta_ren1 (n t : ByteArray) (w : World) : (Instr.typeAssert (.iface 167 (.agg #[.string n, .string t])) 114 135 true).run Tryz.prog w = .ok (.tuple #[.agg #[.string ⟨#[]⟩, .string ⟨#[]⟩], .bool false]) w := by kernel_rfl
theorem ta_ren2 (n t : ByteArray) (w : World) : (Instr.typeAssert (.iface 167 (.agg #[.string n, .string t])) 114 138 true).run Tryz.prog w = .ok (.tuple #[.agg #[.string ⟨#[]⟩, .string ⟨#[]⟩, .int .i64 0], .bool false]) w := by kernel_rfl
theorem ta_ren3 (n t : ByteArray) (w : World) : (Instr.typeAssert (.iface 167 (.agg #[.string n, .string t])) 114 167 true).run Tryz.prog w = .ok (.tuple #[.agg #[.string n, .string t], .bool true]) w := by kernel_rfl
theorem ta_rem1 (n : ByteArray) (w : World) : (Instr.typeAssert (.iface 169 (.agg #[.string n])) 114 135 true).run Tryz.prog w = .ok (.tuple #[.agg #[.string ⟨#[]⟩, .string ⟨#[]⟩], .bool false]) w := by kernel_rfl
theorem ta_rem2 (n : ByteArray) (w : World) : (Instr.typeAssert (.iface 169 (.agg #[.string n])) 114 138 true).run Tryz.prog w = .ok (.tuple #[.agg #[.string ⟨#[]⟩, .string ⟨#[]⟩, .int .i64 0], .bool false]) w := by kernel_rfl
theorem ta_rem3 (n : ByteArray) (w : World) : (Instr.typeAssert (.iface 169 (.agg #[.string n])) 114 167 true).run Tryz.prog w = .ok (.tuple #[.agg #[.string ⟨#[]⟩, .string ⟨#[]⟩], .bool false]) w := by kernel_rfl
theorem ta_rem4 (n : ByteArray) (w : World) : (Instr.typeAssert (.iface 169 (.agg #[.string n])) 114 169 true).run Tryz.prog w = .ok (.tuple #[.agg #[.string n], .bool true]) w := by kernel_rfl
/-- The two ways of a look at a name. -/
theorem Plain.TabD.look {D : DataW Unit} {f : ByteArray → Option ByteArray} (hD : TabD D f) (n : ByteArray) : (f n = none ∧ Maps.has D (keyL n) = false ∧ D.atKey (keyL n) (flD (⟨#[]⟩, ⟨#[]⟩)) = flD (⟨#[]⟩, ⟨#[]⟩)) ∨ (∃ o, f n = some o ∧ Maps.has D (keyL n) = true ∧ D.atKey (keyL n) (flD (⟨#[]⟩, ⟨#[]⟩)) = flD (n, o)) := by
  have hx := hD n
  cases hfn : f n with
  | none => rw [hfn] at hx; exact .inl ⟨rfl, hx, atKey_of_not_has hx _⟩
  | some o => rw [hfn] at hx; exact .inr ⟨o, rfl, hx.1, hx.2 _⟩

theorem ownsMap_of {w w' : World} {b m : Nat} {D : DataW Unit} (h : w.ownsMap Tryz.prog 9 flElem b m D) (hb : Below w.heap.size w w') : w'.ownsMap Tryz.prog 9 flElem b m D := by
  obtain ⟨es, clock, h1, h2, h3, h4⟩ := h
  exact ⟨es, clock, (hb.block b (Array.getElem?_eq_some_iff.1 h1).1).trans h1, h2, h3, h4⟩
theorem ownsMap_le {w : World} {b m m' : Nat} {D : DataW Unit} (h : w.ownsMap Tryz.prog 9 flElem b m D) (hm : m ≤ m') : w.ownsMap Tryz.prog 9 flElem b m' D := by
  obtain ⟨es, clock, h1, h2, h3, h4⟩ := h
  exact ⟨es, clock, h1, h2, Nat.le_trans h3 hm, h4⟩
theorem isMap_del {D : DataW Unit} (h : IsMap D) (k : Lit) : IsMap (D.del k) := by obtain ⟨es, rfl⟩ := h; exact ⟨_, rfl⟩
theorem four_cells {w w5 : World} {b : Nat} {x0 x1 y0 y1 : Value} {T T' : TypeId} (h : ((w.alloc (.cells #[x0, x1] T)).alloc (.cells #[y0, y1] T')).grownBy w5 (some b)) (h1 : b ≠ w.heap.size) (h2 : b ≠ w.heap.size + 1) :
    w5.cell? ⟨w.heap.size, 0, none⟩ = some x0 ∧ w5.cell? ⟨w.heap.size, 1, none⟩ = some x1 ∧ w5.cell? ⟨w.heap.size + 1, 0, none⟩ = some y0 ∧ w5.cell? ⟨w.heap.size + 1, 1, none⟩ = some y1 := by
  refine ⟨h.cell (by simp [go_sem]) (by simp; omega), h.cell (by simp [go_sem]) (by simp; omega), h.cell (by simp [go_sem]) (by simp; omega), h.cell (by simp [go_sem]) (by simp; omega)⟩

set_option maxRecDepth 10000 in
set_option maxHeartbeats 4000000 in
theorem apply_ren (b m : Nat) (f : ByteArray → Option ByteArray) (n t : ByteArray) (w : World) (h : Tab w b m f) (hm : m ≤ 1000000) (hn : n.size ≤ 1000000000000) (ht : t.size ≤ 1000000000000) :
    Calls Tryz.prog 76 #[.map (some b), .iface 167 (.agg #[.string n, .string t])] w fun e w' => e = .returned (.bool (f n).isSome) ∧ Hid (Tab w' b (m + 1) (match f n with | none => f | some o => updT (updT f n none) t (some o))) ∧ OnlyRow (some ⟨b, 0, none⟩) w w' := by
  have hlt := h.lt
  obtain ⟨D, hown, hD⟩ := h
  have HKEY := hide (show keyOf Tryz.prog 9 (.string n) = some (keyL n) from Go.WideMaps.keyOf_string_mk Tryz.underlying9 (by unfold maxLen; omega))
  have HOW := hide hown
  have HDD := hide hD
  have HIM := hide hown.isMap
  have HV := hide (hD.look n)
  clear hown hD
  have HKT := hide (show keyOf Tryz.prog 9 (.string t) = some (keyL t) from Go.WideMaps.keyOf_string_mk Tryz.underlying9 (by unfold maxLen; omega))
  have hme := meth_ren n t w
  have h1 := ta_ren1 n t
  have h2 := ta_ren2 n t
  have h3 := ta_ren3 n t
  rcases unhide HV with ⟨v1, v2, v3⟩ | ⟨o, v1, v2, v3⟩
  · rw [v1]
    have H2 := hide v2
    have H3 := hide v3
    clear HV v1 v2 v3
    go_enter Tryz.func76, Tryz.ntmps76
    go_wp2_with fail
    refine (file_ren n t w).mono ?_
    rintro e w1 ⟨rfl, hb1⟩
    have HO1 := hide (ownsMap_below (unhide HOW) hb1 hlt)
    have HB1 := hide (OnlyRow.of (a := some ⟨b, 0, none⟩) hb1)
    clear hme hb1
    go_wp2_with (at_lookup; refine wpList_lookup_own_ok _ rfl _ _ 71 rfl 9 67 law_str Tryz.underlying71 flElem (zeroF _) (flD (⟨#[]⟩, ⟨#[]⟩)) [] (flElem_mk _ _) b m D rfl (unhide HO1) _ (keyL n) rfl (unhide HKEY) ?_; intro v ps hv; rw [unhide H3] at hv; obtain rfl := flElem_inv hv; clear hv; rw [unhide H2])
    go_ret
    exact ⟨rfl, hide ⟨D, ownsMap_le (ownsMap_of (unhide HO1) (belOn (bel1 w1 _) (bel1 _ _))) (by omega), unhide HDD⟩, (unhide HB1).trans (OnlyRow.of (belOn (bel1 w1 _) (bel1 _ _)))⟩
  · rw [v1]
    have H2 := hide v2
    have H3 := hide v3
    have HDP := hide (((unhide HDD).del n).put (isMap_del (unhide HIM) (keyL n)) t o)
    clear HV v1 v2 v3
    go_enter Tryz.func76, Tryz.ntmps76
    go_wp2_with fail
    refine (file_ren n t w).mono ?_
    rintro e w1 ⟨rfl, hb1⟩
    have HO1 := hide (ownsMap_below (unhide HOW) hb1 hlt)
    have HB1 := hide (OnlyRow.of (a := some ⟨b, 0, none⟩) hb1)
    clear hme hb1
    go_wp2_with (first
      | (at_lookup; refine wpList_lookup_own_ok _ rfl _ _ 71 rfl 9 67 law_str Tryz.underlying71 flElem (zeroF _) (flD (⟨#[]⟩, ⟨#[]⟩)) [] (flElem_mk _ _) b m D rfl (unhide HO1) _ (keyL n) rfl (unhide HKEY) ?_; intro v ps hv; rw [unhide H3] at hv; obtain rfl := flElem_inv hv; clear hv; rw [unhide H2])
      | (at_delete; refine wpList_delete_own _ rfl _ _ 71 9 rfl 67 law_str Tryz.underlying71 flElem b m D rfl (((unhide HO1).alloc _).alloc _) _ (keyL n) rfl (unhide HKEY) ?_; intro w5 hown5 hturn5; have HO5 := hide hown5; obtain ⟨z0, z1, z2, z3⟩ := four_cells hturn5.grown (show b ≠ w1.heap.size from by have := (unhide HB1).size; omega) (show b ≠ w1.heap.size + 1 from by have := (unhide HB1).size; omega))
      | (at_mapUpdate; refine wpList_mapUpdate_own _ rfl _ _ _ 71 rfl 9 67 law_str Tryz.underlying71 flElem b m _ rfl (unhide HO5) (by unfold maxLen; omega) _ _ (keyL t) rfl rfl (unhide HKT) _ [] (flElem_mk t _) ?_; intro w6 hown6 hgrow6))
    go_ret
    exact ⟨rfl, hide ⟨_, hown6, unhide HDP⟩, (((unhide HB1).trans (OnlyRow.of (belOn (bel1 w1 _) (bel1 _ _)))).trans (OnlyRow.grown hturn5.grown)).trans (OnlyRow.grown hgrow6)⟩

set_option maxRecDepth 10000 in
set_option maxHeartbeats 4000000 in
theorem apply_rem (b m : Nat) (f : ByteArray → Option ByteArray) (n : ByteArray) (w : World) (h : Tab w b m f) (hm : m ≤ 1000000) (hn : n.size ≤ 1000000000000) :
    Calls Tryz.prog 76 #[.map (some b), .iface 169 (.agg #[.string n])] w fun e w' => e = .returned (.bool (f n).isSome) ∧ Hid (Tab w' b (m + 1) (updT f n none)) ∧ OnlyRow (some ⟨b, 0, none⟩) w w' := by
  have hlt := h.lt
  obtain ⟨D, hown, hD⟩ := h
  have HKEY := hide (show keyOf Tryz.prog 9 (.string n) = some (keyL n) from Go.WideMaps.keyOf_string_mk Tryz.underlying9 (by unfold maxLen; omega))
  have HOW := hide hown
  have HDD := hide hD
  have HIM := hide hown.isMap
  have HV := hide (hD.look n)
  clear hown hD
  have hme := meth_rem n w
  have h1 := ta_rem1 n
  have h2 := ta_rem2 n
  have h3 := ta_rem3 n
  have h4 := ta_rem4 n
  have HDP := hide ((unhide HDD).del n)
  rcases unhide HV with ⟨v1, v2, v3⟩ | ⟨o, v1, v2, v3⟩
  · rw [v1]
    have H2 := hide v2
    have H3 := hide v3
    clear HV v1 v2 v3
    go_enter Tryz.func76, Tryz.ntmps76
    go_wp2_with fail
    refine (file_rem n w).mono ?_
    rintro e w1 ⟨rfl, hb1⟩
    have HO1 := hide (ownsMap_below (unhide HOW) hb1 hlt)
    have HB1 := hide (OnlyRow.of (a := some ⟨b, 0, none⟩) hb1)
    clear hme hb1
    go_wp2_with (first
      | (at_lookup; refine wpList_lookup_own_ok _ rfl _ _ 71 rfl 9 67 law_str Tryz.underlying71 flElem (zeroF _) (flD (⟨#[]⟩, ⟨#[]⟩)) [] (flElem_mk _ _) b m D rfl (unhide HO1) _ (keyL n) rfl (unhide HKEY) ?_; intro v ps hv; rw [unhide H3] at hv; obtain rfl := flElem_inv hv; clear hv; rw [unhide H2])
      | (at_delete; refine wpList_delete_own _ rfl _ _ 71 9 rfl 67 law_str Tryz.underlying71 flElem b m D rfl (((unhide HO1).alloc _).alloc _) _ (keyL n) rfl (unhide HKEY) ?_; intro w5 hown5 hturn5))
    go_ret
    exact ⟨rfl, hide ⟨_, ownsMap_le hown5 (by omega), unhide HDP⟩, ((unhide HB1).trans (OnlyRow.of (belOn (bel1 w1 _) (bel1 _ _)))).trans (OnlyRow.grown hturn5.grown)⟩
  · rw [v1]
    have H2 := hide v2
    have H3 := hide v3
    clear HV v1 v2 v3
    go_enter Tryz.func76, Tryz.ntmps76
    go_wp2_with fail
    refine (file_rem n w).mono ?_
    rintro e w1 ⟨rfl, hb1⟩
    have HO1 := hide (ownsMap_below (unhide HOW) hb1 hlt)
    have HB1 := hide (OnlyRow.of (a := some ⟨b, 0, none⟩) hb1)
    clear hme hb1
    go_wp2_with (first
      | (at_lookup; refine wpList_lookup_own_ok _ rfl _ _ 71 rfl 9 67 law_str Tryz.underlying71 flElem (zeroF _) (flD (⟨#[]⟩, ⟨#[]⟩)) [] (flElem_mk _ _) b m D rfl (unhide HO1) _ (keyL n) rfl (unhide HKEY) ?_; intro v ps hv; rw [unhide H3] at hv; obtain rfl := flElem_inv hv; clear hv; rw [unhide H2])
      | (at_delete; refine wpList_delete_own _ rfl _ _ 71 9 rfl 67 law_str Tryz.underlying71 flElem b m D rfl (((unhide HO1).alloc _).alloc _) _ (keyL n) rfl (unhide HKEY) ?_; intro w5 hown5 hturn5))
    go_ret
    exact ⟨rfl, hide ⟨_, ownsMap_le hown5 (by omega), unhide HDP⟩, ((unhide HB1).trans (OnlyRow.of (belOn (bel1 w1 _) (bel1 _ _)))).trans (OnlyRow.grown hturn5.grown)⟩
end Go.Proofs.YtakalfckhailjaaGreat

