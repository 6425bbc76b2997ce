/- The program's list of its table. -/
import Derived.Test.YtknpccpfjclngaaGAG
import Derived.Test.YtknpccpfjclngaaIter
namespace Go.Proofs.Ytknpccpfjclngaa
open Go.RowKit Go.Maps Plain
set_option linter.unusedVariables false

theorem keysOf_calls (b : Nat) (w : World) : Calls Try.prog 55 #[.map (some b)] w fun e w' => e = .returned (.func (.func 64) #[] #[.pointer (some ⟨w.heap.size, 0, none⟩)]) ∧ w' = w.alloc (.cells #[.map (some b)] 56) :=
  callsIn_wide.1 (Try.maps_Keys_55 (some b) w)
set_option maxRecDepth 10000 in
theorem sortedKeys_calls (b m : Nat) (fs : List Fl) (w : World) (h : Tab w b m (tabF fs)) (hr : Risen fs) (hl : fs.length ≤ 1000000) :
    Calls Try.prog 54 #[.func (.func 64) #[] #[.pointer (some ⟨w.heap.size, 0, none⟩)]] (w.alloc (.cells #[.map (some b)] 56)) fun e w' => ∃ v, e = .returned v ∧ w'.ownsRow (w.heap.size + 1) 9 1 v fs.length ((namesF fs).map encStr) ∧ (v = .slice none 0 0 ↔ fs = []) ∧ Below w.heap.size w w' := by
  obtain ⟨D, hown, hD⟩ := h
  have hsz := tab_size hown hD hr.names
  refine (callsIn_wide.1 (Try.slices_Sorted_keys_54_55 b m D flElem w hown (by rw [hsz]; unfold maxLen; omega) (by rw [hsz]; omega))).mono ?_
  rintro e w' ⟨v, ss, rfl, hS, hrow, hnil, hb⟩
  have hlen : ss.length = fs.length := by rw [hS.length_eq, ← (tab_keys hown hD hr.names).length_eq]; simp [namesF]
  rw [sort_names hown hD hr hS, hlen] at hrow
  refine ⟨v, rfl, ?_, ?_, ?_⟩
  · simpa using hrow
  · rw [hnil, ← List.length_eq_zero_iff, hlen, List.length_eq_zero_iff]
  · exact (bel1 w _).trans (hb.mono (by simp))

namespace Plain
theorem row_name {W : World} {B : Nat} {a : Option Addr} {n c : Nat} {fs : List Fl} (h : W.ownsRow B 9 1 (.slice a n c) fs.length ((namesF fs).map encStr)) (i : Nat) (hi : i < fs.length) : ∃ g, a = some ⟨g, 0, none⟩ ∧ g < W.heap.size ∧ W.cell? ⟨g, i, none⟩ = some (.string fs[i].1) := by
  rcases h.2 with ⟨_, h0⟩ | ⟨g, cap, cur, e1, hg, hc, _⟩
  · omega
  · obtain ⟨rfl, rfl, rfl⟩ : a = some ⟨g, 0, none⟩ ∧ n = fs.length ∧ c = cap := by simpa using e1
    refine ⟨g, rfl, (Array.getElem?_eq_some_iff.1 hc).1, ?_⟩
    rw [World.ownsRow.cellAt h i (by omega)]
    simp [namesF, encStr, hi]
theorem row_form {W : World} {B : Nat} {v : Value} {k : Nat} {xs : List Value} {e : TypeId} (h : W.ownsRow B e 1 v k xs) : ∃ a c, v = .slice a k c := by
  rcases h.2 with ⟨e1, h0⟩ | ⟨g, cap, cur, e1, _⟩
  · exact ⟨none, 0, by rw [e1, h0]⟩
  · exact ⟨_, cap, e1⟩
theorem Tab.below {w w' : World} {b m B : Nat} {f : ByteArray → Option ByteArray} (h : Tab w b m f) (hb : Below B w w') (hB : b < B) : Tab w' b m f := by
  obtain ⟨D, h1, h2⟩ := h
  exact ⟨D, ownsMap_below h1 hb hB, h2⟩
/-- The file that a look into the table answers. -/
def fileAt (f : ByteArray → Option ByteArray) (nm : ByteArray) : Value := match f nm with | some d => .agg #[.string nm, .string d] | none => .agg #[.string ⟨#[]⟩, .string ⟨#[]⟩]
theorem TabD.lookV {D : DataW Unit} {f : ByteArray → Option ByteArray} (h : TabD D f) (nm : ByteArray) : Maps.has D (keyL nm) = (f nm).isSome ∧ ∀ v ps, flElem v = some (D.atKey (keyL nm) (flD (⟨#[]⟩, ⟨#[]⟩)), ps) → v = fileAt f nm := by
  have hx := h nm
  unfold fileAt
  cases hf : f nm with
  | none =>
    rw [hf] at hx
    refine ⟨hx, fun v ps hv => ?_⟩
    rw [atKey_of_not_has hx] at hv
    exact flElem_inv hv
  | some d =>
    rw [hf] at hx
    refine ⟨hx.1, fun v ps hv => ?_⟩
    rw [hx.2] at hv
    exact flElem_inv hv
end Plain
theorem Plain.Tab.look {w : World} {b m : Nat} {f : ByteArray → Option ByteArray} (h : Tab w b m f) {nm : ByteArray} (hs : nm.size ≤ 1000000000000) : (Instr.lookup 56 (.map (some b)) (.string nm) false).run Try.prog w = .ok (fileAt f nm) w := by
  obtain ⟨D, hown, hD⟩ := h
  have hkey : keyOf Try.prog 9 (.string nm) = some (keyL nm) := Go.WideMaps.keyOf_string_mk Try.underlying9 (by unfold maxLen; omega)
  obtain ⟨v, ps, hrun, hv⟩ := hown.lookup law_str Try.underlying56 (zeroF w) (flElem_mk _ _) hkey
  rw [hrun, (hD.lookV nm).2 v ps hv]
theorem Plain.Tab.look_ok {w : World} {b m : Nat} {f : ByteArray → Option ByteArray} (h : Tab w b m f) {nm : ByteArray} (hs : nm.size ≤ 1000000000000) : (Instr.lookup 56 (.map (some b)) (.string nm) true).run Try.prog w = .ok (.tuple #[fileAt f nm, .bool (f nm).isSome]) w := by
  obtain ⟨D, hown, hD⟩ := h
  have hkey : keyOf Try.prog 9 (.string nm) = some (keyL nm) := Go.WideMaps.keyOf_string_mk Try.underlying9 (by unfold maxLen; omega)
  obtain ⟨v, ps, hrun, hv⟩ := hown.look_ok law_str Try.underlying56 (zeroF w) (flElem_mk _ _) hkey
  rw [hrun, (hD.lookV nm).2 v ps hv, (hD.lookV nm).1]

set_option maxRecDepth 10000 in
set_option maxHeartbeats 4000000 in
theorem list_calls (b m : Nat) (fs : List Fl) (w : World) (h : Tab w b m (tabF fs)) (hr : Risen fs) (hl : fs.length ≤ 1000000) (hf : FitF fs) :
    Calls Try.prog 30 #[.map (some b)] w fun e w' => ∃ v, e = .returned v ∧ OwnR fileE w' w.heap.size v fs ∧ Below w.heap.size w w' := by
  have H := hide h
  have HR := hide hr
  have HF := hide hf
  have hbw := h.lt
  clear h hr hf
  go_enter Try.func30, Try.ntmps30
  go_wp2_with fail
  refine (keysOf_calls b w).mono ?_
  rintro e w1 ⟨rfl, rfl⟩
  go_wp2_with fail
  refine (sortedKeys_calls b m fs w (unhide H) (unhide HR) hl).mono ?_
  rintro e w2 ⟨v, rfl, hrow, hnil, hb2⟩
  obtain ⟨a, c, rfl⟩ := row_form hrow
  have HROW := hide hrow
  have HT := hide ((unhide H).below hb2 hbw)
  have HB2 := hide hb2
  have hsz := hb2.size
  have HNN : Hid (fs.length = fs.length) := hide rfl
  obtain ⟨n, hn⟩ : ∃ n, fs.length = n := ⟨_, rfl⟩
  rw [hn] at hl ⊢
  have HN := hide hn
  have HRT := hide (fun i hi => row_name hrow i hi)
  clear hrow hnil hb2 HNN hn HROW H
  go_wp2_with fail
  go_loopw [3, 10] (fun fv i wr => ∃ (k : Nat), i = .int .i64 k ∧ k ≤ n ∧ Hid (OwnR fileE wr w2.heap.size fv (fs.take k)) ∧ Hid (Below w2.heap.size w2 wr)) (fun _ i _ => n - (intOf i).toNat)
  case atStart => exact ⟨0, rfl, by omega, hide (by simpa using ownR_nil fileE w2 w2.heap.size), hide (Below.refl _ _)⟩
  case round =>
    obtain ⟨k, rfl, hk, HO, HB⟩ := hrel
    by_cases hkn : k < n
    · have hkl : k < fs.length := by rw [unhide HN]; exact hkn
      obtain ⟨g, e1, l1, p0⟩ := unhide HRT k hkl
      have p1 := bcl (unhide HB) l1 p0
      have hnm := (unhide HF fs[k] (by simp)).1
      have hlk := (((unhide HT).below (unhide HB) (Nat.lt_of_lt_of_le hbw hsz)).look hnm)
      have hfa : fileAt (tabF fs) fs[k].1 = .agg #[.string fs[k].1, .string fs[k].2] := by unfold fileAt; rw [(tabF_some fs (unhide HR).names fs[k].1 fs[k].2).2 (List.getElem_mem hkl)]
      rw [hfa] at hlk
      have HTK := hide (List.take_succ_eq_append_getElem hkl)
      have hlen : (fs.take k).length = k := by rw [List.length_take]; omega
      have HLEN := hide hlen
      generalize fs[k] = f at p1 hlk HTK
      obtain ⟨nm, dt⟩ := f
      simp only at p1 hlk
      clear hfa p0 hnm
      subst e1
      have i0 : (0 : Int) ≤ (k : Int) := by omega
      have i1 : (k : Int) < (n : Int) := by omega
      go_wp2_with (at_builtin; refine appR rfl _ _ rfl (unhide HO) rfl (nm, dt) rfl _ rfl rfl (by rw [unhide HLEN]; omega) (unhide HB).size ?_; intro v3 w3 hO3 hb3 _)
      go_roundw
      case rel => exact ⟨k + 1, by go_num, by omega, hide (by rw [unhide HTK]; exact hO3), hide ((unhide HB).trans hb3)⟩
      case measure => simp [intOf]; omega
    · obtain rfl : k = n := by omega
      have HO2 := unhide HO
      rw [List.take_of_length_le (by rw [unhide HN]; exact Nat.le_refl _)] at HO2
      have HO3 := hide HO2
      clear HO HO2
      go_wp2_with fail
      go_ret
      exact ⟨_, rfl, (unhide HO3).le hsz, belOn (unhide HB2) (unhide HB)⟩
end Go.Proofs.Ytknpccpfjclngaa
