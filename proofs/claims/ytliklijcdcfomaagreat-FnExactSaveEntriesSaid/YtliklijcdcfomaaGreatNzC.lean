/- Texts of one kind, put together. -/
import Derived.Shelf.Strings.Builder1
import Derived.Shelf.Strconv.Itoa4
import Derived.Test.YtliklijcdcfomaaGreatProg
import Derived.Test.YtliklijcdcfomaaGreatAzC
import Derived.Lib.Builder
import Derived.Lib.AppendStr
import Derived.Laws.Externs
import Derived.Test.YtliklijcdcfomaaGreatSeM
import Derived.Test.YtliklijcdcfomaaGreatRzA

/- The library's strings.Builder and FormatInt, laid at this program: where its functions and types lie. -/
namespace Go.Proofs
open Go.Shelf
def Tryz.lays169_ren : Go.Shelf.Ren := ⟨fun | 169 => 93 | n => n, fun | 70 => 133 | 9 => 9 | 0 => 0 | 72 => 136 | 37 => 134 | 127 => 177 | 3 => 3 | 5 => 5 | n => n, fun | n => n⟩
theorem Tryz.lays169 : Go.Proofs.Lays.n169 Tryz.prog Tryz.lays169_ren := {
  mixed := by kernel_rfl
  f169 := Tryz.func93.trans (congrArg some (by kernel_rfl))
  t0 := Tryz.underlying0
  a0 := Tryz.isAgg0
  z0 := Tryz.sizeOf0
  v0 := Tryz.zeroValue0
  t3 := Tryz.underlying3
  a3 := Tryz.isAgg3
  z3 := Tryz.sizeOf3
  v3 := Tryz.zeroValue3
  t9 := Tryz.underlying9
  a9 := Tryz.isAgg9
  z9 := Tryz.sizeOf9
  v9 := Tryz.zeroValue9
  t37 := Tryz.underlying134
  a37 := Tryz.isAgg134
  z37 := Tryz.sizeOf134
  v37 := Tryz.zeroValue134
  t70 := Tryz.underlying133
  a70 := Tryz.isAgg133
  z70 := Tryz.sizeOf133
  v70 := Tryz.zeroValue133
  t72 := Tryz.underlying136
  a72 := Tryz.isAgg136
  z72 := Tryz.sizeOf136
  v72 := Tryz.zeroValue136
  t127 := Tryz.underlying177
  a127 := Tryz.isAgg177
  z127 := Tryz.sizeOf177
  v127 := Tryz.zeroValue177 }
end Go.Proofs


/- A strings.Builder that is written to, by this program. -/
namespace Go.Proofs.YtliklijcdcfomaaGreat
open Go.RowKit Plain
set_option linter.unusedVariables false

theorem sizeBld : (Tryz.prog.info? 136).map (·.size) = some 2 := by kernel_rfl
theorem liesBld : liesAt Tryz.prog Tryz.prog.depth 136 (2 / Tryz.prog.cellsOf 136) 0 136 1 = true := by kernel_rfl
theorem infoU8 : (Tryz.prog.info? 5).map (fun i => (i.zero, i.size, i.bytes)) = some (some (.int .u8 0), 1, 1) := by kernel_rfl

set_option maxHeartbeats 1000000 in
set_option maxRecDepth 100000 in
theorem copyCheck_calls (B b : Nat) (bs : List Value) (w : World) (h : Lib.IsBuilder 136 5 B b bs w) :
    Calls Tryz.prog 114 #[.pointer (some ⟨b, 0, none⟩)] w fun e w' => e = .returned (.tuple #[]) ∧ (Lib.BuilderAt 136 5 B b (.pointer (some ⟨b, 0, none⟩)) bs w' ∧ Below B w w') := by
  obtain ⟨j, hj, hjs⟩ := Option.map_eq_some_iff.1 sizeBld
  rcases h with h | h
  · have h0 := h.cell0
    have hsh := h.shape
    have hfz := h.frozen0
    have HH := hide h
    clear h
    go_enter Tryz.func114, Tryz.ntmps114
    go_wp2
    rw [Lib.run_to_unsafe w ⟨b, 0, none⟩ Tryz.underlying133 Tryz.underlying194 hj (by rw [hjs]; decide) hsh (Nat.zero_lt_succ 1)]
    simp only [Result.andThen]
    rw [Oper.upon_value]
    go_wp2
    rw [run_callFunc_extern Tryz.func128 (by kernel_rfl) (by kernel_rfl) (by kernel_rfl) (e := Extern.AbiNoEscape.same) (by kernel_rfl)]
    rw [Lib.run_noEscape]
    simp only [Result.andThen]
    rw [Oper.upon_value]
    go_wp2
    rw [Lib.run_from_unsafe w ⟨b, 0, none⟩ Tryz.underlying194 Tryz.underlying133 hj hsh liesBld]
    simp only [Result.andThen]
    rw [Oper.upon_value]
    go_wp2
    go_end0
    exact ⟨rfl, (unhide HH).used _, (Below.refl B w).setCell (p := ⟨b, 0, none⟩) (unhide HH).1 _⟩
  · have h0 := h.cell0
    have HH := hide h
    clear h
    go_enter Tryz.func114, Tryz.ntmps114
    go_wp2
    rw [Lib.run_neq_ptr_same w _ Tryz.underlying133 hj]
    go_wp2
    go_end0
    exact ⟨rfl, unhide HH, Below.refl B _⟩

set_option maxHeartbeats 1000000 in
set_option maxRecDepth 100000 in
theorem WriteString_calls (B b : Nat) (bs : List Value) (s : ByteArray) (w : World) (h : Lib.IsBuilder 136 5 B b bs w) (hlen : bs.length + s.size ≤ 100000000) (hBw : B ≤ w.heap.size) :
    Calls Tryz.prog 91 #[.pointer (some ⟨b, 0, none⟩), .string s] w fun e w' => e = .returned (.tuple #[.int .i64 s.size, .nilIface]) ∧ (Lib.BuilderAt 136 5 B b (.pointer (some ⟨b, 0, none⟩)) (bs ++ Lib.strCells s) w' ∧ Below B w w') := by
  obtain ⟨i0, hi, hz0, hz1, hz2⟩ := info_parts infoU8
  have HC := hide (copyCheck_calls B b bs w h)
  clear h
  go_enter Tryz.func91, Tryz.ntmps91
  go_wp2_with fail
  refine (unhide HC).mono ?_
  rintro e w1 ⟨rfl, h1, hb1⟩
  obtain ⟨hB, v, hbk, hown, hne⟩ := h1
  have c0 : w1.cell? ⟨b, 0, none⟩ = some (.pointer (some ⟨b, 0, none⟩)) := by rw [Lib.cell_of_heap hbk]; rfl
  have c1 : w1.cell? ⟨b, 1, none⟩ = some v := by rw [Lib.cell_of_heap hbk]; rfl
  have hz := hb1.size
  go_wp2_with (at_builtin; refine Lib.wpList_append_own_string _ rfl _ _ 134 9 rfl B 5 i0 Tryz.underlying134 Tryz.underlying9 hi hz0 hz1 hz2 _ _ _ rfl hown s rfl ?c3 ?c4 ?c5 ?_)
  case c3 => unfold maxLen; omega
  case c4 => omega
  case c5 => omega
  intro v' w2 hown2 hgrow _
  have hlt : b < w1.heap.size := by
    rcases Nat.lt_or_ge b w1.heap.size with h' | h'
    · exact h'
    · simp [Array.getElem?_eq_none h'] at hbk
  have hb2 : w2.heap[b]? = some (.cells #[.pointer (some ⟨b, 0, none⟩), v] 136 (0, 0)) := (hgrow.block b hlt (fun e => hne e.symm)).trans hbk
  have d0 : w2.cell? ⟨b, 0, none⟩ = some (.pointer (some ⟨b, 0, none⟩)) := by rw [Lib.cell_of_heap hb2]; rfl
  have d1 : w2.cell? ⟨b, 1, none⟩ = some v := by rw [Lib.cell_of_heap hb2]; rfl
  have f1 : w2.frozen? ⟨b, 1, none⟩ = false := Lib.frozen_of_heap hb2 1
  obtain ⟨ao, n2, cap, rfl⟩ : ∃ ao n2 cap, v' = .slice ao n2 cap := by
    rcases hown2.2 with ⟨hv, _⟩ | ⟨g, cap, cur, hv, _⟩
    · exact ⟨_, _, _, hv⟩
    · exact ⟨_, _, _, hv⟩
  go_wp2
  go_ret2
  refine ⟨rfl, Lib.BuilderAt.put (T := 136) (e := 5) hB hb2 (bs' := bs ++ Lib.strCells s) (by simpa [Lib.strCells_length] using hown2) (by decide), ?_⟩
  exact (hb1.grown hgrow (by omega) (fun k hk => (hown.lt k hk).1)).setCell (p := ⟨b, 1, none⟩) hB _

theorem bldExtra : Builder.Extra Tryz.prog Tryz.lays169_ren where
  sizeBuilder := by kernel_rfl
  liesBuilder := by kernel_rfl
  t5 := Tryz.underlying5
  a5 := Tryz.isAgg5
  z5 := Tryz.sizeOf5
  v5 := Tryz.zeroValue5
  infoByte := by kernel_rfl
  cellsByte := by kernel_rfl
  sizeByte := by kernel_rfl
  neB5 := by decide
theorem BString_calls (B b : Nat) (l : List UInt8) (w : World) (h : Lib.IsBuilder 136 5 B b (Lib.byteCells l) w) (hBw : B ≤ w.heap.size) :
    Calls Tryz.prog 93 #[.pointer (some ⟨b, 0, none⟩)] w fun e w' => e = .returned (.string ⟨l.toArray⟩) ∧ Below B w w' := Any.Builder_String_any Tryz.lays169 bldExtra B b l w h hBw

end Go.Proofs.YtliklijcdcfomaaGreat

/- The texts of entries and the ops that append them, by the program. -/
namespace Go.Proofs.YtliklijcdcfomaaGreat
open Go.RowKit Plain
set_option linter.unusedVariables false

theorem Plain.isB_stay {T e : TypeId} {B b : Nat} {bs : List Value} {w w' : World} (h : Lib.IsBuilder T e B b bs w) (hb : Below w.heap.size w w') : Lib.IsBuilder T e B b bs w' := by
  have key : ∀ p, Lib.BuilderAt T e B b p bs w → Lib.BuilderAt T e B b p bs w' := by
    intro p h
    have hl := h.lt
    obtain ⟨h1, v, h2, h3, h4⟩ := h
    refine ⟨h1, v, (hb.block b hl).trans h2, ⟨h3.1, ?_⟩, h4⟩
    have hlt := World.ownsRow.lt h3
    rcases h3.2 with ⟨a, c⟩ | ⟨g, cap, cur, rfl, c, d, r⟩
    · exact .inl ⟨a, c⟩
    · exact .inr ⟨g, cap, cur, rfl, c, (hb.block g (hlt g rfl).2).trans d, r⟩
  rcases h with h | h
  · exact .inl (key _ h)
  · exact .inr (key _ h)

set_option maxRecDepth 10000 in
set_option maxHeartbeats 2000000 in
theorem logText_calls (a : Option Addr) (n c : Nat) (es : List Ent) (w : World) (hr : RowAt entE w a es) (hn : es.length = n) (hn2 : n ≤ 1000) (hf : ∀ e ∈ es, e.body.size ≤ 1000000000000) :
    Calls Tryz.prog 52 #[.slice a n c] w fun e w' => e = .returned (.string (catQ es)) ∧ Below w.heap.size w w' := by
  obtain ⟨W0, hW0⟩ : ∃ W0, W0 = w.alloc (.cells #[.pointer none, .slice none 0 0] 136) := ⟨_, rfl⟩
  have hb0 : Below w.heap.size w W0 := by rw [hW0]; exact bel1 _ _
  have HF := hide (show Lib.IsBuilder 136 5 w.heap.size w.heap.size (Lib.byteCells (catQ (es.take 0)).data.toList) W0 from by rw [hW0]; exact Lib.fresh_isBuilder _ _ w)
  have HB0 := hide hb0
  have HD := hide (fun (W : World) (hW : Below w.heap.size w W) => hr.below hW)
  have HFI := hide hf
  have HN := hide hn
  have HW0 := hide hW0.symm
  clear hb0 hW0 hn hr hf
  go_enter Tryz.func52, Tryz.ntmps52
  go_wp2_with fail
  rw [unhide HW0]
  go_loopw [8] (fun i wr => ∃ k : Nat, i = .int .i64 k ∧ k ≤ n ∧ Hid (Lib.IsBuilder 136 5 w.heap.size w.heap.size (Lib.byteCells (catQ (es.take k)).data.toList) wr) ∧ Hid (Below w.heap.size w wr)) (fun i _ => n - (intOf i).toNat)
  case atStart => exact ⟨0, rfl, by omega, HF, HB0⟩
  case round =>
    clear HF HB0
    obtain ⟨k, rfl, hk, HF, HB⟩ := hrel
    by_cases hkn : k < n
    · have hkl : k < es.length := by rw [unhide HN]; exact hkn
      obtain ⟨g, e1, l1, p0, p1, p2⟩ := (unhide HD _ (unhide HB)).ex k hkl
      have hbd := unhide HFI es[k] (List.getElem_mem _)
      have hst : catQ (es.take (k + 1)) = catQ (es.take k) ++ entT es[k].term es[k].kind es[k].body := by rw [List.take_succ_eq_append_getElem hkl, catQ_app, catQ, catQ, app_none]
      have hjs : (catQ (es.take k)).size ≤ 20009 * 1000 := by
        rw [catQ_size]
        have := logZ_max (es.take k)
        rw [List.length_take] at this
        omega
      generalize es[k] = x at p0 p1 p2 hst hbd
      obtain ⟨tm, kd, bd⟩ := x
      simp only at p0 p1 p2 hst hbd
      have hle := entT_le tm kd bd
      have HCL := hide (fun W => impl_EntryText tm kd bd W hbd)
      have hz := (unhide HB).size
      subst e1
      have i0 : (0 : Int) ≤ (k : Int) := by omega
      have i1 : (k : Int) < (n : Int) := by omega
      have HST := hide (show Lib.byteCells (catQ (es.take k)).data.toList ++ Lib.strCells (entT tm kd bd) = Lib.byteCells (catQ (es.take (k + 1))).data.toList from by rw [hst, Lib.strCells_eq]; simp [Lib.byteCells])
      have HWS := hide (fun (W : World) (hW : Below wr.heap.size wr W) => WriteString_calls w.heap.size w.heap.size _ (entT tm kd bd) W (isB_stay (unhide HF) hW) (by rw [Lib.byteCells_length, Array.length_toList]; show (catQ (es.take k)).size + _ ≤ _; omega) (Nat.le_trans hz hW.size))
      rw [unhide HST] at HWS
      generalize entT tm kd bd = tx at HWS HCL
      clear hst HST hjs hle
      go_wp2_with (first
        | (go_at_call 92; refine (unhide HCL _).mono ?_; rintro e w1 ⟨rfl, hb1⟩)
        | (go_at_call 91; refine (unhide HWS _ (belOn (bel1 _ _) hb1)).mono ?_; rintro e w2 ⟨rfl, hF2, hb2⟩))
      have HF2 := hide (show Lib.IsBuilder 136 5 w.heap.size w.heap.size (Lib.byteCells (catQ (es.take (k + 1))).data.toList) w2 from .inr hF2)
      have HB2 := hide (((unhide HB).trans ((belOn (bel1 _ _) hb1).mono hz)).trans hb2)
      clear hF2 hb2 hb1
      go_roundw
      case rel => exact ⟨k + 1, by go_num, by omega, HF2, HB2⟩
      case measure => simp [intOf]; omega
    · obtain rfl : k = n := by omega
      have hz := (unhide HB).size
      have HS := hide (BString_calls w.heap.size w.heap.size _ wr (unhide HF) hz)
      rw [List.take_of_length_le (by rw [unhide HN]; exact Nat.le_refl _)] at HS
      rw [show (⟨((catQ es).data.toList).toArray⟩ : ByteArray) = catQ es from by simp] at HS
      clear HF
      go_wp2_with fail
      refine (unhide HS).mono ?_
      rintro e w2 ⟨rfl, hb2⟩
      have HB2 := hide ((unhide HB).trans hb2)
      clear hb2
      go_wp2_with fail
      go_ret
      exact ⟨rfl, unhide HB2⟩

set_option maxRecDepth 10000 in
set_option maxHeartbeats 2000000 in
theorem appendsOf_calls (a : Option Addr) (n c : Nat) (es : List Ent) (w : World) (hr : RowAt entE w a es) (hn : es.length = n) (hn2 : n ≤ 1000) (hf : ∀ e ∈ es, e.body.size ≤ 1000000000000) :
    Calls Tryz.prog 54 #[.slice a n c] w fun e w' => ∃ v, e = .returned v ∧ OwnR dopE w' w.heap.size v (es.map entO) ∧ Below w.heap.size w w' := by
  have HD := hide (fun (W : World) (hW : Below w.heap.size w W) => hr.below hW)
  have HFI := hide hf
  have HN := hide hn
  clear hn hr hf
  go_enter Tryz.func54, Tryz.ntmps54
  go_wp2_with fail
  go_loopw [3, 8] (fun s3 s8 wr => ∃ (k : Nat) (va : Option Addr) (vc m : Nat), s8 = .int .i64 k ∧ s3 = .slice va m vc ∧ k ≤ n ∧ Hid (m = k) ∧ Hid (OwnR dopE wr w.heap.size (.slice va m vc) ((es.take k).map entO)) ∧ Hid (Below w.heap.size w wr)) (fun _ s8 _ => n - (intOf s8).toNat)
  case atStart => exact ⟨0, none, 0, 0, rfl, rfl, by omega, hide rfl, hide (ownR_nil _ _ _), hide (Below.refl _ _)⟩
  case round =>
    obtain ⟨k, va, vc, m, rfl, rfl, hk, HM, HO, HB⟩ := hrel
    by_cases hkn : k < n
    · have hkl : k < es.length := by rw [unhide HN]; exact hkn
      obtain ⟨g, e1, l1, p0, p1, p2⟩ := (unhide HD _ (unhide HB)).ex k hkl
      have hbd := unhide HFI es[k] (List.getElem_mem _)
      have hnx : (es.take (k + 1)).map entO = (es.take k).map entO ++ [entO es[k]] := by rw [List.take_succ_eq_append_getElem hkl, List.map_append]; rfl
      have hlnn : ((es.take k).map entO).length = k := by simp; omega
      generalize es[k] = x at p0 p1 p2 hnx hbd
      obtain ⟨tm, kd, bd⟩ := x
      simp only at p0 p1 p2 hbd
      rw [show entO ⟨tm, kd, bd⟩ = ⟨1, logN, ⟨#[]⟩, entT tm kd bd⟩ from rfl] at hnx
      have HCL := hide (fun W => impl_EntryText tm kd bd W hbd)
      have HNX := hide hnx
      generalize entT tm kd bd = tx at HNX HCL
      subst e1
      have i0 : (0 : Int) ≤ (k : Int) := by omega
      have i1 : (k : Int) < (n : Int) := by omega
      have hBz := (unhide HB).size
      have HLN := hide hlnn
      clear hnx hlnn
      go_wp2_with fail
      refine (unhide HCL _).mono ?_
      rintro e w4 ⟨rfl, hb4⟩
      have hb5 := belOn (bel1 wr (.cells #[.int .i64 tm, .int .i64 kd, .string bd] 76)) hb4
      have HO4 := hide ((unhide HO).keep hb5)
      have HB4 := hide ((unhide HB).trans (hb5.mono hBz))
      have hB4 := (unhide HB4).size
      clear hb4 hb5 HO
      go_wp2_with (at_builtin; refine appR rfl _ _ rfl (unhide HO4) rfl (⟨1, logN, ⟨#[]⟩, tx⟩ : Dop) rfl _ rfl rfl (by rw [unhide HLN]; omega) hB4 ?_; intro v5 w5 hO5 hb5 _; rw [← unhide HNX] at hO5; obtain ⟨a5, c5, hv5⟩ := hO5.form; have hm5 : ((es.take (k + 1)).map entO).length = k + 1 := (by simp; omega); rw [hm5] at hv5; subst hv5; have HO5 := hide hO5; have HB5 := hide ((unhide HB4).trans hb5); clear hO5 hb5 hm5)
      go_roundw
      case rel => exact ⟨k + 1, a5, c5, k + 1, by go_num, rfl, by omega, hide rfl, HO5, HB5⟩
      case measure => simp [intOf]; omega
    · obtain rfl : k = n := by omega
      have hO := unhide HO
      rw [List.take_of_length_le (by rw [unhide HN]; exact Nat.le_refl _)] at hO
      have HO2 := hide hO
      clear hO HO
      go_wp2_with fail
      go_ret
      exact ⟨_, rfl, unhide HO2, unhide HB⟩
end Go.Proofs.YtliklijcdcfomaaGreat

