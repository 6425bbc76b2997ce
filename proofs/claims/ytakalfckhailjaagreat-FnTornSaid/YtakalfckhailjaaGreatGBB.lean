/- Texts of one kind, put together. -/
import Derived.Test.YtakalfckhailjaaGreatGAN
import Derived.Test.YtakalfckhailjaaGreatGBA
import Derived.Test.YtakalfckhailjaaGreatShlC
import Derived.Test.YtakalfckhailjaaGreatGAF
import Derived.Lib.Builder
import Derived.Lib.AppendStr
import Derived.Laws.Externs
import Derived.Test.YtakalfckhailjaaGreatGAG
import Derived.Test.YtakalfckhailjaaGreatGAW
import Derived.Test.YtakalfckhailjaaGreatLogI
import Derived.Test.YtakalfckhailjaaGreatRecI

/- Ops done one by one, a disk's variable: what SaveEntries of the specification leans on. -/
namespace Go.Proofs.YtakalfckhailjaaGreat
open Go.RowKit Plain
set_option linter.unusedVariables false

namespace Plain
theorem goA_one_yes {F : List Fl} {n : Nat} {o : Dop} {l : List Dop} (h : (goA F n [o]).1 = 0) : goA F n (o :: l) = goA (goA F n [o]).2 (n + 1) l ∧ filesB (goA F n [o]).2 = true ∧ n + 1 ≤ 200 := by
  rw [goA] at h
  by_cases h1 : formB o = true
  · rw [if_pos h1] at h
    by_cases h2 : (doF F o).2 = true
    · rw [if_pos h2] at h
      by_cases h3 : (decide (n < 200) && filesB (doF F o).1) = true
      · have e : goA F n [o] = (0, (doF F o).1) := by rw [goA, if_pos h1, if_pos h2, if_pos h3, goA]
        rw [e, goA, if_pos h1, if_pos h2, if_pos h3]
        rw [Bool.and_eq_true, decide_eq_true_eq] at h3
        exact ⟨rfl, h3.2, h3.1⟩
      · rw [if_neg h3] at h; cases h
    · rw [if_neg h2] at h; cases h
  · rw [if_neg h1] at h; cases h
theorem goA_one_no {F : List Fl} {n : Nat} {o : Dop} {l : List Dop} (h : (goA F n [o]).1 ≠ 0) : (goA F n (o :: l)).1 = (goA F n [o]).1 := by
  rw [goA] at h ⊢
  rw [goA]
  by_cases h1 : formB o = true
  · rw [if_pos h1] at h ⊢
    rw [if_pos h1]
    by_cases h2 : (doF F o).2 = true
    · rw [if_pos h2] at h ⊢
      rw [if_pos h2]
      by_cases h3 : (decide (n < 200) && filesB (doF F o).1) = true
      · rw [if_pos h3] at h; exact absurd rfl h
      · rw [if_neg h3, if_neg h3]
    · rw [if_neg h2, if_neg h2]
  · rw [if_neg h1, if_neg h1]
theorem log_at {live : List Fl} (h : filesB live = true) : (atF logN live = none ∧ seD live = ⟨#[]⟩) ∨ ∃ i, atF logN live = some i ∧ ∃ hi : i < live.length, live[i].2 = seD live := by
  have hr := (files_ok h).2
  cases ha : atF logN live with
  | none => exact .inl ⟨rfl, by unfold seD; rw [tab_at_none hr ha]; rfl⟩
  | some i =>
    obtain ⟨hi, _⟩ := atF_lt logN live i ha
    refine .inr ⟨i, rfl, hi, ?_⟩
    unfold seD
    rw [tab_at_some hr ha, List.getD_eq_getElem?_getD, List.getElem?_eq_getElem hi]
    rfl
/-- A disk's variable that may be written. -/
structure NwB (b : Nat) (v0 v1 v2 : Value) (W : World) : Prop where
  lt : b < W.heap.size
  c0 : W.cell? ⟨b, 0, none⟩ = some v0
  c1 : W.cell? ⟨b, 1, none⟩ = some v1
  c2 : W.cell? ⟨b, 2, none⟩ = some v2
  z0 : W.frozen? ⟨b, 0, none⟩ = false
  z1 : W.frozen? ⟨b, 1, none⟩ = false
  z2 : W.frozen? ⟨b, 2, none⟩ = false
theorem NwB.new (V : World) (v0 v1 v2 : Value) (h : (V.alloc (.cells #[v0, v1, v2] 27)).cell? ⟨V.heap.size, 0, none⟩ = some v0 := by simp [go_sem]) : NwB V.heap.size v0 v1 v2 (V.alloc (.cells #[v0, v1, v2] 27)) := ⟨by simp, by simp [go_sem], by simp [go_sem], by simp [go_sem], by simp [go_sem], by simp [go_sem], by simp [go_sem]⟩
theorem NwB.below {b : Nat} {v0 v1 v2 : Value} {V V' : World} (h : NwB b v0 v1 v2 V) (hb : Below V.heap.size V V') : NwB b v0 v1 v2 V' :=
  ⟨Nat.lt_of_lt_of_le h.lt hb.size, bcl hb h.lt h.c0, bcl hb h.lt h.c1, bcl hb h.lt h.c2, (hb.frozen (p := ⟨b, 0, none⟩) h.lt).trans h.z0, (hb.frozen (p := ⟨b, 1, none⟩) h.lt).trans h.z1, (hb.frozen (p := ⟨b, 2, none⟩) h.lt).trans h.z2⟩
theorem NwB.set {b : Nat} {v0 v1 v2 : Value} {V : World} (h : NwB b v0 v1 v2 V) (u0 u1 u2 : Value) : NwB b u0 u1 u2 (((V.setCell ⟨b, 0, none⟩ u0).setCell ⟨b, 1, none⟩ u1).setCell ⟨b, 2, none⟩ u2) := by
  have h0 : (V.setCell ⟨b, 0, none⟩ u0).cell? ⟨b, 0, none⟩ = some u0 := cell_set h.c0
  have h1 : ((V.setCell ⟨b, 0, none⟩ u0).setCell ⟨b, 1, none⟩ u1).cell? ⟨b, 1, none⟩ = some u1 := cell_set ((cell_off (.inr (by decide))).trans h.c1)
  exact ⟨by simpa using h.lt, (cell_off (.inr (by decide))).trans ((cell_off (.inr (by decide))).trans h0), (cell_off (.inr (by decide))).trans h1, cell_set ((cell_off (.inr (by decide))).trans ((cell_off (.inr (by decide))).trans h.c2)), by rw [World.frozen?_setCell, World.frozen?_setCell, World.frozen?_setCell]; exact h.z0, by rw [World.frozen?_setCell, World.frozen?_setCell, World.frozen?_setCell]; exact h.z1, by rw [World.frozen?_setCell, World.frozen?_setCell, World.frozen?_setCell]; exact h.z2⟩
/-- The disk that is being made, i entries of xs appended. -/
def LpA (nb nO : Nat) (safe : List Fl) (ops : List Dop) (xs : List Ent) (RA : Int × List Fl) (i : Nat) (W : World) : Prop :=
  ∃ xL kL xS kS xO kO, ∃ F : List Fl, NwB nb (.slice xL F.length kL) (.slice xS safe.length kS) (.slice xO (nO + i) kO) W ∧ (RowAt fileE W xL F ∧ RowAt fileE W xS safe ∧ RowAt dopE W xO (ops ++ (xs.take i).map entO)) ∧ (AdOk xL kL ∧ AdOk xS kS ∧ AdOk xO kO) ∧ goA F (nO + i) ((xs.drop i).map entO) = RA ∧ filesB F = true ∧ nO + i ≤ 200
theorem LpA.next {nb nO : Nat} {safe : List Fl} {ops : List Dop} {xs : List Ent} {RA : Int × List Fl} {i Bz : Nat} {W : World} {uL uS uO : Option Addr} {iL iS iO : Nat} {F1 : List Fl} {On : List Dop} {v0 v1 v2 : Value} (NB : NwB nb v0 v1 v2 W) (hlo : nb < Bz) (u1 : RowAt fileE W uL F1) (u2 : RowAt fileE W uS safe) (u3 : RowAt dopE W uO On) (ua : AdOk uL iL ∧ AdOk uS iS ∧ AdOk uO iO)
    (m1 : ∀ k, inB uL k → Bz ≤ k) (m2 : ∀ k, inB uS k → Bz ≤ k) (m3 : ∀ k, inB uO k → Bz ≤ k) (hO : On = ops ++ (xs.take (i + 1)).map entO) (hOl : On.length = nO + (i + 1)) (hg : goA F1 (nO + (i + 1)) ((xs.drop (i + 1)).map entO) = RA) (hf : filesB F1 = true) (h2 : nO + (i + 1) ≤ 200) :
    LpA nb nO safe ops xs RA (i + 1) (((W.setCell ⟨nb, 0, none⟩ (.slice uL F1.length iL)).setCell ⟨nb, 1, none⟩ (.slice uS safe.length iS)).setCell ⟨nb, 2, none⟩ (.slice uO On.length iO)) := by
  refine ⟨uL, iL, uS, iS, uO, iO, F1, ?_, ⟨u1.set3 (fun k hk => ?_), u2.set3 (fun k hk => ?_), ?_⟩, ua, hg, hf, h2⟩
  · rw [← hOl]; exact NB.set _ _ _
  · have := m1 k hk; omega
  · have := m2 k hk; omega
  · rw [← hO]; exact u3.set3 (fun k hk => by have := m3 k hk; omega)
end Plain
end Go.Proofs.YtakalfckhailjaaGreat


/- A strings.Builder that is written to, by this program. -/
namespace Go.Proofs.YtakalfckhailjaaGreat
open Go.RowKit Plain
set_option linter.unusedVariables false

theorem sizeBld : (Tryz.prog.info? 125).map (·.size) = some 2 := by kernel_rfl
theorem liesBld : liesAt Tryz.prog Tryz.prog.depth 125 (2 / Tryz.prog.cellsOf 125) 0 125 1 = true := by kernel_rfl
theorem infoU8 : (Tryz.prog.info? 5).map (fun i => (i.zero, i.size, i.bytes)) = some (some (.int .u8 0), 1, 1) := by kernel_rfl

set_option maxHeartbeats 1000000 in
set_option maxRecDepth 100000 in
theorem copyCheck_calls (B b : Nat) (bs : List Value) (w : World) (h : Lib.IsBuilder 125 5 B b bs w) :
    Calls Tryz.prog 108 #[.pointer (some ⟨b, 0, none⟩)] w fun e w' => e = .returned (.tuple #[]) ∧ (Lib.BuilderAt 125 5 B b (.pointer (some ⟨b, 0, none⟩)) bs w' ∧ Below B w w') := by
  obtain ⟨j, hj, hjs⟩ := Option.map_eq_some_iff.1 sizeBld
  rcases h with h | h
  · have h0 := h.cell0
    have hsh := h.shape
    have hfz := h.frozen0
    have HH := hide h
    clear h
    go_enter Tryz.func108, Tryz.ntmps108
    go_wp2
    rw [Lib.run_to_unsafe w ⟨b, 0, none⟩ Tryz.underlying123 Tryz.underlying188 hj (by rw [hjs]; decide) hsh (Nat.zero_lt_succ 1)]
    simp only [Result.andThen]
    rw [Oper.upon_value]
    go_wp2
    rw [run_callFunc_extern Tryz.func122 (by kernel_rfl) (by kernel_rfl) (by kernel_rfl) (e := Extern.AbiNoEscape.same) (by kernel_rfl)]
    rw [Lib.run_noEscape]
    simp only [Result.andThen]
    rw [Oper.upon_value]
    go_wp2
    rw [Lib.run_from_unsafe w ⟨b, 0, none⟩ Tryz.underlying188 Tryz.underlying123 hj hsh liesBld]
    simp only [Result.andThen]
    rw [Oper.upon_value]
    go_wp2
    go_end0
    exact ⟨rfl, (unhide HH).used _, (Below.refl B w).setCell (p := ⟨b, 0, none⟩) (unhide HH).1 _⟩
  · have h0 := h.cell0
    have HH := hide h
    clear h
    go_enter Tryz.func108, Tryz.ntmps108
    go_wp2
    rw [Lib.run_neq_ptr_same w _ Tryz.underlying123 hj]
    go_wp2
    go_end0
    exact ⟨rfl, unhide HH, Below.refl B _⟩

set_option maxHeartbeats 1000000 in
set_option maxRecDepth 100000 in
theorem WriteString_calls (B b : Nat) (bs : List Value) (s : ByteArray) (w : World) (h : Lib.IsBuilder 125 5 B b bs w) (hlen : bs.length + s.size ≤ 100000000) (hBw : B ≤ w.heap.size) :
    Calls Tryz.prog 82 #[.pointer (some ⟨b, 0, none⟩), .string s] w fun e w' => e = .returned (.tuple #[.int .i64 s.size, .nilIface]) ∧ (Lib.BuilderAt 125 5 B b (.pointer (some ⟨b, 0, none⟩)) (bs ++ Lib.strCells s) w' ∧ Below B w w') := by
  obtain ⟨i0, hi, hz0, hz1, hz2⟩ := info_parts infoU8
  have HC := hide (copyCheck_calls B b bs w h)
  clear h
  go_enter Tryz.func82, Tryz.ntmps82
  go_wp2_with fail
  refine (unhide HC).mono ?_
  rintro e w1 ⟨rfl, h1, hb1⟩
  obtain ⟨hB, v, hbk, hown, hne⟩ := h1
  have c0 : w1.cell? ⟨b, 0, none⟩ = some (.pointer (some ⟨b, 0, none⟩)) := by rw [Lib.cell_of_heap hbk]; rfl
  have c1 : w1.cell? ⟨b, 1, none⟩ = some v := by rw [Lib.cell_of_heap hbk]; rfl
  have hz := hb1.size
  go_wp2_with (at_builtin; refine Lib.wpList_append_own_string _ rfl _ _ 22 9 rfl B 5 i0 Tryz.underlying22 Tryz.underlying9 hi hz0 hz1 hz2 _ _ _ rfl hown s rfl ?c3 ?c4 ?c5 ?_)
  case c3 => unfold maxLen; omega
  case c4 => omega
  case c5 => omega
  intro v' w2 hown2 hgrow _
  have hlt : b < w1.heap.size := by
    rcases Nat.lt_or_ge b w1.heap.size with h' | h'
    · exact h'
    · simp [Array.getElem?_eq_none h'] at hbk
  have hb2 : w2.heap[b]? = some (.cells #[.pointer (some ⟨b, 0, none⟩), v] 125 (0, 0)) := (hgrow.block b hlt (fun e => hne e.symm)).trans hbk
  have d0 : w2.cell? ⟨b, 0, none⟩ = some (.pointer (some ⟨b, 0, none⟩)) := by rw [Lib.cell_of_heap hb2]; rfl
  have d1 : w2.cell? ⟨b, 1, none⟩ = some v := by rw [Lib.cell_of_heap hb2]; rfl
  have f1 : w2.frozen? ⟨b, 1, none⟩ = false := Lib.frozen_of_heap hb2 1
  obtain ⟨ao, n2, cap, rfl⟩ : ∃ ao n2 cap, v' = .slice ao n2 cap := by
    rcases hown2.2 with ⟨hv, _⟩ | ⟨g, cap, cur, hv, _⟩
    · exact ⟨_, _, _, hv⟩
    · exact ⟨_, _, _, hv⟩
  go_wp2
  go_ret2
  refine ⟨rfl, Lib.BuilderAt.put (T := 125) (e := 5) hB hb2 (bs' := bs ++ Lib.strCells s) (by simpa [Lib.strCells_length] using hown2) (by decide), ?_⟩
  exact (hb1.grown hgrow (by omega) (fun k hk => (hown.lt k hk).1)).setCell (p := ⟨b, 1, none⟩) hB _

theorem bldExtra : Builder.Extra Tryz.prog Tryz.lays169_ren where
  sizeBuilder := by kernel_rfl
  liesBuilder := by kernel_rfl
  t5 := Tryz.underlying5
  a5 := Tryz.isAgg5
  z5 := Tryz.sizeOf5
  v5 := Tryz.zeroValue5
  infoByte := by kernel_rfl
  cellsByte := by kernel_rfl
  sizeByte := by kernel_rfl
  neB5 := by decide
theorem BString_calls (B b : Nat) (l : List UInt8) (w : World) (h : Lib.IsBuilder 125 5 B b (Lib.byteCells l) w) (hBw : B ≤ w.heap.size) :
    Calls Tryz.prog 83 #[.pointer (some ⟨b, 0, none⟩)] w fun e w' => e = .returned (.string ⟨l.toArray⟩) ∧ Below B w w' := Any.Builder_String_any Tryz.lays169 bldExtra B b l w h hBw

end Go.Proofs.YtakalfckhailjaaGreat


/- The texts of entries and the ops that append them, by the program. -/
namespace Go.Proofs.YtakalfckhailjaaGreat
open Go.RowKit Plain
set_option linter.unusedVariables false

theorem Plain.isB_stay {T e : TypeId} {B b : Nat} {bs : List Value} {w w' : World} (h : Lib.IsBuilder T e B b bs w) (hb : Below w.heap.size w w') : Lib.IsBuilder T e B b bs w' := by
  have key : ∀ p, Lib.BuilderAt T e B b p bs w → Lib.BuilderAt T e B b p bs w' := by
    intro p h
    have hl := h.lt
    obtain ⟨h1, v, h2, h3, h4⟩ := h
    refine ⟨h1, v, (hb.block b hl).trans h2, ⟨h3.1, ?_⟩, h4⟩
    have hlt := World.ownsRow.lt h3
    rcases h3.2 with ⟨a, c⟩ | ⟨g, cap, cur, rfl, c, d, r⟩
    · exact .inl ⟨a, c⟩
    · exact .inr ⟨g, cap, cur, rfl, c, (hb.block g (hlt g rfl).2).trans d, r⟩
  rcases h with h | h
  · exact .inl (key _ h)
  · exact .inr (key _ h)

set_option maxRecDepth 10000 in
set_option maxHeartbeats 2000000 in
theorem logText_calls (a : Option Addr) (n c : Nat) (es : List Ent) (w : World) (hr : RowAt entE w a es) (hn : es.length = n) (hn2 : n ≤ 1000) (hf : ∀ e ∈ es, e.body.size ≤ 1000000000000) :
    Calls Tryz.prog 39 #[.slice a n c] w fun e w' => e = .returned (.string (catQ es)) ∧ Below w.heap.size w w' := by
  obtain ⟨W0, hW0⟩ : ∃ W0, W0 = w.alloc (.cells #[.pointer none, .slice none 0 0] 125) := ⟨_, rfl⟩
  have hb0 : Below w.heap.size w W0 := by rw [hW0]; exact bel1 _ _
  have HF := hide (show Lib.IsBuilder 125 5 w.heap.size w.heap.size (Lib.byteCells (catQ (es.take 0)).data.toList) W0 from by rw [hW0]; exact Lib.fresh_isBuilder _ _ w)
  have HB0 := hide hb0
  have HD := hide (fun (W : World) (hW : Below w.heap.size w W) => hr.below hW)
  have HFI := hide hf
  have HN := hide hn
  have HW0 := hide hW0.symm
  clear hb0 hW0 hn hr hf
  go_enter Tryz.func39, Tryz.ntmps39
  go_wp2_with fail
  rw [unhide HW0]
  go_loopw [8] (fun i wr => ∃ k : Nat, i = .int .i64 k ∧ k ≤ n ∧ Hid (Lib.IsBuilder 125 5 w.heap.size w.heap.size (Lib.byteCells (catQ (es.take k)).data.toList) wr) ∧ Hid (Below w.heap.size w wr)) (fun i _ => n - (intOf i).toNat)
  case atStart => exact ⟨0, rfl, by omega, HF, HB0⟩
  case round =>
    clear HF HB0
    obtain ⟨k, rfl, hk, HF, HB⟩ := hrel
    by_cases hkn : k < n
    · have hkl : k < es.length := by rw [unhide HN]; exact hkn
      obtain ⟨g, e1, l1, p0, p1, p2⟩ := (unhide HD _ (unhide HB)).ex k hkl
      have hbd := unhide HFI es[k] (List.getElem_mem _)
      have hst : catQ (es.take (k + 1)) = catQ (es.take k) ++ entT es[k].term es[k].kind es[k].body := by rw [List.take_succ_eq_append_getElem hkl, catQ_app, catQ, catQ, app_none]
      have hjs : (catQ (es.take k)).size ≤ 20009 * 1000 := by
        rw [catQ_size]
        have := logZ_max (es.take k)
        rw [List.length_take] at this
        omega
      generalize es[k] = x at p0 p1 p2 hst hbd
      obtain ⟨tm, kd, bd⟩ := x
      simp only at p0 p1 p2 hst hbd
      have hle := entT_le tm kd bd
      have HCL := hide (fun W => impl_EntryText tm kd bd W hbd)
      have hz := (unhide HB).size
      subst e1
      have i0 : (0 : Int) ≤ (k : Int) := by omega
      have i1 : (k : Int) < (n : Int) := by omega
      have HST := hide (show Lib.byteCells (catQ (es.take k)).data.toList ++ Lib.strCells (entT tm kd bd) = Lib.byteCells (catQ (es.take (k + 1))).data.toList from by rw [hst, Lib.strCells_eq]; simp [Lib.byteCells])
      have HWS := hide (fun (W : World) (hW : Below wr.heap.size wr W) => WriteString_calls w.heap.size w.heap.size _ (entT tm kd bd) W (isB_stay (unhide HF) hW) (by rw [Lib.byteCells_length, Array.length_toList]; show (catQ (es.take k)).size + _ ≤ _; omega) (Nat.le_trans hz hW.size))
      rw [unhide HST] at HWS
      generalize entT tm kd bd = tx at HWS HCL
      clear hst HST hjs hle
      go_wp2_with (first
        | (go_at_call 18; refine (unhide HCL _).mono ?_; rintro e w1 ⟨rfl, hb1⟩)
        | (go_at_call 82; refine (unhide HWS _ (belOn (bel1 _ _) hb1)).mono ?_; rintro e w2 ⟨rfl, hF2, hb2⟩))
      have HF2 := hide (show Lib.IsBuilder 125 5 w.heap.size w.heap.size (Lib.byteCells (catQ (es.take (k + 1))).data.toList) w2 from .inr hF2)
      have HB2 := hide (((unhide HB).trans ((belOn (bel1 _ _) hb1).mono hz)).trans hb2)
      clear hF2 hb2 hb1
      go_roundw
      case rel => exact ⟨k + 1, by go_num, by omega, HF2, HB2⟩
      case measure => simp [intOf]; omega
    · obtain rfl : k = n := by omega
      have hz := (unhide HB).size
      have HS := hide (BString_calls w.heap.size w.heap.size _ wr (unhide HF) hz)
      rw [List.take_of_length_le (by rw [unhide HN]; exact Nat.le_refl _)] at HS
      rw [show (⟨((catQ es).data.toList).toArray⟩ : ByteArray) = catQ es from by simp] at HS
      clear HF
      go_wp2_with fail
      refine (unhide HS).mono ?_
      rintro e w2 ⟨rfl, hb2⟩
      have HB2 := hide ((unhide HB).trans hb2)
      clear hb2
      go_wp2_with fail
      go_ret
      exact ⟨rfl, unhide HB2⟩

set_option maxRecDepth 10000 in
set_option maxHeartbeats 2000000 in
theorem appendsOf_calls (a : Option Addr) (n c : Nat) (es : List Ent) (w : World) (hr : RowAt entE w a es) (hn : es.length = n) (hn2 : n ≤ 1000) (hf : ∀ e ∈ es, e.body.size ≤ 1000000000000) :
    Calls Tryz.prog 42 #[.slice a n c] w fun e w' => ∃ v, e = .returned v ∧ OwnR dopE w' w.heap.size v (es.map entO) ∧ Below w.heap.size w w' := by
  have HD := hide (fun (W : World) (hW : Below w.heap.size w W) => hr.below hW)
  have HFI := hide hf
  have HN := hide hn
  clear hn hr hf
  go_enter Tryz.func42, Tryz.ntmps42
  go_wp2_with fail
  go_loopw [3, 8] (fun s3 s8 wr => ∃ (k : Nat) (va : Option Addr) (vc m : Nat), s8 = .int .i64 k ∧ s3 = .slice va m vc ∧ k ≤ n ∧ Hid (m = k) ∧ Hid (OwnR dopE wr w.heap.size (.slice va m vc) ((es.take k).map entO)) ∧ Hid (Below w.heap.size w wr)) (fun _ s8 _ => n - (intOf s8).toNat)
  case atStart => exact ⟨0, none, 0, 0, rfl, rfl, by omega, hide rfl, hide (ownR_nil _ _ _), hide (Below.refl _ _)⟩
  case round =>
    obtain ⟨k, va, vc, m, rfl, rfl, hk, HM, HO, HB⟩ := hrel
    by_cases hkn : k < n
    · have hkl : k < es.length := by rw [unhide HN]; exact hkn
      obtain ⟨g, e1, l1, p0, p1, p2⟩ := (unhide HD _ (unhide HB)).ex k hkl
      have hbd := unhide HFI es[k] (List.getElem_mem _)
      have hnx : (es.take (k + 1)).map entO = (es.take k).map entO ++ [entO es[k]] := by rw [List.take_succ_eq_append_getElem hkl, List.map_append]; rfl
      have hlnn : ((es.take k).map entO).length = k := by simp; omega
      generalize es[k] = x at p0 p1 p2 hnx hbd
      obtain ⟨tm, kd, bd⟩ := x
      simp only at p0 p1 p2 hbd
      rw [show entO ⟨tm, kd, bd⟩ = ⟨1, logN, ⟨#[]⟩, entT tm kd bd⟩ from rfl] at hnx
      have HCL := hide (fun W => impl_EntryText tm kd bd W hbd)
      have HNX := hide hnx
      generalize entT tm kd bd = tx at HNX HCL
      subst e1
      have i0 : (0 : Int) ≤ (k : Int) := by omega
      have i1 : (k : Int) < (n : Int) := by omega
      have hBz := (unhide HB).size
      have HLN := hide hlnn
      clear hnx hlnn
      go_wp2_with fail
      refine (unhide HCL _).mono ?_
      rintro e w4 ⟨rfl, hb4⟩
      have hb5 := belOn (bel1 wr (.cells #[.int .i64 tm, .int .i64 kd, .string bd] 45)) hb4
      have HO4 := hide ((unhide HO).keep hb5)
      have HB4 := hide ((unhide HB).trans (hb5.mono hBz))
      have hB4 := (unhide HB4).size
      clear hb4 hb5 HO
      go_wp2_with (at_builtin; refine appR rfl _ _ rfl (unhide HO4) rfl (⟨1, logN, ⟨#[]⟩, tx⟩ : Dop) rfl _ rfl rfl (by rw [unhide HLN]; omega) hB4 ?_; intro v5 w5 hO5 hb5 _; rw [← unhide HNX] at hO5; obtain ⟨a5, c5, hv5⟩ := hO5.form; have hm5 : ((es.take (k + 1)).map entO).length = k + 1 := (by simp; omega); rw [hm5] at hv5; subst hv5; have HO5 := hide hO5; have HB5 := hide ((unhide HB4).trans hb5); clear hO5 hb5 hm5)
      go_roundw
      case rel => exact ⟨k + 1, a5, c5, k + 1, by go_num, rfl, by omega, hide rfl, HO5, HB5⟩
      case measure => simp [intOf]; omega
    · obtain rfl : k = n := by omega
      have hO := unhide HO
      rw [List.take_of_length_le (by rw [unhide HN]; exact Nat.le_refl _)] at hO
      have HO2 := hide hO
      clear hO HO
      go_wp2_with fail
      go_ret
      exact ⟨_, rfl, unhide HO2, unhide HB⟩
end Go.Proofs.YtakalfckhailjaaGreat


/- A disk that is synced where its ops were done, by the program. -/
namespace Go.Proofs.YtakalfckhailjaaGreat
open Go.RowKit Plain
set_option linter.unusedVariables false

set_option maxRecDepth 10000 in
set_option maxHeartbeats 1000000 in
theorem syncedNo_calls (aL : Option Addr) (nL cL : Nat) (aS : Option Addr) (nS cS : Nat) (aO : Option Addr) (nO cO : Nat) (c : Int) (w : World) (hc : c ≠ 0) :
    Calls Tryz.prog 40 #[.agg #[.slice aL nL cL, .slice aS nS cS, .slice aO nO cO], .int .i64 c] w fun e w' => e = .returned (.tuple #[.agg #[.slice aL nL cL, .slice aS nS cS, .slice aO nO cO], .int .i64 c]) ∧ Below w.heap.size w w' := by
  go_enter Tryz.func40, Tryz.ntmps40
  go_wp2_with fail
  refine bodyPost_ret (v := .tuple #[.agg #[.slice aL nL cL, .slice aS nS cS, .slice aO nO cO], .int .i64 c]) (by simp [results, Tryz.results40, go_sem]) rfl ⟨rfl, ?_⟩
  first
    | exact belOn (bel1 _ _) (bel1 _ _)
    | exact below3 (belOn (bel1 _ _) (bel1 _ _)) (Nat.le_succ _)

set_option maxRecDepth 10000 in
set_option maxHeartbeats 1000000 in
theorem syncedYes_calls (aL : Option Addr) (nL cL : Nat) (live : List Fl) (aS : Option Addr) (nS cS : Nat) (safe : List Fl) (aO : Option Addr) (nO cO : Nat) (ops : List Dop) (w : World) (h : DiskO w aL nL cL live aS nS cS safe aO nO cO ops) :
    Calls Tryz.prog 40 #[.agg #[.slice aL nL cL, .slice aS nS cS, .slice aO nO cO], .int .i64 0] w (DskPost (fun v => .tuple #[v, .int .i64 0]) (synL live safe ops) (synL live safe ops) [] w) := by
  obtain ⟨W0, hW0⟩ : ∃ W0, W0 = (w.alloc (.cells #[.slice aL nL cL, .slice aS nS cS, .slice aO nO cO] 27)).alloc (.cells #[.slice none 0 0, .slice none 0 0, .slice none 0 0] 27) := ⟨_, rfl⟩
  have hb0 : Below w.heap.size w W0 := by rw [hW0]; exact belOn (bel1 _ _) (bel1 _ _)
  have hz0 : W0.heap.size = w.heap.size + 2 := by rw [hW0]; simp
  have c0 : W0.cell? ⟨w.heap.size, 0, none⟩ = some (.slice aL nL cL) := by rw [hW0]; simp [go_sem]
  have c1 : W0.cell? ⟨w.heap.size, 1, none⟩ = some (.slice aS nS cS) := by rw [hW0]; simp [go_sem]
  have c2 : W0.cell? ⟨w.heap.size, 2, none⟩ = some (.slice aO nO cO) := by rw [hW0]; simp [go_sem]
  have r0 : W0.cell? ⟨w.heap.size + 1, 0, none⟩ = some (.slice none 0 0) := by rw [hW0]; simp [go_sem]
  have r1 : W0.cell? ⟨w.heap.size + 1, 1, none⟩ = some (.slice none 0 0) := by rw [hW0]; simp [go_sem]
  have r2 : W0.cell? ⟨w.heap.size + 1, 2, none⟩ = some (.slice none 0 0) := by rw [hW0]; simp [go_sem]
  have y0 : W0.frozen? ⟨w.heap.size + 1, 0, none⟩ = false := by rw [hW0]; simp [go_sem]
  have y1 : W0.frozen? ⟨w.heap.size + 1, 1, none⟩ = false := by rw [hW0]; simp [go_sem]
  have y2 : W0.frozen? ⟨w.heap.size + 1, 2, none⟩ = false := by rw [hW0]; simp [go_sem]
  have HS := hide (impl_SyncO aL nL cL live aS nS cS safe aO nO cO ops W0 (h.below hb0))
  have HB0 := hide hb0
  have HW0 := hide hW0.symm
  unfold DskPost at HS
  generalize synL live safe ops = L at HS ⊢
  obtain ⟨m, hm⟩ : ∃ m, L.length = m := ⟨_, rfl⟩
  rw [hm] at HS
  have HM := hide hm
  clear hb0 hW0 h hm
  go_enter Tryz.func40, Tryz.ntmps40
  go_wp2_with fail
  rw [unhide HW0]
  refine (unhide HS).mono ?_
  rintro e w1 ⟨xL, kL, xS, kS, xO, kO, rfl, o1, o2, o3, ap, hb1⟩
  have r0 := bcl hb1 (by omega) r0
  have r1 := bcl hb1 (by omega) r1
  have r2 := bcl hb1 (by omega) r2
  have y0 := (hb1.frozen (p := ⟨w.heap.size + 1, 0, none⟩) (by show w.heap.size + 1 < _; omega)).trans y0
  have y1 := (hb1.frozen (p := ⟨w.heap.size + 1, 1, none⟩) (by show w.heap.size + 1 < _; omega)).trans y1
  have y2 := (hb1.frozen (p := ⟨w.heap.size + 1, 2, none⟩) (by show w.heap.size + 1 < _; omega)).trans y2
  have HB1 := hide (belOn (unhide HB0) hb1)
  have HO := hide (And.intro o1 (And.intro o2 (And.intro o3 ap)))
  have HZ := hide hz0
  clear hb1 o1 o2 o3 ap c0 c1 c2 hz0
  go_wp2_with fail
  refine bodyPost_ret (v := .tuple #[.agg #[.slice xL m kL, .slice xS m kS, .slice xO 0 kO], .int .i64 0]) (by simp [results, Tryz.results40, go_sem, r0, r1, r2]) rfl ?_
  obtain ⟨o1, o2, o3, ap⟩ := unhide HO
  have hz := unhide HZ
  have k : ∀ g, W0.heap.size ≤ g → (((w1.setCell ⟨w.heap.size + 1, 0, none⟩ (.slice xL m kL)).setCell ⟨w.heap.size + 1, 1, none⟩ (.slice xS m kS)).setCell ⟨w.heap.size + 1, 2, none⟩ (.slice xO 0 kO)).heap[g]? = w1.heap[g]? := fun g hg => by rw [heap_set (by omega), heap_set (by omega), heap_set (by omega)]
  refine ⟨xL, kL, xS, kS, xO, kO, by rw [unhide HM]; rfl, ?_, ?_, ?_, ap, below3 (unhide HB1) (Nat.le_succ _)⟩
  · rw [unhide HM]; exact (o1.other (fun g hg => k g (own_from o1 hg))).le (by omega)
  · rw [unhide HM]; exact (o2.other (fun g hg => k g (own_from o2 hg))).le (by omega)
  · exact (o3.other (fun g hg => k g (own_from o3 hg))).le (by omega)

/-- A disk that is answered in memory behind B. -/
def DskFrom (B : Nat) (f : Value → Value) (live safe : List Fl) (ops : List Dop) (w : World) (e : Ending) (w' : World) : Prop :=
  ∃ aL cL aS cS aO cO, e = .returned (f (.agg #[.slice aL live.length cL, .slice aS safe.length cS, .slice aO ops.length cO])) ∧ OwnR fileE w' B (.slice aL live.length cL) live ∧ OwnR fileE w' B (.slice aS safe.length cS) safe ∧ OwnR dopE w' B (.slice aO ops.length cO) ops ∧ Apart aL aS aO ∧ Below w.heap.size w w'
theorem synced_calls (aL : Option Addr) (cL : Nat) (live : List Fl) (aS : Option Addr) (cS : Nat) (safe : List Fl) (aO : Option Addr) (cO : Nat) (ops : List Dop) (B : Nat) (c : Int) (L2 S2 : List Fl) (O2 : List Dop) (w : World)
    (o1 : OwnR fileE w B (.slice aL live.length cL) live) (o2 : OwnR fileE w B (.slice aS safe.length cS) safe) (o3 : OwnR dopE w B (.slice aO ops.length cO) ops) (ap : Apart aL aS aO) (hB : B ≤ w.heap.size)
    (hf : FitF live ∧ FitF safe ∧ (∀ o ∈ ops, SmO o) ∧ live.length ≤ 1048576 ∧ safe.length ≤ 1048576 ∧ ops.length ≤ 1048576)
    (h0 : c = 0 → L2 = synL live safe ops ∧ S2 = synL live safe ops ∧ O2 = []) (h1 : c ≠ 0 → L2 = live ∧ S2 = safe ∧ O2 = ops) :
    Calls Tryz.prog 40 #[.agg #[.slice aL live.length cL, .slice aS safe.length cS, .slice aO ops.length cO], .int .i64 c] w (DskFrom B (fun v => .tuple #[v, .int .i64 c]) L2 S2 O2 w) := by
  obtain ⟨f1, f2, f3, f4, f5, f6⟩ := hf
  by_cases hc : c = 0
  · subst hc
    obtain ⟨rfl, rfl, rfl⟩ := h0 rfl
    refine (syncedYes_calls aL live.length cL live aS safe.length cS safe aO ops.length cO ops w ⟨o1.at, o2.at, o3.at.toO, rfl, rfl, rfl, o1.ad, o2.ad, f1, f2, f3, f4, f5, f6⟩).mono ?_
    rintro e w' ⟨xL, kL, xS, kS, xO, kO, he, p1, p2, p3, ap2, hb⟩
    exact ⟨xL, kL, xS, kS, xO, kO, he, p1.le hB, p2.le hB, p3.le hB, ap2, hb⟩
  · obtain ⟨rfl, rfl, rfl⟩ := h1 hc
    refine (syncedNo_calls aL _ cL aS _ cS aO _ cO c w hc).mono ?_
    rintro e w' ⟨he, hb⟩
    exact ⟨aL, cL, aS, cS, aO, cO, he, o1.keep hb, o2.keep hb, o3.keep hb, ap, hb⟩
end Go.Proofs.YtakalfckhailjaaGreat

