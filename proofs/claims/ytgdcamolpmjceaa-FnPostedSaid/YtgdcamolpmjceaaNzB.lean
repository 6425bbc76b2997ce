/- Texts of one kind, put together. -/
import Derived.Test.YtgdcamolpmjceaaNzA
import Derived.Test.YtgdcamolpmjceaaCutS
import Derived.Deep.RegionHeld3
import Derived.Test.YtgdcamolpmjceaaTakS
import Derived.Test.YtgdcamolpmjceaaTakI
import Derived.Test.YtgdcamolpmjceaaMshK
import Derived.Test.YtgdcamolpmjceaaBig

/- What is drawn for a cut. -/
namespace Go.Proofs.Ytgdcamolpmjceaa
open Go.RowKit Plain
set_option linter.unusedVariables false

theorem isRow_belC {w w' : World} {a : Option Addr} {len cap : Nat} {zs : List Int} (h : IsRow .u8 w a len cap zs) (hb : Below w.heap.size w w') : IsRow .u8 w' a len cap zs := by
  rcases h with h | ⟨x, hx, h1, h2, h3, h4, h5⟩
  · exact .inl h
  · refine .inr ⟨x, hx, h1, h2, h3, fun i hi => ?_, h5⟩
    have hc := h4 i hi
    exact (hb.cell (p := x.add i) (lt_of_cell hc)).trans hc

theorem Plain.DN.belowB {N B m c K : Nat} {nx : Int} {x : Option Addr} {es : List Pkt} {W W' : World} (h : DN N B nx x m c es W) (hb : Below K W W') (hN : N < K) (hx : ∀ g, (Value.slice x m c).ownBlock = some g → g < K) : DN N B nx x m c es W' :=
  ⟨bcl hb hN h.c0, bcl hb hN h.c1, (hb.frozen (p := ⟨N, 0, none⟩) hN).trans h.z0, (hb.frozen (p := ⟨N, 1, none⟩) hN).trans h.z1, h.own.below hb hx⟩

/-- What is drawn for a cut. -/
def Plain.CutDPost (w : World) (e : Ending) (w' : World) : Prop := ∃ (nx : Int) (x : Option Addr) (m c : Nat) (es : List Pkt) (sv : Value) (side : List Int), e = .returned (.tuple #[.agg #[.int .i64 nx, .slice x m c], sv]) ∧ Hid (OwnR pktE w' w.heap.size (.slice x m c) es) ∧ Hid (OwnR i64E w' w.heap.size sv side) ∧ Hid (Shrt es) ∧ m ≤ 400 ∧ side.length ≤ 3 ∧ Below w.heap.size w w'

set_option maxRecDepth 10000 in
set_option maxHeartbeats 4000000 in
theorem DrawCutting_of (HND : ∀ (R : Nat) (a : Option Addr) (len cap : Nat) (zs : List Int) (w : World), Rd w R a len cap zs → Calls Try.prog 17 #[.pointer (some ⟨R, 0, none⟩)] w (NetDPost R a len cap zs w)) (a : Option Addr) (len cap : Nat) (zs : List Int) (w : World) (h : IsRow .u8 w a len cap zs) (hl : len ≤ 1048576) :
    Calls Try.prog 6 #[.slice a len cap] w (CutDPost w) := by
  obtain ⟨W0, hW0⟩ : ∃ W0, W0 = w.alloc (.cells #[.int .i64 0, .slice none 0 0] 26) := ⟨_, rfl⟩
  have hb0 : Below w.heap.size w W0 := by rw [hW0]; exact bel1 _ _
  have hz0 : W0.heap.size = w.heap.size + 1 := by rw [hW0]; simp
  have HRB0 := hide (show RB w.heap.size W0 from ⟨by rw [hW0]; simp [go_sem], by rw [hW0]; simp [go_sem], by rw [hW0]; simp [go_sem], by rw [hW0]; simp [go_sem]⟩)
  have HOP := hide (open_calls a len cap zs W0 (isRow_belC h hb0) hl)
  have HB0 := hide hb0
  have HW0 := hide hW0.symm
  have HN := hide HND
  clear h hW0 hb0 HND
  go_enter Try.func6, Try.ntmps6
  go_wp2_with fail
  rw [unhide HW0]
  refine (unhide HOP).mono ?_
  rintro e w1 ⟨rfl, hR1, hb1⟩
  rw [hz0] at hR1
  have HRB1 := hide ((unhide HRB0).below hb1 (by omega))
  have HB1 := hide (belOn (unhide HB0) hb1)
  have HNE := hide (unhide HN _ a len cap zs w1 hR1)
  have hRl := hR1.lt
  clear hR1 hb1 HRB0 HOP HN
  go_wp2_with fail
  refine (unhide HNE).mono ?_
  unfold NetDPost
  rintro e w2 ⟨nx, x, m, c, es, rfl, HO2, HSH, hm4, hnx, hR2, ho2⟩
  obtain ⟨W3, hW3⟩ : ∃ W3, W3 = w2.alloc (.cells #[.int .i64 nx, .slice x m c] 26) := ⟨_, rfl⟩
  have hb3 : Below w2.heap.size w2 W3 := by rw [hW3]; exact bel1 _ _
  have hz3 : W3.heap.size = w2.heap.size + 1 := by rw [hW3]; simp
  have hs2 := ho2.size
  have HDN3 := hide (show DN w2.heap.size w1.heap.size nx x m c es W3 from ⟨by rw [hW3]; simp [go_sem], by rw [hW3]; simp [go_sem], by rw [hW3]; simp [go_sem], by rw [hW3]; simp [go_sem], (unhide HO2).keep hb3⟩)
  obtain ⟨W4, hW4⟩ : ∃ W4, W4 = W3.alloc (.cells #[] 2) := ⟨_, rfl⟩
  have hb4 : Below W3.heap.size W3 W4 := by rw [hW4]; exact bel1 _ _
  have hz4 : W4.heap.size = w2.heap.size + 2 := by rw [hW4]; simp; omega
  have HO4 := hide (show OwnR i64E W4 (w2.heap.size + 1) (.slice (some ⟨w2.heap.size + 1, 0, none⟩) 0 0) [] from by rw [hW4, ← hz3]; exact ownR_empty i64E W3 W3.heap.size (Nat.le_refl _))
  have HDN4 := hide ((unhide HDN3).below hb4)
  have HRB4 := hide (((unhide HRB1).only ho2 (by omega)).below (belOn hb3 hb4) (by omega))
  have HR4 := hide (hR2.below (belOn hb3 hb4))
  have HF4 := hide (show Below w.heap.size w W4 from ((unhide HB1).trans (ho2.below (show w.heap.size ≤ w.heap.size + 1 by omega) (by have := (unhide HB1).size; exact this))).trans ((belOn hb3 hb4).mono (by have := (unhide HB1).size; omega)))
  have HW4 := hide (show (w2.alloc (.cells #[.int .i64 nx, .slice x m c] 26)).alloc (.cells #[] 2) = W4 from by rw [hW4, hW3])
  have HBE := hide (below_calls _ a len cap zs 3 W4 (unhide HR4) (by omega) (by omega))
  have HX := hide ((unhide HO2).lt)
  clear hW3 hb3 HO2 HNE hR2 ho2 HRB1 HB1 HDN3 hW4 hb4
  go_wp2_with fail
  rw [unhide HW4]
  refine (unhide HBE).mono ?_
  rintro e w5 ⟨v5, rfl, hv50, hv51, hR5, ho5⟩
  obtain ⟨V5, rfl⟩ := Int.eq_ofNat_of_zero_le hv50
  have hs5 := ho5.size
  have HDN5 := hide ((unhide HDN4).only ho5 (by omega) (by omega))
  have HRB5 := hide ((unhide HRB4).only ho5 (by omega))
  have HO5 := hide ((unhide HO4).onlN ho5 (by simp; omega))
  have HR5 := hide hR5
  have HF5 := hide ((unhide HF4).trans (ho5.below (show w.heap.size ≤ w.heap.size + 1 by omega) (unhide HF4).size))
  clear HDN4 HRB4 HO4 HR4 HF4 HBE hR5 ho5
  obtain ⟨B, hB⟩ : ∃ B, w2.heap.size = B := ⟨_, rfl⟩
  rw [hB] at HDN5 HO5 hz3 hz4 hs2 HX
  go_wp2_with fail
  go_loopw [6, 7] (fun s6 s7 wr => ∃ (k : Nat) (side : List Int), s7 = .int .i64 k ∧ k ≤ 2 ∧ side.length + k ≤ 3 ∧ B + 1 ≤ wr.heap.size ∧ Hid (OwnR i64E wr (B + 1) s6 side) ∧ Hid (DN B w1.heap.size nx x m c es wr) ∧ Hid (RB w.heap.size wr) ∧ Hid (Rd wr (w.heap.size + 1) a len cap zs) ∧ Hid (Below w.heap.size w wr)) (fun _ s7 _ => (intOf s7).toNat)
  case atStart => exact ⟨V5, [], rfl, by omega, by simp; omega, by omega, HO5, HDN5, HRB5, HR5, HF5⟩
  case round =>
    clear HO5 HDN5 HRB5 HR5 HF5
    obtain ⟨k, side, rfl, hk, hsd, hzr, HO, HDN, HRB, HR, HF⟩ := hrel
    obtain ⟨av, cv, hv⟩ := (unhide HO).form
    subst hv
    obtain ⟨q, hq⟩ : ∃ q, side.length = q := ⟨_, rfl⟩
    rw [hq] at HO hsd ⊢
    by_cases hkz : 0 < k
    · have HBE := hide (below_calls _ a len cap zs 3 wr (unhide HR) (by omega) (by omega))
      have i0 : (0 : Int) < (k : Int) := by omega
      go_wp2_with fail
      refine (unhide HBE).mono ?_
      rintro e w6 ⟨v6, rfl, hv60, hv61, hR6, ho6⟩
      have hs6 := ho6.size
      have HDN6 := hide ((unhide HDN).only ho6 (by omega) (by omega))
      have HRB6 := hide ((unhide HRB).only ho6 (by omega))
      have HO6 := hide ((unhide HO).onlN ho6 (by simp; omega))
      have HR6 := hide hR6
      have HF6 := hide ((unhide HF).trans (ho6.below (show w.heap.size ≤ w.heap.size + 1 by omega) (unhide HF).size))
      have hlen : side.length < 100000000 := by omega
      have hz6 : B + 1 ≤ w6.heap.size := by omega
      clear HDN HRB HO HR HF HBE hR6 ho6
      go_wp2_with (at_builtin; go_must (refine appR (e := i64E) rfl _ _ rfl (unhide HO6) rfl (1 + v6) rfl _ rfl rfl hlen hz6 ?_); intro v' w7 hown7 hb7 hg7; obtain ⟨av', cv', hv'⟩ := hown7.form; rw [show (side ++ [1 + v6]).length = q + 1 from by rw [List.length_append, hq]; rfl] at hv'; subst hv')
      have hs7 := hb7.size
      go_roundw
      case rel => exact ⟨k - 1, side ++ [1 + v6], by go_num, by omega, by rw [List.length_append, hq]; simp; omega, by omega, hide hown7, hide ((unhide HDN6).belowB hb7 (by omega) (fun g hg => by have := unhide HX g hg; omega)), hide ((unhide HRB6).below hb7 (by omega)), hide ((unhide HR6).onlyB hb7 (by omega)), hide ((unhide HF6).trans (hb7.mono (by omega)))⟩
      case measure => simp [intOf]; omega
    · obtain rfl : k = 0 := by omega
      have d0 := (unhide HDN).c0
      have d1 := (unhide HDN).c1
      have r0 := (unhide HRB).c0
      have r1 := (unhide HRB).c1
      have y0 := (unhide HRB).z0
      have y1 := (unhide HRB).z1
      go_wp2_with fail
      refine bodyPost_ret (v := .tuple #[.agg #[.int .i64 nx, .slice x m c], .slice av q cv]) ?_ rfl ⟨nx, x, m, c, es, _, side, rfl, ?_, ?_, HSH, hm4, by omega, ?_⟩
      · obtain ⟨p0, p1⟩ := (unhide HRB).read (u := .int .i64 nx) (v := .slice x m c)
        simp [results, Try.results6, go_sem, p0, p1]
      · exact hide ((own_past (unhide HDN).own (by omega)).le (by omega))
      · exact hide (((unhide HO).otherN (fun g hg => by have := (World.ownsRow.lt (unhide HO) g hg).1; exact (heap_setN (by omega)).trans (heap_setN (by omega)))).le (by omega))
      · exact ((unhide HF).setCell (p := ⟨w.heap.size, 0, none⟩) (Nat.le_refl _) _).setCell (p := ⟨w.heap.size, 1, none⟩) (Nat.le_refl _) _
end Go.Proofs.Ytgdcamolpmjceaa


/- What is drawn for a post. -/
namespace Go.Proofs.Ytgdcamolpmjceaa
open Go.RowKit Plain
set_option linter.unusedVariables false

/-- What is drawn for a post. -/
def Plain.PstDPost (w : World) (e : Ending) (w' : World) : Prop := ∃ (nx : Int) (x : Option Addr) (m c : Nat) (es : List Pkt) (f t : Int) (b : ByteArray), e = .returned (.tuple #[.agg #[.int .i64 nx, .slice x m c], .int .i64 f, .int .i64 t, .string b]) ∧ Hid (OwnR pktE w' w.heap.size (.slice x m c) es) ∧ Hid (Shrt es) ∧ m ≤ 400 ∧ (-9223372036854775808 ≤ nx ∧ nx ≤ 9223372036854775807) ∧ (-9223372036854775808 ≤ f ∧ f ≤ 9223372036854775807) ∧ (-9223372036854775808 ≤ t ∧ t ≤ 9223372036854775807) ∧ b.size ≤ 20001 ∧ Below w.heap.size w w'

namespace Plain
/-- While the ends are drawn: the reader, the drawn net's variable. -/
structure PX (wb : World) (R N g : Nat) (a : Option Addr) (len cap : Nat) (zs : List Int) (nx : Int) (x : Option Addr) (m c : Nat) (X : World) : Prop where
  rd : Rd X R a len cap zs
  c0 : X.cell? ⟨N, 0, none⟩ = some (.int .i64 nx)
  c1 : X.cell? ⟨N, 1, none⟩ = some (.slice x m c)
  size : wb.heap.size ≤ X.heap.size
  bel : Below g wb X
  blk : ∀ k, k < wb.heap.size → k ≠ R → k ≠ g → X.heap[k]? = wb.heap[k]?
section
variable {wb X X' : World} {R N g : Nat} {a : Option Addr} {len cap : Nat} {zs : List Int} {nx : Int} {x : Option Addr} {m c : Nat}
theorem PX.drew (h : PX wb R N g a len cap zs nx x m c X) : PX wb R N g a len cap zs nx x m c X.drew := ⟨(DS.start h.rd).drew.rd, h.c0, h.c1, h.size, ⟨h.bel.os, h.bel.tape, h.bel.output, h.bel.size, h.bel.block⟩, h.blk⟩
theorem PX.call (h : PX wb R N g a len cap zs nx x m c X) (hN : N ≠ R) (hgR : g ≤ R) (hgb : g ≤ wb.heap.size) (h1 : Rd X' R a len cap zs) (h2 : OnlyAt ⟨R, 1, none⟩ X X') : PX wb R N g a len cap zs nx x m c X' := ⟨h1, h2.c h.c0 hN, h2.c h.c1 hN, Nat.le_trans h.size h2.size, h.bel.trans (h2.below hgR (Nat.le_trans hgb h.size)), fun k hk h3 h4 => (h2.block k (Nat.lt_of_lt_of_le hk h.size) h3).trans (h.blk k hk h3 h4)⟩
theorem Rd.setOff {i : Nat} {v : Value} (h : Rd X R a len cap zs) (hg : g ≠ R) (hz : ∀ q, a = some q → 0 < zs.length → q.block ≠ g) : Rd (X.setCell ⟨g, i, none⟩ v) R a len cap zs := by
  obtain ⟨p, h⟩ := h
  have hl := lt_of_cell h.c0
  have ho := OnlyAt.setCell ⟨g, i, none⟩ X v
  have e : ∀ k, (⟨R, k, none⟩ : Addr) ≠ ⟨g, i, none⟩ := fun k q => hg (congrArg Addr.block q).symm
  exact ⟨p, (ho.cell ⟨R, 0, none⟩ hl (e 0)).trans h.c0, (ho.cell ⟨R, 1, none⟩ hl (e 1)).trans h.c1, (ho.frozen ⟨R, 1, none⟩ hl).trans h.fz, h.le, h.small, h.row.only ho (fun q hq hz1 => ⟨Nat.lt_trans (h.apart q hq hz1) hl, hz q hq hz1⟩), h.apart⟩
theorem PX.put {u v : Value} (h : PX wb R N g a len cap zs nx x m c X) (hR : g ≠ R) (hN : g ≠ N) (hz : ∀ q, a = some q → 0 < zs.length → q.block ≠ g) : PX wb R N g a len cap zs nx x m c ((X.setCell ⟨g, 0, none⟩ u).setCell ⟨g, 1, none⟩ v) :=
  ⟨Rd.setOff (Rd.setOff h.rd hR hz) hR hz, (cell_offN (.inl hN)).trans ((cell_offN (.inl hN)).trans h.c0), (cell_offN (.inl hN)).trans ((cell_offN (.inl hN)).trans h.c1), by simpa using h.size, (h.bel.setCell (p := ⟨g, 0, none⟩) (Nat.le_refl _) _).setCell (p := ⟨g, 1, none⟩) (Nat.le_refl _) _, fun k hk h3 h4 => (heap_setN (fun e => h4 e.symm)).trans ((heap_setN (fun e => h4 e.symm)).trans (h.blk k hk h3 h4))⟩
end
end Plain

set_option maxRecDepth 10000 in
set_option maxHeartbeats 4000000 in
theorem DrawPost_of (HND : ∀ (R : Nat) (a : Option Addr) (len cap : Nat) (zs : List Int) (w : World), Rd w R a len cap zs → Calls Try.prog 17 #[.pointer (some ⟨R, 0, none⟩)] w (NetDPost R a len cap zs w)) (a : Option Addr) (len cap : Nat) (zs : List Int) (w : World) (h : IsRow .u8 w a len cap zs) (hl : len ≤ 1048576) :
    Calls Try.prog 10 #[.slice a len cap] w (PstDPost w) := by
  obtain ⟨W0, hW0⟩ : ∃ W0, W0 = w.alloc (.cells #[.int .i64 0, .slice none 0 0] 26) := ⟨_, rfl⟩
  have hb0 : Below w.heap.size w W0 := by rw [hW0]; exact bel1 _ _
  have hz0 : W0.heap.size = w.heap.size + 1 := by rw [hW0]; simp
  have HRB0 := hide (show RB w.heap.size W0 from ⟨by rw [hW0]; simp [go_sem], by rw [hW0]; simp [go_sem], by rw [hW0]; simp [go_sem], by rw [hW0]; simp [go_sem]⟩)
  have HOP := hide (open_calls a len cap zs W0 (isRow_belC h hb0) hl)
  have HB0 := hide hb0
  have HW0 := hide hW0.symm
  have HN := hide HND
  have HAZ := hide (show ∀ q, a = some q → 0 < zs.length → q.block ≠ w.heap.size from fun q hq hzl => by
    rcases h with ⟨h1, _⟩ | ⟨q', h1, _, _, h3, h4, _⟩
    · rw [h1] at hq; cases hq
    · rw [h1] at hq; cases hq
      have hl := lt_of_cell (h4 0 (by omega))
      have hb : (q.add 0).block = q.block := by unfold Addr.add; split <;> rfl
      omega)
  clear h hW0 hb0 HND
  go_enter Try.func10, Try.ntmps10
  go_wp2_with fail
  rw [unhide HW0]
  refine (unhide HOP).mono ?_
  rintro e w1 ⟨rfl, hR1, hb1⟩
  rw [hz0] at hR1
  have HRB1 := hide ((unhide HRB0).below hb1 (by omega))
  have HB1 := hide (belOn (unhide HB0) hb1)
  have HNE := hide (unhide HN _ a len cap zs w1 hR1)
  have hRl := hR1.lt
  clear hR1 hb1 HRB0 HOP HN
  go_wp2_with fail
  refine (unhide HNE).mono ?_
  unfold NetDPost
  rintro e w2 ⟨nx, x, m, c, es, rfl, HO2, HSH, hm4, hnx, hR2, ho2⟩
  obtain ⟨W3, hW3⟩ : ∃ W3, W3 = w2.alloc (.cells #[.int .i64 nx, .slice x m c] 26) := ⟨_, rfl⟩
  have hb3 : Below w2.heap.size w2 W3 := by rw [hW3]; exact bel1 _ _
  have hz3 : W3.heap.size = w2.heap.size + 1 := by rw [hW3]; simp
  have hs2 := ho2.size
  have HDN3 := hide (show DN w2.heap.size w1.heap.size nx x m c es W3 from ⟨by rw [hW3]; simp [go_sem], by rw [hW3]; simp [go_sem], by rw [hW3]; simp [go_sem], by rw [hW3]; simp [go_sem], (unhide HO2).keep hb3⟩)
  have HX := hide ((unhide HO2).lt)
  have HRB3 := hide (((unhide HRB1).only ho2 (by omega)).below hb3 (by omega))
  have HR3 := hide (hR2.below hb3)
  have HF3 := hide (show Below w.heap.size w W3 from ((unhide HB1).trans (ho2.below (show w.heap.size ≤ w.heap.size + 1 by omega) (unhide HB1).size)).trans (hb3.mono (by have := (unhide HB1).size; omega)))
  have HW3 := hide hW3.symm
  have HDA := hide (data_calls _ a len cap zs W3 (unhide HR3))
  clear hW3 hb3 HO2 HNE hR2 ho2 HRB1 HB1
  go_wp2_with fail
  rw [unhide HW3]
  refine (unhide HDA).mono ?_
  rintro e w4 ⟨s4, rfl, hs4, hR4, ho4⟩
  have hz4 := ho4.size
  have HDN4 := hide ((unhide HDN3).only ho4 (by omega) (by omega))
  have HRB4 := hide ((unhide HRB3).only ho4 (by omega))
  have HF4 := hide ((unhide HF3).trans (ho4.below (show w.heap.size ≤ w.heap.size + 1 by omega) (unhide HF3).size))
  have HON := hide (once_calls _ a len cap zs 30 w4 hR4 (by omega) (by omega))
  clear HDN3 HRB3 HR3 HF3 HDA hR4 ho4
  go_wp2_with fail
  refine (unhide HON).mono ?_
  rintro e w5 ⟨v5, rfl, hR5, ho5⟩
  have hz5 := ho5.size
  have HDN5 := hide ((unhide HDN4).only ho5 (by omega) (by omega))
  have HRB5 := hide ((unhide HRB4).only ho5 (by omega))
  have HF5 := hide ((unhide HF4).trans (ho5.below (show w.heap.size ≤ w.heap.size + 1 by omega) (unhide HF4).size))
  have HR5 := hide hR5
  clear HDN4 HRB4 HF4 HON hR5 ho5
  cases v5
  case' true =>
    have HBE := hide (below_calls _ a len cap zs 2 w5 (unhide HR5) (by omega) (by omega))
    go_wp2_with fail
    refine (unhide HBE).mono ?_
    rintro e w6 ⟨v6, rfl, hv60, hv61, hR6, ho6⟩
    obtain ⟨n, hn⟩ : ∃ n : Nat, 20000 + v6 = (n : Int) := ⟨(20000 + v6).toNat, by omega⟩
    have hn3 : n ≤ 30000 := by omega
    have hmk := make_bytes n w6 hn3
    have hcv : (convert 22 9 (.slice (some ⟨w6.heap.size, 0, none⟩) n n)).run Try.prog (w6.alloc (.cells (zerosA n) 5)) = .ok (.string (strOfNums (List.replicate n 0))) (w6.alloc (.cells (zerosA n) 5)) :=
      run_convert_bytes_arg _ _ _ Try.underlying22 Try.underlying5 w6.heap.size 0 n n (List.replicate n 0) (by simp) (fun i hi => by
        rw [Nat.zero_add, cell_of_row _ _ i _ _ _ (show (w6.alloc (.cells (zerosA n) 5)).heap[w6.heap.size]? = _ from (MapKept.heap_alloc w6 _).1)]
        rw [zerosA_get n i hi]
        simp [hi, List.getD]) _ Try.underlying9
    obtain ⟨b, hb⟩ : ∃ b, strOfNums (List.replicate n 0) = b := ⟨_, rfl⟩
    have hbs : b.size ≤ 20001 := by rw [← hb, strOfNums_size]; simp; omega
    rw [hb] at hcv
    obtain ⟨W7, hW7⟩ : ∃ W7, W7 = w6.alloc (.cells (zerosA n) 5) := ⟨_, rfl⟩
    have hb7 : Below w6.heap.size w6 W7 := by rw [hW7]; exact bel1 _ _
    have hz7 : w2.heap.size + 1 ≤ W7.heap.size := by have h1 := hb7.size; have h2 := ho6.size; omega
    have HDN7 := hide (((unhide HDN5).only ho6 (by omega) (by omega)).below hb7)
    have HRB7 := hide (((unhide HRB5).only ho6 (by omega)).below hb7 (by have := ho6.size; omega))
    have HR7 := hide (hR6.below hb7)
    have HF7 := hide (((unhide HF5).trans (ho6.below (show w.heap.size ≤ w.heap.size + 1 by omega) (unhide HF5).size)).trans (hb7.mono (by have := ho6.size; omega)))
    have HW7 := hide hW7.symm
    clear hW7 hb7 hR6 ho6 HDN5 HRB5 HR5 HF5 hb HBE
    go_wp2_with fail
    rw [unhide HW7]
    clear hmk hcv HW7 hn hv60 hv61 hn3
  case' false =>
    obtain ⟨W7, hW7⟩ : ∃ W7, W7 = w5 := ⟨_, rfl⟩
    obtain ⟨b, hb⟩ : ∃ b, b = s4 := ⟨_, rfl⟩
    have hbs : b.size ≤ 20001 := by rw [hb]; omega
    have hz7 : w2.heap.size + 1 ≤ W7.heap.size := by rw [hW7]; omega
    have HDN7 := HDN5
    have HRB7 := HRB5
    have HR7 := HR5
    have HF7 := HF5
    subst hW7 hb
    clear HDN5 HRB5 HR5 HF5
    go_wp2_with fail
  all_goals
    have hgR : w.heap.size ≠ w.heap.size + 1 := by omega
    have hNR : w2.heap.size ≠ w.heap.size + 1 := by omega
    have hgN : w.heap.size ≠ w2.heap.size := by omega
    have hgR1 : w.heap.size ≤ w.heap.size + 1 := by omega
    have hg7 : w.heap.size ≤ W7.heap.size := by omega
    have HP0 := hide (show PX W7 (w.heap.size + 1) w2.heap.size w.heap.size a len cap zs nx x m c W7.drew from PX.drew ⟨unhide HR7, (unhide HDN7).c0, (unhide HDN7).c1, Nat.le_refl _, Below.refl _ _, fun _ _ _ _ => rfl⟩)
    have A0 := fun (X : World) (hX : PX W7 (w.heap.size + 1) w2.heap.size w.heap.size a len cap zs nx x m c X) => hX.c0
    have A1 := fun (X : World) (hX : PX W7 (w.heap.size + 1) w2.heap.size w.heap.size a len cap zs nx x m c X) => hX.c1
    have HOF := hide (fun (X : World) (hX : PX W7 (w.heap.size + 1) w2.heap.size w.heap.size a len cap zs nx x m c X) => off_calls _ a len cap zs 1 50 X hX.rd (by omega) (by omega) (by omega))
    have HB7 := hide (show RB w.heap.size W7.drew from ⟨(unhide HRB7).c0, (unhide HRB7).c1, (unhide HRB7).z0, (unhide HRB7).z1⟩)
    go_region_held3 (fun X => PX W7 (w.heap.size + 1) w2.heap.size w.heap.size a len cap zs nx x m c X) (first | with_reducible exact unhide HP0 | with_reducible assumption | with_reducible exact PX.put (by assumption) hgR hgN (unhide HAZ)) (first | (have m0 := hvv9; go_at_call 28; refine (unhide HOF _ (by assumption)).mono ?_; rintro e w8 ⟨v8, rfl, hv80, hv81, hR8, ho8⟩; have hvv8 := And.intro hv80 hv81; have hP8 := PX.call (by assumption) hNR hgR1 hg7 hR8 ho8; (first | (have gz := RB.only (by assumption) ho8 hgR; obtain ⟨gc0, gc1, gd0, gd1⟩ := gz; have gz := RB.mk gc0 gc1 gd0 gd1) | (have gz := RB.only (unhide HB7) ho8 hgR; obtain ⟨gc0, gc1, gd0, gd1⟩ := gz; have gz := RB.mk gc0 gc1 gd0 gd1) | skip)) | (go_at_call 28; refine (unhide HOF _ (by assumption)).mono ?_; rintro e w9 ⟨v9, rfl, hv90, hv91, hR9, ho9⟩; have hvv9 := And.intro hv90 hv91; have hP9 := PX.call (by assumption) hNR hgR1 hg7 hR9 ho9; (first | (have gz := RB.only (by assumption) ho9 hgR; obtain ⟨gc0, gc1, gd0, gd1⟩ := gz; have gz := RB.mk gc0 gc1 gd0 gd1) | (have gz := RB.only (unhide HB7) ho9 hgR; obtain ⟨gc0, gc1, gd0, gd1⟩ := gz; have gz := RB.mk gc0 gc1 gd0 gd1) | skip)))
    all_goals (try go_wp2_with fail)
    all_goals
      refine bodyPost_ret (v := .tuple #[.agg #[.int .i64 nx, .slice x m c], .int .i64 v9, .int .i64 v8, .string b]) ?_ rfl ⟨nx, x, m, c, es, v9, v8, b, rfl, ?_, HSH, hm4, hnx, hvv9, hvv8, hbs, ?_⟩
      · obtain ⟨p0, p1⟩ := gz.read (u := .int .i64 nx) (v := .slice x m c)
        simp [results, Try.results10, go_sem, p0, p1]
      · refine hide ((own_past (g := w.heap.size) (show OwnR pktE w8 w1.heap.size (.slice x m c) es from (unhide HDN7).own.otherN (fun g hg => ?_)) (by omega)).le (by omega))
        have h1 := unhide HX g hg
        have h2 := (World.ownsRow.lt (unhide HDN7).own g hg).1
        exact hP8.blk g (by omega) (by omega) (by omega)
      · exact (((unhide HF7).trans hP8.bel).setCell (p := ⟨w.heap.size, 0, none⟩) (Nat.le_refl _) _).setCell (p := ⟨w.heap.size, 1, none⟩) (Nat.le_refl _) _
end Go.Proofs.Ytgdcamolpmjceaa


/- Whether a number is in a row, as the laws ask it. -/
namespace Go.Proofs.Ytgdcamolpmjceaa
open Go.RowKit Plain
set_option linter.unusedVariables false

set_option maxRecDepth 10000 in
set_option maxHeartbeats 1000000 in
theorem hasInt_calls (a : Option Addr) (n c : Nat) (ls : List Int) (x : Int) (w : World) (h : RowAt i64E w a ls) (hlen : ls.length = n) (hbn : n ≤ 1048576) :
    Calls Try.prog 9 #[.slice a n c, .int .i64 x] w fun e w' => e = .returned (.bool (decide (x ∈ ls))) ∧ w = w' := by
  have HH := hide h
  clear h
  obtain ⟨R, hR⟩ : ∃ R, decide (x ∈ ls) = R := ⟨_, rfl⟩
  rw [hR]
  have HR := hide hR
  clear hR
  obtain ⟨w0, rfl⟩ : ∃ w0, w0 = w := ⟨_, rfl⟩
  go_enter Try.func9, Try.ntmps9
  go_wp2_with fail
  go_loopw [5] (fun i wr => ∃ k : Nat, i = .int .i64 k ∧ k ≤ n ∧ Hid (decide (x ∈ ls.drop k) = R) ∧ wr = w0) (fun i _ => n - (intOf i).toNat)
  case atStart => exact ⟨0, rfl, by omega, hide (unhide HR), rfl⟩
  case round =>
    obtain ⟨k, rfl, hk, HO, rfl⟩ := hrel
    by_cases hkn : k < n
    · have hkl : k < ls.length := by rw [hlen]; exact hkn
      obtain ⟨g, e1, l1, p0, -⟩ := (unhide HH).ix k hkl
      have hst := unhide HO
      rw [List.drop_eq_getElem_cons hkl] at hst
      generalize ls[k] = y at p0 hst
      subst e1
      have i0 : (0 : Int) ≤ (k : Int) := by omega
      have i1 : (k : Int) < (n : Int) := by omega
      clear HO
      by_cases hxy : y = x
      · subst hxy
        have HX := hide (show R = true from by rw [← hst]; simp)
        clear hst
        go_wp2_with fail
        go_ret
        exact ⟨by rw [unhide HX]; rfl, rfl⟩
      · have HX := hide (show decide (x ∈ ls.drop (k + 1)) = R from by rw [← hst]; exact decide_eq_decide.2 (by rw [List.mem_cons]; exact ⟨fun q => .inr q, fun q => q.resolve_left (fun q2 => hxy q2.symm)⟩))
        have hne : (y == x) = false := by rw [beq_eq_false_iff_ne]; exact hxy
        clear hst
        go_wp2_with fail
        go_roundw
        case rel => exact ⟨k + 1, by go_num, by omega, HX, trivial⟩
        case measure => simp [intOf]; omega
    · obtain rfl : k = n := by omega
      have hO := unhide HO
      rw [List.drop_of_length_le (by rw [hlen]; exact Nat.le_refl _)] at hO
      have HX := hide (show R = false from by rw [← hO]; rfl)
      clear hO HO
      go_wp2_with fail
      go_ret
      exact ⟨by rw [unhide HX]; rfl, rfl⟩
end Go.Proofs.Ytgdcamolpmjceaa


/- What the laws of drawn nets ask, as plain mathematics. -/
namespace Go.Proofs.Ytgdcamolpmjceaa
open Go.RowKit Plain
set_option linter.unusedVariables false

namespace Plain
theorem okP_less {nx p q : Int} (hpq : q ≤ p) : ∀ l, okP nx p l = true → okP nx q l = true
  | [], _ => rfl
  | e :: l, h => by
    rw [okP, Bool.and_eq_true] at h ⊢
    refine ⟨?_, h.2⟩
    have h1 := h.1
    unfold pktB at h1 ⊢
    simp only [Bool.and_eq_true, decide_eq_true_eq] at h1 ⊢
    exact ⟨⟨by omega, h1.1.2⟩, h1.2⟩
theorem okP_filter {nx : Int} (f : Pkt → Bool) : ∀ (l : List Pkt) (p : Int), okP nx p l = true → okP nx p (l.filter f) = true
  | [], _, _ => rfl
  | e :: l, p, h => by
    rw [okP, Bool.and_eq_true] at h
    have ih := okP_filter f l e.id h.2
    rw [List.filter_cons]
    split
    · rw [okP, Bool.and_eq_true]; exact ⟨h.1, ih⟩
    · have h1 := h.1
      unfold pktB at h1
      simp only [Bool.and_eq_true, decide_eq_true_eq] at h1
      exact okP_less (by omega) _ ih
theorem netB_filter {nx : Int} {es : List Pkt} (f : Pkt → Bool) (h : netB nx es = true) : netB nx (es.filter f) = true := by
  unfold netB at h ⊢
  simp only [Bool.and_eq_true, decide_eq_true_eq] at h ⊢
  have := List.length_filter_le f es
  exact ⟨h.1, by omega, okP_filter f es 0 h.2.2⟩
theorem keep_keep (ins : Nat → Bool) (es : List Pkt) : keepP ins (keepP ins es) = keepP ins es := by
  unfold keepP; rw [List.filter_filter]; congr 1; funext p; exact Bool.and_self _
theorem ctg_again {nx : Int} {es : List Pkt} (side : List Int) (h : netB nx es = true) : ctgF nx (keepP (insL side) es) side = (nx, keepP (insL side) es, 0) := by
  have h2 : netB nx (keepP (insL side) es) = true := netB_filter _ h
  unfold ctgF
  rw [h2, if_neg (by simp), keep_keep]
  simp
/-- How many of the first packets cross. -/
def crosN (side : List Int) (es : List Pkt) (k : Nat) : Nat := k - ((es.take k).filter (ctK side)).length
theorem crosN_le (side : List Int) (es : List Pkt) (k : Nat) : crosN side es k ≤ k := Nat.sub_le _ _
theorem ctK_len (side : List Int) (es : List Pkt) (k : Nat) : ((es.take k).filter (ctK side)).length ≤ k := Nat.le_trans (List.length_filter_le _ _) (List.length_take_le _ _)
theorem crosN_stay (side : List Int) (es : List Pkt) (k : Nat) (h : k < es.length) (e : (decide (es[k].src ∈ side) == decide (es[k].dst ∈ side)) = true) : crosN side es (k + 1) = crosN side es k := by
  unfold crosN
  rw [ctK_take side es k h, if_pos (show ctK side es[k] = true from e), List.length_append]
  have := ctK_len side es k
  simp only [List.length_cons, List.length_nil]; omega
theorem crosN_more (side : List Int) (es : List Pkt) (k : Nat) (h : k < es.length) (e : (decide (es[k].src ∈ side) == decide (es[k].dst ∈ side)) = false) : crosN side es (k + 1) = crosN side es k + 1 := by
  unfold crosN
  rw [ctK_take side es k h, if_neg (show ¬ ctK side es[k] = true from by unfold ctK; rw [e]; simp)]
  have := ctK_len side es k
  omega
theorem crosN_all {nx : Int} {es : List Pkt} (side : List Int) (h : netB nx es = true) : (crosN side es es.length : Int) = (es.length : Int) - ((keepP (insL side) es).length : Int) := by
  unfold crosN
  rw [List.take_length, ctK_keep side es (netB_pos h)]
  have : (keepP (insL side) es).length ≤ es.length := List.length_filter_le _ _
  omega
theorem ctg_yes {nx : Int} {es : List Pkt} (side : List Int) (h : netB nx es = true) : ctgF nx es side = (nx, keepP (insL side) es, (es.length : Int) - (keepP (insL side) es).length) := by
  unfold ctgF; rw [h, if_neg (by simp)]
theorem ctg_no {nx : Int} {es : List Pkt} (side : List Int) (h : netB nx es = false) : ctgF nx es side = (0, [], -1) := by
  unfold ctgF; rw [h, if_pos rfl]
/-- Ids of a right net are below Next. -/
theorem okP_ids {nx : Int} : ∀ (l : List Pkt) (p : Int), okP nx p l = true → ∀ e ∈ l, e.id < nx
  | [], _, _, e, he => by cases he
  | x :: l, p, h, e, he => by
    rw [okP, Bool.and_eq_true] at h
    rcases List.mem_cons.1 he with rfl | he
    · have h1 := h.1
      unfold pktB at h1
      simp only [Bool.and_eq_true, decide_eq_true_eq] at h1
      exact h1.1.2
    · exact okP_ids l x.id h.2 e he
theorem okP_more {nx : Int} {x : Pkt} (hx : x.id = nx) (he : endsB x.src x.dst x.body = true) : ∀ (l : List Pkt) (p : Int), p < nx → okP nx p l = true → okP (nx + 1) p (l ++ [x]) = true
  | [], p, hp, _ => by
    rw [List.nil_append, okP, okP, Bool.and_true]
    unfold pktB
    rw [he, hx]; simp; omega
  | e :: l, p, hp, h => by
    rw [okP, Bool.and_eq_true] at h
    rw [List.cons_append, okP, Bool.and_eq_true]
    have h1 := h.1
    unfold pktB at h1 ⊢
    simp only [Bool.and_eq_true, decide_eq_true_eq] at h1 ⊢
    exact ⟨⟨⟨h1.1.1, by omega⟩, h1.2⟩, okP_more hx he l e.id h1.1.2 h.2⟩
theorem okP_wide {nx : Int} : ∀ (l : List Pkt) (p : Int), okP nx p l = true → okP (nx + 1) p l = true
  | [], _, _ => rfl
  | e :: l, p, h => by
    rw [okP, Bool.and_eq_true] at h ⊢
    have h1 := h.1
    unfold pktB at h1 ⊢
    simp only [Bool.and_eq_true, decide_eq_true_eq] at h1 ⊢
    exact ⟨⟨⟨h1.1.1, by omega⟩, h1.2⟩, okP_wide l e.id h.2⟩
/-- A packet that is posted: what the laws ask of it. -/
structure Posted (nx : Int) (es : List Pkt) (f t : Int) (b : ByteArray) : Prop where
  net : netB (nx + 1) (es ++ [⟨nx, f, t, b⟩]) = true
  left : netB (nx + 1) es = true
  ends : nodeB f = true ∧ nodeB t = true
  has : nx ∈ btwL (nx + 1) (es ++ [⟨nx, f, t, b⟩]) f t
  kept : takF (nx + 1) (es ++ [⟨nx, f, t, b⟩]) nx true = ⟨nx + 1, es ++ [⟨nx, f, t, b⟩], ⟨nx, f, t, b⟩, true⟩
  gone : takF (nx + 1) (es ++ [⟨nx, f, t, b⟩]) nx false = ⟨nx + 1, es, ⟨nx, f, t, b⟩, true⟩
  no : (takF (nx + 1) es nx false).ok = false
theorem posted {nx : Int} {es : List Pkt} {f t : Int} {b : ByteArray} (h : netB nx es = true) (he : endsB f t b = true) (hl : ¬ (300 ≤ es.length ∨ 1000000000000 ≤ nx)) : Posted nx es f t b := by
  have hn := h
  unfold netB at hn
  simp only [Bool.and_eq_true, decide_eq_true_eq] at hn
  have hid := okP_ids es 0 hn.2.2
  have hne : ∀ e ∈ es, decide (e.id = nx) = false := fun e he => by have := hid e he; simp; omega
  have hnet : netB (nx + 1) (es ++ [⟨nx, f, t, b⟩]) = true := by
    unfold netB
    simp only [Bool.and_eq_true, decide_eq_true_eq, List.length_append, List.length_cons, List.length_nil]
    exact ⟨⟨by omega, by omega⟩, by omega, okP_more (x := ⟨nx, f, t, b⟩) rfl he es 0 (show (0 : Int) < nx by omega) hn.2.2⟩
  have hleft : netB (nx + 1) es = true := by
    unfold netB
    simp only [Bool.and_eq_true, decide_eq_true_eq]
    exact ⟨⟨by omega, by omega⟩, by omega, okP_wide es 0 hn.2.2⟩
  have hfn : (es.find? fun q => decide (q.id = nx)) = none := List.find?_eq_none.2 fun e he => by rw [hne e he]; simp
  have hff : ((es ++ [(⟨nx, f, t, b⟩ : Pkt)]).find? fun q => decide (q.id = nx)) = some ⟨nx, f, t, b⟩ := by
    rw [List.find?_append, hfn]; simp
  have hdr : dropI (es ++ [⟨nx, f, t, b⟩]) nx = es := by
    unfold dropI
    rw [List.filter_append, List.filter_eq_self.2 (fun e he => by have := hne e he; simpa using this)]
    simp
  refine ⟨hnet, hleft, ?_, ?_, ?_, ?_, ?_⟩
  · unfold endsB at he; simp only [Bool.and_eq_true] at he; exact he.1
  · unfold btwL
    rw [if_pos hnet, List.mem_map]
    refine ⟨⟨nx, f, t, b⟩, ?_, rfl⟩
    unfold wayF
    rw [List.mem_filter]
    exact ⟨by simp, by simp⟩
  · unfold takF; rw [hnet, if_neg (by simp), hff]; simp
  · unfold takF; rw [hnet, if_neg (by simp), hff]; simp [hdr]
  · unfold takF; rw [hleft, if_neg (by simp), hfn]
theorem pst_ok {nx : Int} {es : List Pkt} {f t : Int} {b : ByteArray} (h : (pstF nx es f t b).2.2 = 0) : pstF nx es f t b = (nx + 1, es ++ [⟨nx, f, t, b⟩], 0) ∧ Posted nx es f t b := by
  unfold pstF at h ⊢
  split at h
  · simp at h
  · rename_i h1
    split at h
    · simp at h
    · rename_i h2
      split at h
      · simp at h
      · rename_i h3
        rw [if_neg h1, if_neg h2, if_neg h3]
        exact ⟨rfl, posted (by simpa using h1) (by simpa using h2) h3⟩
theorem pst_not {nx : Int} {es : List Pkt} {f t : Int} {b : ByteArray} (h : (pstF nx es f t b).2.2 ≠ 0) : (pstF nx es f t b).2.2 = 1 ∨ ((pstF nx es f t b).2.2 ≠ 1 ∧ (pstF nx es f t b).1 = nx ∧ (pstF nx es f t b).2.1 = es) := by
  unfold pstF at h ⊢
  split
  · exact .inl rfl
  · split
    · exact .inr ⟨by simp, rfl, rfl⟩
    · split
      · exact .inr ⟨by simp, rfl, rfl⟩
      · rename_i h1 h2 h3
        rw [if_neg h1, if_neg h2, if_neg h3] at h
        exact absurd rfl h
end Plain
end Go.Proofs.Ytgdcamolpmjceaa


/- The walk of the law FnPosted, over what is drawn. -/
namespace Go.Proofs.Ytgdcamolpmjceaa
open Go.RowKit Plain
set_option linter.unusedVariables false

theorem own_capM {W : World} {B m c : Nat} {x : Option Addr} {es : List Pkt} (h : OwnR pktE W B (.slice x m c) es) : es.length = m ∧ m ≤ c := by
  obtain ⟨_, _, hf⟩ := h.form
  injection hf with _ q1 _
  refine ⟨q1.symm, ?_⟩
  rcases h.2 with ⟨q, q0⟩ | ⟨g', cap', cur, q, _, _, q2, _⟩
  · injection q with _ q1 _; omega
  · injection q with _ q1 q3; omega

theorem wf_node {f : Int} (h : nodeB f = true) : (Lit.int .i64 f).wf = true := by
  unfold nodeB at h
  simp only [Bool.and_eq_true, decide_eq_true_eq] at h
  exact Go.WalkArith.wf_i64 ⟨by omega, by omega⟩

set_option maxRecDepth 10000 in
set_option maxHeartbeats 8000000 in
theorem post_walk (a0 : Option Addr) (len0 cap0 : Nat) (w : World) (hbig : len0 ≤ 1048576) (HDR : Calls Try.prog 10 #[.slice a0 len0 cap0] w (PstDPost w)) :
    Calls Try.prog 4 #[.slice a0 len0 cap0] w fun e w' => e = .returned (.bool true) ∧ Below w.heap.size w w' := by
  have hd : decide (1048576 < (len0 : Int)) = false := by simp; omega
  have hlen : len0 ≤ maxLen := by unfold maxLen; omega
  have HB := hide (big_calls a0 len0 cap0 w hlen)
  have HDR2 := hide HDR
  clear HDR
  rw [hd] at HB
  go_enter Try.func4, Try.ntmps4
  go_wp2_with fail
  refine (unhide HB).mono ?_
  rintro e w1 ⟨rfl, rfl⟩
  go_wp2_with fail
  refine (unhide HDR2).mono ?_
  unfold PstDPost
  rintro e w1 ⟨nx, x, m, c, es, f, t, b, rfl, HO1, HSH, hm4, hnx, hf, ht, hbs, hb1⟩
  obtain ⟨hml, hmc⟩ := own_capM (unhide HO1)
  obtain ⟨W2, hW2⟩ : ∃ W2, W2 = w1.alloc (.cells #[.int .i64 nx, .slice x m c] 26) := ⟨_, rfl⟩
  have hb2 : Below w1.heap.size w1 W2 := by rw [hW2]; exact bel1 _ _
  have hz2 : W2.heap.size = w1.heap.size + 1 := by rw [hW2]; simp
  have c0 : W2.cell? ⟨w1.heap.size, 0, none⟩ = some (.int .i64 nx) := by rw [hW2]; simp [go_sem]
  have c1 : W2.cell? ⟨w1.heap.size, 1, none⟩ = some (.slice x m c) := by rw [hW2]; simp [go_sem]
  have HC := hide (fun (W : World) (hW : Below W2.heap.size W2 W) => And.intro (bcl hW (by omega) c0) (bcl hW (by omega) c1))
  have HN := hide (fun (W : World) (hW : Below W2.heap.size W2 W) => show NetAt W x m c es from ⟨((unhide HO1).keep (belOn hb2 hW)).at, hml, by omega, fun e he => by have := unhide HSH e he; omega⟩)
  have HSC := hide (spec_Post nx x m c es f t b W2 (unhide HN _ (Below.refl _ _)) hmc (unhide HO1).adG (by omega))
  have HB2 := hide (belOn hb1 hb2)
  have HW2 := hide hW2.symm
  have HML := hide hml
  clear hW2 hb2 hb1 HO1 HDR2 HB hml
  go_wp2_with fail
  rw [unhide HW2]
  refine (unhide HSC).mono ?_
  unfold NetPost
  rintro e w3 ⟨a3, c3, rfl, ho3, hb3⟩
  obtain ⟨R, hR⟩ : ∃ R, pstF nx es f t b = R := ⟨_, rfl⟩
  rw [hR]
  obtain ⟨N1, E1, C1⟩ := R
  simp only []
  obtain ⟨k1, hk1⟩ : ∃ k, E1.length = k := ⟨_, rfl⟩
  rw [hk1]
  have hb4 : Below W2.heap.size W2 (w3.alloc (.cells #[.int .i64 N1, .slice a3 k1 c3] 26)) := belOn hb3 (bel1 _ _)
  obtain ⟨q0, q1⟩ := unhide HC _ hb4
  have HIM := hide (impl_Post nx x m c es f t b (w3.alloc (.cells #[.int .i64 N1, .slice a3 k1 c3] 26)) (unhide HN _ hb4) hmc (by omega))
  rw [hR] at HIM
  have HB4 := hide hb4
  have HRR := hide hR
  clear hb4 hb3 ho3 c0 c1 hR HSC
  go_wp2_with fail
  refine (unhide HIM).mono ?_
  unfold NetPost
  rintro e w5 ⟨a5, c5, rfl, ho5, hb5⟩
  simp only [] at ho5 ⊢
  rw [hk1] at ho5 ⊢
  obtain ⟨W6, hW6⟩ : ∃ W6, W6 = w5.alloc (.cells #[.int .i64 N1, .slice a5 k1 c5] 26) := ⟨_, rfl⟩
  have hb6 : Below w5.heap.size w5 W6 := by rw [hW6]; exact bel1 _ _
  have h6 : Below W2.heap.size W2 W6 := belOn (belOn (unhide HB4) hb5) hb6
  have hz6 : W6.heap.size = w5.heap.size + 1 := by rw [hW6]; simp
  have d0 : W6.cell? ⟨w5.heap.size, 0, none⟩ = some (.int .i64 N1) := by rw [hW6]; simp [go_sem]
  have d1 : W6.cell? ⟨w5.heap.size, 1, none⟩ = some (.slice a5 k1 c5) := by rw [hW6]; simp [go_sem]
  have HC6 := hide (fun (W : World) (hW : Below W6.heap.size W6 W) => And.intro (unhide HC W (belOn h6 hW)) (And.intro (bcl hW (by omega) d0) (bcl hW (by omega) d1)))
  obtain ⟨hk5, hkc5⟩ := own_capM ho5
  have HOK := hide (fun (W : World) (hW : Below W6.heap.size W6 W) => (ho5.keep (belOn hb6 hW)).at)
  have HF6 := hide (belOn (unhide HB2) h6)
  have HW6 := hide hW6.symm
  clear hW6 hb6 h6 ho5 hb5 HB4 q0 q1 HC HN HIM HB2 hk5
  by_cases hC : C1 = 0
  · subst hC
    have hok := pst_ok (nx := nx) (es := es) (f := f) (t := t) (b := b) (by rw [unhide HRR])
    rw [unhide HRR] at hok
    obtain ⟨he1, hP⟩ := hok
    simp only [Prod.mk.injEq, and_true] at he1
    obtain ⟨rfl, rfl⟩ := he1
    obtain ⟨⟨s0, s1⟩, s2, s3⟩ := unhide HC6 _ (Below.refl _ _)
    have HP := hide hP
    have HBT := hide (fun (W : World) (hW : Below W6.heap.size W6 W) => impl_Between (nx + 1) a5 k1 c5 (es ++ [⟨nx, f, t, b⟩]) f t W ⟨unhide HOK W hW, hk1, by have := unhide HML; rw [List.length_append] at hk1; simp at hk1; omega, fun e he => by
      rcases List.mem_append.1 he with he | he
      · have := unhide HSH e he; omega
      · rw [List.mem_singleton.1 he]; show b.size ≤ _; omega⟩ hkc5 ⟨wf_node hP.ends.1, wf_node hP.ends.2⟩)
    rw [← unhide HW6] at s0 s1 s2 s3
    clear hP d0 d1
    go_wp2_with fail
    rw [unhide HW6]
    refine (unhide HBT W6 (Below.refl _ _)).mono ?_
    rintro e w7 ⟨v7, rfl, ho7, hb7⟩
    obtain ⟨a7, c7, hv7⟩ := ho7.form
    subst hv7
    obtain ⟨k7, hk7⟩ : ∃ k, (btwL (nx + 1) (es ++ [⟨nx, f, t, b⟩]) f t).length = k := ⟨_, rfl⟩
    have hk7b : k7 ≤ 1048576 := by
      rw [← hk7]; unfold btwL; rw [if_pos (unhide HP).net, List.length_map]
      have h1 := List.length_filter_le (fun p : Pkt => decide (p.src = f) && decide (p.dst = t)) (es ++ [⟨nx, f, t, b⟩])
      unfold wayF
      have h2 := unhide HML
      rw [List.length_append] at h1
      refine Nat.le_trans (List.length_filter_le _ _) ?_
      rw [List.length_append]; simp; omega
    have HHI := hide (hasInt_calls a7 k7 c7 _ nx w7 (ho7.at) hk7 hk7b)
    rw [decide_eq_true (unhide HP).has] at HHI
    rw [hk7]
    have HB7 := hide hb7
    clear s0 s1 s2 s3 ho7 hb7 hk7b HBT
    go_wp2_with fail
    refine (unhide HHI).mono ?_
    rintro e w8 ⟨rfl, rfl⟩
    obtain ⟨⟨s0, s1⟩, s2, s3⟩ := unhide HC6 _ (unhide HB7)
    have hks : (es ++ [(⟨nx, f, t, b⟩ : Pkt)]).length ≤ 401 := by have := unhide HML; rw [List.length_append]; simp; omega
    have HSZ := hide (show ∀ e ∈ es ++ [(⟨nx, f, t, b⟩ : Pkt)], e.body.size ≤ 1000000000 from fun e he => by
      rcases List.mem_append.1 he with he | he
      · have := unhide HSH e he; omega
      · rw [List.mem_singleton.1 he]; show b.size ≤ _; omega)
    have HT1 := hide (impl_Take (nx + 1) a5 k1 c5 (es ++ [⟨nx, f, t, b⟩]) nx true w7 ⟨unhide HOK _ (unhide HB7), hk1, by omega, unhide HSZ⟩ hkc5)
    rw [(unhide HP).kept] at HT1
    clear HHI
    go_wp2_with fail
    refine (unhide HT1).mono ?_
    unfold TakPost pktV
    rintro e w9 ⟨a9, c9, rfl, ho9, hb9⟩
    simp only [] at ho9 ⊢
    rw [hk1] at ho9 ⊢
    obtain ⟨hk9, hkc9⟩ := own_capM ho9
    obtain ⟨W10, hW10⟩ : ∃ W10, W10 = (w9.alloc (.cells #[.int .i64 (nx + 1), .slice a9 k1 c9] 26)).alloc (.cells #[.int .i64 nx, .int .i64 f, .int .i64 t, .string b] 34) := ⟨_, rfl⟩
    have hb10 : Below w9.heap.size w9 W10 := by rw [hW10]; exact belOn (bel1 _ _) (bel1 _ _)
    have hz10 : W10.heap.size = w9.heap.size + 2 := by rw [hW10]; simp
    have h10 := belOn (belOn (unhide HB7) hb9) hb10
    have e1 : W10.cell? ⟨w9.heap.size + 1, 1, none⟩ = some (.int .i64 f) := by rw [hW10]; simp [go_sem]
    have e2 : W10.cell? ⟨w9.heap.size + 1, 2, none⟩ = some (.int .i64 t) := by rw [hW10]; simp [go_sem]
    have e3 : W10.cell? ⟨w9.heap.size + 1, 3, none⟩ = some (.string b) := by rw [hW10]; simp [go_sem]
    have HC10 := hide (fun (W : World) (hW : Below W10.heap.size W10 W) => And.intro (unhide HC6 W (belOn h10 hW)).1 (And.intro (bcl hW (by omega) e1) (And.intro (bcl hW (by omega) e2) (bcl hW (by omega) e3))))
    have HT2 := hide (impl_Take (nx + 1) a9 k1 c9 (es ++ [⟨nx, f, t, b⟩]) nx false W10 ⟨(ho9.keep hb10).at, hk1, by omega, unhide HSZ⟩ hkc9)
    rw [(unhide HP).gone] at HT2
    have HF10 := hide (belOn (unhide HF6) h10)
    have HW10 := hide hW10.symm
    clear hW10 hb10 h10 ho9 hb9 e1 e2 e3 s0 s1 s2 s3 HT1 HB7 HC6 HOK HF6
    go_wp2_with fail
    rw [unhide HW10]
    refine (unhide HT2).mono ?_
    unfold TakPost pktV
    rintro e w11 ⟨a11, c11, rfl, ho11, hb11⟩
    simp only [] at ho11 ⊢
    rw [unhide HML] at ho11 ⊢
    obtain ⟨hk11, hkc11⟩ := own_capM ho11
    obtain ⟨W12, hW12⟩ : ∃ W12, W12 = (w11.alloc (.cells #[.int .i64 (nx + 1), .slice a11 m c11] 26)).alloc (.cells #[.int .i64 nx, .int .i64 f, .int .i64 t, .string b] 34) := ⟨_, rfl⟩
    have hb12 : Below w11.heap.size w11 W12 := by rw [hW12]; exact belOn (bel1 _ _) (bel1 _ _)
    have hz12 : W12.heap.size = w11.heap.size + 2 := by rw [hW12]; simp
    have h12 := belOn hb11 hb12
    have l0 : W12.cell? ⟨w11.heap.size, 0, none⟩ = some (.int .i64 (nx + 1)) := by rw [hW12]; simp [go_sem]
    have l1 : W12.cell? ⟨w11.heap.size, 1, none⟩ = some (.slice a11 m c11) := by rw [hW12]; simp [go_sem]
    have e3 : W12.cell? ⟨w11.heap.size + 1, 3, none⟩ = some (.string b) := by rw [hW12]; simp [go_sem]
    have HC12 := hide (fun (W : World) (hW : Below W12.heap.size W12 W) => And.intro (unhide HC10 W (belOn h12 hW)) (And.intro (bcl hW (by omega) l0) (And.intro (bcl hW (by omega) l1) (bcl hW (by omega) e3))))
    have HNL := hide (fun (W : World) (hW : Below W12.heap.size W12 W) => show NetAt W a11 m c11 es from ⟨(ho11.keep (belOn hb12 hW)).at, hk11, by omega, fun e he => by have := unhide HSH e he; omega⟩)
    have HT3 := hide (impl_Take (nx + 1) a11 m c11 es nx false W12 (unhide HNL _ (Below.refl _ _)) hkc11)
    have hno := (unhide HP).no
    generalize takF (nx + 1) es nx false = R3 at HT3 hno
    obtain ⟨n3, es3, p3, ok3⟩ := R3
    simp only [] at hno
    subst hno
    obtain ⟨i3, f3, t3, b3⟩ := p3
    have HF12 := hide (belOn (unhide HF10) h12)
    have HW12 := hide hW12.symm
    clear hW12 hb12 h12 ho11 hb11 l0 l1 e3 HT2 HC10 HF10
    go_wp2_with fail
    rw [unhide HW12]
    refine (unhide HT3).mono ?_
    unfold TakPost pktV
    rintro e w13 ⟨a13, c13, rfl, ho13, hb13⟩
    simp only [] at ho13 ⊢
    obtain ⟨k3, hk3⟩ : ∃ k, es3.length = k := ⟨_, rfl⟩
    rw [hk3]
    obtain ⟨W14, hW14⟩ : ∃ W14, W14 = (w13.alloc (.cells #[.int .i64 n3, .slice a13 k3 c13] 26)).alloc (.cells #[.int .i64 i3, .int .i64 f3, .int .i64 t3, .string b3] 34) := ⟨_, rfl⟩
    have hb14 : Below w13.heap.size w13 W14 := by rw [hW14]; exact belOn (bel1 _ _) (bel1 _ _)
    have h14 := belOn hb13 hb14
    obtain ⟨⟨⟨s0, s1⟩, g1, g2, g3⟩, l0, l1, l3⟩ := unhide HC12 _ h14
    have HNO := hide (impl_NetOk (nx + 1) a11 m c11 es W14 (unhide HNL _ h14) hkc11)
    rw [(unhide HP).left] at HNO
    have HF14 := hide (belOn (unhide HF12) h14)
    have HW14 := hide hW14.symm
    rw [hW14] at s0 s1 g1 g2 g3 l0 l1 l3
    clear hW14 hb14 h14 ho13 hb13 HT3 HC12 HF12 HNL hk3
    go_wp2_with fail
    rw [unhide HW14]
    refine (unhide HNO).mono ?_
    rintro e w15 ⟨rfl, hb15⟩
    have HF15 := hide (belOn (unhide HF14) hb15)
    clear s0 s1 g1 g2 g3 l0 l1 l3 hb15
    go_wp2_with fail
    go_ret
    exact ⟨rfl, unhide HF15⟩
  · have hnot := pst_not (nx := nx) (es := es) (f := f) (t := t) (b := b) (by rw [unhide HRR]; exact hC)
    rw [unhide HRR] at hnot
    simp only [] at hnot
    obtain ⟨⟨s0, s1⟩, s2, s3⟩ := unhide HC6 _ (Below.refl _ _)
    have hC0 : (C1 == 0) = false := by rw [beq_eq_false_iff_ne]; exact hC
    rcases hnot with rfl | ⟨hC1, rfl, rfl⟩
    · rw [← unhide HW6] at s0 s1 s2 s3
      clear d0 d1
      go_wp2_with fail
      go_ret
      exact ⟨rfl, by rw [unhide HW6]; exact unhide HF6⟩
    · have hC2 : (C1 == 1) = false := by rw [beq_eq_false_iff_ne]; exact hC1
      obtain rfl : k1 = m := by rw [← hk1]; exact unhide HML
      rw [← unhide HW6] at s0 s1 s2 s3
      clear d0 d1
      go_wp2_with fail
      go_ret
      exact ⟨rfl, by rw [unhide HW6]; exact unhide HF6⟩
end Go.Proofs.Ytgdcamolpmjceaa

