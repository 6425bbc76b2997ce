/- Texts of one kind, put together. -/
import Derived.Test.YtgdcamolpmjceaaDzA
import Derived.Test.YtgdcamolpmjceaaDrawD
import Derived.Test.YtgdcamolpmjceaaOnlN
import Derived.Test.YtgdcamolpmjceaaTakS
import Derived.Deep.DeepCutAuto

/- A net that is drawn. -/
namespace Go.Proofs.Ytgdcamolpmjceaa
open Go.RowKit Plain
set_option linter.unusedVariables false

namespace Plain
/-- Packets with short bodies. -/
def Shrt (es : List Pkt) : Prop := ∀ e ∈ es, e.body.size ≤ 20000
theorem pst_facts {nx : Int} {es : List Pkt} {f t : Int} {b : ByteArray} (hs : Shrt es) (hb : b.size ≤ 20000) (h0 : 0 ≤ nx) : Shrt (pstF nx es f t b).2.1 ∧ (pstF nx es f t b).2.1.length ≤ es.length + 1 ∧ 0 ≤ (pstF nx es f t b).1 ∧ (pstF nx es f t b).1 ≤ nx + 1 := by
  unfold pstF
  split
  · exact ⟨fun e he => (by cases he), by simp, by simp, by simp; omega⟩
  · split
    · exact ⟨hs, by simp, h0, by simp; omega⟩
    · split
      · exact ⟨hs, by simp, h0, by simp; omega⟩
      · refine ⟨fun e he => ?_, by simp, by simp; omega, by simp⟩
        rcases List.mem_append.1 he with he | he
        · exact hs e he
        · rw [List.mem_singleton.1 he]; exact hb
theorem tak_facts {nx : Int} {es : List Pkt} {id : Int} {k : Bool} (hs : Shrt es) (h0 : 0 ≤ nx) : Shrt (takF nx es id k).es ∧ (takF nx es id k).es.length ≤ es.length ∧ 0 ≤ (takF nx es id k).nx ∧ (takF nx es id k).nx ≤ nx := by
  unfold takF
  split
  · exact ⟨fun e he => (by cases he), by simp, by simp, by simp; omega⟩
  · split
    · exact ⟨hs, by simp, h0, by simp⟩
    · have hd : (dropI es id).length ≤ es.length := List.length_filter_le _ _
      cases k
      · exact ⟨fun e he => hs e (List.mem_filter.1 he).1, by simpa using hd, h0, by simp⟩
      · exact ⟨hs, by simp, h0, by simp⟩
/-- The net's variable: its block N, its packets' row from block B on. -/
structure DN (N B : Nat) (nx : Int) (x : Option Addr) (m c : Nat) (es : List Pkt) (W : World) : Prop where
  c0 : W.cell? ⟨N, 0, none⟩ = some (.int .i64 nx)
  c1 : W.cell? ⟨N, 1, none⟩ = some (.slice x m c)
  z0 : W.frozen? ⟨N, 0, none⟩ = false
  z1 : W.frozen? ⟨N, 1, none⟩ = false
  own : OwnR pktE W B (.slice x m c) es
theorem DN.only {N B m c R : Nat} {nx : Int} {x : Option Addr} {es : List Pkt} {W W' : World} (h : DN N B nx x m c es W) (ho : OnlyAt ⟨R, 1, none⟩ W W') (hN : N ≠ R) (hR : R < B) : DN N B nx x m c es W' :=
  ⟨ho.c h.c0 hN, ho.c h.c1 hN, ho.z (lt_of_cell h.c0) h.z0, ho.z (lt_of_cell h.c0) h.z1, h.own.onlN ho hR⟩
theorem DN.below {N B m c : Nat} {nx : Int} {x : Option Addr} {es : List Pkt} {W W' : World} (h : DN N B nx x m c es W) (hb : Below W.heap.size W W') : DN N B nx x m c es W' := by
  have hN := lt_of_cell h.c0
  exact ⟨bcl hb hN h.c0, bcl hb hN h.c1, (hb.frozen (p := ⟨N, 0, none⟩) hN).trans h.z0, (hb.frozen (p := ⟨N, 1, none⟩) hN).trans h.z1, h.own.keep hb⟩
theorem DN.len {N B m c : Nat} {nx : Int} {x : Option Addr} {es : List Pkt} {W : World} (h : DN N B nx x m c es W) : es.length = m := by
  obtain ⟨_, _, hf⟩ := h.own.form
  injection hf with _ q _
  exact q.symm
theorem DN.cap {N B m c : Nat} {nx : Int} {x : Option Addr} {es : List Pkt} {W : World} (h : DN N B nx x m c es W) : m ≤ c := by
  rcases h.own.2 with ⟨q, q0⟩ | ⟨g', cap', cur, q, _, _, q2, _⟩
  · injection q with _ q1 _; omega
  · injection q with _ q1 q3; omega
theorem DN.net {N B m c : Nat} {nx : Int} {x : Option Addr} {es : List Pkt} {W : World} (h : DN N B nx x m c es W) (hs : Shrt es) (hm : m ≤ 1000) : NetAt W x m c es := ⟨h.own.at, h.len, by omega, fun e he => by have := hs e he; omega⟩
end Plain

set_option maxRecDepth 10000 in
theorem sizeR_calls (R : Nat) (a : Option Addr) (len cap : Nat) (zs : List Int) (w : World) (h : Rd w R a len cap zs) :
    Calls Try.prog 37 #[.pointer (some ⟨R, 0, none⟩), .int .i64 3, .int .i64 8] w fun e w' => ∃ v : Int, e = .returned (.int .i64 v) ∧ 1 ≤ v ∧ v ≤ 8 ∧ Rd w' R a len cap zs ∧ OnlyAt ⟨R, 1, none⟩ w w' := by
  obtain ⟨p, hp⟩ := h
  have c0 := hp.c0
  have hs := hp.small
  have HP := hide (show Rd w R a len cap zs from ⟨p, hp⟩)
  have hq : (0 : Int) ≤ (len : Int) / 3 := by omega
  clear hp
  by_cases hl : 8 < 1 + (len : Int) / 3
  · have HB := hide (below_calls R a len cap zs 8 w (unhide HP) (by omega) (by omega))
    go_enter Try.func37, Try.ntmps37
    go_wp2_with fail
    refine (unhide HB).mono ?_
    rintro e w1 ⟨v, rfl, h0, h1, hR, ho⟩
    have HR := hide hR
    have HO := hide ho
    clear hR ho
    go_wp2_with fail
    go_ret
    exact ⟨1 + v, rfl, by omega, by omega, unhide HR, unhide HO⟩
  · have HB := hide (below_calls R a len cap zs (1 + (len : Int) / 3) w (unhide HP) (by omega) (by omega))
    go_enter Try.func37, Try.ntmps37
    go_wp2_with fail
    refine (unhide HB).mono ?_
    rintro e w1 ⟨v, rfl, h0, h1, hR, ho⟩
    have HR := hide hR
    have HO := hide ho
    clear hR ho
    go_wp2_with fail
    go_ret
    exact ⟨1 + v, rfl, by omega, by omega, unhide HR, unhide HO⟩
end Go.Proofs.Ytgdcamolpmjceaa


/- A net that is drawn: what a round of the drawing leaves. -/
namespace Go.Proofs.Ytgdcamolpmjceaa
open Go.RowKit Plain
set_option linter.unusedVariables false

namespace Plain
/-- A net's variable that was made and not yet written. -/
structure NewN (B g : Nat) (X : World) : Prop where
  low : B ≤ g
  c0 : X.cell? ⟨g, 0, none⟩ = some (.int .i64 0)
  c1 : X.cell? ⟨g, 1, none⟩ = some (.slice none 0 0)
  z0 : X.frozen? ⟨g, 0, none⟩ = false
  z1 : X.frozen? ⟨g, 1, none⟩ = false
theorem NewN.new {wr Y : World} {R : Nat} {a : Option Addr} {len cap : Nat} {zs : List Int} (h : DS wr R a len cap zs Y) : NewN wr.heap.size Y.heap.size (Y.alloc (.cells #[.int .i64 0, .slice none 0 0] 26)) := ⟨h.only.size, by simp [go_sem], by simp [go_sem], by simp [go_sem], by simp [go_sem]⟩
theorem NewN.only {B g R : Nat} {X X' : World} (h : NewN B g X) (ho : OnlyAt ⟨R, 1, none⟩ X X') (hR : R < B) : NewN B g X' := by
  have hl := h.low
  exact ⟨h.low, ho.c h.c0 (by omega), ho.c h.c1 (by omega), ho.z (lt_of_cell h.c0) h.z0, ho.z (lt_of_cell h.c0) h.z1⟩
theorem NewN.below {B g : Nat} {X X' : World} (h : NewN B g X) (hb : Below X.heap.size X X') : NewN B g X' := by
  have hl := lt_of_cell h.c0
  exact ⟨h.low, bcl hb hl h.c0, bcl hb hl h.c1, (hb.frozen (p := ⟨g, 0, none⟩) hl).trans h.z0, (hb.frozen (p := ⟨g, 1, none⟩) hl).trans h.z1⟩
theorem DS.set2 {wr X : World} {R g : Nat} {a : Option Addr} {len cap : Nat} {zs : List Int} {u v : Value} (h : DS wr R a len cap zs X) (hR : R < wr.heap.size) (hn : wr.heap.size ≤ g) : DS wr R a len cap zs ((X.setCell ⟨g, 0, none⟩ u).setCell ⟨g, 1, none⟩ v) := (h.set hR hn u).set hR hn v
end Plain

theorem Plain.NewN.belowL {B g : Nat} {X X' : World} (h : NewN B g X) (hb : Below X.heap.size X X') : NewN B g X' ∧ g < X.heap.size := ⟨h.below hb, lt_of_cell h.c0⟩
/-- What a round's Post leaves. -/
def Plain.NRel (w : World) (R : Nat) (a : Option Addr) (len cap : Nat) (zs : List Int) (nx : Int) (x : Option Addr) (m c : Nat) (es : List Pkt) (s5 s6 : Value) (wx : World) : Prop := ∃ (G m' c' : Nat) (T C : Int) (x' : Option Addr) (es' : List Pkt), s5 = .pointer (some ⟨G, 0, none⟩) ∧ s6 = .int .i64 C ∧ w.heap.size + 2 ≤ G ∧ 0 ≤ T ∧ T ≤ nx + 1 ∧ m' ≤ m + 1 ∧ w.heap.size + 2 ≤ wx.heap.size ∧ Hid (Shrt es') ∧ Hid (DN G (w.heap.size + 2) T x' m' c' es' wx) ∧ Hid (DN (w.heap.size + 1) (w.heap.size + 2) nx x m c es wx) ∧ Hid (DS w R a len cap zs wx) ∧ Hid (RB w.heap.size wx)
theorem Plain.RB.only {g R : Nat} {W W' : World} (h : RB g W) (ho : OnlyAt ⟨R, 1, none⟩ W W') (hg : g ≠ R) : RB g W' := ⟨ho.c h.c0 hg, ho.c h.c1 hg, ho.z (lt_of_cell h.c0) h.z0, ho.z (lt_of_cell h.c0) h.z1⟩
theorem Plain.NRel.of {w wr W6 : World} {R : Nat} {a : Option Addr} {len cap : Nat} {zs : List Int} {nx : Int} {x : Option Addr} {m c : Nat} {es : List Pkt} (hDS : DS w R a len cap zs wr) (hDN : DN (w.heap.size + 1) (w.heap.size + 2) nx x m c es wr) (hRB : RB w.heap.size wr) (hR : R < w.heap.size) (hz : w.heap.size + 2 ≤ wr.heap.size) (hD6 : DS wr R a len cap zs W6) (hsh : Shrt es) (h0 : 0 ≤ nx)
    {f t : Int} {b : ByteArray} (hb : b.size ≤ 6) {G c5 : Nat} {x5 : Option Addr} (hG : w.heap.size + 2 ≤ G) (hN : DN G (w.heap.size + 2) (pstF nx es f t b).1 x5 (pstF nx es f t b).2.1.length c5 (pstF nx es f t b).2.1 W6) : NRel w R a len cap zs nx x m c es (.pointer (some ⟨G, 0, none⟩)) (.int .i64 (pstF nx es f t b).2.2) W6 := by
  obtain ⟨p1, p2, p3, p4⟩ := pst_facts (f := f) (t := t) hsh (show b.size ≤ 20000 by omega) h0
  have hl := hDN.len
  have hs := hD6.only.size
  exact ⟨G, _, c5, _, _, x5, _, rfl, rfl, hG, p3, p4, by omega, by omega, hide p1, hide hN, hide (hDN.only hD6.only (by omega) (by omega)), hide (hDS.call hD6.rd hD6.only), hide (hRB.only hD6.only (by omega))⟩
theorem Plain.NRel.end1 {w wr w5 : World} {R B5 : Nat} {a : Option Addr} {len cap : Nat} {zs : List Int} {nx : Int} {x : Option Addr} {m c : Nat} {es : List Pkt} (hDS : DS w R a len cap zs wr) (hDN : DN (w.heap.size + 1) (w.heap.size + 2) nx x m c es wr) (hRB : RB w.heap.size wr) (hR : R < w.heap.size) (hz : w.heap.size + 2 ≤ wr.heap.size) (hD5 : DS wr R a len cap zs w5) (hsh : Shrt es) (h0 : 0 ≤ nx)
    {f t : Int} {b : ByteArray} (hb : b.size ≤ 6) {c5 : Nat} {x5 : Option Addr} (hB5 : w.heap.size + 2 ≤ B5) (ho : OwnR pktE w5 B5 (.slice x5 (pstF nx es f t b).2.1.length c5) (pstF nx es f t b).2.1) : NRel w R a len cap zs nx x m c es (.pointer (some ⟨w5.heap.size, 0, none⟩)) (.int .i64 (pstF nx es f t b).2.2) (w5.alloc (.cells #[.int .i64 (pstF nx es f t b).1, .slice x5 (pstF nx es f t b).2.1.length c5] 26)) := by
  have hs := hD5.only.size
  refine NRel.of hDS hDN hRB hR hz (hD5.alloc _) hsh h0 hb (by omega) ⟨by simp [go_sem], by simp [go_sem], by simp [go_sem], by simp [go_sem], (ho.keep (bel1 _ _)).le hB5⟩
theorem Plain.NRel.end2 {w wr w5 : World} {R B5 G : Nat} {a : Option Addr} {len cap : Nat} {zs : List Int} {nx : Int} {x : Option Addr} {m c : Nat} {es : List Pkt} (hDS : DS w R a len cap zs wr) (hDN : DN (w.heap.size + 1) (w.heap.size + 2) nx x m c es wr) (hRB : RB w.heap.size wr) (hR : R < w.heap.size) (hz : w.heap.size + 2 ≤ wr.heap.size) (hD5 : DS wr R a len cap zs w5) (hsh : Shrt es) (h0 : 0 ≤ nx)
    {f t : Int} {b : ByteArray} (hb : b.size ≤ 6) {c5 : Nat} {x5 : Option Addr} (ho : OwnR pktE w5 B5 (.slice x5 (pstF nx es f t b).2.1.length c5) (pstF nx es f t b).2.1) (hn : NewN wr.heap.size G w5) (hGB : G < B5) : NRel w R a len cap zs nx x m c es (.pointer (some ⟨G, 0, none⟩)) (.int .i64 (pstF nx es f t b).2.2) ((w5.setCell ⟨G, 0, none⟩ (.int .i64 (pstF nx es f t b).1)).setCell ⟨G, 1, none⟩ (.slice x5 (pstF nx es f t b).2.1.length c5)) := by
  have hl := hn.low
  obtain ⟨r0, r1⟩ := (show RB G w5 from ⟨hn.c0, hn.c1, hn.z0, hn.z1⟩).read (u := .int .i64 (pstF nx es f t b).1) (v := .slice x5 (pstF nx es f t b).2.1.length c5)
  refine NRel.of hDS hDN hRB hR hz (hD5.set2 (by omega) hl) hsh h0 hb (by omega) ⟨r0, r1, ?_, ?_, ?_⟩
  · exact (World.frozen?_setCell _ _ _ _).trans ((World.frozen?_setCell _ _ _ _).trans hn.z0)
  · exact (World.frozen?_setCell _ _ _ _).trans ((World.frozen?_setCell _ _ _ _).trans hn.z1)
  · exact (own_past ho hGB).le (by omega)

/-- The net's variable is written anew. -/
theorem Plain.DN.put {N B m m' c c' B' : Nat} {nx nx' : Int} {x x' : Option Addr} {es es' : List Pkt} {W : World} (h : DN N B nx x m c es W) (hN : N < B') (hB : B ≤ B') (ho : OwnR pktE W B' (.slice x' m' c') es') : DN N B nx' x' m' c' es' ((W.setCell ⟨N, 0, none⟩ (.int .i64 nx')).setCell ⟨N, 1, none⟩ (.slice x' m' c')) :=
  ⟨(cell_offN (.inr (by omega))).trans (cell_setN h.c0), cell_setN (v := .slice x m c) ((cell_offN (.inr (by omega))).trans h.c1), (World.frozen?_setCell _ _ _ _).trans ((World.frozen?_setCell _ _ _ _).trans h.z0), (World.frozen?_setCell _ _ _ _).trans ((World.frozen?_setCell _ _ _ _).trans h.z1), (own_past ho hN).le hB⟩
theorem Plain.RB.put2 {g N : Nat} {u v : Value} {W : World} (h : RB g W) (hg : N ≠ g) : RB g ((W.setCell ⟨N, 0, none⟩ u).setCell ⟨N, 1, none⟩ v) := ⟨(cell_offN (.inl hg)).trans ((cell_offN (.inl hg)).trans h.c0), (cell_offN (.inl hg)).trans ((cell_offN (.inl hg)).trans h.c1), (World.frozen?_setCell _ _ _ _).trans ((World.frozen?_setCell _ _ _ _).trans h.z0), (World.frozen?_setCell _ _ _ _).trans ((World.frozen?_setCell _ _ _ _).trans h.z1)⟩

/-- What a round's Take leaves. -/
def Plain.TRel (w : World) (R : Nat) (a : Option Addr) (len cap : Nat) (zs : List Int) (nx : Int) (m : Nat) (wx : World) : Prop := ∃ (m' c' : Nat) (T : Int) (x' : Option Addr) (es' : List Pkt), 0 ≤ T ∧ T ≤ nx ∧ m' ≤ m ∧ w.heap.size + 2 ≤ wx.heap.size ∧ Hid (Shrt es') ∧ Hid (DN (w.heap.size + 1) (w.heap.size + 2) T x' m' c' es' wx) ∧ Hid (DS w R a len cap zs wx) ∧ Hid (RB w.heap.size wx)
theorem Plain.TRel.of {w W9 W : World} {R : Nat} {a : Option Addr} {len cap : Nat} {zs : List Int} {nx : Int} {x : Option Addr} {m c : Nat} {es : List Pkt} (hDS : DS w R a len cap zs W9) (hDN : DN (w.heap.size + 1) (w.heap.size + 2) nx x m c es W9) (hRB : RB w.heap.size W9) (hR : R < w.heap.size) (hz : w.heap.size + 2 ≤ W9.heap.size) (hb : Below W9.heap.size W9 W) (hsh : Shrt es) (h0 : 0 ≤ nx) (id : Int) {x5 : Option Addr} {c5 : Nat} (ho : OwnR pktE W W9.heap.size (.slice x5 (takF nx es id false).es.length c5) (takF nx es id false).es) :
    TRel w R a len cap zs nx m ((W.setCell ⟨w.heap.size + 1, 0, none⟩ (.int .i64 (takF nx es id false).nx)).setCell ⟨w.heap.size + 1, 1, none⟩ (.slice x5 (takF nx es id false).es.length c5)) := by
  obtain ⟨p1, p2, p3, p4⟩ := tak_facts (id := id) (k := false) hsh h0
  have hl := hDN.len
  have hs := hb.size
  exact ⟨_, c5, _, x5, _, p3, p4, by omega, by simp; omega, hide p1, hide ((hDN.below hb).put (by omega) hz ho), hide (DS.set2 (hDS.below hb) hR (by omega)), hide (RB.put2 (hRB.below hb (by omega)) (by omega))⟩

/-- How long the row of the net's variable is. -/
def Plain.lenAt (W : World) (N : Nat) : Nat := match W.cell? ⟨N, 1, none⟩ with
  | some (.slice _ n _) => n
  | _ => 0
theorem Plain.DN.lenAt {N B m c : Nat} {nx : Int} {x : Option Addr} {es : List Pkt} {W : World} (h : DN N B nx x m c es W) : lenAt W N = m := by unfold Plain.lenAt; rw [h.c1]
/-- The row of the net's variable is written anew. -/
theorem Plain.DN.put1 {N B m m' c c' : Nat} {nx : Int} {x x' : Option Addr} {es es' : List Pkt} {W W' : World} (h : DN N B nx x m c es W) (hN : N < B) (hb : Below B W W') (ho : OwnR pktE W' B (.slice x' m' c') es') : DN N B nx x' m' c' es' (W'.setCell ⟨N, 1, none⟩ (.slice x' m' c')) :=
  ⟨(cell_offN (.inr (by omega))).trans (bcl hb hN h.c0), cell_setN (bcl hb hN h.c1), (World.frozen?_setCell _ _ _ _).trans ((hb.frozen (p := ⟨N, 0, none⟩) hN).trans h.z0), (World.frozen?_setCell _ _ _ _).trans ((hb.frozen (p := ⟨N, 1, none⟩) hN).trans h.z1), ho.otherN (fun g hg => heap_setN (by have := (World.ownsRow.lt ho g hg).1; omega))⟩
theorem Plain.DN.put0 {N B m c : Nat} {nx nx' : Int} {x : Option Addr} {es : List Pkt} {W : World} (h : DN N B nx x m c es W) (hN : N < B) : DN N B nx' x m c es (W.setCell ⟨N, 0, none⟩ (.int .i64 nx')) :=
  ⟨cell_setN h.c0, (cell_offN (.inr (by omega))).trans h.c1, (World.frozen?_setCell _ _ _ _).trans h.z0, (World.frozen?_setCell _ _ _ _).trans h.z1, h.own.otherN (fun g hg => heap_setN (by have := (World.ownsRow.lt h.own g hg).1; omega))⟩
theorem Plain.RB.put1 {g N i : Nat} {u : Value} {W : World} (h : RB g W) (hg : N ≠ g) : RB g (W.setCell ⟨N, i, none⟩ u) := ⟨(cell_offN (.inl hg)).trans h.c0, (cell_offN (.inl hg)).trans h.c1, (World.frozen?_setCell _ _ _ _).trans h.z0, (World.frozen?_setCell _ _ _ _).trans h.z1⟩

/-- What the drawing of a net leaves. -/
def Plain.NetDPost (R : Nat) (a : Option Addr) (len cap : Nat) (zs : List Int) (w : World) (e : Ending) (w' : World) : Prop := ∃ (nx : Int) (x : Option Addr) (m c : Nat) (es : List Pkt), e = .returned (.agg #[.int .i64 nx, .slice x m c]) ∧ Hid (OwnR pktE w' w.heap.size (.slice x m c) es) ∧ Hid (Shrt es) ∧ m ≤ 400 ∧ (-9223372036854775808 ≤ nx ∧ nx ≤ 9223372036854775807) ∧ Rd w' R a len cap zs ∧ OnlyAt ⟨R, 1, none⟩ w w'
end Go.Proofs.Ytgdcamolpmjceaa

