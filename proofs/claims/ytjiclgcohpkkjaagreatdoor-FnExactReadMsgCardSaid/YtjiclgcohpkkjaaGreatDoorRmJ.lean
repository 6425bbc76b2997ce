/- ReadMsg of the program: the walk. -/
import Derived.Test.YtjiclgcohpkkjaaGreatDoorGzAW
namespace Go.Proofs.YtjiclgcohpkkjaaGreatDoor
open Go.RowKit Plain
set_option linter.unusedVariables false

namespace Plain
def mV (m : MsgM) (ae : Option Addr) (ce : Nat) (av : Option Addr) (cv : Nat) (al : Option Addr) (cl : Nat) : Value := .agg (msgC m.kd m.fr m.tt m.tm m.ix m.lg (.slice ae m.es.length ce) m.cm m.ok m.tx (.slice av m.v.length cv) (.slice al m.l.length cl)).toArray
/-- A message that is answered owns its memory. -/
structure MsgOwn (m : MsgM) (B : Nat) (ae : Option Addr) (ce : Nat) (av al : Option Addr) (w' : World) : Prop where
  ents : OwnR entE w' B (.slice ae m.es.length ce) m.es
  v : RowAt i64E w' av m.v
  l : RowAt i64E w' al m.l
  vb : ∀ g, inB av g → B ≤ g ∧ g < w'.heap.size
  lb : ∀ g, inB al g → B ≤ g ∧ g < w'.heap.size
  vl : ∀ g, inB av g → ¬ inB al g
  ev : ∀ g, inB ae g → ¬ inB av g
  el : ∀ g, inB ae g → ¬ inB al g
def MsgRet (o : Option MsgM) (w : World) (e : Ending) (w' : World) : Prop := match o with
  | none => e = .returned (.tuple #[.agg zMsg.toArray, .bool false]) ∧ Below w.heap.size w w'
  | some m => ∃ ae ce av cv al cl, e = .returned (.tuple #[mV m ae ce av cv al cl, .bool true]) ∧ MsgOwn m w.heap.size ae ce av al w' ∧ Below w.heap.size w w'
theorem MsgOwn.past {m : MsgM} {B g : Nat} {ae : Option Addr} {ce : Nat} {av al : Option Addr} {w w' : World} (h : MsgOwn m B ae ce av al w) (ho : OnlyP (fun k => k = g) w w') (he : ∀ k, inB ae k → k ≠ g) (hv : ∀ k, inB av k → k ≠ g) (hl : ∀ k, inB al k → k ≠ g) : MsgOwn m B ae ce av al w' := by
  refine ⟨?_, h.v.offP ho hv, h.l.offP ho hl, fun k hk => ⟨(h.vb k hk).1, Nat.lt_of_lt_of_le (h.vb k hk).2 ho.size⟩, fun k hk => ⟨(h.lb k hk).1, Nat.lt_of_lt_of_le (h.lb k hk).2 ho.size⟩, h.vl, h.ev, h.el⟩
  have hlt := h.ents.lt
  refine ⟨h.ents.1, ?_⟩
  rcases h.ents.2 with ⟨a, c⟩ | ⟨g', cap, cur, e, c, d, r⟩
  · exact .inl ⟨a, c⟩
  · refine .inr ⟨g', cap, cur, e, c, (ho.block g' (hlt g' (by rw [e]; rfl)) (fun q => he g' ⟨0, by injection e⟩ q)).trans d, r⟩
theorem MsgOwn.le {m : MsgM} {B B' : Nat} {ae : Option Addr} {ce : Nat} {av al : Option Addr} {w : World} (h : MsgOwn m B ae ce av al w) (hB : B' ≤ B) : MsgOwn m B' ae ce av al w :=
  ⟨h.ents.le hB, h.v, h.l, fun g hg => ⟨Nat.le_trans hB (h.vb g hg).1, (h.vb g hg).2⟩, fun g hg => ⟨Nat.le_trans hB (h.lb g hg).1, (h.lb g hg).2⟩, h.vl, h.ev, h.el⟩
section
variable {s tx cf : ByteArray} {a0 a1 a2 a3 a4 a5 a6 a7 : Int} {f4 f8 : Bool} {p4 p8 : Nat} {es : List Ent}
theorem rdI_fail (h : HasR (stT s (stT s (hd8 s))) f4 (((((((((((), a0), a1), a2), a3), a4), a5), a6), a7), tx), cf) p4) (h2 : f4 = true ∨ stp s p4 = none ∨ ∃ N q, stp s p4 = some (N, q) ∧ rawEs s N.toNat q = none) : rdI s = none := by
  unfold rdI hdA
  rcases h with ⟨rfl, h⟩ | ⟨rfl, h⟩
  · rw [h]; rfl
  · rcases h2 with h2 | h2 | ⟨N, q, h2, h3⟩
    · cases h2
    · rw [show stN s (stT s (stT s (hd8 s))) = none from by unfold stN; rw [h]; simp [h2]]
    · rw [stN_some h h2]
      simp only []
      rw [h3]; rfl
theorem rdI_ans (h : HasR (stT s (stT s (hd8 s))) false (((((((((((), a0), a1), a2), a3), a4), a5), a6), a7), tx), cf) p4) {N : Int} {q : Nat} (h2 : stp s p4 = some (N, q)) (h3 : rawEs s N.toNat q = some (es, p8)) : rdI s = ansM s (hdT a0 a1 a2 a3 a4 a5 a6 a7 tx cf N) (some (es, p8)) := by
  unfold rdI hdA
  rcases h with ⟨h, _⟩ | ⟨_, h⟩
  · cases h
  · rw [stN_some h h2]
    simp only []
    rw [h3]
    rfl
theorem ansM_no {N : Int} (h : ¬ (p8 = s.size ∧ (mOf (hdT a0 a1 a2 a3 a4 a5 a6 a7 tx cf N) es).text = s)) : ansM s (hdT a0 a1 a2 a3 a4 a5 a6 a7 tx cf N) (some (es, p8)) = none := if_neg h
theorem ansM_yes {N : Int} (h : p8 = s.size ∧ (mOf (hdT a0 a1 a2 a3 a4 a5 a6 a7 tx cf N) es).text = s) : ansM s (hdT a0 a1 a2 a3 a4 a5 a6 a7 tx cf N) (some (es, p8)) = some (mOf (hdT a0 a1 a2 a3 a4 a5 a6 a7 tx cf N) es) := if_pos h
end
end Plain

set_option maxRecDepth 10000 in
set_option maxHeartbeats 8000000 in
theorem impl_ReadMsg (s : ByteArray) (w : World) (hs : s.size ≤ 1048576) (hv : RdVars w) : Calls Tryz.prog 6 #[.string s] w (MsgRet (rdI s) w) := by
  obtain ⟨W1, hW1⟩ : ∃ W1, W1 = (((((w.alloc (.cells zMsg.toArray 27)).alloc (.cells #[.string s, .int .i64 0, .bool false] 112)).alloc (.cells zMsg.toArray 27)).alloc (.cells #[.int .i64 0] 2)).alloc (.cells #[.string ⟨#[]⟩] 9)).alloc (.cells #[.pointer (some ⟨w.heap.size + 2, 0, none⟩), .pointer (some ⟨w.heap.size + 2, 1, none⟩), .pointer (some ⟨w.heap.size + 2, 2, none⟩), .pointer (some ⟨w.heap.size + 2, 3, none⟩), .pointer (some ⟨w.heap.size + 2, 4, none⟩), .pointer (some ⟨w.heap.size + 2, 5, none⟩), .pointer (some ⟨w.heap.size + 2, 7, none⟩), .pointer (some ⟨w.heap.size + 3, 0, none⟩)] 59) := ⟨_, rfl⟩
  have hb1 : Below w.heap.size w W1 := by rw [hW1]; exact belOn (belOn (belOn (belOn (belOn (bel1 _ _) (bel1 _ _)) (bel1 _ _)) (bel1 _ _)) (bel1 _ _)) (bel1 _ _)
  have hz1 : W1.heap.size = w.heap.size + 6 := by rw [hW1]; simp
  have BZ : Blk W1 w.heap.size zMsg := by rw [hW1]; exact ((((((Blk.new w zMsg _).alloc _).alloc _).alloc _).alloc _).alloc _)
  have BM : Blk W1 (w.heap.size + 2) zMsg := by
    rw [hW1]
    have h := Blk.new ((w.alloc (.cells zMsg.toArray 27)).alloc (.cells #[.string s, .int .i64 0, .bool false] 112)) zMsg 27
    rw [show ((w.alloc (.cells zMsg.toArray 27)).alloc (.cells #[.string s, .int .i64 0, .bool false] 112)).heap.size = w.heap.size + 2 from by simp] at h
    exact ((h.alloc _).alloc _).alloc _
  have hR1 : RS W1 (w.heap.size + 1) s 0 false := ⟨by rw [hW1]; simp [go_sem], by rw [hW1]; simp [go_sem], by rw [hW1]; simp [go_sem], by rw [hW1]; simp [go_sem], by rw [hW1]; simp [go_sem]⟩
  have o0 : W1.cell? ⟨w.heap.size + 3, 0, none⟩ = some (.int .i64 0) := by rw [hW1]; simp [go_sem]
  have oz : W1.frozen? ⟨w.heap.size + 3, 0, none⟩ = false := by rw [hW1]; simp [go_sem]
  have x0 : W1.cell? ⟨w.heap.size + 4, 0, none⟩ = some (.string ⟨#[]⟩) := by rw [hW1]; simp [go_sem]
  have xz : W1.frozen? ⟨w.heap.size + 4, 0, none⟩ = false := by rw [hW1]; simp [go_sem]
  have hq : PtrsAt W1 (w.heap.size + 5) [(w.heap.size + 2, 0), (w.heap.size + 2, 1), (w.heap.size + 2, 2), (w.heap.size + 2, 3), (w.heap.size + 2, 4), (w.heap.size + 2, 5), (w.heap.size + 2, 7), (w.heap.size + 3, 0)] := by
    intro j hj
    match j, hj with
    | 0, _ => rw [hW1]; simp [go_sem, ad]
    | 1, _ => rw [hW1]; simp [go_sem, ad]
    | 2, _ => rw [hW1]; simp [go_sem, ad]
    | 3, _ => rw [hW1]; simp [go_sem, ad]
    | 4, _ => rw [hW1]; simp [go_sem, ad]
    | 5, _ => rw [hW1]; simp [go_sem, ad]
    | 6, _ => rw [hW1]; simp [go_sem, ad]
    | 7, _ => rw [hW1]; simp [go_sem, ad]
  have htg : TgtAt (fun v : Int => Value.int .i64 v) W1 [(w.heap.size + 2, 0), (w.heap.size + 2, 1), (w.heap.size + 2, 2), (w.heap.size + 2, 3), (w.heap.size + 2, 4), (w.heap.size + 2, 5), (w.heap.size + 2, 7), (w.heap.size + 3, 0)] [0, 0, 0, 0, 0, 0, 0, 0] := by
    refine ⟨rfl, fun j hj h2 => ?_⟩
    match j, hj, h2 with
    | 0, _, _ => exact ⟨BM.c 0 (by decide), BM.f 0 (by decide)⟩
    | 1, _, _ => exact ⟨BM.c 1 (by decide), BM.f 1 (by decide)⟩
    | 2, _, _ => exact ⟨BM.c 2 (by decide), BM.f 2 (by decide)⟩
    | 3, _, _ => exact ⟨BM.c 3 (by decide), BM.f 3 (by decide)⟩
    | 4, _, _ => exact ⟨BM.c 4 (by decide), BM.f 4 (by decide)⟩
    | 5, _, _ => exact ⟨BM.c 5 (by decide), BM.f 5 (by decide)⟩
    | 6, _, _ => exact ⟨BM.c 7 (by decide), BM.f 7 (by decide)⟩
    | 7, _, _ => exact ⟨o0, oz⟩
  have HNU := hide (numbersG_calls (w.heap.size + 1) (w.heap.size + 5) 8 s 0 false _ _ W1 hR1 (Nat.zero_le _) (by omega) hq htg rfl (by omega) (by simp) (by omega) (by omega) (fun q hq => by simp at hq; rcases hq with rfl | rfl | rfl | rfl | rfl | rfl | rfl | rfl <;> simp) (fun q hq => by simp at hq; rcases hq with rfl | rfl | rfl | rfl | rfl | rfl | rfl | rfl <;> simp))
  have HB1 := hide hb1
  have HBZ := hide BZ
  have HBM := hide BM
  have HX := hide (And.intro x0 xz)
  have HV := hide hv
  have HW1 := hide hW1.symm
  clear hb1 hW1 BZ BM hR1 o0 oz x0 xz hq htg hv
  go_enter Tryz.func6, Tryz.ntmps6
  go_wp2_with (go_at_call 21; refine (rowReaderG_calls s _).mono ?_; rintro e w0 ⟨rfl, rfl⟩)
  simp only [Nat.add_assoc, Nat.reduceAdd]
  unfold zMsg msgC at HW1
  rw [unhide HW1]
  refine (unhide HNU).mono ?_
  unfold GotPost
  rintro e w2 ⟨p2, f2, vs, rfl, hp2, hR2, hT2, hch, hsm, ht2⟩
  have hs2 := ht2.size
  obtain ⟨a0, a1, a2, a3, a4, a5, a6, a7, rfl, hBM2, hO2⟩ := msg_numbers (unhide HBM) (by omega) (by omega) ht2 hT2
  obtain ⟨hx1, hx2⟩ := unhide HX
  have HBZ2 := hide ((unhide HBZ).tch ht2 (by omega) (fun q hq => by simp at hq; rcases hq with rfl | rfl | rfl | rfl | rfl | rfl | rfl | rfl <;> simp))
  have HB2 := hide (show Below w.heap.size w w2 from (unhide HB1).trans (ht2.below (by omega) (fun q hq => by simp at hq; rcases hq with rfl | rfl | rfl | rfl | rfl | rfl | rfl | rfl <;> simp) (by omega)))
  have x0 := (ht2.cell (w.heap.size + 4) 0 (by omega) (by omega) (fun hq => by simp at hq)).trans hx1
  have xz := (ht2.frozen ⟨w.heap.size + 4, 0, none⟩ (show w.heap.size + 4 < W1.heap.size by omega)).trans hx2
  have HHD := hide (show HasR (hd8 s) f2 ((((((((((), a0), a1), a2), a3), a4), a5), a6), a7)) p2 from by
    obtain ⟨p1, f1, m1, p3, f3, m2, p4, f4, m3, p5, f5, m4, p6, f6, m5, p7, f7, m6, p8, f8, m7, p9, f9, m8, rfl, rfl⟩ := hch
    exact (((((((HasR.start.num m1).num m2).num m3).num m4).num m5).num m6).num m7).num m8)
  have HBD := hide hsm
  clear hT2 hch hsm ht2 HNU HBM HX HBZ HB1 hx1 hx2 HW1
  obtain ⟨W3, hW3⟩ : ∃ W3, W3 = w2.alloc (.cells #[.pointer (some ⟨w.heap.size + 2, 9, none⟩), .pointer (some ⟨w.heap.size + 4, 0, none⟩)] 61) := ⟨_, rfl⟩
  have hb3 : Below w2.heap.size w2 W3 := by rw [hW3]; exact bel1 _ _
  have hz3 : W3.heap.size = w2.heap.size + 1 := by rw [hW3]; simp
  have hBM3 := hBM2.alloc (.cells #[.pointer (some ⟨w.heap.size + 2, 9, none⟩), .pointer (some ⟨w.heap.size + 4, 0, none⟩)] 61)
  rw [← hW3] at hBM3
  have hq3 : PtrsAt W3 w2.heap.size [(w.heap.size + 2, 9), (w.heap.size + 4, 0)] := by
    intro j hj
    match j, hj with
    | 0, _ => rw [hW3]; simp [go_sem, ad]
    | 1, _ => rw [hW3]; simp [go_sem, ad]
  have htg3 : TgtAt (fun v : ByteArray => Value.string v) W3 [(w.heap.size + 2, 9), (w.heap.size + 4, 0)] [⟨#[]⟩, ⟨#[]⟩] := by
    refine ⟨rfl, fun j hj h2 => ?_⟩
    match j, hj, h2 with
    | 0, _, _ => exact ⟨hBM3.c 9 (by simp [msgC]), hBM3.f 9 (by simp [msgC])⟩
    | 1, _, _ => exact ⟨bclG hb3 (show w.heap.size + 4 < w2.heap.size by omega) x0, (hb3.frozen (p := ⟨w.heap.size + 4, 0, none⟩) (show w.heap.size + 4 < w2.heap.size by omega)).trans xz⟩
  have HTX := hide (textsG_calls (w.heap.size + 1) w2.heap.size 2 s p2 f2 _ _ W3 (hR2.keep hb3) hp2 (by omega) hq3 htg3 rfl (by omega) (by simp) (by omega) (by omega) (fun q hq => by simp at hq; rcases hq with rfl | rfl <;> simp) (fun q hq => by simp at hq; rcases hq with rfl | rfl <;> (simp; omega)))
  have HBM3 := hide hBM3
  have HB3 := hide hb3
  have o3 := bclG hb3 (show w.heap.size + 3 < w2.heap.size by omega) hO2
  have HW3 := hide hW3.symm
  clear hBM3 hq3 htg3 hb3 hW3 hBM2 hO2 x0 xz hR2
  go_wp2_with fail
  rw [unhide HW3]
  refine (unhide HTX).mono ?_
  unfold GotPost
  rintro e w4 ⟨p4, f4, ts, rfl, hp4, hR4, hT4, hch, hsm, ht4⟩
  have hs4 := ht4.size
  obtain ⟨tx, cf, rfl, hBM4, hX4⟩ := msg_texts (unhide HBM3) (by omega) (by omega) ht4 hT4
  have htx : tx.size ≤ 20000 := hsm tx (by simp)
  have hcf : cf.size ≤ 20000 := hsm cf (by simp)
  have o4 := (ht4.cell (w.heap.size + 3) 0 (by omega) (by omega) (fun hq => by simp at hq)).trans o3
  have HBZ4 := hide (((unhide HBZ2).call (unhide HB3)).tch ht4 (by omega) (fun q hq => by simp at hq; rcases hq with rfl | rfl <;> simp))
  have HB4 := hide (show Below w.heap.size w w4 from ((unhide HB2).trans ((unhide HB3).mono (by omega))).trans (ht4.below (by omega) (fun q hq => by simp at hq; rcases hq with rfl | rfl <;> simp) (by omega)))
  have HH4 := hide (show HasR (stT s (stT s (hd8 s))) f4 (((((((((((), a0), a1), a2), a3), a4), a5), a6), a7), tx), cf) p4 from by
    obtain ⟨p1, f1, m1, p3, f3, m2, rfl, rfl⟩ := hch
    exact ((unhide HHD).txt m1).txt m2)
  have HBM4 := hide hBM4
  have HR4 := hide hR4
  clear hT4 hch hsm ht4 HTX HBM3 HB3 HBZ2 HB2 o3 HHD hR4 hBM4
  obtain ⟨ok, hok⟩ : ∃ b, (a7 == 1) = b := ⟨_, rfl⟩
  obtain ⟨W5, hW5⟩ : ∃ W5, W5 = w4.setCell ⟨w.heap.size + 2, 8, none⟩ (.bool ok) := ⟨_, rfl⟩
  have hM4 := (unhide HBM4)
  have m8 : w4.cell? ⟨w.heap.size + 2, 8, none⟩ = some (.bool false) := hM4.c 8 (by simp [msgC])
  have mz8 := hM4.f 8 (by simp [msgC])
  have HBM5 := hide (show Blk W5 (w.heap.size + 2) (msgC a0 a1 a2 a3 a4 a5 (.slice none 0 0) a6 ok tx (.slice none 0 0) (.slice none 0 0)) from by rw [hW5]; exact hM4.set 8 (by simp [msgC]) _)
  have hz5 : W5.heap.size = w4.heap.size := by rw [hW5]; simp
  have x5 : W5.cell? ⟨w.heap.size + 4, 0, none⟩ = some (.string cf) := by rw [hW5]; exact (World.cell?_setCell_other _ _ _ _ (by simp)).trans hX4
  have HBZ5 := hide (show Blk W5 w.heap.size zMsg from by rw [hW5]; exact (unhide HBZ4).off (by omega) _)
  have HB5 := hide (show Below w.heap.size w W5 from by rw [hW5]; exact (unhide HB4).setCell (p := ⟨w.heap.size + 2, 8, none⟩) (by simp) _)
  have HR5 := hide (show RS W5 (w.heap.size + 1) s p4 f4 from by rw [hW5]; exact (unhide HR4).off (by omega) _)
  have HRC := hide (impl_ReadConf cf W5 (by omega) ((unhide HV).at (unhide HB5)))
  have HW5 := hide hW5.symm
  have HOK := hide hok
  clear hW5 hM4 HBM4 HBZ4 HB4 HR4
  go_wp2_with fail
  rw [unhide HW5]
  go_wp2_with fail
  refine (unhide HRC).mono ?_
  unfold RcPa CcPost
  rintro e w6 ⟨b1, c1, b2, c2, rfl, ⟨hv6, hl6, hvb6, hlb6, hb6⟩, hvl6⟩
  have HM := hide (show ∀ (N : Int) (es : List Ent), mOf (hdT a0 a1 a2 a3 a4 a5 a6 a7 tx cf N) es = ⟨a0, a1, a2, a3, a4, a5, a6, ok, tx, es, (rdC numF cf.data.toList).1, (rdC numF cf.data.toList).2.1⟩ from fun N es => by
    unfold mOf hdT
    rw [← unhide HOK]
    simp only [MsgM.mk.injEq, true_and, and_true]
    by_cases h : a7 = 1 <;> simp [h])
  have hrcl := rdC_few numF cf.data.toList
  generalize rdC numF cf.data.toList = RC at hv6 hl6 HM hrcl
  obtain ⟨V, L, rb⟩ := RC
  simp only [] at hv6 hl6 HM hrcl ⊢
  obtain ⟨nv, hnv⟩ : ∃ n, V.length = n := ⟨_, rfl⟩
  obtain ⟨nl, hnl⟩ : ∃ n, L.length = n := ⟨_, rfl⟩
  rw [hnv, hnl] at hrcl ⊢
  have hs6 := hb6.size
  have hM6 := (unhide HBM5).call hb6
  have m10 : w6.cell? ⟨w.heap.size + 2, 10, none⟩ = some (.slice none 0 0) := hM6.c 10 (by simp [msgC])
  have m11 : w6.cell? ⟨w.heap.size + 2, 11, none⟩ = some (.slice none 0 0) := hM6.c 11 (by simp [msgC])
  have mz10 := hM6.f 10 (by simp [msgC])
  have mz11 := hM6.f 11 (by simp [msgC])
  obtain ⟨W7, hW7⟩ : ∃ W7, W7 = (w6.setCell ⟨w.heap.size + 2, 10, none⟩ (.slice b1 nv c1)).setCell ⟨w.heap.size + 2, 11, none⟩ (.slice b2 nl c2) := ⟨_, rfl⟩
  have hz7 : W7.heap.size = w6.heap.size := by rw [hW7]; simp
  have HBM7 := hide (show Blk W7 (w.heap.size + 2) (msgC a0 a1 a2 a3 a4 a5 (.slice none 0 0) a6 ok tx (.slice b1 nv c1) (.slice b2 nl c2)) from by rw [hW7]; exact (hM6.set 10 (by simp [msgC]) _).set 11 (by simp [msgC]) _)
  have HBZ7 := hide (show Blk W7 w.heap.size zMsg from by rw [hW7]; exact (((unhide HBZ5).call hb6).off (by omega) _).off (by omega) _)
  have HB7 := hide (show Below w.heap.size w W7 from by rw [hW7]; exact (((unhide HB5).trans (hb6.mono (by omega))).setCell (p := ⟨w.heap.size + 2, 10, none⟩) (by simp) _).setCell (p := ⟨w.heap.size + 2, 11, none⟩) (by simp) _)
  have HR7 := hide (show RS W7 (w.heap.size + 1) s p4 f4 from by rw [hW7]; exact (((unhide HR5).keep hb6).off (by omega) _).off (by omega) _)
  have ho7 : OnlyP (fun k => k = w.heap.size + 2) w6 W7 := by
    rw [hW7]
    have o1 : ∀ (X : World) (i : Nat) (v : Value), OnlyP (fun k => k = w.heap.size + 2) X (X.setCell ⟨w.heap.size + 2, i, none⟩ v) := fun X i v => have h := OnlyAt.setCell ⟨w.heap.size + 2, i, none⟩ X v; ⟨h.os, h.tape, h.output, h.size, fun k hk hn => h.block k hk hn⟩
    exact (o1 _ _ _).trans (o1 _ _ _)
  have HV7 := hide (hv6.offP ho7 (fun g hg => by have := hvb6 g hg; omega))
  have HL7 := hide (hl6.offP ho7 (fun g hg => by have := hlb6 g hg; omega))
  have HTR := hide (takeRows_calls (w.heap.size + 1) s p4 f4 W7 (unhide HR7) hp4 hs)
  have HBD2 := hide (And.intro hvb6 (And.intro hlb6 hvl6))
  have HW7 := hide hW7.symm
  clear hW7 ho7 hM6 hv6 hl6 hvb6 hlb6 hvl6 hb6 HBM5 HBZ5 HB5 HR5 HRC x5 hX4 m8 mz8 o4
  go_wp2_with fail
  rw [unhide HW7]
  refine (unhide HTR).mono ?_
  unfold RowsPost
  rintro e w8 ⟨p8, f8, v8, es, rfl, hp8, hR8, hO8, ⟨hle, hle2⟩, hsmE, hrel8, ht8⟩
  obtain ⟨a8, c8, rfl⟩ := hO8.form
  obtain ⟨ne, hne⟩ : ∃ n, es.length = n := ⟨_, rfl⟩
  rw [hne] at hO8 hle hle2 ⊢
  have hs8 := ht8.size
  have hM8 := (unhide HBM7).tch ht8 (by omega) (fun q hq => by cases hq)
  have m6 : w8.cell? ⟨w.heap.size + 2, 6, none⟩ = some (.slice none 0 0) := hM8.c 6 (by simp [msgC])
  have mz6 := hM8.f 6 (by simp [msgC])
  obtain ⟨W9, hW9⟩ : ∃ W9, W9 = w8.setCell ⟨w.heap.size + 2, 6, none⟩ (.slice a8 ne c8) := ⟨_, rfl⟩
  have hz9 : W9.heap.size = w8.heap.size := by rw [hW9]; simp
  have HBM9 := hide (show Blk W9 (w.heap.size + 2) (msgC a0 a1 a2 a3 a4 a5 (.slice a8 ne c8) a6 ok tx (.slice b1 nv c1) (.slice b2 nl c2)) from by rw [hW9]; exact hM8.set 6 (by simp [msgC]) _)
  have HBZ9 := hide (show Blk W9 w.heap.size zMsg from by rw [hW9]; exact ((unhide HBZ7).tch ht8 (by omega) (fun q hq => by cases hq)).off (by omega) _)
  have HB9 := hide (show Below w.heap.size w W9 from by rw [hW9]; exact ((unhide HB7).trans (ht8.below (by omega) (fun q hq => by cases hq) (by omega))).setCell (p := ⟨w.heap.size + 2, 6, none⟩) (by simp) _)
  have HR9 := hide (show RS W9 (w.heap.size + 1) s p8 f8 from by rw [hW9]; exact hR8.off (by omega) _)
  have ho9 : OnlyP (fun k => k = w.heap.size + 1 ∨ k = w.heap.size + 2) W7 W9 := by
    rw [hW9]
    have h := OnlyAt.setCell ⟨w.heap.size + 2, 6, none⟩ w8 (.slice a8 ne c8)
    exact (ht8.onlyP (p := fun k => k = w.heap.size + 1 ∨ k = w.heap.size + 2) (.inl rfl) (fun q hq => by cases hq)).trans ⟨h.os, h.tape, h.output, h.size, fun k hk hn => h.block k hk (fun e => hn (.inr e))⟩
  obtain ⟨q1, q2, q3⟩ := unhide HBD2
  have HOW := hide (show MsgOwn ⟨a0, a1, a2, a3, a4, a5, a6, ok, tx, es, V, L⟩ (w.heap.size + 1) a8 c8 b1 b2 W9 from
    ⟨by show OwnR entE W9 (w.heap.size + 1) (.slice a8 es.length c8) es; rw [hne, hW9]; exact (ownSet hO8 (by omega)).le (by omega),
     (unhide HV7).offP ho9 (fun g hg => by have := q1 g hg; omega), (unhide HL7).offP ho9 (fun g hg => by have := q2 g hg; omega),
     fun g hg => by have := q1 g hg; omega, fun g hg => by have := q2 g hg; omega, q3,
     fun g hg h2 => by have := q1 g h2; have := (hO8.bl g hg).1; omega, fun g hg h2 => by have := q2 g h2; have := (hO8.bl g hg).1; omega⟩)
  have HRE := hide hrel8
  have HED := hide (endedG_calls (w.heap.size + 1) s p8 f8 W9 (unhide HR9) hp8 (by omega))
  have HSM := hide hsmE
  have HW9 := hide hW9.symm
  clear hW9 ho9 hM8 hO8 hrel8 ht8 hR8 hsmE HBM7 HBZ7 HB7 HR7 HV7 HL7 HTR q1 q2 q3 HBD2 m10 m11 mz10 mz11
  obtain ⟨E, hE⟩ : ∃ E, (!f8 && decide (p8 = s.size)) = E := ⟨_, rfl⟩
  rw [hE] at HED
  have HEE := hide hE
  clear hE
  go_wp2_with fail
  rw [unhide HW9]
  clear m6 mz6
  cases E with
  | false =>
    go_wp2_with fail
    refine (unhide HED).mono ?_
    rintro e w10 ⟨rfl, kq, rfl⟩
    have z0 : W9.cell? ⟨w.heap.size, 0, none⟩ = some (.int .i64 0) := (unhide HBZ9).c 0 (by decide)
    have f0z : W9.frozen? ⟨w.heap.size, 0, none⟩ = false := (unhide HBZ9).f 0 (by decide)
    have z1 : W9.cell? ⟨w.heap.size, 1, none⟩ = some (.int .i64 0) := (unhide HBZ9).c 1 (by decide)
    have f1z : W9.frozen? ⟨w.heap.size, 1, none⟩ = false := (unhide HBZ9).f 1 (by decide)
    have z2 : W9.cell? ⟨w.heap.size, 2, none⟩ = some (.int .i64 0) := (unhide HBZ9).c 2 (by decide)
    have f2z : W9.frozen? ⟨w.heap.size, 2, none⟩ = false := (unhide HBZ9).f 2 (by decide)
    have z3 : W9.cell? ⟨w.heap.size, 3, none⟩ = some (.int .i64 0) := (unhide HBZ9).c 3 (by decide)
    have f3z : W9.frozen? ⟨w.heap.size, 3, none⟩ = false := (unhide HBZ9).f 3 (by decide)
    have z4 : W9.cell? ⟨w.heap.size, 4, none⟩ = some (.int .i64 0) := (unhide HBZ9).c 4 (by decide)
    have f4z : W9.frozen? ⟨w.heap.size, 4, none⟩ = false := (unhide HBZ9).f 4 (by decide)
    have z5 : W9.cell? ⟨w.heap.size, 5, none⟩ = some (.int .i64 0) := (unhide HBZ9).c 5 (by decide)
    have f5z : W9.frozen? ⟨w.heap.size, 5, none⟩ = false := (unhide HBZ9).f 5 (by decide)
    have z6 : W9.cell? ⟨w.heap.size, 6, none⟩ = some (.slice none 0 0) := (unhide HBZ9).c 6 (by decide)
    have f6z : W9.frozen? ⟨w.heap.size, 6, none⟩ = false := (unhide HBZ9).f 6 (by decide)
    have z7 : W9.cell? ⟨w.heap.size, 7, none⟩ = some (.int .i64 0) := (unhide HBZ9).c 7 (by decide)
    have f7z : W9.frozen? ⟨w.heap.size, 7, none⟩ = false := (unhide HBZ9).f 7 (by decide)
    have z8 : W9.cell? ⟨w.heap.size, 8, none⟩ = some (.bool false) := (unhide HBZ9).c 8 (by decide)
    have f8z : W9.frozen? ⟨w.heap.size, 8, none⟩ = false := (unhide HBZ9).f 8 (by decide)
    have z9 : W9.cell? ⟨w.heap.size, 9, none⟩ = some (.string ⟨#[]⟩) := (unhide HBZ9).c 9 (by decide)
    have f9z : W9.frozen? ⟨w.heap.size, 9, none⟩ = false := (unhide HBZ9).f 9 (by decide)
    have z10 : W9.cell? ⟨w.heap.size, 10, none⟩ = some (.slice none 0 0) := (unhide HBZ9).c 10 (by decide)
    have f10z : W9.frozen? ⟨w.heap.size, 10, none⟩ = false := (unhide HBZ9).f 10 (by decide)
    have z11 : W9.cell? ⟨w.heap.size, 11, none⟩ = some (.slice none 0 0) := (unhide HBZ9).c 11 (by decide)
    have f11z : W9.frozen? ⟨w.heap.size, 11, none⟩ = false := (unhide HBZ9).f 11 (by decide)
    have HN := hide (show rdI s = none from by
      rcases unhide HRE with ⟨_, h2⟩ | ⟨h1, h2, N, q, h3, h4⟩
      · exact rdI_fail (unhide HH4) h2
      · subst h1 h2
        rw [rdI_ans (unhide HH4) h3 h4]
        refine ansM_no (fun h => ?_)
        have := unhide HEE
        rw [decide_eq_true h.1] at this
        cases this)
    go_wp2_with fail
    refine bodyPost_ret (v := .tuple #[.agg zMsg.toArray, .bool false]) ?_ rfl ?_
    · simp [results, Tryz.results6, go_sem, z0, z1, z2, z3, z4, z5, z6, z7, z8, z9, z10, z11, zMsg, msgC]
    · rw [unhide HN]
      refine ⟨rfl, ((unhide HB9).trans ?_)⟩
      exact ((show OnlyP (fun k => k = w.heap.size) W9 (W9.drewN kq) from ⟨rfl, rfl, rfl, Nat.le_refl _, fun _ _ _ => rfl⟩).trans (only12 (W9.drewN kq) w.heap.size _ _ _ _ _ _ _ _ _ _ _ _)).below (fun g hg => by omega) (by omega)
  | true =>
    obtain ⟨hf8, hpe⟩ : f8 = false ∧ p8 = s.size := by
      have := unhide HEE
      cases f8
      · exact ⟨rfl, by simpa using this⟩
      · cases this
    subst hf8 hpe
    obtain ⟨N, q, hN, hrw⟩ : ∃ N q, stp s p4 = some (N, q) ∧ rawEs s N.toNat q = some (es, s.size) ∧ f4 = false := by
      rcases unhide HRE with ⟨h, _⟩ | ⟨_, h2, N, q, h3, h4⟩
      · cases h
      · exact ⟨N, q, h3, h4, h2⟩
    obtain ⟨hrw, rfl⟩ := hrw
    have HANS := hide (rdI_ans (unhide HH4) hN hrw)
    have hle3 := hle2 rfl
    have HMT := hide (fun (X : World) (hX : Below W9.heap.size W9 X) => impl_MsgText a0 a1 a2 a3 a4 a5 a6 ok tx a8 ne c8 es b1 nv c1 V b2 nl c2 L X (by omega) hne (by omega) (unhide HSM) (((unhide HOW).ents.at.below hX)) ⟨⟨((unhide HOW).v.below hX), hnv, by omega⟩, ⟨((unhide HOW).l.below hX), hnl, by omega⟩⟩)
    go_wp2_with fail
    refine (unhide HED).mono ?_
    rintro e w10 ⟨rfl, kq, rfl⟩
    have hbq : Below W9.heap.size W9 (W9.drewN kq) := ⟨rfl, rfl, rfl, Nat.le_refl _, fun _ _ => rfl⟩
    have HMU := hide (unhide HMT _ hbq)
    have m0 : W9.cell? ⟨w.heap.size + 2, 0, none⟩ = some (.int .i64 a0) := (unhide HBM9).c 0 (by simp [msgC])
    have m1 : W9.cell? ⟨w.heap.size + 2, 1, none⟩ = some (.int .i64 a1) := (unhide HBM9).c 1 (by simp [msgC])
    have m2 : W9.cell? ⟨w.heap.size + 2, 2, none⟩ = some (.int .i64 a2) := (unhide HBM9).c 2 (by simp [msgC])
    have m3 : W9.cell? ⟨w.heap.size + 2, 3, none⟩ = some (.int .i64 a3) := (unhide HBM9).c 3 (by simp [msgC])
    have m4 : W9.cell? ⟨w.heap.size + 2, 4, none⟩ = some (.int .i64 a4) := (unhide HBM9).c 4 (by simp [msgC])
    have m5 : W9.cell? ⟨w.heap.size + 2, 5, none⟩ = some (.int .i64 a5) := (unhide HBM9).c 5 (by simp [msgC])
    have m6 : W9.cell? ⟨w.heap.size + 2, 6, none⟩ = some (.slice a8 ne c8) := (unhide HBM9).c 6 (by simp [msgC])
    have m7 : W9.cell? ⟨w.heap.size + 2, 7, none⟩ = some (.int .i64 a6) := (unhide HBM9).c 7 (by simp [msgC])
    have m8 : W9.cell? ⟨w.heap.size + 2, 8, none⟩ = some (.bool ok) := (unhide HBM9).c 8 (by simp [msgC])
    have m9 : W9.cell? ⟨w.heap.size + 2, 9, none⟩ = some (.string tx) := (unhide HBM9).c 9 (by simp [msgC])
    have m10 : W9.cell? ⟨w.heap.size + 2, 10, none⟩ = some (.slice b1 nv c1) := (unhide HBM9).c 10 (by simp [msgC])
    have m11 : W9.cell? ⟨w.heap.size + 2, 11, none⟩ = some (.slice b2 nl c2) := (unhide HBM9).c 11 (by simp [msgC])
    obtain ⟨TT, hTT⟩ : ∃ TT, strL (msgL (numsM a0 a1 a2 a3 a4 a5 a6 ok) tx es V L) = TT := ⟨_, rfl⟩
    rw [hTT] at HMU
    have HTT := hide hTT
    clear hTT
    go_wp2_with fail
    refine (unhide HMU).mono ?_
    rintro e w11 ⟨rfl, hb11⟩
    have hb12 : Below W9.heap.size W9 w11 := ⟨hb11.os, hb11.tape, hb11.output, hb11.size, hb11.block⟩
    have hs11 := hb12.size
    have HBZ11 := hide ((unhide HBZ9).call hb12)
    have HBM11 := hide ((unhide HBM9).call hb12)
    clear m0 m1 m2 m3 m4 m5 m6 m7 m8 m9 m10 m11 hb11 hbq HMT HMU HED
    have z0 : w11.cell? ⟨w.heap.size, 0, none⟩ = some (.int .i64 0) := (unhide HBZ11).c 0 (by decide)
    have f0z : w11.frozen? ⟨w.heap.size, 0, none⟩ = false := (unhide HBZ11).f 0 (by decide)
    have m0 : w11.cell? ⟨w.heap.size + 2, 0, none⟩ = some (.int .i64 a0) := (unhide HBM11).c 0 (by simp [msgC])
    have z1 : w11.cell? ⟨w.heap.size, 1, none⟩ = some (.int .i64 0) := (unhide HBZ11).c 1 (by decide)
    have f1z : w11.frozen? ⟨w.heap.size, 1, none⟩ = false := (unhide HBZ11).f 1 (by decide)
    have m1 : w11.cell? ⟨w.heap.size + 2, 1, none⟩ = some (.int .i64 a1) := (unhide HBM11).c 1 (by simp [msgC])
    have z2 : w11.cell? ⟨w.heap.size, 2, none⟩ = some (.int .i64 0) := (unhide HBZ11).c 2 (by decide)
    have f2z : w11.frozen? ⟨w.heap.size, 2, none⟩ = false := (unhide HBZ11).f 2 (by decide)
    have m2 : w11.cell? ⟨w.heap.size + 2, 2, none⟩ = some (.int .i64 a2) := (unhide HBM11).c 2 (by simp [msgC])
    have z3 : w11.cell? ⟨w.heap.size, 3, none⟩ = some (.int .i64 0) := (unhide HBZ11).c 3 (by decide)
    have f3z : w11.frozen? ⟨w.heap.size, 3, none⟩ = false := (unhide HBZ11).f 3 (by decide)
    have m3 : w11.cell? ⟨w.heap.size + 2, 3, none⟩ = some (.int .i64 a3) := (unhide HBM11).c 3 (by simp [msgC])
    have z4 : w11.cell? ⟨w.heap.size, 4, none⟩ = some (.int .i64 0) := (unhide HBZ11).c 4 (by decide)
    have f4z : w11.frozen? ⟨w.heap.size, 4, none⟩ = false := (unhide HBZ11).f 4 (by decide)
    have m4 : w11.cell? ⟨w.heap.size + 2, 4, none⟩ = some (.int .i64 a4) := (unhide HBM11).c 4 (by simp [msgC])
    have z5 : w11.cell? ⟨w.heap.size, 5, none⟩ = some (.int .i64 0) := (unhide HBZ11).c 5 (by decide)
    have f5z : w11.frozen? ⟨w.heap.size, 5, none⟩ = false := (unhide HBZ11).f 5 (by decide)
    have m5 : w11.cell? ⟨w.heap.size + 2, 5, none⟩ = some (.int .i64 a5) := (unhide HBM11).c 5 (by simp [msgC])
    have z6 : w11.cell? ⟨w.heap.size, 6, none⟩ = some (.slice none 0 0) := (unhide HBZ11).c 6 (by decide)
    have f6z : w11.frozen? ⟨w.heap.size, 6, none⟩ = false := (unhide HBZ11).f 6 (by decide)
    have m6 : w11.cell? ⟨w.heap.size + 2, 6, none⟩ = some (.slice a8 ne c8) := (unhide HBM11).c 6 (by simp [msgC])
    have z7 : w11.cell? ⟨w.heap.size, 7, none⟩ = some (.int .i64 0) := (unhide HBZ11).c 7 (by decide)
    have f7z : w11.frozen? ⟨w.heap.size, 7, none⟩ = false := (unhide HBZ11).f 7 (by decide)
    have m7 : w11.cell? ⟨w.heap.size + 2, 7, none⟩ = some (.int .i64 a6) := (unhide HBM11).c 7 (by simp [msgC])
    have z8 : w11.cell? ⟨w.heap.size, 8, none⟩ = some (.bool false) := (unhide HBZ11).c 8 (by decide)
    have f8z : w11.frozen? ⟨w.heap.size, 8, none⟩ = false := (unhide HBZ11).f 8 (by decide)
    have m8 : w11.cell? ⟨w.heap.size + 2, 8, none⟩ = some (.bool ok) := (unhide HBM11).c 8 (by simp [msgC])
    have z9 : w11.cell? ⟨w.heap.size, 9, none⟩ = some (.string ⟨#[]⟩) := (unhide HBZ11).c 9 (by decide)
    have f9z : w11.frozen? ⟨w.heap.size, 9, none⟩ = false := (unhide HBZ11).f 9 (by decide)
    have m9 : w11.cell? ⟨w.heap.size + 2, 9, none⟩ = some (.string tx) := (unhide HBM11).c 9 (by simp [msgC])
    have z10 : w11.cell? ⟨w.heap.size, 10, none⟩ = some (.slice none 0 0) := (unhide HBZ11).c 10 (by decide)
    have f10z : w11.frozen? ⟨w.heap.size, 10, none⟩ = false := (unhide HBZ11).f 10 (by decide)
    have m10 : w11.cell? ⟨w.heap.size + 2, 10, none⟩ = some (.slice b1 nv c1) := (unhide HBM11).c 10 (by simp [msgC])
    have z11 : w11.cell? ⟨w.heap.size, 11, none⟩ = some (.slice none 0 0) := (unhide HBZ11).c 11 (by decide)
    have f11z : w11.frozen? ⟨w.heap.size, 11, none⟩ = false := (unhide HBZ11).f 11 (by decide)
    have m11 : w11.cell? ⟨w.heap.size + 2, 11, none⟩ = some (.slice b2 nl c2) := (unhide HBM11).c 11 (by simp [msgC])
    by_cases hT : TT = s
    · subst hT
      have HN := hide (show rdI TT = some ⟨a0, a1, a2, a3, a4, a5, a6, ok, tx, es, V, L⟩ from by
        rw [unhide HANS, ansM_yes ⟨rfl, ?_⟩, unhide HM]
        rw [unhide HM]
        exact unhide HTT)
      have HO11 := hide (show MsgOwn ⟨a0, a1, a2, a3, a4, a5, a6, ok, tx, es, V, L⟩ (w.heap.size + 1) a8 c8 b1 b2 w11 from
        ⟨(unhide HOW).ents.keep hb12, (unhide HOW).v.below hb12, (unhide HOW).l.below hb12, fun g hg => by have := (unhide HOW).vb g hg; omega, fun g hg => by have := (unhide HOW).lb g hg; omega, (unhide HOW).vl, (unhide HOW).ev, (unhide HOW).el⟩)
      have HB11 := hide ((unhide HB9).trans (hb12.mono (by omega)))
      clear hb12
      go_wp2_with fail
      refine bodyPost_ret (v := .tuple #[mV ⟨a0, a1, a2, a3, a4, a5, a6, ok, tx, es, V, L⟩ a8 c8 b1 c1 b2 c2, .bool true]) ?_ rfl ?_
      · unfold mV
        simp only [hne, hnv, hnl]
        simp [results, Tryz.results6, go_sem, z0, z1, z2, z3, z4, z5, z6, z7, z8, z9, z10, z11, msgC]
      · rw [unhide HN]
        refine ⟨a8, c8, b1, c1, b2, c2, rfl, ?_, ?_⟩
        · exact ((unhide HO11).past (only12 w11 w.heap.size _ _ _ _ _ _ _ _ _ _ _ _) (fun k hk => by have := ((unhide HO11).ents.bl k hk).1; omega) (fun k hk => by have := ((unhide HO11).vb k hk).1; omega) (fun k hk => by have := ((unhide HO11).lb k hk).1; omega)).le (by omega)
        · exact (unhide HB11).trans ((only12 w11 w.heap.size _ _ _ _ _ _ _ _ _ _ _ _).below (fun g hg => by omega) (by omega))
    · have hbe : (TT.toList == s.toList) = false := by
        rw [beq_eq_false_iff_ne]
        intro h
        rw [ByteArray.toList_eq, ByteArray.toList_eq] at h
        exact hT (ByteArray.ext (Array.toList_inj.1 h))
      have HN := hide (show rdI s = none from by
        rw [unhide HANS]
        refine ansM_no (fun h => hT ?_)
        rw [unhide HM] at h
        exact (unhide HTT).symm.trans h.2)
      have HB11 := hide ((unhide HB9).trans (hb12.mono (by omega)))
      clear hb12
      go_wp2_with fail
      refine bodyPost_ret (v := .tuple #[.agg zMsg.toArray, .bool false]) ?_ rfl ?_
      · simp [results, Tryz.results6, go_sem, z0, z1, z2, z3, z4, z5, z6, z7, z8, z9, z10, z11, zMsg, msgC]
      · rw [unhide HN]
        refine ⟨rfl, ((unhide HB11).trans ?_)⟩
        exact (only12 w11 w.heap.size _ _ _ _ _ _ _ _ _ _ _ _).below (fun g hg => by omega) (by omega)
end Go.Proofs.YtjiclgcohpkkjaaGreatDoor
