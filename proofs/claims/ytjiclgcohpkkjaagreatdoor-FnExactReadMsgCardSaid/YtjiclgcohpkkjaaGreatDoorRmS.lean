/- ReadMsg of the specification: its head. -/
import Derived.Test.YtjiclgcohpkkjaaGreatDoorGzAW
import Derived.Test.YtjiclgcohpkkjaaGreatDoorRcP
import Derived.Test.YtjiclgcohpkkjaaGreatDoorGzBA
import Derived.Test.YtjiclgcohpkkjaaGreatDoorRdT
import Derived.Test.YtjiclgcohpkkjaaGreatDoorGzAQ
import Derived.Test.YtjiclgcohpkkjaaGreatDoorMstS
namespace Go.Proofs.YtjiclgcohpkkjaaGreatDoor
open Go.RowKit Plain
set_option linter.unusedVariables false

namespace Plain
theorem Blk.row {W W' : World} {b Q : Nat} {vs : List Value} (h : Blk W b vs) (ho : OnlyRow (some ⟨Q, 0, none⟩) W W') (hb : b ≠ Q) : Blk W' b vs :=
  have n : ∀ o, (some ⟨Q, 0, none⟩ : Option Addr) ≠ some ⟨b, o, none⟩ := fun o e => hb (by injection e with e; exact (congrArg Addr.block e).symm)
  ⟨Nat.lt_of_lt_of_le h.lt ho.size, fun i hi => (World.cell?_of_block (a := ⟨b, i, none⟩) (ho.block b h.lt n)).trans (h.c i hi), fun i hi => (World.frozen?_of_block (a := ⟨b, i, none⟩) (ho.block b h.lt n)).trans (h.f i hi)⟩
theorem OnlyRow.belowQ {W W' : World} {Q B : Nat} (ho : OnlyRow (some ⟨Q, 0, none⟩) W W') (hQ : B ≤ Q) (hB : B ≤ W.heap.size) : Below B W W' :=
  ⟨ho.os, ho.tape, ho.output, ho.size, fun k hk => ho.block k (Nat.lt_of_lt_of_le hk hB) (fun o e => by injection e with e; have := congrArg Addr.block e; simp at this; omega)⟩
def mVS (m : MsgM) (ae : Option Addr) (ce : Nat) (av : Option Addr) (cv : Nat) (al : Option Addr) (cl : Nat) : Value := .agg (msgC m.kd m.fr m.tt m.tm m.ix m.lg (.slice ae m.es.length ce) m.cm m.ok m.tx (.slice av m.v.length cv) (.slice al m.l.length cl)).toArray
def MsgRetS (o : Option MsgM) (w : World) (e : Ending) (w' : World) : Prop := match o with
  | none => e = .returned (.tuple #[.agg zMsg.toArray, .bool false]) ∧ Below w.heap.size w w'
  | some m => ∃ ae ce av cv al cl, e = .returned (.tuple #[mVS m ae ce av cv al cl, .bool true]) ∧ (RowAt entE w' ae m.es ∧ RowAt i64E w' av m.v ∧ RowAt i64E w' al m.l) ∧ Below w.heap.size w w'
theorem fiveEs_one (s : ByteArray) (n k p : Nat) (hk : k ≤ 8) : fiveEs s (n + 1) k p = match txp s p with
    | none => none
    | some (t, q) => match (readF t).1 with
      | [f] => match fiveE f with
        | none => none
        | some e => (fiveEs s n (k + 1) q).map fun x => (e :: x.1, x.2)
      | _ => none := by rw [fiveEs, if_neg (by omega)]; rfl
theorem ansM_noS {s tx cf : ByteArray} {a0 a1 a2 a3 a4 a5 a6 a7 N : Int} {p : Nat} {es : List Ent} (h : ¬ (p = s.size ∧ (mOf (hdT a0 a1 a2 a3 a4 a5 a6 a7 tx cf N) es).text = s)) : ansM s (hdT a0 a1 a2 a3 a4 a5 a6 a7 tx cf N) (some (es, p)) = none := if_neg h
theorem ansM_yesS {s tx cf : ByteArray} {a0 a1 a2 a3 a4 a5 a6 a7 N : Int} {p : Nat} {es : List Ent} (h : p = s.size ∧ (mOf (hdT a0 a1 a2 a3 a4 a5 a6 a7 tx cf N) es).text = s) : ansM s (hdT a0 a1 a2 a3 a4 a5 a6 a7 tx cf N) (some (es, p)) = some (mOf (hdT a0 a1 a2 a3 a4 a5 a6 a7 tx cf N) es) := if_pos h
/-- While the specification reads entries. -/
structure SL (B0 Q M : Nat) (s : ByteArray) (q N k : Nat) (es : List Ent) (p : Nat) (u : ByteArray) (mk : Value → List Value) (v : Value) (W0 W : World) : Prop where
  qs : QSt W Q u false
  lf : LftR s p u false
  own : OwnR entE W B0 v es
  blk : Blk W M (mk v)
  only : OnlyP (fun k => k = Q ∨ k = M) W0 W
  rows : fiveEs s N 0 q = (fiveEs s k es.length p).map fun x => (es ++ x.1, x.2)
  small : smallE es
  few : es.length ≤ 9
theorem ownOnly {α : Type} {e : Elem α} {W w' : World} {B : Nat} {v : Value} {xs : List α} {p : Nat → Prop} (h : OwnR e W B v xs) (ho : OnlyP p W w') (hp : ∀ g, v.ownBlock = some g → ¬ p g) : OwnR e w' B v xs := by
  have hlt := h.lt
  refine ⟨h.1, ?_⟩
  rcases h.2 with ⟨a, c⟩ | ⟨g, cap, cur, rfl, c, d, r⟩
  · exact .inl ⟨a, c⟩
  · exact .inr ⟨g, cap, cur, rfl, c, (ho.block g (hlt g rfl) (hp g rfl)).trans d, r⟩
theorem Blk.onlyP {W W' : World} {b : Nat} {vs : List Value} {p : Nat → Prop} (h : Blk W b vs) (ho : OnlyP p W W') (hb : ¬ p b) : Blk W' b vs :=
  ⟨Nat.lt_of_lt_of_le h.lt ho.size, fun i hi => (World.cell?_of_block (a := ⟨b, i, none⟩) (ho.block b h.lt hb)).trans (h.c i hi), fun i hi => (World.frozen?_of_block (a := ⟨b, i, none⟩) (ho.block b h.lt hb)).trans (h.f i hi)⟩
end Plain

set_option maxRecDepth 10000 in
set_option maxHeartbeats 8000000 in
theorem spec_ReadMsg (s : ByteArray) (w : World) (hs : s.size ≤ 1048576) : Calls Tryz.prog 5 #[.string s] w (MsgRetS (rdS s) w) := by
  obtain ⟨W0, hW0⟩ : ∃ W0, W0 = (w.alloc (.cells zMsg.toArray 27)).alloc (.cells #[.string s, .bool false] 42) := ⟨_, rfl⟩
  have hb0 : Below w.heap.size w W0 := by rw [hW0]; exact belOn (bel1 _ _) (bel1 _ _)
  have hz0 : W0.heap.size = w.heap.size + 2 := by rw [hW0]; simp
  have HZ0 := hide (show Blk W0 w.heap.size zMsg from by rw [hW0]; exact (Blk.new w zMsg _).alloc _)
  have HQ0 := hide (show QSt W0 (w.heap.size + 1) s false from ⟨by rw [hW0]; simp [go_sem], by rw [hW0]; simp [go_sem], by rw [hW0]; simp [go_sem], by rw [hW0]; simp [go_sem]⟩)
  have HL0 := hide (show LftR s 0 s false from ⟨by omega, fun _ => ⟨by rw [ByteArray.extract_zero_size], Nat.zero_le _⟩⟩)
  have HB0 := hide hb0
  have HH0 := hide (HasR.start)
  have HN0 := hide (l12number_calls (w.heap.size + 1) s s 0 false W0 (unhide HQ0) (unhide HL0))
  have HW0 := hide hW0.symm
  unfold zMsg msgC at HW0
  clear hW0 hb0 HQ0 HL0
  go_enter Tryz.func5, Tryz.ntmps5
  go_wp2_with fail
  rw [unhide HW0]
  refine (unhide HN0).mono ?_
  unfold RdPost
  rintro e w1 ⟨a0, p1, u1, f1, rfl, hQ1, hL1, hm1, -, ho1⟩
  have hs1 := ho1.size
  have HH1 := hide ((unhide HH0).num hm1)
  obtain ⟨X1, hX1⟩ : ∃ X1, X1 = w1.alloc (.cells (msgC a0 0 0 0 0 0 (.slice none 0 0) 0 false ⟨#[]⟩ (.slice none 0 0) (.slice none 0 0)).toArray 27) := ⟨_, rfl⟩
  have hbx1 : Below w1.heap.size w1 X1 := by rw [hX1]; exact bel1 _ _
  have hzx1 : X1.heap.size = w1.heap.size + 1 := by rw [hX1]; simp
  obtain ⟨M, hM⟩ : ∃ M, w1.heap.size = M := ⟨_, rfl⟩
  have hMl : w.heap.size + 2 ≤ M := by omega
  have HM1 := hide (show Blk X1 M (msgC a0 0 0 0 0 0 (.slice none 0 0) 0 false ⟨#[]⟩ (.slice none 0 0) (.slice none 0 0)) from by rw [hX1, ← hM]; exact Blk.new w1 _ _)
  have HZ1 := hide (show Blk X1 w.heap.size zMsg from ((unhide HZ0).row ho1 (by omega)).call hbx1)
  have HQ1 := hide (hQ1.keep hbx1)
  have HL1 := hide hL1
  have HB1 := hide (show Below w.heap.size w X1 from ((unhide HB0).trans (ho1.belowQ (by omega) (by omega))).trans (hbx1.mono (by omega)))
  have hzl1 : M < X1.heap.size := by omega
  have HN1 := hide (l12number_calls (w.heap.size + 1) s u1 p1 f1 X1 (unhide HQ1) (unhide HL1))
  have HX1 := hide hX1.symm
  unfold msgC at HX1
  clear hX1 hbx1 hQ1 hL1 hm1 ho1 HN0 HH0 HZ0 HB0 hs1 hzx1
  go_wp2_with fail
  rw [unhide HX1]
  refine (unhide HN1).mono ?_
  unfold RdPost
  rintro e w2 ⟨a1, p2, u2, f2, rfl, hQ2, hL2, hm2, hsm2, ho2⟩
  have hs2 := ho2.size
  have HH2 := hide ((unhide HH1).num hm2)
  have hMM2 := (unhide HM1).row ho2 (by omega)
  have c2 : w2.cell? ⟨M, 1, none⟩ = some (.int .i64 0) := hMM2.c 1 (by simp [msgC])
  have z2 : w2.frozen? ⟨M, 1, none⟩ = false := hMM2.f 1 (by simp [msgC])
  obtain ⟨X2, hX2⟩ : ∃ X, X = w2.setCell ⟨M, 1, none⟩ (.int .i64 a1) := ⟨_, rfl⟩
  have hzl2 : M < X2.heap.size := by rw [hX2]; simp; omega
  have HM2 := hide (show Blk X2 M (msgC a0 a1 0 0 0 0 (.slice none 0 0) 0 false ⟨#[]⟩ (.slice none 0 0) (.slice none 0 0)) from by rw [hX2]; exact hMM2.set 1 (by simp [msgC]) _)
  have HZ2 := hide (show Blk X2 w.heap.size zMsg from by rw [hX2]; exact ((unhide HZ1).row ho2 (by omega)).off (by omega) _)
  have HQ2 := hide (show QSt X2 (w.heap.size + 1) u2 f2 from by rw [hX2]; exact hQ2.off (by omega) _)
  have HL2 := hide hL2
  have HB2 := hide (show Below w.heap.size w X2 from by rw [hX2]; exact ((unhide HB1).trans (ho2.belowQ (by omega) (by omega))).setCell (p := ⟨M, 1, none⟩) (show w.heap.size ≤ M by omega) _)
  have HN2 := hide (l12number_calls (w.heap.size + 1) s u2 p2 f2 X2 (unhide HQ2) (unhide HL2))
  have HX2 := hide hX2.symm
  clear hX2 hMM2 hQ2 hL2 hm2 hsm2 ho2 HN1 HH1 HZ1 HB1 HM1 HQ1 HL1 hs2 hzl1
  go_wp2_with fail
  rw [unhide HX2]
  refine (unhide HN2).mono ?_
  unfold RdPost
  rintro e w3 ⟨a2, p3, u3, f3, rfl, hQ3, hL3, hm3, hsm3, ho3⟩
  have hs3 := ho3.size
  have HH3 := hide ((unhide HH2).num hm3)
  have hMM3 := (unhide HM2).row ho3 (by omega)
  have c3 : w3.cell? ⟨M, 2, none⟩ = some (.int .i64 0) := hMM3.c 2 (by simp [msgC])
  have z3 : w3.frozen? ⟨M, 2, none⟩ = false := hMM3.f 2 (by simp [msgC])
  obtain ⟨X3, hX3⟩ : ∃ X, X = w3.setCell ⟨M, 2, none⟩ (.int .i64 a2) := ⟨_, rfl⟩
  have hzl3 : M < X3.heap.size := by rw [hX3]; simp; omega
  have HM3 := hide (show Blk X3 M (msgC a0 a1 a2 0 0 0 (.slice none 0 0) 0 false ⟨#[]⟩ (.slice none 0 0) (.slice none 0 0)) from by rw [hX3]; exact hMM3.set 2 (by simp [msgC]) _)
  have HZ3 := hide (show Blk X3 w.heap.size zMsg from by rw [hX3]; exact ((unhide HZ2).row ho3 (by omega)).off (by omega) _)
  have HQ3 := hide (show QSt X3 (w.heap.size + 1) u3 f3 from by rw [hX3]; exact hQ3.off (by omega) _)
  have HL3 := hide hL3
  have HB3 := hide (show Below w.heap.size w X3 from by rw [hX3]; exact ((unhide HB2).trans (ho3.belowQ (by omega) (by omega))).setCell (p := ⟨M, 2, none⟩) (show w.heap.size ≤ M by omega) _)
  have HN3 := hide (l12number_calls (w.heap.size + 1) s u3 p3 f3 X3 (unhide HQ3) (unhide HL3))
  have HX3 := hide hX3.symm
  clear hX3 hMM3 hQ3 hL3 hm3 hsm3 ho3 HN2 HH2 HZ2 HB2 HM2 HQ2 HL2 hs3 hzl2
  go_wp2_with fail
  rw [unhide HX3]
  refine (unhide HN3).mono ?_
  unfold RdPost
  rintro e w4 ⟨a3, p4, u4, f4, rfl, hQ4, hL4, hm4, hsm4, ho4⟩
  have hs4 := ho4.size
  have HH4 := hide ((unhide HH3).num hm4)
  have hMM4 := (unhide HM3).row ho4 (by omega)
  have c4 : w4.cell? ⟨M, 3, none⟩ = some (.int .i64 0) := hMM4.c 3 (by simp [msgC])
  have z4 : w4.frozen? ⟨M, 3, none⟩ = false := hMM4.f 3 (by simp [msgC])
  obtain ⟨X4, hX4⟩ : ∃ X, X = w4.setCell ⟨M, 3, none⟩ (.int .i64 a3) := ⟨_, rfl⟩
  have hzl4 : M < X4.heap.size := by rw [hX4]; simp; omega
  have HM4 := hide (show Blk X4 M (msgC a0 a1 a2 a3 0 0 (.slice none 0 0) 0 false ⟨#[]⟩ (.slice none 0 0) (.slice none 0 0)) from by rw [hX4]; exact hMM4.set 3 (by simp [msgC]) _)
  have HZ4 := hide (show Blk X4 w.heap.size zMsg from by rw [hX4]; exact ((unhide HZ3).row ho4 (by omega)).off (by omega) _)
  have HQ4 := hide (show QSt X4 (w.heap.size + 1) u4 f4 from by rw [hX4]; exact hQ4.off (by omega) _)
  have HL4 := hide hL4
  have HB4 := hide (show Below w.heap.size w X4 from by rw [hX4]; exact ((unhide HB3).trans (ho4.belowQ (by omega) (by omega))).setCell (p := ⟨M, 3, none⟩) (show w.heap.size ≤ M by omega) _)
  have HN4 := hide (l12number_calls (w.heap.size + 1) s u4 p4 f4 X4 (unhide HQ4) (unhide HL4))
  have HX4 := hide hX4.symm
  clear hX4 hMM4 hQ4 hL4 hm4 hsm4 ho4 HN3 HH3 HZ3 HB3 HM3 HQ3 HL3 hs4 hzl3
  go_wp2_with fail
  rw [unhide HX4]
  refine (unhide HN4).mono ?_
  unfold RdPost
  rintro e w5 ⟨a4, p5, u5, f5, rfl, hQ5, hL5, hm5, hsm5, ho5⟩
  have hs5 := ho5.size
  have HH5 := hide ((unhide HH4).num hm5)
  have hMM5 := (unhide HM4).row ho5 (by omega)
  have c5 : w5.cell? ⟨M, 4, none⟩ = some (.int .i64 0) := hMM5.c 4 (by simp [msgC])
  have z5 : w5.frozen? ⟨M, 4, none⟩ = false := hMM5.f 4 (by simp [msgC])
  obtain ⟨X5, hX5⟩ : ∃ X, X = w5.setCell ⟨M, 4, none⟩ (.int .i64 a4) := ⟨_, rfl⟩
  have hzl5 : M < X5.heap.size := by rw [hX5]; simp; omega
  have HM5 := hide (show Blk X5 M (msgC a0 a1 a2 a3 a4 0 (.slice none 0 0) 0 false ⟨#[]⟩ (.slice none 0 0) (.slice none 0 0)) from by rw [hX5]; exact hMM5.set 4 (by simp [msgC]) _)
  have HZ5 := hide (show Blk X5 w.heap.size zMsg from by rw [hX5]; exact ((unhide HZ4).row ho5 (by omega)).off (by omega) _)
  have HQ5 := hide (show QSt X5 (w.heap.size + 1) u5 f5 from by rw [hX5]; exact hQ5.off (by omega) _)
  have HL5 := hide hL5
  have HB5 := hide (show Below w.heap.size w X5 from by rw [hX5]; exact ((unhide HB4).trans (ho5.belowQ (by omega) (by omega))).setCell (p := ⟨M, 4, none⟩) (show w.heap.size ≤ M by omega) _)
  have HN5 := hide (l12number_calls (w.heap.size + 1) s u5 p5 f5 X5 (unhide HQ5) (unhide HL5))
  have HX5 := hide hX5.symm
  clear hX5 hMM5 hQ5 hL5 hm5 hsm5 ho5 HN4 HH4 HZ4 HB4 HM4 HQ4 HL4 hs5 hzl4
  go_wp2_with fail
  rw [unhide HX5]
  refine (unhide HN5).mono ?_
  unfold RdPost
  rintro e w6 ⟨a5, p6, u6, f6, rfl, hQ6, hL6, hm6, hsm6, ho6⟩
  have hs6 := ho6.size
  have HH6 := hide ((unhide HH5).num hm6)
  have hMM6 := (unhide HM5).row ho6 (by omega)
  have c6 : w6.cell? ⟨M, 5, none⟩ = some (.int .i64 0) := hMM6.c 5 (by simp [msgC])
  have z6 : w6.frozen? ⟨M, 5, none⟩ = false := hMM6.f 5 (by simp [msgC])
  obtain ⟨X6, hX6⟩ : ∃ X, X = w6.setCell ⟨M, 5, none⟩ (.int .i64 a5) := ⟨_, rfl⟩
  have hzl6 : M < X6.heap.size := by rw [hX6]; simp; omega
  have HM6 := hide (show Blk X6 M (msgC a0 a1 a2 a3 a4 a5 (.slice none 0 0) 0 false ⟨#[]⟩ (.slice none 0 0) (.slice none 0 0)) from by rw [hX6]; exact hMM6.set 5 (by simp [msgC]) _)
  have HZ6 := hide (show Blk X6 w.heap.size zMsg from by rw [hX6]; exact ((unhide HZ5).row ho6 (by omega)).off (by omega) _)
  have HQ6 := hide (show QSt X6 (w.heap.size + 1) u6 f6 from by rw [hX6]; exact hQ6.off (by omega) _)
  have HL6 := hide hL6
  have HB6 := hide (show Below w.heap.size w X6 from by rw [hX6]; exact ((unhide HB5).trans (ho6.belowQ (by omega) (by omega))).setCell (p := ⟨M, 5, none⟩) (show w.heap.size ≤ M by omega) _)
  have HN6 := hide (l12number_calls (w.heap.size + 1) s u6 p6 f6 X6 (unhide HQ6) (unhide HL6))
  have HX6 := hide hX6.symm
  clear hX6 hMM6 hQ6 hL6 hm6 hsm6 ho6 HN5 HH5 HZ5 HB5 HM5 HQ5 HL5 hs6 hzl5
  go_wp2_with fail
  rw [unhide HX6]
  refine (unhide HN6).mono ?_
  unfold RdPost
  rintro e w7 ⟨a6, p7, u7, f7, rfl, hQ7, hL7, hm7, hsm7, ho7⟩
  have hs7 := ho7.size
  have HH7 := hide ((unhide HH6).num hm7)
  have hMM7 := (unhide HM6).row ho7 (by omega)
  have c7 : w7.cell? ⟨M, 7, none⟩ = some (.int .i64 0) := hMM7.c 7 (by simp [msgC])
  have z7 : w7.frozen? ⟨M, 7, none⟩ = false := hMM7.f 7 (by simp [msgC])
  obtain ⟨X7, hX7⟩ : ∃ X, X = w7.setCell ⟨M, 7, none⟩ (.int .i64 a6) := ⟨_, rfl⟩
  have hzl7 : M < X7.heap.size := by rw [hX7]; simp; omega
  have HM7 := hide (show Blk X7 M (msgC a0 a1 a2 a3 a4 a5 (.slice none 0 0) a6 false ⟨#[]⟩ (.slice none 0 0) (.slice none 0 0)) from by rw [hX7]; exact hMM7.set 7 (by simp [msgC]) _)
  have HZ7 := hide (show Blk X7 w.heap.size zMsg from by rw [hX7]; exact ((unhide HZ6).row ho7 (by omega)).off (by omega) _)
  have HQ7 := hide (show QSt X7 (w.heap.size + 1) u7 f7 from by rw [hX7]; exact hQ7.off (by omega) _)
  have HL7 := hide hL7
  have HB7 := hide (show Below w.heap.size w X7 from by rw [hX7]; exact ((unhide HB6).trans (ho7.belowQ (by omega) (by omega))).setCell (p := ⟨M, 7, none⟩) (show w.heap.size ≤ M by omega) _)
  have HN7 := hide (l12number_calls (w.heap.size + 1) s u7 p7 f7 X7 (unhide HQ7) (unhide HL7))
  have HX7 := hide hX7.symm
  clear hX7 hMM7 hQ7 hL7 hm7 hsm7 ho7 HN6 HH6 HZ6 HB6 HM6 HQ6 HL6 hs7 hzl6
  go_wp2_with fail
  rw [unhide HX7]
  refine (unhide HN7).mono ?_
  unfold RdPost
  rintro e w8 ⟨a7, p8, u8, f8, rfl, hQ8, hL8, hm8, hsm8, ho8⟩
  have hs8 := ho8.size
  have HH8 := hide ((unhide HH7).num hm8)
  have hMM8 := (unhide HM7).row ho8 (by omega)
  obtain ⟨ok, hok⟩ : ∃ b, (a7 == 1) = b := ⟨_, rfl⟩
  have c8 : w8.cell? ⟨M, 8, none⟩ = some (.bool false) := hMM8.c 8 (by simp [msgC])
  have z8 : w8.frozen? ⟨M, 8, none⟩ = false := hMM8.f 8 (by simp [msgC])
  obtain ⟨X8, hX8⟩ : ∃ X, X = w8.setCell ⟨M, 8, none⟩ (.bool ok) := ⟨_, rfl⟩
  have hzl8 : M < X8.heap.size := by rw [hX8]; simp; omega
  have HM8 := hide (show Blk X8 M (msgC a0 a1 a2 a3 a4 a5 (.slice none 0 0) a6 ok ⟨#[]⟩ (.slice none 0 0) (.slice none 0 0)) from by rw [hX8]; exact hMM8.set 8 (by simp [msgC]) _)
  have HZ8 := hide (show Blk X8 w.heap.size zMsg from by rw [hX8]; exact ((unhide HZ7).row ho8 (by omega)).off (by omega) _)
  have HQ8 := hide (show QSt X8 (w.heap.size + 1) u8 f8 from by rw [hX8]; exact hQ8.off (by omega) _)
  have HL8 := hide hL8
  have HB8 := hide (show Below w.heap.size w X8 from by rw [hX8]; exact ((unhide HB7).trans (ho8.belowQ (by omega) (by omega))).setCell (p := ⟨M, 8, none⟩) (show w.heap.size ≤ M by omega) _)
  have HN8 := hide (l12text_calls (w.heap.size + 1) s u8 p8 f8 X8 (unhide HQ8) (unhide HL8))
  have HX8 := hide hX8.symm
  have HOK := hide hok
  clear hX8 hMM8 hQ8 hL8 hm8 hsm8 ho8 HN7 HH7 HZ7 HB7 HM7 HQ7 HL7 hs8 hzl7
  go_wp2_with fail
  rw [unhide HX8]
  refine (unhide HN8).mono ?_
  unfold RdPost
  rintro e w9 ⟨tx, p9, u9, f9, rfl, hQ9, hL9, hm9, hsm9, ho9⟩
  have hs9 := ho9.size
  have HH9 := hide ((unhide HH8).txt hm9)
  have hMM9 := (unhide HM8).row ho9 (by omega)
  have c9 : w9.cell? ⟨M, 9, none⟩ = some (.string ⟨#[]⟩) := hMM9.c 9 (by simp [msgC])
  have z9 : w9.frozen? ⟨M, 9, none⟩ = false := hMM9.f 9 (by simp [msgC])
  obtain ⟨X9, hX9⟩ : ∃ X, X = w9.setCell ⟨M, 9, none⟩ (.string tx) := ⟨_, rfl⟩
  have hzl9 : M < X9.heap.size := by rw [hX9]; simp; omega
  have HM9 := hide (show Blk X9 M (msgC a0 a1 a2 a3 a4 a5 (.slice none 0 0) a6 ok tx (.slice none 0 0) (.slice none 0 0)) from by rw [hX9]; exact hMM9.set 9 (by simp [msgC]) _)
  have HZ9 := hide (show Blk X9 w.heap.size zMsg from by rw [hX9]; exact ((unhide HZ8).row ho9 (by omega)).off (by omega) _)
  have HQ9 := hide (show QSt X9 (w.heap.size + 1) u9 f9 from by rw [hX9]; exact hQ9.off (by omega) _)
  have HL9 := hide hL9
  have HB9 := hide (show Below w.heap.size w X9 from by rw [hX9]; exact ((unhide HB8).trans (ho9.belowQ (by omega) (by omega))).setCell (p := ⟨M, 9, none⟩) (show w.heap.size ≤ M by omega) _)
  have HN9 := hide (l12text_calls (w.heap.size + 1) s u9 p9 f9 X9 (unhide HQ9) (unhide HL9))
  have HX9 := hide hX9.symm
  have htx : tx.size ≤ 1000000 := hsm9
  clear hX9 hMM9 hQ9 hL9 hm9 hsm9 ho9 HN8 HH8 HZ8 HB8 HM8 HQ8 HL8 hs9 hzl8
  go_wp2_with fail
  rw [unhide HX9]
  refine (unhide HN9).mono ?_
  unfold RdPost
  rintro e w10 ⟨cf, p10, u10, f10, rfl, hQ10, hL10, hm10, hcf, ho10⟩
  have hs10 := ho10.size
  have HH10 := hide ((unhide HH9).txt hm10)
  have HM10 := hide ((unhide HM9).row ho10 (by omega))
  have HZ10 := hide ((unhide HZ9).row ho10 (by omega))
  have HB10 := hide ((unhide HB9).trans (ho10.belowQ (by omega) (by omega)))
  have HRC := hide (spec_ReadConf cf w10 (by have : cf.size ≤ 1000000 := hcf; omega))
  have HQ10 := hide hQ10
  have HL10 := hide hL10
  clear hQ10 hL10 hm10 hcf ho10 HN9 HH9 HZ9 HB9 HM9 HQ9 HL9
  go_wp2_with fail
  refine (unhide HRC).mono ?_
  unfold RcPost CcPost
  rintro e w11 ⟨b1, c1, b2, c2, rfl, hv11, hl11, hvb11, hlb11, hb11⟩
  have HMO := hide (show ∀ (N : Int) (es : List Ent), mOf (hdT a0 a1 a2 a3 a4 a5 a6 a7 tx cf N) es = ⟨a0, a1, a2, a3, a4, a5, a6, ok, tx, es, (rdC numF cf.data.toList).1, (rdC numF cf.data.toList).2.1⟩ from fun N es => by
    unfold mOf hdT
    rw [← unhide HOK]
    simp only [MsgM.mk.injEq, true_and, and_true]
    by_cases h : a7 = 1 <;> simp [h])
  have hrcl := rdC_few numF cf.data.toList
  generalize rdC numF cf.data.toList = RC at hv11 hl11 HMO hrcl
  obtain ⟨V, L, rb⟩ := RC
  simp only [] at hv11 hl11 HMO hrcl ⊢
  obtain ⟨nv, hnv⟩ : ∃ n, V.length = n := ⟨_, rfl⟩
  obtain ⟨nl, hnl⟩ : ∃ n, L.length = n := ⟨_, rfl⟩
  rw [hnv, hnl] at hrcl ⊢
  have hs11 := hb11.size
  have hM11 := (unhide HM10).call hb11
  have m10 : w11.cell? ⟨M, 10, none⟩ = some (.slice none 0 0) := hM11.c 10 (by simp [msgC])
  have m11 : w11.cell? ⟨M, 11, none⟩ = some (.slice none 0 0) := hM11.c 11 (by simp [msgC])
  have mz10 := hM11.f 10 (by simp [msgC])
  have mz11 := hM11.f 11 (by simp [msgC])
  obtain ⟨X11, hX11⟩ : ∃ X, X = (w11.setCell ⟨M, 10, none⟩ (.slice b1 nv c1)).setCell ⟨M, 11, none⟩ (.slice b2 nl c2) := ⟨_, rfl⟩
  have hz11 : X11.heap.size = w11.heap.size := by rw [hX11]; simp
  have HM11 := hide (show Blk X11 M (msgC a0 a1 a2 a3 a4 a5 (.slice none 0 0) a6 ok tx (.slice b1 nv c1) (.slice b2 nl c2)) from by rw [hX11]; exact (hM11.set 10 (by simp [msgC]) _).set 11 (by simp [msgC]) _)
  have HZ11 := hide (show Blk X11 w.heap.size zMsg from by rw [hX11]; exact (((unhide HZ10).call hb11).off (by omega) _).off (by omega) _)
  have HB11 := hide (show Below w.heap.size w X11 from by rw [hX11]; exact (((unhide HB10).trans (hb11.mono (by omega))).setCell (p := ⟨M, 10, none⟩) (show w.heap.size ≤ M by omega) _).setCell (p := ⟨M, 11, none⟩) (show w.heap.size ≤ M by omega) _)
  have HQ11 := hide (show QSt X11 (w.heap.size + 1) u10 f10 from by rw [hX11]; exact (((unhide HQ10).keep hb11).off (by omega) _).off (by omega) _)
  have ho11 : OnlyP (fun k => k = w.heap.size + 1 ∨ k = M) w11 X11 := by
    rw [hX11]
    have o1 : ∀ (X : World) (i : Nat) (v : Value), OnlyP (fun k => k = w.heap.size + 1 ∨ k = M) X (X.setCell ⟨M, i, none⟩ v) := fun X i v => have h := OnlyAt.setCell ⟨M, i, none⟩ X v; ⟨h.os, h.tape, h.output, h.size, fun k hk hn => h.block k hk (fun e => hn (.inr e))⟩
    exact (o1 _ _ _).trans (o1 _ _ _)
  have HN11 := hide (l12number_calls (w.heap.size + 1) s u10 p10 f10 X11 (unhide HQ11) (unhide HL10))
  have HX11 := hide hX11.symm
  have HVV := hide (And.intro (hv11.offP ho11 (fun g hg => by have := hvb11 g hg; omega)) (hl11.offP ho11 (fun g hg => by have := hlb11 g hg; omega)))
  have HVB := hide (And.intro hvb11 hlb11)
  clear hX11 hM11 hb11 hv11 hl11 hvb11 hlb11 ho11 HRC HM10 HZ10 HB10 HQ10
  go_wp2_with fail
  rw [unhide HX11]
  refine (unhide HN11).mono ?_
  unfold RdPost
  rintro e w12 ⟨n0, p12, u12, f12, rfl, hQ12, hL12, hm12, -, ho12⟩
  have hs12 := ho12.size
  have HM12 := hide ((unhide HM11).row ho12 (by omega))
  have HZ12 := hide ((unhide HZ11).row ho12 (by omega))
  have HB12 := hide ((unhide HB11).trans (ho12.belowQ (by omega) (by omega)))
  have ho12p : OnlyP (fun k => k = w.heap.size + 1 ∨ k = M) X11 w12 := OnlyP.row ho12 (fun g o e => .inl (by injection e with e; exact (congrArg Addr.block e).symm))
  obtain ⟨vb, lb⟩ := unhide HVB
  have HV12 := hide ((unhide HVV).1.offP ho12p (fun g hg => by have := vb g hg; omega))
  have HL2 := hide ((unhide HVV).2.offP ho12p (fun g hg => by have := lb g hg; omega))
  have HVX := hide (show ∀ g, inB b1 g → g ≠ w.heap.size ∧ g ≠ w.heap.size + 1 ∧ g ≠ M ∧ g < w12.heap.size from fun g hg => by have := vb g hg; omega)
  have HLX := hide (show ∀ g, inB b2 g → g ≠ w.heap.size ∧ g ≠ w.heap.size + 1 ∧ g ≠ M ∧ g < w12.heap.size from fun g hg => by have := lb g hg; omega)
  clear m10 m11 mz10 mz11 HN11 HM11 HZ11 HB11 HVV HVB HQ11 vb lb
  have hMz : M < w12.heap.size := by omega
  have hMQ : M ≠ w.heap.size + 1 := by omega
  cases f12 with
  | true =>
    have HN := hide (show rdS s = none from by
      unfold rdS hdA
      have hx := (unhide HH10).num hm12
      rcases hx with ⟨_, hx⟩ | ⟨hx, _⟩
      · unfold hd8; rw [hx]
      · cases hx)
    have q1 := hQ12.t1
    go_wp2_with fail
    go_loopw [6] (fun s6 wr => s6 = .int .i64 n0 ∧ wr = w12) (fun _ _ => 0)
    case atStart => exact ⟨rfl, rfl⟩
    case round =>
      obtain ⟨rfl, rfl⟩ := hrel
      have z0 : wr.cell? ⟨w.heap.size, 0, none⟩ = some (.int .i64 0) := (unhide HZ12).c 0 (by decide)
      have f0z : wr.frozen? ⟨w.heap.size, 0, none⟩ = false := (unhide HZ12).f 0 (by decide)
      have z1 : wr.cell? ⟨w.heap.size, 1, none⟩ = some (.int .i64 0) := (unhide HZ12).c 1 (by decide)
      have f1z : wr.frozen? ⟨w.heap.size, 1, none⟩ = false := (unhide HZ12).f 1 (by decide)
      have z2 : wr.cell? ⟨w.heap.size, 2, none⟩ = some (.int .i64 0) := (unhide HZ12).c 2 (by decide)
      have f2z : wr.frozen? ⟨w.heap.size, 2, none⟩ = false := (unhide HZ12).f 2 (by decide)
      have z3 : wr.cell? ⟨w.heap.size, 3, none⟩ = some (.int .i64 0) := (unhide HZ12).c 3 (by decide)
      have f3z : wr.frozen? ⟨w.heap.size, 3, none⟩ = false := (unhide HZ12).f 3 (by decide)
      have z4 : wr.cell? ⟨w.heap.size, 4, none⟩ = some (.int .i64 0) := (unhide HZ12).c 4 (by decide)
      have f4z : wr.frozen? ⟨w.heap.size, 4, none⟩ = false := (unhide HZ12).f 4 (by decide)
      have z5 : wr.cell? ⟨w.heap.size, 5, none⟩ = some (.int .i64 0) := (unhide HZ12).c 5 (by decide)
      have f5z : wr.frozen? ⟨w.heap.size, 5, none⟩ = false := (unhide HZ12).f 5 (by decide)
      have z6 : wr.cell? ⟨w.heap.size, 6, none⟩ = some (.slice none 0 0) := (unhide HZ12).c 6 (by decide)
      have f6z : wr.frozen? ⟨w.heap.size, 6, none⟩ = false := (unhide HZ12).f 6 (by decide)
      have z7 : wr.cell? ⟨w.heap.size, 7, none⟩ = some (.int .i64 0) := (unhide HZ12).c 7 (by decide)
      have f7z : wr.frozen? ⟨w.heap.size, 7, none⟩ = false := (unhide HZ12).f 7 (by decide)
      have z8 : wr.cell? ⟨w.heap.size, 8, none⟩ = some (.bool false) := (unhide HZ12).c 8 (by decide)
      have f8z : wr.frozen? ⟨w.heap.size, 8, none⟩ = false := (unhide HZ12).f 8 (by decide)
      have z9 : wr.cell? ⟨w.heap.size, 9, none⟩ = some (.string ⟨#[]⟩) := (unhide HZ12).c 9 (by decide)
      have f9z : wr.frozen? ⟨w.heap.size, 9, none⟩ = false := (unhide HZ12).f 9 (by decide)
      have z10 : wr.cell? ⟨w.heap.size, 10, none⟩ = some (.slice none 0 0) := (unhide HZ12).c 10 (by decide)
      have f10z : wr.frozen? ⟨w.heap.size, 10, none⟩ = false := (unhide HZ12).f 10 (by decide)
      have z11 : wr.cell? ⟨w.heap.size, 11, none⟩ = some (.slice none 0 0) := (unhide HZ12).c 11 (by decide)
      have f11z : wr.frozen? ⟨w.heap.size, 11, none⟩ = false := (unhide HZ12).f 11 (by decide)
      by_cases hn : 0 < n0
      all_goals
        go_wp2_with fail
        refine bodyPost_ret (v := .tuple #[.agg zMsg.toArray, .bool false]) ?_ rfl ?_
        · simp [results, Tryz.results5, go_sem, z0, z1, z2, z3, z4, z5, z6, z7, z8, z9, z10, z11, zMsg, msgC]
        · rw [unhide HN]
          exact ⟨rfl, (unhide HB12).trans ((only12 wr w.heap.size _ _ _ _ _ _ _ _ _ _ _ _).below (fun g hg => by omega) (by omega))⟩
  | false =>
    obtain ⟨hstp, hf10⟩ : stp s p10 = some (n0, p12) ∧ f10 = false := by
      rcases hm12 with ⟨h, _⟩ | ⟨_, h2, h3⟩
      · cases h
      · exact ⟨h3, h2⟩
    subst hf10
    obtain ⟨N, rfl, hN⟩ : ∃ N : Nat, n0 = (N : Int) ∧ N ≤ 1000000000000 := by
      unfold stp at hstp
      cases ht : tkN s p10 with
      | none => rw [ht] at hstp; simp at hstp
      | some y =>
        obtain ⟨v, l⟩ := y
        rw [ht] at hstp
        simp at hstp
        have := tkN_le ht
        exact ⟨v, hstp.1.symm, by omega⟩
    have HANS := hide (show rdS s = ansM s (hdT a0 a1 a2 a3 a4 a5 a6 a7 tx cf (N : Int)) (fiveEs s N 0 p12) from by
      unfold rdS hdA
      rcases unhide HH10 with ⟨h, _⟩ | ⟨_, h⟩
      · cases h
      · unfold hd8; rw [stN_some h hstp]; rfl)
    have HSL := hide (show SL w12.heap.size (w.heap.size + 1) M s p12 N N [] p12 u12 (fun v => msgC a0 a1 a2 a3 a4 a5 v a6 ok tx (.slice b1 nv c1) (.slice b2 nl c2)) (.slice none 0 0) w12 w12 from
      ⟨hQ12, hL12, ownR_nil _ _ _, unhide HM12, ⟨rfl, rfl, rfl, Nat.le_refl _, fun _ _ _ => rfl⟩, by show fiveEs s N 0 p12 = (fiveEs s N 0 p12).map _; cases fiveEs s N 0 p12 <;> simp, (fun e he => by cases he), Nat.zero_le _⟩)
    clear hQ12 hL12 hm12 ho12 ho12p HM12 HH10
    go_wp2_with fail
    go_loopw [6] (fun s6 wr => ∃ (k p : Nat) (es : List Ent) (u : ByteArray) (v : Value), s6 = .int .i64 k ∧ k ≤ N ∧ Hid (SL w12.heap.size (w.heap.size + 1) M s p12 N k es p u (fun v => msgC a0 a1 a2 a3 a4 a5 v a6 ok tx (.slice b1 nv c1) (.slice b2 nl c2)) v w12 wr)) (fun s6 _ => (intOf s6).toNat)
    case atStart => exact ⟨N, p12, [], u12, _, rfl, Nat.le_refl _, HSL⟩
    case round =>
      clear HSL
      obtain ⟨k, p, es, u, v, rfl, hk, HSL⟩ := hrel
      obtain ⟨av, cv, hv⟩ := (unhide HSL).own.form
      subst hv
      obtain ⟨l, hl⟩ : ∃ l, es.length = l := ⟨_, rfl⟩
      have hfew := (unhide HSL).few
      rw [hl] at HSL hfew
      have hsz := (unhide HSL).only.size
      have q0 := (unhide HSL).qs.t0
      have q1 := (unhide HSL).qs.t1
      have m6 : wr.cell? ⟨M, 6, none⟩ = some (.slice av l cv) := (unhide HSL).blk.c 6 (by simp [msgC])
      have m6z := (unhide HSL).blk.f 6 (by simp [msgC])
      have HZr := hide ((unhide HZ12).onlyP (unhide HSL).only (by omega))
      have HBr := hide (show Below w.heap.size w wr from (unhide HB12).trans ((unhide HSL).only.below (B := w.heap.size) (fun g hg => by omega) (by omega)))
      by_cases hgo : 0 < k ∧ l ≤ 8
      · obtain ⟨hk0, hl8⟩ := hgo
        have i0 : (0 : Int) < (k : Int) := by omega
        have i8 : (l : Int) ≤ 8 := by omega
        have HTX := hide (l12textE_calls (w.heap.size + 1) s u p false wr (unhide HSL).qs (unhide HSL).lf)
        go_wp2_with fail
        refine (unhide HTX).mono ?_
        unfold RdPostE
        rintro e w13 ⟨t, p13, u13, f13, rfl, hQ13, hL13, hm13, ht13, hte, ho13⟩
        have hs13 := ho13.size
        have HRF := hide (specRead_calls t w13 (by omega))
        have HM13 := hide ((unhide HSL).blk.row ho13 (by omega))
        have HZ13 := hide ((unhide HZr).row ho13 (by omega))
        have HB13 := hide ((unhide HBr).trans (ho13.belowQ (by omega) (by omega)))
        have ho13p : OnlyP (fun k => k = w.heap.size + 1 ∨ k = M) wr w13 := OnlyP.row ho13 (fun g o e => .inl (by injection e with e; exact (congrArg Addr.block e).symm))
        have HO13 := hide (ownOnly (unhide HSL).own ho13p (fun g hg => by have h1 := World.ownsRow.lt (unhide HSL).own g hg; omega))
        have HP13 := hide ((unhide HSL).only.trans ho13p)
        have HQ13 := hide hQ13
        have HL13 := hide hL13
        have HMO13 := hide hm13
        have HTE := hide hte
        clear hQ13 hL13 hm13 hte ho13 ho13p q0 q1 m6 m6z HTX
        go_wp2_with fail
        refine (unhide HRF).mono ?_
        rintro e w14 ⟨v14, rfl, hO14, hb14⟩
        obtain ⟨a14, c14, rfl⟩ := ownF_form hO14
        have hs14 := hb14.size
        have HFA := hide (hO14.at rfl)
        have HFSM := hide (show ∀ x ∈ (readF t).1, x.2.size ≤ t.size from Plain.run_small t 2001 0 0)
        obtain ⟨fl, hfl⟩ : ∃ n, (readF t).1.length = n := ⟨_, rfl⟩
        generalize (readF t).2.1 = rn
        generalize (readF t).2.2 = rc
        rw [hfl] at hO14 ⊢
        by_cases h1 : fl = 1
        · subst h1
          obtain ⟨fr, hfr⟩ : ∃ fr, (readF t).1 = [fr] := by
            match (readF t).1, hfl with
            | [y], _ => exact ⟨y, rfl⟩
          have hf13 : f13 = false := by
            cases f13 with
            | false => rfl
            | true =>
              exfalso
              have ht0 := unhide HTE rfl
              subst ht0
              have : (readF ⟨#[]⟩).1 = [] := by unfold readF; rw [run_end _ _ _ _ (by decide)]
              rw [this] at hfr
              cases hfr
          subst hf13
          have htxp : txp s p = some (t, p13) := by
            rcases unhide HMO13 with ⟨h, _⟩ | ⟨_, _, h⟩
            · cases h
            · exact h
          rw [hfr] at HFA HFSM
          obtain ⟨g, rfl, hgl, k0, k1, -, -⟩ := unhide HFA 0 (by simp)
          simp only [Nat.zero_mul, Nat.zero_add, List.getElem_cons_zero] at k0 k1
          have hfs : fr.2.size ≤ 1000000 := by have := unhide HFSM fr (by simp); omega
          obtain ⟨fk, fb⟩ := fr
          simp only [] at k0 k1 hfs
          have HFV := hide (show fiveEs s k l p = match fiveE (fk, fb) with
              | none => none
              | some e => (fiveEs s (k - 1) (l + 1) p13).map fun x => (e :: x.1, x.2) from by
            conv => lhs; rw [show k = (k - 1) + 1 from by omega]
            rw [fiveEs_one s (k - 1) l p hl8, htxp]
            simp only [hfr])
          have HLR := hide (l5Read_calls fk fb w14 (by omega))
          have HQ14 := hide ((unhide HQ13).keep hb14)
          have HM14 := hide ((unhide HM13).call hb14)
          have HZ14 := hide ((unhide HZ13).call hb14)
          have HO14 := hide ((unhide HO13).keep hb14)
          have HP14 := hide ((unhide HP13).trans (OnlyP.of hb14))
          have HB14 := hide ((unhide HB13).trans (hb14.mono (by omega)))
          clear hO14 hb14 HFA HFSM hfr HRF HMO13 HTE HQ13 HM13 HZ13 HO13 HP13 HB13
          go_wp2_with fail
          refine (unhide HLR).mono ?_
          rintro e w15 ⟨t1, t2, t3, okk, rfl, ht3, h5, hb15⟩
          obtain ⟨X16, hX16⟩ : ∃ X, X = w15.alloc (.cells #[.int .i64 t1, .int .i64 t2, .string t3] 51) := ⟨_, rfl⟩
          have hb16 : Below w14.heap.size w14 X16 := by rw [hX16]; exact belOn hb15 (bel1 _ _)
          have hz16 : X16.heap.size = w15.heap.size + 1 := by rw [hX16]; simp
          have hs15 := hb15.size
          have e0 : X16.cell? ⟨w15.heap.size, 0, none⟩ = some (.int .i64 t1) := by rw [hX16]; simp [go_sem]
          have e1 : X16.cell? ⟨w15.heap.size, 1, none⟩ = some (.int .i64 t2) := by rw [hX16]; simp [go_sem]
          have e2 : X16.cell? ⟨w15.heap.size, 2, none⟩ = some (.string t3) := by rw [hX16]; simp [go_sem]
          have hQ16 := (unhide HQ14).keep hb16
          have HM16 := hide ((unhide HM14).call hb16)
          have HZ16 := hide ((unhide HZ14).call hb16)
          have HO16 := hide ((unhide HO14).keep hb16)
          have HP16 := hide ((unhide HP14).trans (OnlyP.of hb16))
          have HB16 := hide ((unhide HB14).trans (hb16.mono (by omega)))
          have HQ16 := hide hQ16
          have HX16 := hide hX16.symm
          have m6 : X16.cell? ⟨M, 6, none⟩ = some (.slice av l cv) := (unhide HM16).c 6 (by simp [msgC])
          have m6z : X16.frozen? ⟨M, 6, none⟩ = false := (unhide HM16).f 6 (by simp [msgC])
          clear hX16 hb16 hb15 hQ16 HQ14 HM14 HZ14 HO14 HP14 HB14 HLR k0 k1
          cases okk with
          | false =>
            have HN := hide (show rdS s = none from by
              rw [if_neg (by decide)] at h5
              rw [unhide HANS, (unhide HSL).rows, hl, unhide HFV, h5]
              rfl)
            have z0 : X16.cell? ⟨w.heap.size, 0, none⟩ = some (.int .i64 0) := (unhide HZ16).c 0 (by decide)
            have f0z : X16.frozen? ⟨w.heap.size, 0, none⟩ = false := (unhide HZ16).f 0 (by decide)
            have z1 : X16.cell? ⟨w.heap.size, 1, none⟩ = some (.int .i64 0) := (unhide HZ16).c 1 (by decide)
            have f1z : X16.frozen? ⟨w.heap.size, 1, none⟩ = false := (unhide HZ16).f 1 (by decide)
            have z2 : X16.cell? ⟨w.heap.size, 2, none⟩ = some (.int .i64 0) := (unhide HZ16).c 2 (by decide)
            have f2z : X16.frozen? ⟨w.heap.size, 2, none⟩ = false := (unhide HZ16).f 2 (by decide)
            have z3 : X16.cell? ⟨w.heap.size, 3, none⟩ = some (.int .i64 0) := (unhide HZ16).c 3 (by decide)
            have f3z : X16.frozen? ⟨w.heap.size, 3, none⟩ = false := (unhide HZ16).f 3 (by decide)
            have z4 : X16.cell? ⟨w.heap.size, 4, none⟩ = some (.int .i64 0) := (unhide HZ16).c 4 (by decide)
            have f4z : X16.frozen? ⟨w.heap.size, 4, none⟩ = false := (unhide HZ16).f 4 (by decide)
            have z5 : X16.cell? ⟨w.heap.size, 5, none⟩ = some (.int .i64 0) := (unhide HZ16).c 5 (by decide)
            have f5z : X16.frozen? ⟨w.heap.size, 5, none⟩ = false := (unhide HZ16).f 5 (by decide)
            have z6 : X16.cell? ⟨w.heap.size, 6, none⟩ = some (.slice none 0 0) := (unhide HZ16).c 6 (by decide)
            have f6z : X16.frozen? ⟨w.heap.size, 6, none⟩ = false := (unhide HZ16).f 6 (by decide)
            have z7 : X16.cell? ⟨w.heap.size, 7, none⟩ = some (.int .i64 0) := (unhide HZ16).c 7 (by decide)
            have f7z : X16.frozen? ⟨w.heap.size, 7, none⟩ = false := (unhide HZ16).f 7 (by decide)
            have z8 : X16.cell? ⟨w.heap.size, 8, none⟩ = some (.bool false) := (unhide HZ16).c 8 (by decide)
            have f8z : X16.frozen? ⟨w.heap.size, 8, none⟩ = false := (unhide HZ16).f 8 (by decide)
            have z9 : X16.cell? ⟨w.heap.size, 9, none⟩ = some (.string ⟨#[]⟩) := (unhide HZ16).c 9 (by decide)
            have f9z : X16.frozen? ⟨w.heap.size, 9, none⟩ = false := (unhide HZ16).f 9 (by decide)
            have z10 : X16.cell? ⟨w.heap.size, 10, none⟩ = some (.slice none 0 0) := (unhide HZ16).c 10 (by decide)
            have f10z : X16.frozen? ⟨w.heap.size, 10, none⟩ = false := (unhide HZ16).f 10 (by decide)
            have z11 : X16.cell? ⟨w.heap.size, 11, none⟩ = some (.slice none 0 0) := (unhide HZ16).c 11 (by decide)
            have f11z : X16.frozen? ⟨w.heap.size, 11, none⟩ = false := (unhide HZ16).f 11 (by decide)
            rw [← unhide HX16] at z0 f0z z1 f1z z2 f2z z3 f3z z4 f4z z5 f5z z6 f6z z7 f7z z8 f8z z9 f9z z10 f10z z11 f11z
            clear e0 e1 e2 m6 m6z
            go_wp2_with fail
            rw [unhide HX16]
            rw [unhide HX16] at z0 f0z z1 f1z z2 f2z z3 f3z z4 f4z z5 f5z z6 f6z z7 f7z z8 f8z z9 f9z z10 f10z z11 f11z
            refine bodyPost_ret (v := .tuple #[.agg zMsg.toArray, .bool false]) ?_ rfl ?_
            · simp [results, Tryz.results5, go_sem, z0, z1, z2, z3, z4, z5, z6, z7, z8, z9, z10, z11, zMsg, msgC]
            · rw [unhide HN]
              exact ⟨rfl, (unhide HB16).trans ((only12 X16 w.heap.size _ _ _ _ _ _ _ _ _ _ _ _).below (fun g hg => by omega) (by omega))⟩
          | true =>
            rw [if_pos rfl] at h5
            have HF5 := hide h5
            have hlen : es.length < 100000000 := by omega
            have hz16b : w12.heap.size ≤ X16.heap.size := by have := (unhide HP16).size; omega
            clear h5
            have hB16 := unhide HX16
            have HQ17 := hide (fun (X : World) (hX : Below w12.heap.size X16 X) (v' : Value) => show QSt (X.setCell ⟨M, 6, none⟩ v') (w.heap.size + 1) u13 false from by
              have hl2 : w.heap.size + 1 < w12.heap.size := by omega
              exact QSt.off ⟨bclG hX hl2 (unhide HQ16).t0, bclG hX hl2 (unhide HQ16).t1, (hX.frozen (p := ⟨w.heap.size + 1, 0, none⟩) hl2).trans (unhide HQ16).z0, (hX.frozen (p := ⟨w.heap.size + 1, 1, none⟩) hl2).trans (unhide HQ16).z1⟩ (by omega) _)
            have HM17 := hide (fun (X : World) (hX : Below w12.heap.size X16 X) (v' : Value) => show Blk (X.setCell ⟨M, 6, none⟩ v') M (msgC a0 a1 a2 a3 a4 a5 v' a6 ok tx (.slice b1 nv c1) (.slice b2 nl c2)) from
              ((unhide HM16).below hX hMz).set 6 (by simp [msgC]) _)
            have HP17 := hide (fun (X : World) (hX : Below w12.heap.size X16 X) (v' : Value) => show OnlyP (fun k => k = w.heap.size + 1 ∨ k = M) w12 (X.setCell ⟨M, 6, none⟩ v') from by
              have h := OnlyAt.setCell ⟨M, 6, none⟩ X v'
              have h2 := (unhide HP16)
              exact ⟨h.os.trans (hX.os.trans h2.os), h.tape.trans (hX.tape.trans h2.tape), h.output.trans (hX.output.trans h2.output), Nat.le_trans h2.size (Nat.le_trans hX.size h.size), fun k hk hn => (h.block k (by have := hX.size; have := h2.size; omega) (fun e => hn (.inr e))).trans ((hX.block k hk).trans (h2.block k hk hn))⟩)
            have HR17 := hide (show fiveEs s N 0 p12 = (fiveEs s (k - 1) (es ++ [(⟨t1, t2, t3⟩ : Ent)]).length p13).map fun x => ((es ++ [(⟨t1, t2, t3⟩ : Ent)]) ++ x.1, x.2) from by
              rw [(unhide HSL).rows, hl, unhide HFV, unhide HF5, List.length_append, hl]
              simp only []
              show _ = (fiveEs s (k - 1) (l + 1) p13).map _
              cases fiveEs s (k - 1) (l + 1) p13 with
              | none => rfl
              | some y => simp)
            clear hB16
            rw [← unhide HX16] at e0 e1 e2 m6 m6z HO16 hz16b HQ17 HM17 HP17
            go_wp2_with (at_builtin; go_must (refine appR (e := entE) rfl _ _ rfl (unhide HO16) rfl ⟨t1, t2, t3⟩ rfl (w15.heap.size + 1) rfl (by simp) hlen hz16b ?_); intro v' w17 hown17 hb17 hg17; obtain ⟨a17, c17, hv'⟩ := hown17.form; rw [show (es ++ [(⟨t1, t2, t3⟩ : Ent)]).length = l + 1 from by rw [List.length_append, hl]; rfl] at hv'; subst hv'; have m17 := bclG hb17 hMz m6; have m17z := (hb17.frozen (p := ⟨M, 6, none⟩) hMz).trans m6z)
            go_roundw
            case rel =>
              refine ⟨k - 1, p13, es ++ [⟨t1, t2, t3⟩], u13, .slice a17 (l + 1) c17, by go_num, by omega, hide ⟨?_, unhide HL13, ?_, ?_, ?_, unhide HR17, ?_, ?_⟩⟩
              · exact unhide HQ17 _ hb17 _
              · exact ownSet hown17 hMz
              · exact unhide HM17 _ hb17 _
              · exact unhide HP17 _ hb17 _
              · intro y hy
                rcases List.mem_append.1 hy with hy | hy
                · exact (unhide HSL).small y hy
                · rw [List.mem_singleton.1 hy]; show t3.size ≤ _; omega
              · rw [List.length_append, hl]; simp; omega
            case measure => simp [intOf]; omega
        · have hne : ((fl : Int) == 1) = false := by rw [beq_eq_false_iff_ne]; omega
          have HN := hide (show rdS s = none from by
            have h5 : fiveEs s k l p = none := by
              rw [show k = (k - 1) + 1 from by omega, fiveEs_one s (k - 1) l p hl8]
              rcases unhide HMO13 with ⟨_, h | h⟩ | ⟨_, _, h⟩
              · cases h
              · rw [h]
              · rw [h]
                simp only []
                split
                · rename_i fr hfr
                  exact absurd (by rw [← hfl, hfr]; rfl) h1
                · rfl
            rw [unhide HANS, (unhide HSL).rows, hl, h5]
            rfl)
          have HZ14 := hide ((unhide HZ13).call hb14)
          have HB14 := hide ((unhide HB13).trans (hb14.mono (by omega)))
          have z0 : w14.cell? ⟨w.heap.size, 0, none⟩ = some (.int .i64 0) := (unhide HZ14).c 0 (by decide)
          have f0z : w14.frozen? ⟨w.heap.size, 0, none⟩ = false := (unhide HZ14).f 0 (by decide)
          have z1 : w14.cell? ⟨w.heap.size, 1, none⟩ = some (.int .i64 0) := (unhide HZ14).c 1 (by decide)
          have f1z : w14.frozen? ⟨w.heap.size, 1, none⟩ = false := (unhide HZ14).f 1 (by decide)
          have z2 : w14.cell? ⟨w.heap.size, 2, none⟩ = some (.int .i64 0) := (unhide HZ14).c 2 (by decide)
          have f2z : w14.frozen? ⟨w.heap.size, 2, none⟩ = false := (unhide HZ14).f 2 (by decide)
          have z3 : w14.cell? ⟨w.heap.size, 3, none⟩ = some (.int .i64 0) := (unhide HZ14).c 3 (by decide)
          have f3z : w14.frozen? ⟨w.heap.size, 3, none⟩ = false := (unhide HZ14).f 3 (by decide)
          have z4 : w14.cell? ⟨w.heap.size, 4, none⟩ = some (.int .i64 0) := (unhide HZ14).c 4 (by decide)
          have f4z : w14.frozen? ⟨w.heap.size, 4, none⟩ = false := (unhide HZ14).f 4 (by decide)
          have z5 : w14.cell? ⟨w.heap.size, 5, none⟩ = some (.int .i64 0) := (unhide HZ14).c 5 (by decide)
          have f5z : w14.frozen? ⟨w.heap.size, 5, none⟩ = false := (unhide HZ14).f 5 (by decide)
          have z6 : w14.cell? ⟨w.heap.size, 6, none⟩ = some (.slice none 0 0) := (unhide HZ14).c 6 (by decide)
          have f6z : w14.frozen? ⟨w.heap.size, 6, none⟩ = false := (unhide HZ14).f 6 (by decide)
          have z7 : w14.cell? ⟨w.heap.size, 7, none⟩ = some (.int .i64 0) := (unhide HZ14).c 7 (by decide)
          have f7z : w14.frozen? ⟨w.heap.size, 7, none⟩ = false := (unhide HZ14).f 7 (by decide)
          have z8 : w14.cell? ⟨w.heap.size, 8, none⟩ = some (.bool false) := (unhide HZ14).c 8 (by decide)
          have f8z : w14.frozen? ⟨w.heap.size, 8, none⟩ = false := (unhide HZ14).f 8 (by decide)
          have z9 : w14.cell? ⟨w.heap.size, 9, none⟩ = some (.string ⟨#[]⟩) := (unhide HZ14).c 9 (by decide)
          have f9z : w14.frozen? ⟨w.heap.size, 9, none⟩ = false := (unhide HZ14).f 9 (by decide)
          have z10 : w14.cell? ⟨w.heap.size, 10, none⟩ = some (.slice none 0 0) := (unhide HZ14).c 10 (by decide)
          have f10z : w14.frozen? ⟨w.heap.size, 10, none⟩ = false := (unhide HZ14).f 10 (by decide)
          have z11 : w14.cell? ⟨w.heap.size, 11, none⟩ = some (.slice none 0 0) := (unhide HZ14).c 11 (by decide)
          have f11z : w14.frozen? ⟨w.heap.size, 11, none⟩ = false := (unhide HZ14).f 11 (by decide)
          clear hO14 hb14 HFA
          go_wp2_with fail
          refine bodyPost_ret (v := .tuple #[.agg zMsg.toArray, .bool false]) ?_ rfl ?_
          · simp [results, Tryz.results5, go_sem, z0, z1, z2, z3, z4, z5, z6, z7, z8, z9, z10, z11, zMsg, msgC]
          · rw [unhide HN]
            exact ⟨rfl, (unhide HB14).trans ((only12 w14 w.heap.size _ _ _ _ _ _ _ _ _ _ _ _).below (fun g hg => by omega) (by omega))⟩
      · have HAN := hide (show rdS s = ansM s (hdT a0 a1 a2 a3 a4 a5 a6 a7 tx cf (N : Int)) (some (es, p)) from by
          have h5 : fiveEs s k l p = some ([], p) := by
            rcases Nat.eq_zero_or_pos k with h | h
            · subst h; rfl
            · rw [show k = (k - 1) + 1 from by omega, fiveEs, if_pos (by omega)]
          rw [unhide HANS, (unhide HSL).rows, hl, h5]
          simp)
        obtain ⟨hu, hpz⟩ := (unhide HSL).lf.2 rfl
        obtain ⟨em, hem⟩ : ∃ em : Bool, u.toList.isEmpty = em := ⟨_, rfl⟩
        have HEM := hide (show em = true ↔ p = s.size from by rw [← hem, List.isEmpty_iff, hu]; exact rest_nil s p hpz)
        have HMT := hide (spec_MsgText a0 a1 a2 a3 a4 a5 a6 ok tx av l cv es b1 nv c1 V b2 nl c2 L wr (by omega) hl (by omega) (unhide HSL).small (unhide HSL).own.at ⟨⟨(unhide HV12).offP (unhide HSL).only (fun g hg => by have := unhide HVX g hg; omega), hnv, by omega⟩, ⟨(unhide HL2).offP (unhide HSL).only (fun g hg => by have := unhide HLX g hg; omega), hnl, by omega⟩⟩)
        obtain ⟨TT, hTT⟩ : ∃ TT, strL (msgL (numsM a0 a1 a2 a3 a4 a5 a6 ok) tx es V L) = TT := ⟨_, rfl⟩
        rw [hTT] at HMT
        have HTT := hide hTT
        have HRW := hide (show RowAt entE wr av es ∧ RowAt i64E wr b1 V ∧ RowAt i64E wr b2 L from ⟨(unhide HSL).own.at, (unhide HV12).offP (unhide HSL).only (fun g hg => by have := unhide HVX g hg; omega), (unhide HL2).offP (unhide HSL).only (fun g hg => by have := unhide HLX g hg; omega)⟩)
        have HEX := hide (show ∀ g, inB av g → g ≠ w.heap.size from fun g hg => by have := ((unhide HSL).own.bl g hg).1; omega)
        clear hTT hu m6 m6z
        have m0 : wr.cell? ⟨M, 0, none⟩ = some (.int .i64 a0) := (unhide HSL).blk.c 0 (by simp [msgC])
        have m1 : wr.cell? ⟨M, 1, none⟩ = some (.int .i64 a1) := (unhide HSL).blk.c 1 (by simp [msgC])
        have m2 : wr.cell? ⟨M, 2, none⟩ = some (.int .i64 a2) := (unhide HSL).blk.c 2 (by simp [msgC])
        have m3 : wr.cell? ⟨M, 3, none⟩ = some (.int .i64 a3) := (unhide HSL).blk.c 3 (by simp [msgC])
        have m4 : wr.cell? ⟨M, 4, none⟩ = some (.int .i64 a4) := (unhide HSL).blk.c 4 (by simp [msgC])
        have m5 : wr.cell? ⟨M, 5, none⟩ = some (.int .i64 a5) := (unhide HSL).blk.c 5 (by simp [msgC])
        have m6 : wr.cell? ⟨M, 6, none⟩ = some (.slice av l cv) := (unhide HSL).blk.c 6 (by simp [msgC])
        have m7 : wr.cell? ⟨M, 7, none⟩ = some (.int .i64 a6) := (unhide HSL).blk.c 7 (by simp [msgC])
        have m8 : wr.cell? ⟨M, 8, none⟩ = some (.bool ok) := (unhide HSL).blk.c 8 (by simp [msgC])
        have m9 : wr.cell? ⟨M, 9, none⟩ = some (.string tx) := (unhide HSL).blk.c 9 (by simp [msgC])
        have m10 : wr.cell? ⟨M, 10, none⟩ = some (.slice b1 nv c1) := (unhide HSL).blk.c 10 (by simp [msgC])
        have m11 : wr.cell? ⟨M, 11, none⟩ = some (.slice b2 nl c2) := (unhide HSL).blk.c 11 (by simp [msgC])
        by_cases hk0 : k = 0
        case' pos => subst hk0
        case' neg =>
          have i0 : (0 : Int) < (k : Int) := by omega
          have i8 : decide ((l : Int) ≤ 8) = false := by rw [decide_eq_false_iff_not]; omega
        all_goals
          cases em with
          | false =>
            have HN := hide (show rdS s = none from by
              rw [unhide HAN]
              exact ansM_noS (fun h => by have := (unhide HEM).2 h.1; cases this))
            have z0 : wr.cell? ⟨w.heap.size, 0, none⟩ = some (.int .i64 0) := (unhide HZr).c 0 (by decide)
            have f0z : wr.frozen? ⟨w.heap.size, 0, none⟩ = false := (unhide HZr).f 0 (by decide)
            have z1 : wr.cell? ⟨w.heap.size, 1, none⟩ = some (.int .i64 0) := (unhide HZr).c 1 (by decide)
            have f1z : wr.frozen? ⟨w.heap.size, 1, none⟩ = false := (unhide HZr).f 1 (by decide)
            have z2 : wr.cell? ⟨w.heap.size, 2, none⟩ = some (.int .i64 0) := (unhide HZr).c 2 (by decide)
            have f2z : wr.frozen? ⟨w.heap.size, 2, none⟩ = false := (unhide HZr).f 2 (by decide)
            have z3 : wr.cell? ⟨w.heap.size, 3, none⟩ = some (.int .i64 0) := (unhide HZr).c 3 (by decide)
            have f3z : wr.frozen? ⟨w.heap.size, 3, none⟩ = false := (unhide HZr).f 3 (by decide)
            have z4 : wr.cell? ⟨w.heap.size, 4, none⟩ = some (.int .i64 0) := (unhide HZr).c 4 (by decide)
            have f4z : wr.frozen? ⟨w.heap.size, 4, none⟩ = false := (unhide HZr).f 4 (by decide)
            have z5 : wr.cell? ⟨w.heap.size, 5, none⟩ = some (.int .i64 0) := (unhide HZr).c 5 (by decide)
            have f5z : wr.frozen? ⟨w.heap.size, 5, none⟩ = false := (unhide HZr).f 5 (by decide)
            have z6 : wr.cell? ⟨w.heap.size, 6, none⟩ = some (.slice none 0 0) := (unhide HZr).c 6 (by decide)
            have f6z : wr.frozen? ⟨w.heap.size, 6, none⟩ = false := (unhide HZr).f 6 (by decide)
            have z7 : wr.cell? ⟨w.heap.size, 7, none⟩ = some (.int .i64 0) := (unhide HZr).c 7 (by decide)
            have f7z : wr.frozen? ⟨w.heap.size, 7, none⟩ = false := (unhide HZr).f 7 (by decide)
            have z8 : wr.cell? ⟨w.heap.size, 8, none⟩ = some (.bool false) := (unhide HZr).c 8 (by decide)
            have f8z : wr.frozen? ⟨w.heap.size, 8, none⟩ = false := (unhide HZr).f 8 (by decide)
            have z9 : wr.cell? ⟨w.heap.size, 9, none⟩ = some (.string ⟨#[]⟩) := (unhide HZr).c 9 (by decide)
            have f9z : wr.frozen? ⟨w.heap.size, 9, none⟩ = false := (unhide HZr).f 9 (by decide)
            have z10 : wr.cell? ⟨w.heap.size, 10, none⟩ = some (.slice none 0 0) := (unhide HZr).c 10 (by decide)
            have f10z : wr.frozen? ⟨w.heap.size, 10, none⟩ = false := (unhide HZr).f 10 (by decide)
            have z11 : wr.cell? ⟨w.heap.size, 11, none⟩ = some (.slice none 0 0) := (unhide HZr).c 11 (by decide)
            have f11z : wr.frozen? ⟨w.heap.size, 11, none⟩ = false := (unhide HZr).f 11 (by decide)
            go_wp2_with fail
            refine bodyPost_ret (v := .tuple #[.agg zMsg.toArray, .bool false]) ?_ rfl ?_
            · simp [results, Tryz.results5, go_sem, z0, z1, z2, z3, z4, z5, z6, z7, z8, z9, z10, z11, zMsg, msgC]
            · rw [unhide HN]
              exact ⟨rfl, (unhide HBr).trans ((only12 wr w.heap.size _ _ _ _ _ _ _ _ _ _ _ _).below (fun g hg => by omega) (by omega))⟩
          | true =>
            go_wp2_with fail
            refine (unhide HMT).mono ?_
            rintro e w20 ⟨rfl, hb20⟩
            have hs20 := hb20.size
            have HZ20 := hide ((unhide HZr).call hb20)
            have HM20 := hide ((unhide HSL).blk.call hb20)
            have HB20 := hide ((unhide HBr).trans (hb20.mono (by omega)))
            clear m0 m1 m2 m3 m4 m5 m6 m7 m8 m9 m10 m11 q0 q1
            have z0 : w20.cell? ⟨w.heap.size, 0, none⟩ = some (.int .i64 0) := (unhide HZ20).c 0 (by decide)
            have f0z : w20.frozen? ⟨w.heap.size, 0, none⟩ = false := (unhide HZ20).f 0 (by decide)
            have z1 : w20.cell? ⟨w.heap.size, 1, none⟩ = some (.int .i64 0) := (unhide HZ20).c 1 (by decide)
            have f1z : w20.frozen? ⟨w.heap.size, 1, none⟩ = false := (unhide HZ20).f 1 (by decide)
            have z2 : w20.cell? ⟨w.heap.size, 2, none⟩ = some (.int .i64 0) := (unhide HZ20).c 2 (by decide)
            have f2z : w20.frozen? ⟨w.heap.size, 2, none⟩ = false := (unhide HZ20).f 2 (by decide)
            have z3 : w20.cell? ⟨w.heap.size, 3, none⟩ = some (.int .i64 0) := (unhide HZ20).c 3 (by decide)
            have f3z : w20.frozen? ⟨w.heap.size, 3, none⟩ = false := (unhide HZ20).f 3 (by decide)
            have z4 : w20.cell? ⟨w.heap.size, 4, none⟩ = some (.int .i64 0) := (unhide HZ20).c 4 (by decide)
            have f4z : w20.frozen? ⟨w.heap.size, 4, none⟩ = false := (unhide HZ20).f 4 (by decide)
            have z5 : w20.cell? ⟨w.heap.size, 5, none⟩ = some (.int .i64 0) := (unhide HZ20).c 5 (by decide)
            have f5z : w20.frozen? ⟨w.heap.size, 5, none⟩ = false := (unhide HZ20).f 5 (by decide)
            have z6 : w20.cell? ⟨w.heap.size, 6, none⟩ = some (.slice none 0 0) := (unhide HZ20).c 6 (by decide)
            have f6z : w20.frozen? ⟨w.heap.size, 6, none⟩ = false := (unhide HZ20).f 6 (by decide)
            have z7 : w20.cell? ⟨w.heap.size, 7, none⟩ = some (.int .i64 0) := (unhide HZ20).c 7 (by decide)
            have f7z : w20.frozen? ⟨w.heap.size, 7, none⟩ = false := (unhide HZ20).f 7 (by decide)
            have z8 : w20.cell? ⟨w.heap.size, 8, none⟩ = some (.bool false) := (unhide HZ20).c 8 (by decide)
            have f8z : w20.frozen? ⟨w.heap.size, 8, none⟩ = false := (unhide HZ20).f 8 (by decide)
            have z9 : w20.cell? ⟨w.heap.size, 9, none⟩ = some (.string ⟨#[]⟩) := (unhide HZ20).c 9 (by decide)
            have f9z : w20.frozen? ⟨w.heap.size, 9, none⟩ = false := (unhide HZ20).f 9 (by decide)
            have z10 : w20.cell? ⟨w.heap.size, 10, none⟩ = some (.slice none 0 0) := (unhide HZ20).c 10 (by decide)
            have f10z : w20.frozen? ⟨w.heap.size, 10, none⟩ = false := (unhide HZ20).f 10 (by decide)
            have z11 : w20.cell? ⟨w.heap.size, 11, none⟩ = some (.slice none 0 0) := (unhide HZ20).c 11 (by decide)
            have f11z : w20.frozen? ⟨w.heap.size, 11, none⟩ = false := (unhide HZ20).f 11 (by decide)
            have m0 : w20.cell? ⟨M, 0, none⟩ = some (.int .i64 a0) := (unhide HM20).c 0 (by simp [msgC])
            have m1 : w20.cell? ⟨M, 1, none⟩ = some (.int .i64 a1) := (unhide HM20).c 1 (by simp [msgC])
            have m2 : w20.cell? ⟨M, 2, none⟩ = some (.int .i64 a2) := (unhide HM20).c 2 (by simp [msgC])
            have m3 : w20.cell? ⟨M, 3, none⟩ = some (.int .i64 a3) := (unhide HM20).c 3 (by simp [msgC])
            have m4 : w20.cell? ⟨M, 4, none⟩ = some (.int .i64 a4) := (unhide HM20).c 4 (by simp [msgC])
            have m5 : w20.cell? ⟨M, 5, none⟩ = some (.int .i64 a5) := (unhide HM20).c 5 (by simp [msgC])
            have m6 : w20.cell? ⟨M, 6, none⟩ = some (.slice av l cv) := (unhide HM20).c 6 (by simp [msgC])
            have m7 : w20.cell? ⟨M, 7, none⟩ = some (.int .i64 a6) := (unhide HM20).c 7 (by simp [msgC])
            have m8 : w20.cell? ⟨M, 8, none⟩ = some (.bool ok) := (unhide HM20).c 8 (by simp [msgC])
            have m9 : w20.cell? ⟨M, 9, none⟩ = some (.string tx) := (unhide HM20).c 9 (by simp [msgC])
            have m10 : w20.cell? ⟨M, 10, none⟩ = some (.slice b1 nv c1) := (unhide HM20).c 10 (by simp [msgC])
            have m11 : w20.cell? ⟨M, 11, none⟩ = some (.slice b2 nl c2) := (unhide HM20).c 11 (by simp [msgC])
            by_cases hT : TT = s
            · subst hT
              have HN := hide (show rdS TT = some ⟨a0, a1, a2, a3, a4, a5, a6, ok, tx, es, V, L⟩ from by
                rw [unhide HAN, ansM_yesS ⟨(unhide HEM).1 (by trivial), ?_⟩, unhide HMO]
                rw [unhide HMO]
                exact unhide HTT)
              have HR20 := hide (And.intro ((unhide HRW).1.below hb20) (And.intro ((unhide HRW).2.1.below hb20) ((unhide HRW).2.2.below hb20)))
              clear hb20
              go_wp2_with fail
              refine bodyPost_ret (v := .tuple #[mVS ⟨a0, a1, a2, a3, a4, a5, a6, ok, tx, es, V, L⟩ av cv b1 c1 b2 c2, .bool true]) ?_ rfl ?_
              · unfold mVS
                simp only [hl, hnv, hnl]
                simp [results, Tryz.results5, go_sem, z0, z1, z2, z3, z4, z5, z6, z7, z8, z9, z10, z11, msgC]
              · rw [unhide HN]
                have ho20 := only12 w20 w.heap.size (.int .i64 a0) (.int .i64 a1) (.int .i64 a2) (.int .i64 a3) (.int .i64 a4) (.int .i64 a5) (.slice av l cv) (.int .i64 a6) (.bool ok) (.string tx) (.slice b1 nv c1) (.slice b2 nl c2)
                exact ⟨av, cv, b1, c1, b2, c2, rfl, ⟨(unhide HR20).1.offP ho20 (fun g hg => unhide HEX g hg), (unhide HR20).2.1.offP ho20 (fun g hg => (unhide HVX g hg).1), (unhide HR20).2.2.offP ho20 (fun g hg => (unhide HLX g hg).1)⟩, (unhide HB20).trans (ho20.below (fun g hg => by omega) (by omega))⟩
            · have hbe : (TT.toList == s.toList) = false := by
                rw [beq_eq_false_iff_ne]
                intro h
                rw [ByteArray.toList_eq, ByteArray.toList_eq] at h
                exact hT (ByteArray.ext (Array.toList_inj.1 h))
              have HN := hide (show rdS s = none from by
                rw [unhide HAN]
                refine ansM_noS (fun h => hT ?_)
                rw [unhide HMO] at h
                exact (unhide HTT).symm.trans h.2)
              clear hb20
              go_wp2_with fail
              refine bodyPost_ret (v := .tuple #[.agg zMsg.toArray, .bool false]) ?_ rfl ?_
              · simp [results, Tryz.results5, go_sem, z0, z1, z2, z3, z4, z5, z6, z7, z8, z9, z10, z11, zMsg, msgC]
              · rw [unhide HN]
                exact ⟨rfl, (unhide HB20).trans ((only12 w20 w.heap.size _ _ _ _ _ _ _ _ _ _ _ _).below (fun g hg => by omega) (by omega))⟩
end Go.Proofs.YtjiclgcohpkkjaaGreatDoor
