/- Texts of one kind, put together. -/
import Derived.Test.YtiakhgafibgpgaaDoorEntR
import Derived.Test.YtiakhgafibgpgaaDoorConR
import Derived.Test.YtiakhgafibgpgaaDoorBlk
import Derived.WalkKit
import Derived.Lib.SmallJoins

/- Messages, as the exact laws copy, measure and compare them. -/
namespace Go.Proofs.YtiakhgafibgpgaaDoor
open Go.RowKit Plain
set_option linter.unusedVariables false

namespace Plain
/-- A message among the arguments. -/
structure MsgArg (W : World) (tx : ByteArray) (ae : Option Addr) (ne ce : Nat) (es : List Ent) (av : Option Addr) (nv cv : Nat) (v : List Int) (al : Option Addr) (nl cl : Nat) (l : List Int) : Prop where
  t : tx.size ≤ maxLen
  e : ArgRow 3 entL goodE W ae ne ce es
  c : ConfArg W av nv cv v al nl cl l
theorem MsgArg.below {W W' : World} {tx : ByteArray} {ae : Option Addr} {ne ce : Nat} {es : List Ent} {av : Option Addr} {nv cv : Nat} {v : List Int} {al : Option Addr} {nl cl : Nat} {l : List Int} (h : MsgArg W tx ae ne ce es av nv cv v al nl cl l) (hb : Below W.heap.size W W') : MsgArg W' tx ae ne ce es av nv cv v al nl cl l :=
  ⟨h.t, ⟨h.e.len, h.e.le, h.e.good, h.e.row.below hb⟩, h.c.below hb⟩
/-- How many bytes and elements a message has. -/
def totM (tx : ByteArray) (es : List Ent) (nv nl : Nat) : Nat := (es.length + totE es) + (tx.size + (nv + nl))
end Plain
/-- What toMsg leaves. -/
def ToMsg (kd fr tt tm ix lg cm : Int) (ok : Bool) (tx : ByteArray) (ne : Nat) (es : List Ent) (nv : Nat) (v : List Int) (nl : Nat) (l : List Int) (w : World) (e : Ending) (w' : World) : Prop :=
  ∃ g1 g2 g3, e = .returned (.agg #[.int .i64 kd, .int .i64 fr, .int .i64 tt, .int .i64 tm, .int .i64 ix, .int .i64 lg, .slice (some ⟨g1, 0, none⟩) ne ne, .int .i64 cm, .bool ok, .string tx, .slice (some ⟨g2, 0, none⟩) nv nv, .slice (some ⟨g3, 0, none⟩) nl nl]) ∧ OwnR entE w' w.heap.size (.slice (some ⟨g1, 0, none⟩) ne ne) es ∧ OwnR i64E w' w.heap.size (.slice (some ⟨g2, 0, none⟩) nv nv) v ∧ OwnR i64E w' w.heap.size (.slice (some ⟨g3, 0, none⟩) nl nl) l ∧ Below w.heap.size w w'

set_option maxRecDepth 10000 in
set_option maxHeartbeats 4000000 in
theorem toMsg_calls (kd fr tt tm ix lg cm : Int) (ok : Bool) (tx : ByteArray) (ae : Option Addr) (ne ce : Nat) (es : List Ent) (av : Option Addr) (nv cv : Nat) (v : List Int) (al : Option Addr) (nl cl : Nat) (l : List Int) (w : World) (h : MsgArg w tx ae ne ce es av nv cv v al nl cl l) (he : ne ≤ 1048576) (hv : nv ≤ 1048576) (hl : nl ≤ 1048576) :
    Calls Tryd.prog 6 #[.agg #[.int .i64 kd, .int .i64 fr, .int .i64 tt, .int .i64 tm, .int .i64 ix, .int .i64 lg, .slice ae ne ce, .int .i64 cm, .bool ok, .string tx, .slice av nv cv, .slice al nl cl]] w (ToMsg kd fr tt tm ix lg cm ok tx ne es nv v nl l w) := by
  obtain ⟨W3, hW3⟩ : ∃ W3, W3 = (((w.alloc (.cells #[.int .i64 kd, .int .i64 fr, .int .i64 tt, .int .i64 tm, .int .i64 ix, .int .i64 lg, .slice ae ne ce, .int .i64 cm, .bool ok, .string tx, .slice av nv cv, .slice al nl cl] 27)).alloc (.cells #[.int .i64 0, .int .i64 0, .int .i64 0, .int .i64 0, .int .i64 0, .int .i64 0, .slice none 0 0, .int .i64 0, .bool false, .string ⟨#[]⟩, .slice none 0 0, .slice none 0 0] 33)).alloc (.cells #[.int .i64 kd, .int .i64 fr, .int .i64 tt, .int .i64 tm, .int .i64 ix, .int .i64 lg, .slice none 0 0, .int .i64 0, .bool false, .string ⟨#[]⟩, .slice none 0 0, .slice none 0 0] 33)) := ⟨_, rfl⟩
  have hb3 : Below w.heap.size w W3 := by rw [hW3]; exact belOn (belOn (bel1 _ _) (bel1 _ _)) (bel1 _ _)
  have hz3 : W3.heap.size = w.heap.size + 3 := by rw [hW3]; simp
  have A3 : Blk W3 w.heap.size [.int .i64 kd, .int .i64 fr, .int .i64 tt, .int .i64 tm, .int .i64 ix, .int .i64 lg, .slice ae ne ce, .int .i64 cm, .bool ok, .string tx, .slice av nv cv, .slice al nl cl] := by rw [hW3]; exact ((Blk.new w _ _).alloc _).alloc _
  have R3 : Blk W3 (w.heap.size + 1) [.int .i64 0, .int .i64 0, .int .i64 0, .int .i64 0, .int .i64 0, .int .i64 0, .slice none 0 0, .int .i64 0, .bool false, .string ⟨#[]⟩, .slice none 0 0, .slice none 0 0] := by
    rw [hW3]
    have := (Blk.new (w.alloc (.cells #[.int .i64 kd, .int .i64 fr, .int .i64 tt, .int .i64 tm, .int .i64 ix, .int .i64 lg, .slice ae ne ce, .int .i64 cm, .bool ok, .string tx, .slice av nv cv, .slice al nl cl] 27)) [.int .i64 0, .int .i64 0, .int .i64 0, .int .i64 0, .int .i64 0, .int .i64 0, .slice none 0 0, .int .i64 0, .bool false, .string ⟨#[]⟩, .slice none 0 0, .slice none 0 0] 33).alloc (.cells #[.int .i64 kd, .int .i64 fr, .int .i64 tt, .int .i64 tm, .int .i64 ix, .int .i64 lg, .slice none 0 0, .int .i64 0, .bool false, .string ⟨#[]⟩, .slice none 0 0, .slice none 0 0] 33)
    simpa using this
  have O3 : Blk W3 (w.heap.size + 2) [.int .i64 kd, .int .i64 fr, .int .i64 tt, .int .i64 tm, .int .i64 ix, .int .i64 lg, .slice none 0 0, .int .i64 0, .bool false, .string ⟨#[]⟩, .slice none 0 0, .slice none 0 0] := by
    rw [hW3]
    have := Blk.new ((w.alloc (.cells #[.int .i64 kd, .int .i64 fr, .int .i64 tt, .int .i64 tm, .int .i64 ix, .int .i64 lg, .slice ae ne ce, .int .i64 cm, .bool ok, .string tx, .slice av nv cv, .slice al nl cl] 27)).alloc (.cells #[.int .i64 0, .int .i64 0, .int .i64 0, .int .i64 0, .int .i64 0, .int .i64 0, .slice none 0 0, .int .i64 0, .bool false, .string ⟨#[]⟩, .slice none 0 0, .slice none 0 0] 33)) [.int .i64 kd, .int .i64 fr, .int .i64 tt, .int .i64 tm, .int .i64 ix, .int .i64 lg, .slice none 0 0, .int .i64 0, .bool false, .string ⟨#[]⟩, .slice none 0 0, .slice none 0 0] 33
    simpa using this
  have HW := hide hW3.symm
  have H1 := hide (toEntryS_calls ae ne ce es W3 h.e.len he (h.below hb3).e.row)
  have H2 := hide (fun W hW => toConf_calls av nv cv v al nl cl l W (h.below hW).c hv hl)
  have HB3 := hide hb3
  have HA3 := hide A3
  have HR3 := hide R3
  have HO3 := hide O3
  have HZ3 := hide hz3
  clear hW3 hb3 A3 R3 O3 hz3 h
  go_enter Tryd.func6, Tryd.ntmps6
  go_wp2_with fail
  rw [unhide HW]
  refine (unhide H1).mono ?_
  rintro e w4 ⟨g1, rfl, hO4, hb4⟩
  have hg1 := World.ownsRow.lt hO4 g1 rfl
  have hz3 := unhide HZ3
  have hz4 := hb4.size
  have A4 := (unhide HA3).call hb4
  have R4 := (unhide HR3).call hb4
  have O4 := (unhide HO3).call hb4
  obtain ⟨W5, hW5⟩ : ∃ W5, W5 = (((w4.setCell ⟨w.heap.size + 1 + 1, 6, none⟩ (.slice (some ⟨g1, 0, none⟩) ne ne)).setCell ⟨w.heap.size + 1 + 1, 7, none⟩ (.int .i64 cm)).setCell ⟨w.heap.size + 1 + 1, 8, none⟩ (.bool ok)).setCell ⟨w.heap.size + 1 + 1, 9, none⟩ (.string tx) := ⟨_, rfl⟩
  have A5 : Blk W5 w.heap.size [.int .i64 kd, .int .i64 fr, .int .i64 tt, .int .i64 tm, .int .i64 ix, .int .i64 lg, .slice ae ne ce, .int .i64 cm, .bool ok, .string tx, .slice av nv cv, .slice al nl cl] := by rw [hW5]; exact (((A4.off (by omega) _).off (by omega) _).off (by omega) _).off (by omega) _
  have R5 : Blk W5 (w.heap.size + 1) [.int .i64 0, .int .i64 0, .int .i64 0, .int .i64 0, .int .i64 0, .int .i64 0, .slice none 0 0, .int .i64 0, .bool false, .string ⟨#[]⟩, .slice none 0 0, .slice none 0 0] := by rw [hW5]; exact (((R4.off (by omega) _).off (by omega) _).off (by omega) _).off (by omega) _
  have O5 : Blk W5 (w.heap.size + 2) [.int .i64 kd, .int .i64 fr, .int .i64 tt, .int .i64 tm, .int .i64 ix, .int .i64 lg, .slice (some ⟨g1, 0, none⟩) ne ne, .int .i64 cm, .bool ok, .string tx, .slice none 0 0, .slice none 0 0] := by rw [hW5]; exact (((O4.set 6 (by simp) (.slice (some ⟨g1, 0, none⟩) ne ne)).set 7 (by simp) (.int .i64 cm)).set 8 (by simp) (.bool ok)).set 9 (by simp) (.string tx)
  have P5 : OwnR entE W5 W3.heap.size (.slice (some ⟨g1, 0, none⟩) ne ne) es := by rw [hW5]; exact (((hO4.off2 (by omega)).off2 (by omega)).off2 (by omega)).off2 (by omega)
  have hz5 : W5.heap.size = w4.heap.size := by rw [hW5]; simp
  have hb5 : Below w.heap.size w W5 := by rw [hW5]; exact (((((unhide HB3).trans (hb4.mono (by omega))).setCell (by simp; omega) _).setCell (by simp; omega) _).setCell (by simp; omega) _).setCell (by simp; omega) _
  have q7 : w4.cell? ⟨w.heap.size, 7, none⟩ = some (.int .i64 cm) := A4.c 7 (by simp)
  have q8 : w4.cell? ⟨w.heap.size, 8, none⟩ = some (.bool ok) := A4.c 8 (by simp)
  have q9 : w4.cell? ⟨w.heap.size, 9, none⟩ = some (.string tx) := A4.c 9 (by simp)
  have q10 : w4.cell? ⟨w.heap.size, 10, none⟩ = some (.slice av nv cv) := A4.c 10 (by simp)
  have q11 : w4.cell? ⟨w.heap.size, 11, none⟩ = some (.slice al nl cl) := A4.c 11 (by simp)
  have u6 : w4.cell? ⟨w.heap.size + 2, 6, none⟩ = some (.slice none 0 0) := O4.c 6 (by simp)
  have y6 : w4.frozen? ⟨w.heap.size + 2, 6, none⟩ = false := O4.f 6 (by simp)
  have u7 : w4.cell? ⟨w.heap.size + 2, 7, none⟩ = some (.int .i64 0) := O4.c 7 (by simp)
  have y7 : w4.frozen? ⟨w.heap.size + 2, 7, none⟩ = false := O4.f 7 (by simp)
  have u8 : w4.cell? ⟨w.heap.size + 2, 8, none⟩ = some (.bool false) := O4.c 8 (by simp)
  have y8 : w4.frozen? ⟨w.heap.size + 2, 8, none⟩ = false := O4.f 8 (by simp)
  have u9 : w4.cell? ⟨w.heap.size + 2, 9, none⟩ = some (.string ⟨#[]⟩) := O4.c 9 (by simp)
  have y9 : w4.frozen? ⟨w.heap.size + 2, 9, none⟩ = false := O4.f 9 (by simp)
  have HW5 := hide hW5.symm
  have HA5 := hide A5
  have HR5 := hide R5
  have HO5 := hide O5
  have HP5 := hide P5
  have HB5 := hide hb5
  have H3 := hide (unhide H2 _ hb5)
  have HZ5 := hide (show W3.heap.size ≤ W5.heap.size by omega)
  clear A4 R4 O4 A5 R5 O5 P5 hW5 hb5 hz5 hb4 hO4 H1 H2 hz4 hz3
  go_wp2_with fail
  rw [unhide HW5]
  refine (unhide H3).mono ?_
  rintro e w6 ⟨g2, g3, rfl, hg23, hO6, hP6, hb6⟩
  have hg2 := World.ownsRow.lt hO6 g2 rfl
  have hg3 := World.ownsRow.lt hP6 g3 rfl
  have hz3 := unhide HZ3
  have hz5 := unhide HZ5
  have hz6 := hb6.size
  have hg12 := World.ownsRow.lt (unhide HP5) g1 rfl
  have A6 := (unhide HA5).call hb6
  have R6 := (unhide HR5).call hb6
  have O6 := (unhide HO5).call hb6
  have HP6 := hide ((unhide HP5).keep hb6)
  have HQ6 := hide hO6
  have HR7 := hide hP6
  have HB6 := hide (belOn (unhide HB5) hb6)
  have u0 : w6.cell? ⟨w.heap.size + 2, 0, none⟩ = some (.int .i64 kd) := O6.c 0 (by simp)
  have u1 : w6.cell? ⟨w.heap.size + 2, 1, none⟩ = some (.int .i64 fr) := O6.c 1 (by simp)
  have u2 : w6.cell? ⟨w.heap.size + 2, 2, none⟩ = some (.int .i64 tt) := O6.c 2 (by simp)
  have u3 : w6.cell? ⟨w.heap.size + 2, 3, none⟩ = some (.int .i64 tm) := O6.c 3 (by simp)
  have u4 : w6.cell? ⟨w.heap.size + 2, 4, none⟩ = some (.int .i64 ix) := O6.c 4 (by simp)
  have u5 : w6.cell? ⟨w.heap.size + 2, 5, none⟩ = some (.int .i64 lg) := O6.c 5 (by simp)
  have u6 : w6.cell? ⟨w.heap.size + 2, 6, none⟩ = some (.slice (some ⟨g1, 0, none⟩) ne ne) := O6.c 6 (by simp)
  have u7 : w6.cell? ⟨w.heap.size + 2, 7, none⟩ = some (.int .i64 cm) := O6.c 7 (by simp)
  have u8 : w6.cell? ⟨w.heap.size + 2, 8, none⟩ = some (.bool ok) := O6.c 8 (by simp)
  have u9 : w6.cell? ⟨w.heap.size + 2, 9, none⟩ = some (.string tx) := O6.c 9 (by simp)
  have u10 : w6.cell? ⟨w.heap.size + 2, 10, none⟩ = some (.slice none 0 0) := O6.c 10 (by simp)
  have u11 : w6.cell? ⟨w.heap.size + 2, 11, none⟩ = some (.slice none 0 0) := O6.c 11 (by simp)
  have y10 : w6.frozen? ⟨w.heap.size + 2, 10, none⟩ = false := O6.f 10 (by simp)
  have y11 : w6.frozen? ⟨w.heap.size + 2, 11, none⟩ = false := O6.f 11 (by simp)
  have r0 : w6.cell? ⟨w.heap.size + 1, 0, none⟩ = some (.int .i64 0) := R6.c 0 (by simp)
  have s0 : w6.frozen? ⟨w.heap.size + 1, 0, none⟩ = false := R6.f 0 (by simp)
  have r1 : w6.cell? ⟨w.heap.size + 1, 1, none⟩ = some (.int .i64 0) := R6.c 1 (by simp)
  have s1 : w6.frozen? ⟨w.heap.size + 1, 1, none⟩ = false := R6.f 1 (by simp)
  have r2 : w6.cell? ⟨w.heap.size + 1, 2, none⟩ = some (.int .i64 0) := R6.c 2 (by simp)
  have s2 : w6.frozen? ⟨w.heap.size + 1, 2, none⟩ = false := R6.f 2 (by simp)
  have r3 : w6.cell? ⟨w.heap.size + 1, 3, none⟩ = some (.int .i64 0) := R6.c 3 (by simp)
  have s3 : w6.frozen? ⟨w.heap.size + 1, 3, none⟩ = false := R6.f 3 (by simp)
  have r4 : w6.cell? ⟨w.heap.size + 1, 4, none⟩ = some (.int .i64 0) := R6.c 4 (by simp)
  have s4 : w6.frozen? ⟨w.heap.size + 1, 4, none⟩ = false := R6.f 4 (by simp)
  have r5 : w6.cell? ⟨w.heap.size + 1, 5, none⟩ = some (.int .i64 0) := R6.c 5 (by simp)
  have s5 : w6.frozen? ⟨w.heap.size + 1, 5, none⟩ = false := R6.f 5 (by simp)
  have r6 : w6.cell? ⟨w.heap.size + 1, 6, none⟩ = some (.slice none 0 0) := R6.c 6 (by simp)
  have s6 : w6.frozen? ⟨w.heap.size + 1, 6, none⟩ = false := R6.f 6 (by simp)
  have r7 : w6.cell? ⟨w.heap.size + 1, 7, none⟩ = some (.int .i64 0) := R6.c 7 (by simp)
  have s7 : w6.frozen? ⟨w.heap.size + 1, 7, none⟩ = false := R6.f 7 (by simp)
  have r8 : w6.cell? ⟨w.heap.size + 1, 8, none⟩ = some (.bool false) := R6.c 8 (by simp)
  have s8 : w6.frozen? ⟨w.heap.size + 1, 8, none⟩ = false := R6.f 8 (by simp)
  have r9 : w6.cell? ⟨w.heap.size + 1, 9, none⟩ = some (.string ⟨#[]⟩) := R6.c 9 (by simp)
  have s9 : w6.frozen? ⟨w.heap.size + 1, 9, none⟩ = false := R6.f 9 (by simp)
  have r10 : w6.cell? ⟨w.heap.size + 1, 10, none⟩ = some (.slice none 0 0) := R6.c 10 (by simp)
  have s10 : w6.frozen? ⟨w.heap.size + 1, 10, none⟩ = false := R6.f 10 (by simp)
  have r11 : w6.cell? ⟨w.heap.size + 1, 11, none⟩ = some (.slice none 0 0) := R6.c 11 (by simp)
  have s11 : w6.frozen? ⟨w.heap.size + 1, 11, none⟩ = false := R6.f 11 (by simp)
  have n1 : w.heap.size + 1 ≠ g1 := by omega
  have n2 : w.heap.size + 1 ≠ g2 := by omega
  have n3 : w.heap.size + 1 + 1 ≠ g1 := by omega
  have n4 : w.heap.size + 1 + 1 ≠ g2 := by omega
  have n5 : w.heap.size + 1 ≠ g3 := by omega
  have n8 : w.heap.size + 1 + 1 ≠ g3 := by omega
  have n6 : w.heap.size ≤ W3.heap.size := by omega
  have n7 : w.heap.size ≤ W5.heap.size := by omega
  have HN := hide (And.intro n1 (And.intro n2 (And.intro n3 (And.intro n4 (And.intro n5 (And.intro n6 (And.intro n7 n8)))))))
  clear A6 R6 O6 hb6 hO6 hP6 hz3 hz5 hz6 hg1 hg2 hg3 hg12 hg23 n1 n2 n3 n4 n5 n6 n7 n8 H3 q7 q8 q9 q10 q11 y6 y7 y8 y9
  go_wp2_with fail
  refine bodyPost_ret (v := .agg #[.int .i64 kd, .int .i64 fr, .int .i64 tt, .int .i64 tm, .int .i64 ix, .int .i64 lg, .slice (some ⟨g1, 0, none⟩) ne ne, .int .i64 cm, .bool ok, .string tx, .slice (some ⟨g2, 0, none⟩) nv nv, .slice (some ⟨g3, 0, none⟩) nl nl]) (by simp [results, Tryd.results6, go_sem, r0, r1, r2, r3, r4, r5, r6, r7, r8, r9, r10, r11]) rfl ?_
  obtain ⟨n1, n2, n3, n4, n5, n6, n7, n8⟩ := unhide HN
  refine ⟨g1, g2, g3, rfl, ?_, ?_, ?_, ?_⟩
  · exact (((((((((((((((unhide HP6).off2 n3).off2 n3).off2 n1).off2 n1).off2 n1).off2 n1).off2 n1).off2 n1).off2 n1).off2 n1).off2 n1).off2 n1).off2 n1).off2 n1).le n6
  · exact (((((((((((((((unhide HQ6).off2 n4).off2 n4).off2 n2).off2 n2).off2 n2).off2 n2).off2 n2).off2 n2).off2 n2).off2 n2).off2 n2).off2 n2).off2 n2).off2 n2).le n7
  · exact (((((((((((((((unhide HR7).off2 n8).off2 n8).off2 n5).off2 n5).off2 n5).off2 n5).off2 n5).off2 n5).off2 n5).off2 n5).off2 n5).off2 n5).off2 n5).off2 n5).le n7
  · exact (((((((((((((((unhide HB6).setCell (show w.heap.size ≤ w.heap.size + 1 + 1 by omega) _).setCell (show w.heap.size ≤ w.heap.size + 1 + 1 by omega) _).setCell (show w.heap.size ≤ w.heap.size + 1 by omega) _).setCell (show w.heap.size ≤ w.heap.size + 1 by omega) _).setCell (show w.heap.size ≤ w.heap.size + 1 by omega) _).setCell (show w.heap.size ≤ w.heap.size + 1 by omega) _).setCell (show w.heap.size ≤ w.heap.size + 1 by omega) _).setCell (show w.heap.size ≤ w.heap.size + 1 by omega) _).setCell (show w.heap.size ≤ w.heap.size + 1 by omega) _).setCell (show w.heap.size ≤ w.heap.size + 1 by omega) _).setCell (show w.heap.size ≤ w.heap.size + 1 by omega) _).setCell (show w.heap.size ≤ w.heap.size + 1 by omega) _).setCell (show w.heap.size ≤ w.heap.size + 1 by omega) _).setCell (show w.heap.size ≤ w.heap.size + 1 by omega) _)

set_option maxRecDepth 10000 in
set_option maxHeartbeats 4000000 in
theorem szMsg_calls (kd fr tt tm ix lg cm : Int) (ok : Bool) (tx : ByteArray) (ae : Option Addr) (ne ce : Nat) (es : List Ent) (av : Option Addr) (nv cv : Nat) (v : List Int) (al : Option Addr) (nl cl : Nat) (l : List Int) (left : Nat) (w : World) (h : MsgArg w tx ae ne ce es av nv cv v al nl cl l) (hl : left ≤ 10000000) :
    Calls Tryd.prog 4 #[.agg #[.int .i64 kd, .int .i64 fr, .int .i64 tt, .int .i64 tm, .int .i64 ix, .int .i64 lg, .slice ae ne ce, .int .i64 cm, .bool ok, .string tx, .slice av nv cv, .slice al nl cl], .int .i64 left] w fun e w' => e = .returned (.int .i64 (purse left (totM tx es nv nl))) ∧ Below w.heap.size w w' := by
  obtain ⟨W0, hW0⟩ : ∃ W0, W0 = (w.alloc (.cells #[.int .i64 kd, .int .i64 fr, .int .i64 tt, .int .i64 tm, .int .i64 ix, .int .i64 lg, .slice ae ne ce, .int .i64 cm, .bool ok, .string tx, .slice av nv cv, .slice al nl cl] 27)) := ⟨_, rfl⟩
  have hb0 : Below w.heap.size w W0 := by rw [hW0]; exact bel1 _ _
  have B0 : Blk W0 w.heap.size [.int .i64 kd, .int .i64 fr, .int .i64 tt, .int .i64 tm, .int .i64 ix, .int .i64 lg, .slice ae ne ce, .int .i64 cm, .bool ok, .string tx, .slice av nv cv, .slice al nl cl] := by rw [hW0]; exact Blk.new w _ _
  have HC := hide (fun (W : World) (hW : Below W0.heap.size W0 W) => And.intro ((B0.call hW).c 9 (by simp)) (And.intro ((B0.call hW).c 10 (by simp)) ((B0.call hW).c 11 (by simp))))
  have HFIN := hide (fun (W : World) (hW : Below W0.heap.size W0 W) => belOn hb0 hW)
  have HW0 := hide hW0.symm
  have ht := h.t
  have hle := h.e.le
  have hlv := h.c.v.le
  have hll := h.c.l.le
  unfold maxLen at ht hle hlv hll
  unfold totM
  rw [h.e.len]
  have H1 := hide (szEntryS_calls ae ne ce es left W0 h.e.len (by omega) h.e.good hl (h.below hb0).e.row)
  have H2 := hide (fun (W : World) (r : Nat) (hr : r ≤ 10000000) => szConf_calls av nv cv al nl cl r W (by omega) (by omega) hr)
  generalize ne + totE es = C at H1
  generalize nv + nl = D at H2
  clear h hb0 B0 hW0 hle hlv hll
  by_cases h1 : left < C
  · rw [purse_no (show (left : Int) < _ by omega)]
    rw [purse_no (show (left : Int) < (C : Int) by omega)] at H1
    go_enter Tryd.func4, Tryd.ntmps4
    go_wp2_with fail
    rw [unhide HW0]
    refine (unhide H1).mono ?_
    rintro e w1 ⟨rfl, hb1⟩
    have HB1 := hide (unhide HFIN _ hb1)
    clear hb1
    go_wp2_with fail
    go_ret
    exact ⟨rfl, unhide HB1⟩
  obtain ⟨r1, hr1⟩ : ∃ r1 : Nat, (left : Int) - (C : Int) = (r1 : Int) := ⟨left - C, by omega⟩
  rw [purse_step (by omega), hr1]
  rw [purse_yes (show ¬ (left : Int) < (C : Int) by omega), hr1] at H1
  by_cases h2 : r1 < tx.size
  · rw [purse_no (show (r1 : Int) < _ by omega)]
    go_enter Tryd.func4, Tryd.ntmps4
    go_wp2_with fail
    rw [unhide HW0]
    refine (unhide H1).mono ?_
    rintro e w1 ⟨rfl, hb1⟩
    have HB1 := hide (unhide HFIN _ hb1)
    obtain ⟨q9, q10, q11⟩ := unhide HC _ hb1
    clear hb1
    go_wp2_with fail
    go_ret
    exact ⟨rfl, unhide HB1⟩
  obtain ⟨r2, hr2⟩ : ∃ r2 : Nat, (r1 : Int) - (tx.size : Int) = (r2 : Int) := ⟨r1 - tx.size, by omega⟩
  rw [purse_step (by omega), hr2]
  have H2' := hide (fun W => unhide H2 W r2 (by omega))
  clear H2
  by_cases h3 : r2 < D
  · rw [purse_no (show (r2 : Int) < _ by omega)]
    rw [purse_no (show (r2 : Int) < (D : Int) by omega)] at H2'
    go_enter Tryd.func4, Tryd.ntmps4
    go_wp2_with fail
    rw [unhide HW0]
    refine (unhide H1).mono ?_
    rintro e w1 ⟨rfl, hb1⟩
    have HB1 := hide hb1
    obtain ⟨q9, q10, q11⟩ := unhide HC _ hb1
    clear hb1
    go_wp2_with fail
    refine (unhide H2' _).mono ?_
    rintro e w2 ⟨rfl, hb2⟩
    have HB2 := hide (unhide HFIN _ (belOn (unhide HB1) hb2))
    clear hb2
    go_wp2_with fail
    go_ret
    exact ⟨rfl, unhide HB2⟩
  obtain ⟨r3, hr3⟩ : ∃ r3 : Nat, (r2 : Int) - (D : Int) = (r3 : Int) := ⟨r2 - D, by omega⟩
  rw [purse_yes (show ¬ (r2 : Int) < (D : Int) by omega), hr3]
  rw [purse_yes (show ¬ (r2 : Int) < (D : Int) by omega), hr3] at H2'
  go_enter Tryd.func4, Tryd.ntmps4
  go_wp2_with fail
  rw [unhide HW0]
  refine (unhide H1).mono ?_
  rintro e w1 ⟨rfl, hb1⟩
  have HB1 := hide hb1
  obtain ⟨q9, q10, q11⟩ := unhide HC _ hb1
  clear hb1
  go_wp2_with fail
  refine (unhide H2' _).mono ?_
  rintro e w2 ⟨rfl, hb2⟩
  have HB2 := hide (unhide HFIN _ (belOn (unhide HB1) hb2))
  clear hb2
  go_wp2_with fail
  go_ret
  exact ⟨rfl, unhide HB2⟩

set_option maxRecDepth 10000 in
set_option maxHeartbeats 4000000 in
theorem eqMsg_calls (kd fr tt tm ix lg cm : Int) (ok : Bool) (tx : ByteArray) (ae be : Option Addr) (ne ce de : Nat) (es : List Ent) (av bv : Option Addr) (nv cv dv : Nat) (v : List Int) (al bl : Option Addr) (nl cl dl : Nat) (l : List Int) (w : World) (hn : es.length = ne) (hn2 : ne ≤ 1048576)
    (h1 : RowAt entE w ae es) (h2 : RowAt entE w be es) (c1 : ConfAt w av nv v al nl l) (c2 : ConfAt w bv nv v bl nl l) :
    Calls Tryd.prog 8 #[.agg #[.int .i64 kd, .int .i64 fr, .int .i64 tt, .int .i64 tm, .int .i64 ix, .int .i64 lg, .slice ae ne ce, .int .i64 cm, .bool ok, .string tx, .slice av nv cv, .slice al nl cl], .agg #[.int .i64 kd, .int .i64 fr, .int .i64 tt, .int .i64 tm, .int .i64 ix, .int .i64 lg, .slice be ne de, .int .i64 cm, .bool ok, .string tx, .slice bv nv dv, .slice bl nl dl]] w fun e w' => e = .returned (.bool true) ∧ Below w.heap.size w w' := by
  obtain ⟨W0, hW0⟩ : ∃ W0, W0 = ((w.alloc (.cells #[.int .i64 kd, .int .i64 fr, .int .i64 tt, .int .i64 tm, .int .i64 ix, .int .i64 lg, .slice ae ne ce, .int .i64 cm, .bool ok, .string tx, .slice av nv cv, .slice al nl cl] 33)).alloc (.cells #[.int .i64 kd, .int .i64 fr, .int .i64 tt, .int .i64 tm, .int .i64 ix, .int .i64 lg, .slice be ne de, .int .i64 cm, .bool ok, .string tx, .slice bv nv dv, .slice bl nl dl] 33)) := ⟨_, rfl⟩
  have hb0 : Below w.heap.size w W0 := by rw [hW0]; exact belOn (bel1 _ _) (bel1 _ _)
  have B0 : Blk W0 w.heap.size [.int .i64 kd, .int .i64 fr, .int .i64 tt, .int .i64 tm, .int .i64 ix, .int .i64 lg, .slice ae ne ce, .int .i64 cm, .bool ok, .string tx, .slice av nv cv, .slice al nl cl] := by rw [hW0]; exact (Blk.new w _ _).alloc _
  have D0 : Blk W0 (w.heap.size + 1) [.int .i64 kd, .int .i64 fr, .int .i64 tt, .int .i64 tm, .int .i64 ix, .int .i64 lg, .slice be ne de, .int .i64 cm, .bool ok, .string tx, .slice bv nv dv, .slice bl nl dl] := by
    rw [hW0]
    have := Blk.new (w.alloc (.cells #[.int .i64 kd, .int .i64 fr, .int .i64 tt, .int .i64 tm, .int .i64 ix, .int .i64 lg, .slice ae ne ce, .int .i64 cm, .bool ok, .string tx, .slice av nv cv, .slice al nl cl] 33)) [.int .i64 kd, .int .i64 fr, .int .i64 tt, .int .i64 tm, .int .i64 ix, .int .i64 lg, .slice be ne de, .int .i64 cm, .bool ok, .string tx, .slice bv nv dv, .slice bl nl dl] 33
    simpa using this
  have HC := hide (fun (W : World) (hW : Below W0.heap.size W0 W) => And.intro (And.intro ((B0.call hW).c 7 (by simp)) (And.intro ((B0.call hW).c 8 (by simp)) (And.intro ((B0.call hW).c 9 (by simp)) (And.intro ((B0.call hW).c 10 (by simp)) ((B0.call hW).c 11 (by simp)))))) (And.intro ((D0.call hW).c 7 (by simp)) (And.intro ((D0.call hW).c 8 (by simp)) (And.intro ((D0.call hW).c 9 (by simp)) (And.intro ((D0.call hW).c 10 (by simp)) ((D0.call hW).c 11 (by simp)))))))
  have HFIN := hide (fun (W : World) (hW : Below W0.heap.size W0 W) => belOn hb0 hW)
  have HW0 := hide hW0.symm
  have H1 := hide (eqEntryS_calls ae be ce de ne es W0 hn (by omega) (h1.below hb0) (h2.below hb0))
  have H2 := hide (fun (W : World) (hW : Below W0.heap.size W0 W) => eqConf_calls av al bv bl nv nl cv cl dv dl v l W (c1.below (belOn hb0 hW)) (c2.below (belOn hb0 hW)))
  clear h1 h2 c1 c2 hb0 B0 D0 hW0 hn hn2
  go_enter Tryd.func8, Tryd.ntmps8
  go_wp2_with fail
  rw [unhide HW0]
  refine (unhide H1).mono ?_
  rintro e w1 ⟨rfl, hb1⟩
  have HB1 := hide hb1
  obtain ⟨⟨q7, q8, q9, q10, q11⟩, p7, p8, p9, p10, p11⟩ := unhide HC _ hb1
  clear hb1
  go_wp2_with fail
  refine (unhide H2 _ (unhide HB1)).mono ?_
  rintro e w2 ⟨rfl, hb2⟩
  have HB2 := hide (belOn (unhide HB1) hb2)
  clear hb2
  go_wp2_with fail
  go_ret
  exact ⟨rfl, unhide HFIN _ (unhide HB2)⟩
end Go.Proofs.YtiakhgafibgpgaaDoor


/- A message that is handed in, opened into its fields. -/
namespace Go.Proofs.YtiakhgafibgpgaaDoor
open Go.RowKit Go.Joins Go.ChangeShapes Go.WideShapes Go.ChangeAt Go.Deep Plain
set_option linter.unusedVariables false

set_option maxRecDepth 100000 in
theorem open_msg {H : Type} {enc : TypeId × Value → H} {W : World} {spare : Nat → Bool} {held : Bool} {r : Reach} {b0 : Nat} {u : Value} {d : DataW H} {p : List MemPlace}
    (hv : Value.okWide Tryd.prog W r b0 27 u) (h : DataW.Trod enc Tryd.prog W 0 spare held 27 u d p) :
    ∃ (kd fr tt tm ix lg cm : Int) (ok : Bool) (tx : ByteArray) (ae : Option Addr) (ne ce : Nat) (es : List Ent) (av : Option Addr) (nv cv : Nat) (v : List Int) (al : Option Addr) (nl cl : Nat) (l : List Int),
      u = .agg #[.int .i64 kd, .int .i64 fr, .int .i64 tt, .int .i64 tm, .int .i64 ix, .int .i64 lg, .slice ae ne ce, .int .i64 cm, .bool ok, .string tx, .slice av nv cv, .slice al nl cl] ∧ MsgArg W tx ae ne ce es av nv cv v al nl cl l := by
  obtain ⟨⟨us⟩, rfl, hsz⟩ := okWide_struct Tryd.underlying27 hv
  obtain ⟨fuel, hf⟩ := h
  have hl : us.length = 12 := hsz.trans (by kernel_rfl)
  match us, hl with
  | [v0, v1, v2, v3, v4, v5, v6, v7, v8, v9, v10, v11], _ =>
    obtain ⟨xs, n, _, hx, _, hlen, hg⟩ := DataW.trod_struct Tryd.underlying27 hf
    match xs, hlen with
    | [y0, y1, y2, y3, y4, y5, y6, y7, y8, y9, y10], _ =>
      obtain ⟨k0, e0, _, _⟩ := DataW.trod_int Tryd.underlying2 (show DataW.trod enc Tryd.prog W 0 spare held n 2 [v0] = some y0 from hg 0 _ rfl)
      obtain ⟨k1, e1, _, _⟩ := DataW.trod_int Tryd.underlying2 (show DataW.trod enc Tryd.prog W 0 spare held n 2 [v1] = some y1 from hg 1 _ rfl)
      obtain ⟨k2, e2, _, _⟩ := DataW.trod_int Tryd.underlying2 (show DataW.trod enc Tryd.prog W 0 spare held n 2 [v2] = some y2 from hg 2 _ rfl)
      obtain ⟨k3, e3, _, _⟩ := DataW.trod_int Tryd.underlying2 (show DataW.trod enc Tryd.prog W 0 spare held n 2 [v3] = some y3 from hg 3 _ rfl)
      obtain ⟨k4, e4, _, _⟩ := DataW.trod_int Tryd.underlying2 (show DataW.trod enc Tryd.prog W 0 spare held n 2 [v4] = some y4 from hg 4 _ rfl)
      obtain ⟨k5, e5, _, _⟩ := DataW.trod_int Tryd.underlying2 (show DataW.trod enc Tryd.prog W 0 spare held n 2 [v5] = some y5 from hg 5 _ rfl)
      obtain ⟨ae, ne, ce, es, e6, w6⟩ := openArg 3 entL goodE Tryd.underlying22 (by kernel_rfl) (by decide) rdEnt (show DataW.trod enc Tryd.prog W 0 spare held n 22 [v6] = some y6 from hg 6 _ rfl)
      obtain ⟨k7, e7, _, _⟩ := DataW.trod_int Tryd.underlying2 (show DataW.trod enc Tryd.prog W 0 spare held n 2 [v7] = some y7 from hg 7 _ rfl)
      obtain ⟨k8, e8, _⟩ := DataW.trod_bool Tryd.underlying4 (show DataW.trod enc Tryd.prog W 0 spare held n 4 [v8] = some y8 from hg 8 _ rfl)
      obtain ⟨k9, e9, _, w9⟩ := DataW.trod_string Tryd.underlying9 (show DataW.trod enc Tryd.prog W 0 spare held n 9 [v9] = some y9 from hg 9 _ rfl)
      obtain ⟨z0, z1, m, _, _, c0, c1⟩ := trod_struct2 Tryd.underlying25 (show DataW.trod enc Tryd.prog W 0 spare held n 25 [v10, v11] = some y10 from hg 10 _ rfl)
      obtain ⟨av, nv, cv, v, e10, w10⟩ := openArg 1 intL goodI Tryd.underlying23 (by kernel_rfl) (by decide) rdInt (show DataW.trod enc Tryd.prog W 0 spare held m 23 [v10] = some z0 from c0)
      obtain ⟨al, nl, cl, l, e11, w11⟩ := openArg 1 intL goodI Tryd.underlying23 (by kernel_rfl) (by decide) rdInt (show DataW.trod enc Tryd.prog W 0 spare held m 23 [v11] = some z1 from c1)
      simp at e0 e1 e2 e3 e4 e5 e7 e8 e9
      subst e0 e1 e2 e3 e4 e5 e6 e7 e8 e9 e10 e11
      exact ⟨k0, k1, k2, k3, k4, k5, k7, k8, k9, ae, ne, ce, es, av, nv, cv, v, al, nl, cl, l, rfl, w9, w6, w10, w11⟩
end Go.Proofs.YtiakhgafibgpgaaDoor

