/- ReadCmd of the specification. -/
import Derived.Test.YtnkjdojpegmlcaaDoorRcJ
import Derived.Test.YtnkjdojpegmlcaaDoorFmdS
namespace Go.Proofs.YtnkjdojpegmlcaaDoor
open Go.RowKit Plain
set_option linter.unusedVariables false

namespace Plain
/-- The specification's reader at Q. -/
structure QSt (w : World) (Q : Nat) (u : ByteArray) (f : Bool) : Prop where
  t0 : w.cell? ⟨Q, 0, none⟩ = some (.string u)
  t1 : w.cell? ⟨Q, 1, none⟩ = some (.bool f)
  z0 : w.frozen? ⟨Q, 0, none⟩ = false
  z1 : w.frozen? ⟨Q, 1, none⟩ = false
theorem QSt.keep {w w' : World} {Q : Nat} {u : ByteArray} {f : Bool} (h : QSt w Q u f) (hb : Below w.heap.size w w') : QSt w' Q u f :=
  have l := lt_of_cell h.t0
  ⟨bcl hb l h.t0, bcl hb l h.t1, (hb.frozen (p := ⟨Q, 0, none⟩) l).trans h.z0, (hb.frozen (p := ⟨Q, 1, none⟩) l).trans h.z1⟩
theorem QSt.setF {w : World} {Q : Nat} {u : ByteArray} {f : Bool} (h : QSt w Q u f) (g : Bool) : QSt (w.setCell ⟨Q, 1, none⟩ (.bool g)) Q u g :=
  ⟨(World.cell?_setCell_other _ _ _ _ (addr_no (by decide))).trans h.t0, World.cell?_setCell_same _ _ _ h.t1, by simpa using h.z0, by simpa using h.z1⟩
theorem QSt.setU {w : World} {Q : Nat} {u : ByteArray} {f : Bool} (h : QSt w Q u f) (v : ByteArray) : QSt (w.setCell ⟨Q, 0, none⟩ (.string v)) Q v f :=
  ⟨World.cell?_setCell_same _ _ _ h.t0, (World.cell?_setCell_other _ _ _ _ (addr_no (by decide))).trans h.t1, by simpa using h.z0, by simpa using h.z1⟩
theorem QSt.off {w : World} {Q B k : Nat} {u : ByteArray} {f : Bool} (h : QSt w Q u f) (hne : B ≠ Q) (v : Value) : QSt (w.setCell ⟨B, k, none⟩ v) Q u f :=
  ⟨(World.cell?_setCell_other _ _ _ _ (addr_ne hne)).trans h.t0, (World.cell?_setCell_other _ _ _ _ (addr_ne hne)).trans h.t1, by simpa using h.z0, by simpa using h.z1⟩
theorem QSt.new (w : World) (u : ByteArray) (T : TypeId) : QSt (w.alloc (.cells #[.string u, .bool false] T)) w.heap.size u false := ⟨by simp [go_sem], by simp [go_sem], by simp [go_sem], by simp [go_sem]⟩
/-- What the reader has left, where its flag is not up. -/
def LftR (s : ByteArray) (p : Nat) (u : ByteArray) (f : Bool) : Prop := u.size ≤ 1000000000 ∧ (f = false → u = s.extract p s.size ∧ p ≤ s.size)
/-- What one reading leaves. -/
def RdPost {α : Type} (val : α → Value) (o : Option (α × Nat)) (s : ByteArray) (f : Bool) (Q : Nat) (small : α → Prop) (w : World) (e : Ending) (w' : World) : Prop :=
  ∃ (v : α) (p' : Nat) (u' : ByteArray) (f' : Bool), e = .returned (val v) ∧ QSt w' Q u' f' ∧ LftR s p' u' f' ∧ MoR o p' f f' v ∧ small v ∧ OnlyRow (some ⟨Q, 0, none⟩) w w'
theorem ext_more (s : ByteArray) (p l : Nat) (hp : p ≤ s.size) : (s.extract p s.size).extract l (s.extract p s.size).size = s.extract (p + l) s.size := by
  rw [ByteArray.extract_extract, ByteArray.size_extract]
  congr 1
  omega
theorem ext_part (s : ByteArray) (p l v : Nat) (h : p + l + v ≤ s.size) : (s.extract p s.size).extract l (l + v) = s.extract (p + l) (p + l + v) := by
  rw [ByteArray.extract_extract]
  congr 1
  omega
/-- A command at B, that may be written. -/
structure SevF (B : Nat) (a b c : Int) (r t d x : ByteArray) (w : World) : Prop where
  c : Sev B a b c r t d x w
  f : ∀ i, w.frozen? ⟨B, i, none⟩ = false
theorem SevF.new (w : World) (a b c : Int) (r t d x : ByteArray) (T : TypeId) : SevF w.heap.size a b c r t d x (w.alloc (.cells #[.int .i64 a, .int .i64 b, .int .i64 c, .string r, .string t, .string d, .string x] T)) := ⟨Sev.new w a b c r t d x T, fun i => by simp [go_sem]⟩
theorem SevF.only {B Q : Nat} {a b c : Int} {r t d x : ByteArray} {w w' : World} (h : SevF B a b c r t d x w) (ho : OnlyRow (some ⟨Q, 0, none⟩) w w') (hne : B ≠ Q) : SevF B a b c r t d x w' :=
  have l := lt_of_cell h.c.c0
  have n : ∀ o, (some ⟨Q, 0, none⟩ : Option Addr) ≠ some ⟨B, o, none⟩ := fun o e => hne (by injection e with e; injection e with e; exact e.symm)
  ⟨⟨(ho.cell l n).trans h.c.c0, (ho.cell l n).trans h.c.c1, (ho.cell l n).trans h.c.c2, (ho.cell l n).trans h.c.c3, (ho.cell l n).trans h.c.c4, (ho.cell l n).trans h.c.c5, (ho.cell l n).trans h.c.c6⟩, fun i => (ho.frozen l n).trans (h.f i)⟩
theorem SevF.set0 {B : Nat} {a b c : Int} {r t d x : ByteArray} {w : World} (h : SevF B a b c r t d x w) (v : Int) : SevF B v b c r t d x (w.setCell ⟨B, 0, none⟩ (.int .i64 v)) :=
  ⟨⟨World.cell?_setCell_same _ _ _ h.c.c0, (World.cell?_setCell_other _ _ _ _ (addr_no (by decide))).trans h.c.c1, (World.cell?_setCell_other _ _ _ _ (addr_no (by decide))).trans h.c.c2, (World.cell?_setCell_other _ _ _ _ (addr_no (by decide))).trans h.c.c3, (World.cell?_setCell_other _ _ _ _ (addr_no (by decide))).trans h.c.c4, (World.cell?_setCell_other _ _ _ _ (addr_no (by decide))).trans h.c.c5, (World.cell?_setCell_other _ _ _ _ (addr_no (by decide))).trans h.c.c6⟩, fun i => by simpa using h.f i⟩
theorem SevF.set1 {B : Nat} {a b c : Int} {r t d x : ByteArray} {w : World} (h : SevF B a b c r t d x w) (v : Int) : SevF B a v c r t d x (w.setCell ⟨B, 1, none⟩ (.int .i64 v)) :=
  ⟨⟨(World.cell?_setCell_other _ _ _ _ (addr_no (by decide))).trans h.c.c0, World.cell?_setCell_same _ _ _ h.c.c1, (World.cell?_setCell_other _ _ _ _ (addr_no (by decide))).trans h.c.c2, (World.cell?_setCell_other _ _ _ _ (addr_no (by decide))).trans h.c.c3, (World.cell?_setCell_other _ _ _ _ (addr_no (by decide))).trans h.c.c4, (World.cell?_setCell_other _ _ _ _ (addr_no (by decide))).trans h.c.c5, (World.cell?_setCell_other _ _ _ _ (addr_no (by decide))).trans h.c.c6⟩, fun i => by simpa using h.f i⟩
theorem SevF.set2 {B : Nat} {a b c : Int} {r t d x : ByteArray} {w : World} (h : SevF B a b c r t d x w) (v : Int) : SevF B a b v r t d x (w.setCell ⟨B, 2, none⟩ (.int .i64 v)) :=
  ⟨⟨(World.cell?_setCell_other _ _ _ _ (addr_no (by decide))).trans h.c.c0, (World.cell?_setCell_other _ _ _ _ (addr_no (by decide))).trans h.c.c1, World.cell?_setCell_same _ _ _ h.c.c2, (World.cell?_setCell_other _ _ _ _ (addr_no (by decide))).trans h.c.c3, (World.cell?_setCell_other _ _ _ _ (addr_no (by decide))).trans h.c.c4, (World.cell?_setCell_other _ _ _ _ (addr_no (by decide))).trans h.c.c5, (World.cell?_setCell_other _ _ _ _ (addr_no (by decide))).trans h.c.c6⟩, fun i => by simpa using h.f i⟩
theorem SevF.set3 {B : Nat} {a b c : Int} {r t d x : ByteArray} {w : World} (h : SevF B a b c r t d x w) (v : ByteArray) : SevF B a b c v t d x (w.setCell ⟨B, 3, none⟩ (.string v)) :=
  ⟨⟨(World.cell?_setCell_other _ _ _ _ (addr_no (by decide))).trans h.c.c0, (World.cell?_setCell_other _ _ _ _ (addr_no (by decide))).trans h.c.c1, (World.cell?_setCell_other _ _ _ _ (addr_no (by decide))).trans h.c.c2, World.cell?_setCell_same _ _ _ h.c.c3, (World.cell?_setCell_other _ _ _ _ (addr_no (by decide))).trans h.c.c4, (World.cell?_setCell_other _ _ _ _ (addr_no (by decide))).trans h.c.c5, (World.cell?_setCell_other _ _ _ _ (addr_no (by decide))).trans h.c.c6⟩, fun i => by simpa using h.f i⟩
theorem SevF.set4 {B : Nat} {a b c : Int} {r t d x : ByteArray} {w : World} (h : SevF B a b c r t d x w) (v : ByteArray) : SevF B a b c r v d x (w.setCell ⟨B, 4, none⟩ (.string v)) :=
  ⟨⟨(World.cell?_setCell_other _ _ _ _ (addr_no (by decide))).trans h.c.c0, (World.cell?_setCell_other _ _ _ _ (addr_no (by decide))).trans h.c.c1, (World.cell?_setCell_other _ _ _ _ (addr_no (by decide))).trans h.c.c2, (World.cell?_setCell_other _ _ _ _ (addr_no (by decide))).trans h.c.c3, World.cell?_setCell_same _ _ _ h.c.c4, (World.cell?_setCell_other _ _ _ _ (addr_no (by decide))).trans h.c.c5, (World.cell?_setCell_other _ _ _ _ (addr_no (by decide))).trans h.c.c6⟩, fun i => by simpa using h.f i⟩
theorem SevF.set5 {B : Nat} {a b c : Int} {r t d x : ByteArray} {w : World} (h : SevF B a b c r t d x w) (v : ByteArray) : SevF B a b c r t v x (w.setCell ⟨B, 5, none⟩ (.string v)) :=
  ⟨⟨(World.cell?_setCell_other _ _ _ _ (addr_no (by decide))).trans h.c.c0, (World.cell?_setCell_other _ _ _ _ (addr_no (by decide))).trans h.c.c1, (World.cell?_setCell_other _ _ _ _ (addr_no (by decide))).trans h.c.c2, (World.cell?_setCell_other _ _ _ _ (addr_no (by decide))).trans h.c.c3, (World.cell?_setCell_other _ _ _ _ (addr_no (by decide))).trans h.c.c4, World.cell?_setCell_same _ _ _ h.c.c5, (World.cell?_setCell_other _ _ _ _ (addr_no (by decide))).trans h.c.c6⟩, fun i => by simpa using h.f i⟩
theorem SevF.set6 {B : Nat} {a b c : Int} {r t d x : ByteArray} {w : World} (h : SevF B a b c r t d x w) (v : ByteArray) : SevF B a b c r t d v (w.setCell ⟨B, 6, none⟩ (.string v)) :=
  ⟨⟨(World.cell?_setCell_other _ _ _ _ (addr_no (by decide))).trans h.c.c0, (World.cell?_setCell_other _ _ _ _ (addr_no (by decide))).trans h.c.c1, (World.cell?_setCell_other _ _ _ _ (addr_no (by decide))).trans h.c.c2, (World.cell?_setCell_other _ _ _ _ (addr_no (by decide))).trans h.c.c3, (World.cell?_setCell_other _ _ _ _ (addr_no (by decide))).trans h.c.c4, (World.cell?_setCell_other _ _ _ _ (addr_no (by decide))).trans h.c.c5, World.cell?_setCell_same _ _ _ h.c.c6⟩, fun i => by simpa using h.f i⟩
theorem Zer.only {C Q : Nat} {w w' : World} (h : Zer C w) (ho : OnlyRow (some ⟨Q, 0, none⟩) w w') (hne : C ≠ Q) : Zer C w' :=
  have k := (show SevF C 0 0 0 ⟨#[]⟩ ⟨#[]⟩ ⟨#[]⟩ ⟨#[]⟩ w from ⟨h.c, h.f⟩).only ho hne
  ⟨k.c, k.f⟩
theorem Zer.off {C B k : Nat} {w : World} (h : Zer C w) (hne : B ≠ C) (v : Value) : Zer C (w.setCell ⟨B, k, none⟩ v) :=
  ⟨⟨(World.cell?_setCell_other _ _ _ _ (addr_ne hne)).trans h.c.c0, (World.cell?_setCell_other _ _ _ _ (addr_ne hne)).trans h.c.c1, (World.cell?_setCell_other _ _ _ _ (addr_ne hne)).trans h.c.c2, (World.cell?_setCell_other _ _ _ _ (addr_ne hne)).trans h.c.c3, (World.cell?_setCell_other _ _ _ _ (addr_ne hne)).trans h.c.c4, (World.cell?_setCell_other _ _ _ _ (addr_ne hne)).trans h.c.c5, (World.cell?_setCell_other _ _ _ _ (addr_ne hne)).trans h.c.c6⟩, fun i => by simpa using h.f i⟩
theorem OnlyRow.drewNC {a : Option Addr} {w w' : World} (h : OnlyRow a w w') (k : Nat) : OnlyRow a w (w'.drewN k) := ⟨h.os, h.tape, h.output, h.size, h.block⟩
theorem QSt.drewN {w : World} {Q : Nat} {u : ByteArray} {f : Bool} (h : QSt w Q u f) (k : Nat) : QSt (w.drewN k) Q u f := ⟨h.t0, h.t1, h.z0, h.z1⟩
end Plain

set_option maxRecDepth 10000 in
set_option maxHeartbeats 2000000 in
theorem l12number_calls (Q : Nat) (s u : ByteArray) (p : Nat) (f : Bool) (w : World) (h : QSt w Q u f) (hl : LftR s p u f) :
    Calls Tryd.prog 18 #[.pointer (some ⟨Q, 0, none⟩)] w (RdPost (fun v : Int => .int .i64 v) (stp s p) s f Q (fun _ => True) w) := by
  have HT := hide (spec_TakeNumber u w (by have := hl.1; omega))
  have HQ := hide h
  have lq := lt_of_cell h.t0
  have c0 := h.t0
  clear h
  cases htk : tkN u 0 with
  | none =>
    rw [takeV_none htk] at HT
    have HM : MoR (stp s p) p f true (0 : Int) := by
      refine .inl ⟨rfl, ?_⟩
      cases f with
      | true => exact .inl rfl
      | false =>
        obtain ⟨rfl, hp⟩ := hl.2 rfl
        rw [tkN_shift s p hp] at htk
        exact .inr (by unfold stp; rw [htk]; rfl)
    have HM := hide HM
    have HL := hide hl.1
    clear hl htk
    go_enter Tryd.func18, Tryd.ntmps18
    go_wp2_with fail
    refine (unhide HT).mono ?_
    rintro e w1 ⟨rfl, k, rfl⟩
    have hq1 := (unhide HQ).drewN k
    have HQ1 := hide hq1
    obtain ⟨d0, d1, d2, d3⟩ := hq1
    go_wp2_with fail
    go_ret
    exact ⟨(0 : Int), p, u, true, rfl, (unhide HQ1).setF true, ⟨unhide HL, fun e => by cases e⟩, unhide HM, by decide, ((OnlyRow.refl _ w).drewNC k).trans (OnlyRow.set 1 _)⟩
  | some y =>
    obtain ⟨v, l⟩ := y
    rw [takeV_some htk] at HT
    cases f with
    | true =>
      have HL := hide hl.1
      clear hl htk
      go_enter Tryd.func18, Tryd.ntmps18
      go_wp2_with fail
      refine (unhide HT).mono ?_
      rintro e w1 ⟨rfl, k, rfl⟩
      have hq1 := (unhide HQ).drewN k
      have HQ1 := hide hq1
      obtain ⟨d0, d1, d2, d3⟩ := hq1
      go_wp2_with fail
      go_ret
      exact ⟨(0 : Int), p, u, true, rfl, (unhide HQ1).setF true, ⟨unhide HL, fun e => by cases e⟩, .inl ⟨rfl, .inl rfl⟩, by decide, ((OnlyRow.refl _ w).drewNC k).trans (OnlyRow.set 1 _)⟩
    | false =>
      obtain ⟨hu, hp⟩ := hl.2 rfl
      have htk2 : tkN s p = some (v, l) := by rw [← tkN_shift s p hp, ← hu]; exact htk
      have hle := tkN_le htk2
      have HM : MoR (stp s p) (p + l) false false (v : Int) := .inr ⟨rfl, rfl, by unfold stp; rw [htk2]; rfl⟩
      have HX : LftR s (p + l) (u.extract l u.size) false := ⟨by rw [ByteArray.size_extract]; have := hl.1; omega, fun _ => ⟨by rw [hu, ext_more s p _ hp], by omega⟩⟩
      have HM := hide HM
      have HX := hide HX
      have HSM : True := trivial
      clear hl htk htk2 hu hle
      go_enter Tryd.func18, Tryd.ntmps18
      go_wp2_with fail
      refine (unhide HT).mono ?_
      rintro e w1 ⟨rfl, k, rfl⟩
      have hq1 := (unhide HQ).drewN k
      have HQ1 := hide hq1
      obtain ⟨d0, d1, d2, d3⟩ := hq1
      go_wp2_with fail
      go_ret
      exact ⟨(v : Int), p + l, u.extract l u.size, false, rfl, (unhide HQ1).setU _, unhide HX, unhide HM, HSM, ((OnlyRow.refl _ w).drewNC k).trans (OnlyRow.set 0 _)⟩

set_option maxRecDepth 10000 in
set_option maxHeartbeats 2000000 in
theorem l12text_calls (Q : Nat) (s u : ByteArray) (p : Nat) (f : Bool) (w : World) (h : QSt w Q u f) (hl : LftR s p u f) :
    Calls Tryd.prog 19 #[.pointer (some ⟨Q, 0, none⟩)] w (RdPost (fun v : ByteArray => .string v) (txp s p) s f Q (fun v => v.size ≤ 1000000) w) := by
  have HT := hide (spec_TakeText u w (by have := hl.1; omega))
  have HQ := hide h
  have lq := lt_of_cell h.t0
  have c0 := h.t0
  clear h
  cases htk : tkT u 0 with
  | none =>
    rw [textV_none htk] at HT
    have HM : MoR (txp s p) p f true (⟨#[]⟩ : ByteArray) := by
      refine .inl ⟨rfl, ?_⟩
      cases f with
      | true => exact .inl rfl
      | false =>
        obtain ⟨rfl, hp⟩ := hl.2 rfl
        rw [tkT_shift s p hp] at htk
        exact .inr (by unfold txp; rw [htk]; rfl)
    have HM := hide HM
    have HL := hide hl.1
    clear hl htk
    go_enter Tryd.func19, Tryd.ntmps19
    go_wp2_with fail
    refine (unhide HT).mono ?_
    rintro e w1 ⟨rfl, hb1⟩
    have hq1 := (unhide HQ).keep hb1
    have HQ1 := hide hq1
    obtain ⟨d0, d1, d2, d3⟩ := hq1
    go_wp2_with fail
    go_ret
    exact ⟨(⟨#[]⟩ : ByteArray), p, u, true, rfl, (unhide HQ1).setF true, ⟨unhide HL, fun e => by cases e⟩, unhide HM, by decide, (OnlyRow.of hb1).trans (OnlyRow.set 1 _)⟩
  | some y =>
    obtain ⟨l, v⟩ := y
    rw [textV_some htk] at HT
    cases f with
    | true =>
      have HL := hide hl.1
      clear hl htk
      go_enter Tryd.func19, Tryd.ntmps19
      go_wp2_with fail
      refine (unhide HT).mono ?_
      rintro e w1 ⟨rfl, hb1⟩
      have hq1 := (unhide HQ).keep hb1
      have HQ1 := hide hq1
      obtain ⟨d0, d1, d2, d3⟩ := hq1
      go_wp2_with fail
      go_ret
      exact ⟨(⟨#[]⟩ : ByteArray), p, u, true, rfl, (unhide HQ1).setF true, ⟨unhide HL, fun e => by cases e⟩, .inl ⟨rfl, .inl rfl⟩, by decide, (OnlyRow.of hb1).trans (OnlyRow.set 1 _)⟩
    | false =>
      obtain ⟨hu, hp⟩ := hl.2 rfl
      have htk2 : tkT s p = some (l, v) := by rw [← tkT_shift s p hp, ← hu]; exact htk
      have hle := tkT_le htk2
      have HM : MoR (txp s p) (p + l + v) false false (u.extract l (l + v)) := .inr ⟨rfl, rfl, by unfold txp; rw [htk2]; rw [hu, ext_part s p l v (by omega)]; rfl⟩
      have HX : LftR s (p + l + v) (u.extract (l + v) u.size) false := ⟨by rw [ByteArray.size_extract]; have := hl.1; omega, fun _ => ⟨by rw [hu, ext_more s p _ hp, Nat.add_assoc], by omega⟩⟩
      have HM := hide HM
      have HX := hide HX
      have HSM : (u.extract l (l + v)).size ≤ 1000000 := by rw [ByteArray.size_extract]; omega
      clear hl htk htk2 hu hle
      go_enter Tryd.func19, Tryd.ntmps19
      go_wp2_with fail
      refine (unhide HT).mono ?_
      rintro e w1 ⟨rfl, hb1⟩
      have hq1 := (unhide HQ).keep hb1
      have HQ1 := hide hq1
      obtain ⟨d0, d1, d2, d3⟩ := hq1
      go_wp2_with fail
      go_ret
      exact ⟨(u.extract l (l + v)), p + l + v, u.extract (l + v) u.size, false, rfl, (unhide HQ1).setU _, unhide HX, unhide HM, HSM, (OnlyRow.of hb1).trans (OnlyRow.set 0 _)⟩

set_option maxRecDepth 10000 in
set_option maxHeartbeats 4000000 in
theorem spec_ReadCmd (s : ByteArray) (w : World) (hs : s.size ≤ 1000000000) :
    Calls Tryd.prog 9 #[.string s] w fun e w' => e = .returned (cmdV s) ∧ Below w.heap.size w w' := by
  obtain ⟨W1, hW1⟩ : ∃ W1, W1 = (w.alloc (.cells #[.int .i64 0, .int .i64 0, .int .i64 0, .string ⟨#[]⟩, .string ⟨#[]⟩, .string ⟨#[]⟩, .string ⟨#[]⟩] 26)).alloc (.cells #[.string s, .bool false] 38) := ⟨_, rfl⟩
  have hz1 : Zer w.heap.size W1 := by rw [hW1]; exact (Zer.new w _).below (bel1 _ _) (by simp)
  have hq1 : QSt W1 (w.heap.size + 1) s false := by
    have := QSt.new (w.alloc (.cells #[.int .i64 0, .int .i64 0, .int .i64 0, .string ⟨#[]⟩, .string ⟨#[]⟩, .string ⟨#[]⟩, .string ⟨#[]⟩] 26)) s 38
    rw [← hW1] at this
    simpa using this
  have hb1 : Below w.heap.size w W1 := by rw [hW1]; exact bel2C _ _ _
  have HN := hide (l12number_calls (w.heap.size + 1) s s 0 false W1 hq1 ⟨hs, fun _ => ⟨by simp, by omega⟩⟩)
  have HZ1 := hide hz1
  have HB1 := hide hb1
  have HW1 := hide hW1.symm
  clear hz1 hq1 hb1 hW1
  go_enter Tryd.func9, Tryd.ntmps9
  go_wp2_with fail
  rw [unhide HW1]
  refine (unhide HN).mono ?_
  rintro e w2 ⟨v0, p1, u1, f1, rfl, hq2, hl2, hm2, -, ho2⟩
  have hz2 := (unhide HZ1).only ho2 (by omega)
  have hb2 := (unhide HB1).trans (ho2.below (B := w.heap.size) (fun g o e => by injection e with e; injection e with e; omega) (unhide HB1).size)
  have HH := hide (HasR.start.num hm2)
  have lq : w.heap.size + 1 < w2.heap.size := lt_of_cell hq2.t0
  obtain ⟨W3, hW3⟩ : ∃ W3, W3 = w2.alloc (.cells #[.int .i64 v0, .int .i64 0, .int .i64 0, .string ⟨#[]⟩, .string ⟨#[]⟩, .string ⟨#[]⟩, .string ⟨#[]⟩] 26) := ⟨_, rfl⟩
  have h3 : Below w2.heap.size w2 W3 := by rw [hW3]; exact bel1 _ _
  have hv3 : SevF w2.heap.size v0 0 0 ⟨#[]⟩ ⟨#[]⟩ ⟨#[]⟩ ⟨#[]⟩ W3 := by rw [hW3]; exact SevF.new w2 v0 0 0 _ _ _ _ _
  have HN := hide (l12number_calls (w.heap.size + 1) s u1 p1 f1 W3 (hq2.keep h3) hl2)
  have HV := hide hv3
  have HZ := hide (hz2.below h3 (by omega))
  have HB := hide (belOn hb2 h3)
  have HW3 := hide hW3.symm
  obtain ⟨B, hB⟩ : ∃ B, w2.heap.size = B := ⟨_, rfl⟩
  have HBB := hide hB
  rw [hB] at HV lq
  have HLQ := hide lq
  clear hq2 hl2 hm2 ho2 hz2 hb2 lq h3 hv3 hW3 HZ1 HB1 HW1 hB
  go_wp2_with fail
  rw [unhide HW3, unhide HBB]
  refine (unhide HN).mono ?_
  rintro e w4 ⟨v1, p2, u2, f2, rfl, hq, hl, hm, hsm1, ho⟩
  have hv := (unhide HV).only ho (by have := unhide HLQ; omega)
  have hz := (unhide HZ).only ho (by omega)
  have hb := (unhide HB).trans (ho.below (B := w.heap.size) (fun g o e => by injection e with e; injection e with e; omega) (unhide HB).size)
  have HH := hide ((unhide HH).num hm)
  have g0 := hv.c.c1
  have g1 := hv.f 1
  have HN := hide (l12number_calls (w.heap.size + 1) s u2 p2 f2 (w4.setCell ⟨B, 1, none⟩ (.int .i64 v1)) (hq.off (by have := unhide HLQ; omega) _) hl)
  have HV := hide (hv.set1 v1)
  have HZ := hide (hz.off (B := B) (k := 1) (by have := unhide HLQ; omega) (.int .i64 v1))
  have HB := hide (hb.setCell (p := ⟨B, 1, none⟩) (by have := unhide HLQ; show w.heap.size ≤ B; omega) (.int .i64 v1))
  clear hq hl hm ho hv hz hb
  go_wp2_with fail
  clear g0 g1
  refine (unhide HN).mono ?_
  rintro e w5 ⟨v2, p3, u3, f3, rfl, hq, hl, hm, hsm2, ho⟩
  have hv := (unhide HV).only ho (by have := unhide HLQ; omega)
  have hz := (unhide HZ).only ho (by omega)
  have hb := (unhide HB).trans (ho.below (B := w.heap.size) (fun g o e => by injection e with e; injection e with e; omega) (unhide HB).size)
  have HH := hide ((unhide HH).num hm)
  have g0 := hv.c.c2
  have g1 := hv.f 2
  have HN := hide (l12text_calls (w.heap.size + 1) s u3 p3 f3 (w5.setCell ⟨B, 2, none⟩ (.int .i64 v2)) (hq.off (by have := unhide HLQ; omega) _) hl)
  have HV := hide (hv.set2 v2)
  have HZ := hide (hz.off (B := B) (k := 2) (by have := unhide HLQ; omega) (.int .i64 v2))
  have HB := hide (hb.setCell (p := ⟨B, 2, none⟩) (by have := unhide HLQ; show w.heap.size ≤ B; omega) (.int .i64 v2))
  clear hq hl hm ho hv hz hb
  go_wp2_with fail
  clear g0 g1
  refine (unhide HN).mono ?_
  rintro e w6 ⟨v3, p4, u4, f4, rfl, hq, hl, hm, hsm3, ho⟩
  have hv := (unhide HV).only ho (by have := unhide HLQ; omega)
  have hz := (unhide HZ).only ho (by omega)
  have hb := (unhide HB).trans (ho.below (B := w.heap.size) (fun g o e => by injection e with e; injection e with e; omega) (unhide HB).size)
  have HH := hide ((unhide HH).txt hm)
  have g0 := hv.c.c3
  have g1 := hv.f 3
  have HN := hide (l12text_calls (w.heap.size + 1) s u4 p4 f4 (w6.setCell ⟨B, 3, none⟩ (.string v3)) (hq.off (by have := unhide HLQ; omega) _) hl)
  have HV := hide (hv.set3 v3)
  have HZ := hide (hz.off (B := B) (k := 3) (by have := unhide HLQ; omega) (.string v3))
  have HB := hide (hb.setCell (p := ⟨B, 3, none⟩) (by have := unhide HLQ; show w.heap.size ≤ B; omega) (.string v3))
  clear hq hl hm ho hv hz hb
  go_wp2_with fail
  clear g0 g1
  refine (unhide HN).mono ?_
  rintro e w7 ⟨v4, p5, u5, f5, rfl, hq, hl, hm, hsm4, ho⟩
  have hv := (unhide HV).only ho (by have := unhide HLQ; omega)
  have hz := (unhide HZ).only ho (by omega)
  have hb := (unhide HB).trans (ho.below (B := w.heap.size) (fun g o e => by injection e with e; injection e with e; omega) (unhide HB).size)
  have HH := hide ((unhide HH).txt hm)
  have g0 := hv.c.c4
  have g1 := hv.f 4
  have HN := hide (l12text_calls (w.heap.size + 1) s u5 p5 f5 (w7.setCell ⟨B, 4, none⟩ (.string v4)) (hq.off (by have := unhide HLQ; omega) _) hl)
  have HV := hide (hv.set4 v4)
  have HZ := hide (hz.off (B := B) (k := 4) (by have := unhide HLQ; omega) (.string v4))
  have HB := hide (hb.setCell (p := ⟨B, 4, none⟩) (by have := unhide HLQ; show w.heap.size ≤ B; omega) (.string v4))
  clear hq hl hm ho hv hz hb
  go_wp2_with fail
  clear g0 g1
  refine (unhide HN).mono ?_
  rintro e w8 ⟨v5, p6, u6, f6, rfl, hq, hl, hm, hsm5, ho⟩
  have hv := (unhide HV).only ho (by have := unhide HLQ; omega)
  have hz := (unhide HZ).only ho (by omega)
  have hb := (unhide HB).trans (ho.below (B := w.heap.size) (fun g o e => by injection e with e; injection e with e; omega) (unhide HB).size)
  have HH := hide ((unhide HH).txt hm)
  have g0 := hv.c.c5
  have g1 := hv.f 5
  have HN := hide (l12text_calls (w.heap.size + 1) s u6 p6 f6 (w8.setCell ⟨B, 5, none⟩ (.string v5)) (hq.off (by have := unhide HLQ; omega) _) hl)
  have HV := hide (hv.set5 v5)
  have HZ := hide (hz.off (B := B) (k := 5) (by have := unhide HLQ; omega) (.string v5))
  have HB := hide (hb.setCell (p := ⟨B, 5, none⟩) (by have := unhide HLQ; show w.heap.size ≤ B; omega) (.string v5))
  clear hq hl hm ho hv hz hb
  go_wp2_with fail
  clear g0 g1
  refine (unhide HN).mono ?_
  rintro e w9 ⟨v6, p7, u7, f7, rfl, hq, hl, hm, hsm6, ho⟩
  have hv := (unhide HV).only ho (by have := unhide HLQ; omega)
  have hz := (unhide HZ).only ho (by omega)
  have hb := (unhide HB).trans (ho.below (B := w.heap.size) (fun g o e => by injection e with e; injection e with e; omega) (unhide HB).size)
  have HH := hide ((unhide HH).txt hm)
  have g0 := hv.c.c6
  have g1 := hv.f 6
  obtain ⟨t0, t1, z0, z1⟩ := hq
  obtain ⟨c0, c1, c2, c3, c4, c5, c6⟩ := hv.c
  have n1 : ¬ B = w.heap.size + 1 := by have := unhide HLQ; omega
  have n2 : ¬ w.heap.size + 1 = B := by have := unhide HLQ; omega
  have HV := hide (hv.set6 v6)
  have HZ := hide (hz.off (B := B) (k := 6) (by have := unhide HLQ; omega) (.string v6))
  have HB := hide (hb.setCell (p := ⟨B, 6, none⟩) (by have := unhide HLQ; show w.heap.size ≤ B; omega) (.string v6))
  have HL := hide hl
  clear hl hm ho hv hz hb z0 z1 g0
  have HFM := hide (fun W => l12Formed_calls v0 v1 v2 v3 v4 v5 v6 W (by omega) (by omega) (by omega) (by omega))
  clear hsm1 hsm2 hsm3 hsm4 hsm5 hsm6 hs HN
  cases f7 with
  | true =>
    have HX := hide (cmdV_fail (unhide HH))
    obtain ⟨⟨x0, x1, x2, x3, x4, x5, x6⟩, xf⟩ := unhide HZ
    have n3 : ¬ B = w.heap.size := by have := unhide HLQ; omega
    have n4 : ¬ w.heap.size = B := by have := unhide HLQ; omega
    go_wp2_with fail
    exact bodyPost_ret (v := cmdZ) (by simp [results, Tryd.results9, go_sem, x0, x1, x2, x3, x4, x5, x6, cmdZ, cmdA]) rfl ⟨by rw [unhide HX], seven_below (unhide HB) (Nat.le_refl _) _ _ _ _ _ _ _⟩
  | false =>
    obtain ⟨-, hl⟩ := unhide HL
    obtain ⟨hu, hp⟩ := hl rfl
    have hn := rest_nil s p7 hp
    rw [← hu] at hn
    by_cases hT : u7.toList = []
    · have hpe := hn.1 hT
      clear hl hu hp hn
      cases hfm : fmB v0 v1 v2 v3 v4 v5 v6 with
      | false =>
        have HX := hide (cmdV_form (unhide HH) hfm)
        rw [hfm] at HFM
        clear hpe hfm HH
        go_wp2_with fail
        refine (unhide HFM _).mono ?_
        rintro e w10 ⟨rfl, hb10⟩
        have lz : w.heap.size < (w9.setCell ⟨B, 6, none⟩ (.string v6)).heap.size := lt_of_cell (unhide HZ).c.c0
        obtain ⟨⟨x0, x1, x2, x3, x4, x5, x6⟩, xf⟩ := (unhide HZ).below hb10 lz
        have HB10 := hide (belOn (unhide HB) hb10)
        clear hb10 lz
        go_wp2_with fail
        exact bodyPost_ret (v := cmdZ) (by simp [results, Tryd.results9, go_sem, x0, x1, x2, x3, x4, x5, x6, cmdZ, cmdA]) rfl ⟨by rw [unhide HX], seven_below (unhide HB10) (Nat.le_refl _) _ _ _ _ _ _ _⟩
      | true =>
        have HX := hide (cmdV_good (unhide HH) hpe hfm)
        rw [hfm] at HFM
        clear hpe hfm HH
        go_wp2_with fail
        refine (unhide HFM _).mono ?_
        rintro e w10 ⟨rfl, hb10⟩
        have lz : w.heap.size < (w9.setCell ⟨B, 6, none⟩ (.string v6)).heap.size := lt_of_cell (unhide HZ).c.c0
        obtain ⟨⟨x0, x1, x2, x3, x4, x5, x6⟩, xf⟩ := (unhide HZ).below hb10 lz
        obtain ⟨d0, d1, d2, d3, d4, d5, d6⟩ := (unhide HV).c.keep hb10
        have HB10 := hide (belOn (unhide HB) hb10)
        clear hb10 lz c0 c1 c2 c3 c4 c5 c6
        go_wp2_with fail
        exact bodyPost_ret (v := .tuple #[cmdA v0 v1 v2 v3 v4 v5 v6, .bool true]) (by simp [results, Tryd.results9, go_sem, x0, x1, x2, x3, x4, x5, x6, cmdA]) rfl ⟨by rw [unhide HX], seven_below (unhide HB10) (Nat.le_refl _) _ _ _ _ _ _ _⟩
    · have hpe : ¬ p7 = s.size := fun e => hT (hn.2 e)
      have HX := hide (cmdV_rest (unhide HH) hpe)
      have hT2 : u7.toList.isEmpty = false := by simpa using hT
      obtain ⟨⟨x0, x1, x2, x3, x4, x5, x6⟩, xf⟩ := unhide HZ
      have n3 : ¬ B = w.heap.size := by have := unhide HLQ; omega
      have n4 : ¬ w.heap.size = B := by have := unhide HLQ; omega
      clear hl hu hp hn hpe
      go_wp2_with fail
      exact bodyPost_ret (v := cmdZ) (by simp [results, Tryd.results9, go_sem, x0, x1, x2, x3, x4, x5, x6, cmdZ, cmdA]) rfl ⟨by rw [unhide HX], seven_below (unhide HB) (Nat.le_refl _) _ _ _ _ _ _ _⟩
end Go.Proofs.YtnkjdojpegmlcaaDoor
