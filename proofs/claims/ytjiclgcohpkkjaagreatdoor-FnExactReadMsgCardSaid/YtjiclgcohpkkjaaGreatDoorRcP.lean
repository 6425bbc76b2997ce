/- The specification's reader of bytes: numbers, texts. -/
import Derived.Test.YtjiclgcohpkkjaaGreatDoorGzAC
import Derived.Test.YtjiclgcohpkkjaaGreatDoorGzAF
namespace Go.Proofs.YtjiclgcohpkkjaaGreatDoor
open Go.RowKit Plain
set_option linter.unusedVariables false

namespace Plain
theorem addr_neP {b c i j : Nat} (h : b ≠ c) : (⟨b, i, none⟩ : Addr) ≠ ⟨c, j, none⟩ := fun e => h (congrArg Addr.block e)
theorem addr_noP {b c i j : Nat} (h : i ≠ j) : (⟨b, i, none⟩ : Addr) ≠ ⟨c, j, none⟩ := fun e => h (by injection e)
/-- The specification's reader at Q. -/
structure QSt (w : World) (Q : Nat) (u : ByteArray) (f : Bool) : Prop where
  t0 : w.cell? ⟨Q, 0, none⟩ = some (.string u)
  t1 : w.cell? ⟨Q, 1, none⟩ = some (.bool f)
  z0 : w.frozen? ⟨Q, 0, none⟩ = false
  z1 : w.frozen? ⟨Q, 1, none⟩ = false
theorem QSt.keep {w w' : World} {Q : Nat} {u : ByteArray} {f : Bool} (h : QSt w Q u f) (hb : Below w.heap.size w w') : QSt w' Q u f :=
  have l := lt_of_cell h.t0
  ⟨bcl hb l h.t0, bcl hb l h.t1, (hb.frozen (p := ⟨Q, 0, none⟩) l).trans h.z0, (hb.frozen (p := ⟨Q, 1, none⟩) l).trans h.z1⟩
theorem QSt.setF {w : World} {Q : Nat} {u : ByteArray} {f : Bool} (h : QSt w Q u f) (g : Bool) : QSt (w.setCell ⟨Q, 1, none⟩ (.bool g)) Q u g :=
  ⟨(World.cell?_setCell_other _ _ _ _ (addr_noP (by decide))).trans h.t0, World.cell?_setCell_same _ _ _ h.t1, by simpa using h.z0, by simpa using h.z1⟩
theorem QSt.setU {w : World} {Q : Nat} {u : ByteArray} {f : Bool} (h : QSt w Q u f) (v : ByteArray) : QSt (w.setCell ⟨Q, 0, none⟩ (.string v)) Q v f :=
  ⟨World.cell?_setCell_same _ _ _ h.t0, (World.cell?_setCell_other _ _ _ _ (addr_noP (by decide))).trans h.t1, by simpa using h.z0, by simpa using h.z1⟩
theorem QSt.off {w : World} {Q B k : Nat} {u : ByteArray} {f : Bool} (h : QSt w Q u f) (hne : B ≠ Q) (v : Value) : QSt (w.setCell ⟨B, k, none⟩ v) Q u f :=
  ⟨(World.cell?_setCell_other _ _ _ _ (addr_neP hne)).trans h.t0, (World.cell?_setCell_other _ _ _ _ (addr_neP hne)).trans h.t1, by simpa using h.z0, by simpa using h.z1⟩
theorem QSt.new (w : World) (u : ByteArray) (T : TypeId) : QSt (w.alloc (.cells #[.string u, .bool false] T)) w.heap.size u false := ⟨by simp [go_sem], by simp [go_sem], by simp [go_sem], by simp [go_sem]⟩
/-- What the reader has left, where its flag is not up. -/
def LftR (s : ByteArray) (p : Nat) (u : ByteArray) (f : Bool) : Prop := u.size ≤ 1000000000 ∧ (f = false → u = s.extract p s.size ∧ p ≤ s.size)
/-- What one reading leaves. -/
def RdPost {α : Type} (val : α → Value) (o : Option (α × Nat)) (s : ByteArray) (f : Bool) (Q : Nat) (small : α → Prop) (w : World) (e : Ending) (w' : World) : Prop :=
  ∃ (v : α) (p' : Nat) (u' : ByteArray) (f' : Bool), e = .returned (val v) ∧ QSt w' Q u' f' ∧ LftR s p' u' f' ∧ MoR o p' f f' v ∧ small v ∧ OnlyRow (some ⟨Q, 0, none⟩) w w'
theorem ext_more (s : ByteArray) (p l : Nat) (hp : p ≤ s.size) : (s.extract p s.size).extract l (s.extract p s.size).size = s.extract (p + l) s.size := by
  rw [ByteArray.extract_extract, ByteArray.size_extract]
  congr 1
  omega
theorem ext_part (s : ByteArray) (p l v : Nat) (h : p + l + v ≤ s.size) : (s.extract p s.size).extract l (l + v) = s.extract (p + l) (p + l + v) := by
  rw [ByteArray.extract_extract]
  congr 1
  omega
theorem OnlyRow.drewNC {a : Option Addr} {w w' : World} (h : OnlyRow a w w') (k : Nat) : OnlyRow a w (w'.drewN k) := ⟨h.os, h.tape, h.output, h.size, h.block⟩
theorem QSt.drewN {w : World} {Q : Nat} {u : ByteArray} {f : Bool} (h : QSt w Q u f) (k : Nat) : QSt (w.drewN k) Q u f := ⟨h.t0, h.t1, h.z0, h.z1⟩
end Plain

set_option maxRecDepth 10000 in
set_option maxHeartbeats 2000000 in
theorem l12number_calls (Q : Nat) (s u : ByteArray) (p : Nat) (f : Bool) (w : World) (h : QSt w Q u f) (hl : LftR s p u f) :
    Calls Tryz.prog 16 #[.pointer (some ⟨Q, 0, none⟩)] w (RdPost (fun v : Int => .int .i64 v) (stp s p) s f Q (fun _ => True) w) := by
  have HT := hide (spec_TakeNumber u w (by have := hl.1; omega))
  have HQ := hide h
  have lq := lt_of_cell h.t0
  have c0 := h.t0
  clear h
  cases htk : tkN u 0 with
  | none =>
    rw [takeV_none htk] at HT
    have HM : MoR (stp s p) p f true (0 : Int) := by
      refine .inl ⟨rfl, ?_⟩
      cases f with
      | true => exact .inl rfl
      | false =>
        obtain ⟨rfl, hp⟩ := hl.2 rfl
        rw [tkN_shift s p hp] at htk
        exact .inr (by unfold stp; rw [htk]; rfl)
    have HM := hide HM
    have HL := hide hl.1
    clear hl htk
    go_enter Tryz.func16, Tryz.ntmps16
    go_wp2_with fail
    refine (unhide HT).mono ?_
    rintro e w1 ⟨rfl, k, rfl⟩
    have hq1 := (unhide HQ).drewN k
    have HQ1 := hide hq1
    obtain ⟨d0, d1, d2, d3⟩ := hq1
    go_wp2_with fail
    go_ret
    exact ⟨(0 : Int), p, u, true, rfl, (unhide HQ1).setF true, ⟨unhide HL, fun e => by cases e⟩, unhide HM, by decide, ((OnlyRow.refl _ w).drewNC k).trans (OnlyRow.set 1 _)⟩
  | some y =>
    obtain ⟨v, l⟩ := y
    rw [takeV_some htk] at HT
    cases f with
    | true =>
      have HL := hide hl.1
      clear hl htk
      go_enter Tryz.func16, Tryz.ntmps16
      go_wp2_with fail
      refine (unhide HT).mono ?_
      rintro e w1 ⟨rfl, k, rfl⟩
      have hq1 := (unhide HQ).drewN k
      have HQ1 := hide hq1
      obtain ⟨d0, d1, d2, d3⟩ := hq1
      go_wp2_with fail
      go_ret
      exact ⟨(0 : Int), p, u, true, rfl, (unhide HQ1).setF true, ⟨unhide HL, fun e => by cases e⟩, .inl ⟨rfl, .inl rfl⟩, by decide, ((OnlyRow.refl _ w).drewNC k).trans (OnlyRow.set 1 _)⟩
    | false =>
      obtain ⟨hu, hp⟩ := hl.2 rfl
      have htk2 : tkN s p = some (v, l) := by rw [← tkN_shift s p hp, ← hu]; exact htk
      have hle := tkN_le htk2
      have HM : MoR (stp s p) (p + l) false false (v : Int) := .inr ⟨rfl, rfl, by unfold stp; rw [htk2]; rfl⟩
      have HX : LftR s (p + l) (u.extract l u.size) false := ⟨by rw [ByteArray.size_extract]; have := hl.1; omega, fun _ => ⟨by rw [hu, ext_more s p _ hp], by omega⟩⟩
      have HM := hide HM
      have HX := hide HX
      have HSM : True := trivial
      clear hl htk htk2 hu hle
      go_enter Tryz.func16, Tryz.ntmps16
      go_wp2_with fail
      refine (unhide HT).mono ?_
      rintro e w1 ⟨rfl, k, rfl⟩
      have hq1 := (unhide HQ).drewN k
      have HQ1 := hide hq1
      obtain ⟨d0, d1, d2, d3⟩ := hq1
      go_wp2_with fail
      go_ret
      exact ⟨(v : Int), p + l, u.extract l u.size, false, rfl, (unhide HQ1).setU _, unhide HX, unhide HM, HSM, ((OnlyRow.refl _ w).drewNC k).trans (OnlyRow.set 0 _)⟩

set_option maxRecDepth 10000 in
set_option maxHeartbeats 2000000 in
theorem l12text_calls (Q : Nat) (s u : ByteArray) (p : Nat) (f : Bool) (w : World) (h : QSt w Q u f) (hl : LftR s p u f) :
    Calls Tryz.prog 17 #[.pointer (some ⟨Q, 0, none⟩)] w (RdPost (fun v : ByteArray => .string v) (txp s p) s f Q (fun v => v.size ≤ 1000000) w) := by
  have HT := hide (spec_TakeText u w (by have := hl.1; omega))
  have HQ := hide h
  have lq := lt_of_cell h.t0
  have c0 := h.t0
  clear h
  cases htk : tkT u 0 with
  | none =>
    rw [textV_none htk] at HT
    have HM : MoR (txp s p) p f true (⟨#[]⟩ : ByteArray) := by
      refine .inl ⟨rfl, ?_⟩
      cases f with
      | true => exact .inl rfl
      | false =>
        obtain ⟨rfl, hp⟩ := hl.2 rfl
        rw [tkT_shift s p hp] at htk
        exact .inr (by unfold txp; rw [htk]; rfl)
    have HM := hide HM
    have HL := hide hl.1
    clear hl htk
    go_enter Tryz.func17, Tryz.ntmps17
    go_wp2_with fail
    refine (unhide HT).mono ?_
    rintro e w1 ⟨rfl, hb1⟩
    have hq1 := (unhide HQ).keep hb1
    have HQ1 := hide hq1
    obtain ⟨d0, d1, d2, d3⟩ := hq1
    go_wp2_with fail
    go_ret
    exact ⟨(⟨#[]⟩ : ByteArray), p, u, true, rfl, (unhide HQ1).setF true, ⟨unhide HL, fun e => by cases e⟩, unhide HM, by decide, (OnlyRow.of hb1).trans (OnlyRow.set 1 _)⟩
  | some y =>
    obtain ⟨l, v⟩ := y
    rw [textV_some htk] at HT
    cases f with
    | true =>
      have HL := hide hl.1
      clear hl htk
      go_enter Tryz.func17, Tryz.ntmps17
      go_wp2_with fail
      refine (unhide HT).mono ?_
      rintro e w1 ⟨rfl, hb1⟩
      have hq1 := (unhide HQ).keep hb1
      have HQ1 := hide hq1
      obtain ⟨d0, d1, d2, d3⟩ := hq1
      go_wp2_with fail
      go_ret
      exact ⟨(⟨#[]⟩ : ByteArray), p, u, true, rfl, (unhide HQ1).setF true, ⟨unhide HL, fun e => by cases e⟩, .inl ⟨rfl, .inl rfl⟩, by decide, (OnlyRow.of hb1).trans (OnlyRow.set 1 _)⟩
    | false =>
      obtain ⟨hu, hp⟩ := hl.2 rfl
      have htk2 : tkT s p = some (l, v) := by rw [← tkT_shift s p hp, ← hu]; exact htk
      have hle := tkT_le htk2
      have HM : MoR (txp s p) (p + l + v) false false (u.extract l (l + v)) := .inr ⟨rfl, rfl, by unfold txp; rw [htk2]; rw [hu, ext_part s p l v (by omega)]; rfl⟩
      have HX : LftR s (p + l + v) (u.extract (l + v) u.size) false := ⟨by rw [ByteArray.size_extract]; have := hl.1; omega, fun _ => ⟨by rw [hu, ext_more s p _ hp, Nat.add_assoc], by omega⟩⟩
      have HM := hide HM
      have HX := hide HX
      have HSM : (u.extract l (l + v)).size ≤ 1000000 := by rw [ByteArray.size_extract]; omega
      clear hl htk htk2 hu hle
      go_enter Tryz.func17, Tryz.ntmps17
      go_wp2_with fail
      refine (unhide HT).mono ?_
      rintro e w1 ⟨rfl, hb1⟩
      have hq1 := (unhide HQ).keep hb1
      have HQ1 := hide hq1
      obtain ⟨d0, d1, d2, d3⟩ := hq1
      go_wp2_with fail
      go_ret
      exact ⟨(u.extract l (l + v)), p + l + v, u.extract (l + v) u.size, false, rfl, (unhide HQ1).setU _, unhide HX, unhide HM, HSM, (OnlyRow.of hb1).trans (OnlyRow.set 0 _)⟩

/-- What reading a text leaves; a text that is none is empty. -/
def Plain.RdPostE (s : ByteArray) (p : Nat) (f : Bool) (Q : Nat) (w : World) (e : Ending) (w' : World) : Prop :=
  ∃ (v : ByteArray) (p' : Nat) (u' : ByteArray) (f' : Bool), e = .returned (.string v) ∧ QSt w' Q u' f' ∧ LftR s p' u' f' ∧ MoR (txp s p) p' f f' v ∧ v.size ≤ 1000000 ∧ (f' = true → v = ⟨#[]⟩) ∧ OnlyRow (some ⟨Q, 0, none⟩) w w'

set_option maxRecDepth 10000 in
set_option maxHeartbeats 2000000 in
theorem l12textE_calls (Q : Nat) (s u : ByteArray) (p : Nat) (f : Bool) (w : World) (h : QSt w Q u f) (hl : LftR s p u f) :
    Calls Tryz.prog 17 #[.pointer (some ⟨Q, 0, none⟩)] w (RdPostE s p f Q w) := by
  have HT := hide (spec_TakeText u w (by have := hl.1; omega))
  have HQ := hide h
  have lq := lt_of_cell h.t0
  have c0 := h.t0
  clear h
  cases htk : tkT u 0 with
  | none =>
    rw [textV_none htk] at HT
    have HM : MoR (txp s p) p f true (⟨#[]⟩ : ByteArray) := by
      refine .inl ⟨rfl, ?_⟩
      cases f with
      | true => exact .inl rfl
      | false =>
        obtain ⟨rfl, hp⟩ := hl.2 rfl
        rw [tkT_shift s p hp] at htk
        exact .inr (by unfold txp; rw [htk]; rfl)
    have HM := hide HM
    have HL := hide hl.1
    clear hl htk
    go_enter Tryz.func17, Tryz.ntmps17
    go_wp2_with fail
    refine (unhide HT).mono ?_
    rintro e w1 ⟨rfl, hb1⟩
    have hq1 := (unhide HQ).keep hb1
    have HQ1 := hide hq1
    obtain ⟨d0, d1, d2, d3⟩ := hq1
    go_wp2_with fail
    go_ret
    exact ⟨(⟨#[]⟩ : ByteArray), p, u, true, rfl, (unhide HQ1).setF true, ⟨unhide HL, fun e => by cases e⟩, unhide HM, by decide, (fun _ => rfl), (OnlyRow.of hb1).trans (OnlyRow.set 1 _)⟩
  | some y =>
    obtain ⟨l, v⟩ := y
    rw [textV_some htk] at HT
    cases f with
    | true =>
      have HL := hide hl.1
      clear hl htk
      go_enter Tryz.func17, Tryz.ntmps17
      go_wp2_with fail
      refine (unhide HT).mono ?_
      rintro e w1 ⟨rfl, hb1⟩
      have hq1 := (unhide HQ).keep hb1
      have HQ1 := hide hq1
      obtain ⟨d0, d1, d2, d3⟩ := hq1
      go_wp2_with fail
      go_ret
      exact ⟨(⟨#[]⟩ : ByteArray), p, u, true, rfl, (unhide HQ1).setF true, ⟨unhide HL, fun e => by cases e⟩, .inl ⟨rfl, .inl rfl⟩, by decide, (fun _ => rfl), (OnlyRow.of hb1).trans (OnlyRow.set 1 _)⟩
    | false =>
      obtain ⟨hu, hp⟩ := hl.2 rfl
      have htk2 : tkT s p = some (l, v) := by rw [← tkT_shift s p hp, ← hu]; exact htk
      have hle := tkT_le htk2
      have HM : MoR (txp s p) (p + l + v) false false (u.extract l (l + v)) := .inr ⟨rfl, rfl, by unfold txp; rw [htk2]; rw [hu, ext_part s p l v (by omega)]; rfl⟩
      have HX : LftR s (p + l + v) (u.extract (l + v) u.size) false := ⟨by rw [ByteArray.size_extract]; have := hl.1; omega, fun _ => ⟨by rw [hu, ext_more s p _ hp, Nat.add_assoc], by omega⟩⟩
      have HM := hide HM
      have HX := hide HX
      have HSM : (u.extract l (l + v)).size ≤ 1000000 := by rw [ByteArray.size_extract]; omega
      clear hl htk htk2 hu hle
      go_enter Tryz.func17, Tryz.ntmps17
      go_wp2_with fail
      refine (unhide HT).mono ?_
      rintro e w1 ⟨rfl, hb1⟩
      have hq1 := (unhide HQ).keep hb1
      have HQ1 := hide hq1
      obtain ⟨d0, d1, d2, d3⟩ := hq1
      go_wp2_with fail
      go_ret
      exact ⟨(u.extract l (l + v)), p + l + v, u.extract (l + v) u.size, false, rfl, (unhide HQ1).setU _, unhide HX, unhide HM, HSM, (fun e => by cases e), (OnlyRow.of hb1).trans (OnlyRow.set 0 _)⟩
end Go.Proofs.YtjiclgcohpkkjaaGreatDoor
