/- Members read out of texts, by the program: the library's functions. -/
import Derived.Test.YtmokpgmehaakgaaGreatDoorRzR
import Derived.Test.YtmokpgmehaakgaaGreatDoorShlR
import Derived.Test.YtmokpgmehaakgaaGreatDoorRzA
namespace Go.Proofs.YtmokpgmehaakgaaGreatDoor
open Go.RowKit Plain
set_option linter.unusedVariables false

namespace Plain
/-- The library's variables that are read: a number and two errors. -/
structure RdVars (w : World) : Prop where
  m : ∃ m, w.cell? ⟨Tryz.lays146_ren.g 1, 0, none⟩ = some (.int .i64 m)
  s : ∃ te pe, w.cell? ⟨Tryz.lays174_ren.g 15, 0, none⟩ = some (.iface te pe)
  r : ∃ te pe, w.cell? ⟨Tryz.lays174_ren.g 16, 0, none⟩ = some (.iface te pe)
  lt : Tryz.lays146_ren.g 1 < w.heap.size ∧ Tryz.lays174_ren.g 15 < w.heap.size ∧ Tryz.lays174_ren.g 16 < w.heap.size
theorem RdVars.at {w w' : World} (h : RdVars w) (hb : Below w.heap.size w w') : RdVars w' := by
  obtain ⟨⟨m, hm⟩, ⟨t1, p1, h1⟩, ⟨t2, p2, h2⟩, l1, l2, l3⟩ := h
  have hz := hb.size
  exact ⟨⟨m, bcl hb l1 hm⟩, ⟨t1, p1, bcl hb l2 h1⟩, ⟨t2, p2, bcl hb l3 h2⟩, by omega, by omega, by omega⟩
end Plain
theorem split_calls (s : ByteArray) (w : World) (hs : s.size ≤ 10000000) (hv : RdVars w) :
    Calls Tryz.prog 28 #[.string s, .string ⟨#[32]⟩] w fun e w' => e = .returned (.slice (some ⟨w.heap.size, 0, none⟩) (cutB 32 s).length (cutB 32 s).length) ∧ w' = w.alloc (.cells ((cutB 32 s).map Value.string).toArray 9) := by
  obtain ⟨m, hm⟩ := hv.m
  have hlen := Lib.splitB_all (⟨#[32]⟩ : ByteArray) (by decide) 0 _ s rfl
  have h := Any.strings_Split Tryz.lays146 (by kernel_rfl) s ⟨#[32]⟩ m w (by omega) hm (by decide)
  rw [splitB_cut s ⟨#[32]⟩ rfl] at h hlen
  rw [← hlen] at h
  exact h
theorem parse_calls (s : ByteArray) (w : World) (hs : s.size ≤ 10000000) (hv : RdVars w) :
    Calls Tryz.prog 29 #[.string s, .int .i64 10, .int .i64 64] w fun e w' => Below w.heap.size w w' ∧ ((∃ v, Lib.parseIntB 64 s.data.toList = .ok v ∧ e = .returned (.tuple #[.int .i64 v, .nilIface])) ∨ ((∀ v, Lib.parseIntB 64 s.data.toList ≠ .ok v) ∧ ∃ x te pe, e = .returned (.tuple #[.int .i64 x, .iface te pe]))) := by
  cases hp : Lib.parseIntB 64 s.data.toList with
  | ok v =>
    refine (Any.strconv_ParseInt_10_at64_ok Tryz.lays174 s (by omega) v hp w).mono ?_
    rintro e w' ⟨rfl, hw⟩
    refine ⟨?_, .inl ⟨v, rfl, rfl⟩⟩
    rcases hw with rfl | ⟨t, rfl⟩
    · exact Below.refl _ _
    · exact ⟨rfl, rfl, rfl, by rw [Lib.bytesWorld_size]; omega, fun j hj => Lib.bytesWorld_at_old w _ t j hj⟩
  | «syntax» =>
    obtain ⟨te, pe, h1⟩ := hv.s
    refine (Any.strconv_ParseInt_10_at64_syntax Tryz.lays174 s (by omega) hp _ w h1 (.inr ⟨te, pe, rfl⟩)).mono ?_
    rintro e w' ⟨N, rfl, -, -, hb⟩
    exact ⟨hb, .inr ⟨(fun v q => by cases q), _, _, _, rfl⟩⟩
  | range =>
    obtain ⟨te, pe, h1⟩ := hv.r
    refine (Any.strconv_ParseInt_10_at64_range Tryz.lays174 s (by omega) hp _ w h1 (.inr ⟨te, pe, rfl⟩)).mono ?_
    rintro e w' ⟨N, rfl, -, -, hb⟩
    exact ⟨hb, .inr ⟨(fun v q => by cases q), _, _, _, rfl⟩⟩
end Go.Proofs.YtmokpgmehaakgaaGreatDoor
