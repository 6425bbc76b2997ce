/- The pieces of a text, one by one: strings.SplitSeq at a sign of one byte. -/
import Derived.Test.YtanekbifdedmeaaGreatDoorRrI
import Derived.Test.YtanekbifdedmeaaGreatDoorGAK
import Derived.Test.YtanekbifdedmeaaGreatDoorGAG
import Derived.RangeFuncNested
import Derived.RangeFuncBound
import Derived.RangeFuncCalls
import Derived.RangeFuncLeaves
import Derived.Shelf.Abstract
import Derived.OwnWalkIn
import Derived.TacticsInMore
import Derived.LoopNIn
import Derived.LoopIn
import Derived.Deep.RegionHeld3
namespace Go.Proofs.YtanekbifdedmeaaGreatDoor
open Go.RowKit Plain
set_option linter.unusedVariables false
attribute [local go_sem] Oper.semAt_some

theorem index_calls (s sep : ByteArray) (w : World) (hs : s.size ≤ 2000000) (hv : RrV w) :
    Calls Tryz.prog 156 #[.string s, .string sep] w fun e w' => e = .returned (.int .i64 (Lib.index s.data.toList sep.data.toList)) ∧ w = w' := by
  obtain ⟨m, hm⟩ := hv.m
  have HI := hide (fun W (hW : W = w) => Any.stringslite_Index { Tryz.lays145 with } s sep m W (by omega) (by rw [hW]; exact hm))
  clear hm hv
  go_enter Tryz.func156, Tryz.ntmps156
  go_wp2_with fail
  refine (unhide HI w rfl).mono ?_
  rintro e w1 ⟨rfl, rfl⟩
  go_wp2_with fail
  go_ret
  exact ⟨rfl, rfl⟩

namespace Plain
/-- What the iterator keeps: the text that is left, the sign, and nought. -/
structure SqAt (W : World) (Bs Bp Bv : Nat) (t : ByteArray) : Prop where
  c0 : W.cell? ⟨Bs, 0, none⟩ = some (.string t)
  z0 : W.frozen? ⟨Bs, 0, none⟩ = false
  c1 : W.cell? ⟨Bp, 0, none⟩ = some (.string ⟨#[38]⟩)
  c2 : W.cell? ⟨Bv, 0, none⟩ = some (.int .i64 0)
theorem SqAt.same {W W' : World} {Bs Bp Bv : Nat} {t : ByteArray} (h : SqAt W Bs Bp Bv t) (h0 : W'.heap[Bs]? = W.heap[Bs]?) (h1 : W'.heap[Bp]? = W.heap[Bp]?) (h2 : W'.heap[Bv]? = W.heap[Bv]?) : SqAt W' Bs Bp Bv t :=
  ⟨(World.cell?_of_block (a := ⟨Bs, 0, none⟩) h0).trans h.c0, (World.frozen?_of_block (a := ⟨Bs, 0, none⟩) h0).trans h.z0, (World.cell?_of_block (a := ⟨Bp, 0, none⟩) h1).trans h.c1, (World.cell?_of_block (a := ⟨Bv, 0, none⟩) h2).trans h.c2⟩
theorem SqAt.put {W : World} {Bs Bp Bv : Nat} {t : ByteArray} (h : SqAt W Bs Bp Bv t) (h1 : Bs ≠ Bp) (h2 : Bs ≠ Bv) (u : ByteArray) : SqAt (W.setCell ⟨Bs, 0, none⟩ (.string u)) Bs Bp Bv u :=
  ⟨World.cell?_setCell_same _ _ _ h.c0, by rw [World.frozen?_setCell]; exact h.z0, (World.cell?_setCell_other _ ⟨Bs, 0, none⟩ ⟨Bp, 0, none⟩ _ (fun q => h1 (congrArg Addr.block q))).trans h.c1, (World.cell?_setCell_other _ ⟨Bs, 0, none⟩ ⟨Bv, 0, none⟩ _ (fun q => h2 (congrArg Addr.block q))).trans h.c2⟩
/-- How much is left. -/
def sqLeft (W : World) (Bs : Nat) : Nat := match W.cell? ⟨Bs, 0, none⟩ with
  | some (.string t) => t.size
  | _ => 0
theorem onlyS (Bs : Nat) (W : World) (v : Value) : OnlyP (fun k => k = Bs) W (W.setCell ⟨Bs, 0, none⟩ v) := by
  have h := OnlyAt.setCell ⟨Bs, 0, none⟩ W v
  exact ⟨h.os, h.tape, h.output, h.size, fun k hk hn => h.block k hk hn⟩
end Plain

set_option maxRecDepth 10000 in
set_option maxHeartbeats 4000000 in
theorem seq_calls (W : World) (Bs Bp Bv : Nat) (s : ByteArray) (h1 : Bs ≠ Bp) (h2 : Bs ≠ Bv) (h : SqAt W Bs Bp Bv s) (hs : s.size ≤ 2000000) (l : Nat) (J : List (List UInt8) → World → Prop) (Jx : World → Prop)
    (hV : ∀ r X, J r X → RrV X)
    (hJ : ∀ r X X', J r X → OnlyP (fun k => k = Bs) X X' → J r X')
    (hY : ∀ x r X, J (x :: r) X → YieldAt Fence.wide 1 Tryz.prog l #[.string (bU x)] X fun e W' =>
      (e = .returned (.bool true) ∧ J r W' ∧ W'.heap[Bs]? = X.heap[Bs]? ∧ W'.heap[Bp]? = X.heap[Bp]? ∧ W'.heap[Bv]? = X.heap[Bv]?) ∨ (e = .returned (.bool false) ∧ Jx W'))
    (h0 : J (splt 38 s.data.toList) W) :
    CallsIn Fence.wide 2 Tryz.prog 179 #[.func (.yield l) #[] #[], .pointer (some ⟨Bp, 0, none⟩), .pointer (some ⟨Bs, 0, none⟩), .pointer (some ⟨Bv, 0, none⟩)] W fun e W' => (∃ v, e = .returned v) ∧ (J [] W' ∨ Jx W') := by
  have HV := hide hV
  have HJ := hide hJ
  have HY := hide hY
  have H0 := hide h0
  have HS := hide h
  have c1 := h.c1
  clear hV hJ hY h0 h
  refine callsIn_wide.2 ?_
  go_enter Tryz.func179, Tryz.ntmps179
  go_wp2_with fail
  refine (wpIn_wide (n := 2)).1 ?_
  clear c1
  gi_loopw [7, 8] (fun _ _ wr => ∃ t : ByteArray, t.size ≤ s.size ∧ Hid (SqAt wr Bs Bp Bv t) ∧ Hid (J (splt 38 t.data.toList) wr)) (fun _ _ wr => sqLeft wr Bs)
  case atStart => exact ⟨s, Nat.le_refl _, HS, H0⟩
  case round =>
    clear HS H0
    obtain ⟨t, ht, HSQ, HJJ⟩ := hrel
    obtain ⟨c0, z0, c1, c2⟩ := unhide HSQ
    have HIX := hide ((callsIn_wide (n := 1)).2 (index_calls t ⟨#[38]⟩ wr (by omega) (unhide HV _ _ (unhide HJJ))))
    rw [show (⟨#[38]⟩ : ByteArray).data.toList = [38] from rfl] at HIX
    have hlt := len_dataR t
    rcases ix_room [38] t.data.toList with q | ⟨K, q, hK⟩
    · rw [q] at HIX
      have hJ1 := unhide HJJ
      rw [splt_no (c := 38) (m := 38) rfl q] at hJ1
      have hY1 := unhide HY _ _ wr hJ1
      rw [bU_self] at hY1
      have HYY := hide hY1
      clear hY1
      clear q hJ1 HJJ
      gi_wp2_with (first
        | (refine ⟨trivial, ?_⟩; gi_at_call 156; refine (unhide HIX).mono ?_; rintro e w3 ⟨rfl, rfl⟩)
        | gi_in)
      refine (wpIn_wide (n := 2)).1 ?_
      obtain ⟨fn, tmps, assign, body, hy, hR⟩ := unhide HYY
      gi_wp2
      refine hR.mono ?_
      rintro e W3 (⟨rfl, hJ4, _, _, _⟩ | ⟨rfl, hJ4⟩)
      · gi_wp2
        go_end0
        exact ⟨⟨_, rfl⟩, .inl hJ4⟩
      · gi_wp2
        go_end0
        exact ⟨⟨_, rfl⟩, .inr hJ4⟩
    · rw [q] at HIX
      have hKs : K + 1 ≤ t.size := by rw [hlt] at hK; exact hK
      have hJ1 := unhide HJJ
      rw [splt_ix (c := 38) (m := 38) rfl q] at hJ1
      have hY1 := unhide HY _ _ wr hJ1
      rw [show bU (t.data.toList.take K) = t.extract 0 K from (bU_of (extR_take t K)).symm] at hY1
      rw [← ext_drop] at hY1
      have HYY := hide hY1
      have hw : IntKind.i64.wrap ((K : Int) + 0) = (K : Int) := by rw [IntKind.wrap_i64]; omega
      obtain ⟨L, hL⟩ : ∃ L : Nat, K + 1 = L := ⟨_, rfl⟩
      have hw1 : IntKind.i64.wrap ((K : Int) + 1) = (L : Int) := by rw [IntKind.wrap_i64]; omega
      have k0 : (0 : Int) ≤ (K : Int) := by omega
      have k1 : (K : Int) ≤ (t.size : Int) := by omega
      have l0 : (0 : Int) ≤ (L : Int) := by omega
      have l1 : (L : Int) ≤ (t.size : Int) := by omega
      have hsx : (t.extract L t.size).size < t.size := by rw [ByteArray.size_extract]; omega
      have HSX := hide hsx
      rw [hL] at HYY
      clear q hJ1 hY1 hL hK hKs hlt hsx
      gi_wp2_with (first
        | (refine ⟨trivial, ?_⟩; gi_at_call 156; refine (unhide HIX).mono ?_; rintro e w3 ⟨rfl, rfl⟩)
        | gi_in)
      obtain ⟨fn, tmps, assign, body, hy, hR⟩ := unhide HYY
      rw [hy]
      gi_wp2
      refine hR.mono ?_
      rintro e W3 (⟨rfl, hJ4, g0, g1, g2⟩ | ⟨rfl, hJ4⟩)
      case inr =>
        gi_wp2
        refine bodyPost_ret (results_none rfl _ _ _) rfl ?_
        exact ⟨⟨_, rfl⟩, .inr hJ4⟩
      have HS3 := hide ((unhide HSQ).same g0 g1 g2)
      have HJ3 := hide hJ4
      obtain ⟨d0, y0, d1, d2⟩ := unhide HS3
      clear g0 g1 g2 hJ4 HYY HJJ
      gi_wp2
      have HS4 := (unhide HS3).put h1 h2 (t.extract L t.size)
      refine ⟨⟨t.extract L t.size, by have := unhide HSX; omega, hide HS4, hide (unhide HJ _ _ _ (unhide HJ3) (onlyS Bs W3 _))⟩, ?_⟩
      unfold sqLeft
      rw [HS4.c0, c0]
      exact unhide HSX
end Go.Proofs.YtanekbifdedmeaaGreatDoor
