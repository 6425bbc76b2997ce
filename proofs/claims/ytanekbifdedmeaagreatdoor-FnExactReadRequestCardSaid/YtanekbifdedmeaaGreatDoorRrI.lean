/- The program's cutting of lines and reading of numbers. -/
import Derived.Test.YtanekbifdedmeaaGreatDoorRrN
import Derived.Test.YtanekbifdedmeaaGreatDoorShlR
import Derived.Test.YtanekbifdedmeaaGreatDoorGAE
import Derived.Test.YtanekbifdedmeaaGreatDoorGAF
import Derived.Test.YtanekbifdedmeaaGreatDoorGAB
import Derived.Lib.CutLaws
import Derived.Lib.Split
import Derived.Lib.ParseIntB
namespace Go.Proofs.YtanekbifdedmeaaGreatDoor
open Go.RowKit Plain
set_option linter.unusedVariables false

namespace Plain
/-- The library's variables that are read: a number and two errors. -/
structure RrV (w : World) : Prop where
  m : ∃ m, w.cell? ⟨Tryz.lays145_ren.g 1, 0, none⟩ = some (.int .i64 m)
  s : ∃ te pe, w.cell? ⟨Tryz.lays174_ren.g 15, 0, none⟩ = some (.iface te pe)
  r : ∃ te pe, w.cell? ⟨Tryz.lays174_ren.g 16, 0, none⟩ = some (.iface te pe)
  lt : Tryz.lays145_ren.g 1 < w.heap.size ∧ Tryz.lays174_ren.g 15 < w.heap.size ∧ Tryz.lays174_ren.g 16 < w.heap.size
theorem RrV.below {w w' : World} (h : RrV w) (hb : Below w.heap.size w w') : RrV w' := by
  obtain ⟨⟨m, hm⟩, ⟨t1, p1, h1⟩, ⟨t2, p2, h2⟩, l1, l2, l3⟩ := h
  have hz := hb.size
  exact ⟨⟨m, bcl hb l1 hm⟩, ⟨t1, p1, bcl hb l2 h1⟩, ⟨t2, p2, bcl hb l3 h2⟩, by omega, by omega, by omega⟩
end Plain
theorem parseR_calls (s : ByteArray) (w : World) (hs : s.size ≤ 10000000) (hv : RrV w) :
    Calls Tryz.prog 130 #[.string s, .int .i64 10, .int .i64 64] w fun e w' => Below w.heap.size w w' ∧ ((∃ v, Lib.parseIntB 64 s.data.toList = .ok v ∧ e = .returned (.tuple #[.int .i64 v, .nilIface])) ∨ ((∀ v, Lib.parseIntB 64 s.data.toList ≠ .ok v) ∧ ∃ x te pe, e = .returned (.tuple #[.int .i64 x, .iface te pe]))) := by
  cases hp : Lib.parseIntB 64 s.data.toList with
  | ok v =>
    refine (Any.strconv_ParseInt_10_at64_ok Tryz.lays174 s (by omega) v hp w).mono ?_
    rintro e w' ⟨rfl, hw⟩
    refine ⟨?_, .inl ⟨v, rfl, rfl⟩⟩
    rcases hw with rfl | ⟨t, rfl⟩
    · exact Below.refl _ _
    · exact ⟨rfl, rfl, rfl, by rw [Lib.bytesWorld_size]; omega, fun j hj => Lib.bytesWorld_at_old w _ t j hj⟩
  | «syntax» =>
    obtain ⟨te, pe, h1⟩ := hv.s
    refine (Any.strconv_ParseInt_10_at64_syntax Tryz.lays174 s (by omega) hp _ w h1 (.inr ⟨te, pe, rfl⟩)).mono ?_
    rintro e w' ⟨N, rfl, -, -, hb⟩
    exact ⟨hb, .inr ⟨(fun v q => by cases q), _, _, _, rfl⟩⟩
  | range =>
    obtain ⟨te, pe, h1⟩ := hv.r
    refine (Any.strconv_ParseInt_10_at64_range Tryz.lays174 s (by omega) hp _ w h1 (.inr ⟨te, pe, rfl⟩)).mono ?_
    rintro e w' ⟨N, rfl, -, -, hb⟩
    exact ⟨hb, .inr ⟨(fun v q => by cases q), _, _, _, rfl⟩⟩
theorem cutS_yes (s sep : ByteArray) (K : Nat) (w : World) (hs : s.size ≤ 2000000) (hv : RrV w) (h : Lib.index s.data.toList sep.data.toList = K) :
    Calls Tryz.prog 94 #[.string s, .string sep] w fun e w' => e = .returned (.tuple #[.string (s.extract 0 K), .string (s.extract (K + sep.size) s.size), .bool true]) ∧ ∃ k, w' = w.drewN k := by
  obtain ⟨m, hm⟩ := hv.m
  obtain ⟨e1, e2, e3⟩ := Lib.cutB_hit s sep K h
  have hc := Any.strings_Cut Tryz.lays145 s sep m w (by omega) hm
  rw [e1, e2, e3] at hc
  exact hc
theorem cutS_none (s sep : ByteArray) (w : World) (hs : s.size ≤ 2000000) (hv : RrV w) (h : Lib.index s.data.toList sep.data.toList = -1) :
    Calls Tryz.prog 94 #[.string s, .string sep] w fun e w' => e = .returned (.tuple #[.string s, .string ⟨#[]⟩, .bool false]) ∧ ∃ k, w' = w.drewN k := by
  obtain ⟨m, hm⟩ := hv.m
  obtain ⟨e1, e2, e3⟩ := Lib.cutB_miss s sep h
  have hc := Any.strings_Cut Tryz.lays145 s sep m w (by omega) hm
  rw [e1, e2, e3] at hc
  exact hc

namespace Plain
/-- What a number in a text is answered with. -/
def numAns (N : Int) : Value := if N < 0 then .tuple #[.int .i64 0, .bool false] else .tuple #[.int .i64 N, .bool true]
end Plain

set_option maxRecDepth 10000 in
set_option maxHeartbeats 4000000 in
theorem readDec_calls (s : ByteArray) (M : Nat) (w : World) (hM : M < 10 ^ 15) (hs : s.size ≤ 2000000) (hv : RrV w) (hP : P10 w) :
    Calls Tryz.prog 95 #[.string s, .int .i64 M] w fun e w' => e = .returned (numAns (numG M s.data.toList)) ∧ Below w.heap.size w w' := by
  have e15 : (10 : Nat) ^ 15 = 1000000000000000 := by decide
  have HPA := hide (parseR_calls s w (by omega) hv)
  have HFI := hide (fun (n : Nat) (W : World) (hW : Below w.heap.size w W) (hn : n ≤ M) => formatInt_calls n W (hP.below hW) (by omega))
  have hnum := numG_is M hM s.data.toList
  obtain ⟨N, hN⟩ : ∃ N, numG M s.data.toList = N := ⟨_, rfl⟩
  rw [hN] at hnum ⊢
  have HNU := hide hnum
  clear hnum hN hP hv
  have hbad : ∀ v : Int, Lib.parseIntB 64 s.data.toList = .ok v → (v < 0 ∨ (M : Int) < v ∨ s ≠ decN v.toNat) → N = -1 := by
    intro v hp hv
    rcases unhide HNU with ⟨h1, _⟩ | ⟨n, h1, h2, h3⟩
    · exact h1
    · exfalso
      rw [h2, parse_decG n (by omega)] at hp
      cases hp
      rcases hv with q | q | q
      · omega
      · omega
      · apply q
        rw [Int.toNat_natCast]
        exact bU_of h2
  have HBAD := hide hbad
  clear hbad
  go_enter Tryz.func95, Tryz.ntmps95
  go_wp2_with fail
  refine (unhide HPA).mono ?_
  rintro e w1 ⟨hb1, ⟨v, hp, rfl⟩ | ⟨hno, x, te, pe, rfl⟩⟩
  · have HB := hide hb1
    have HP2 := hide hp
    clear hb1 hp
    by_cases h0 : v < 0
    · have HX := hide (unhide HBAD v (unhide HP2) (.inl h0))
      go_wp2_with fail
      go_ret2
      exact ⟨by rw [unhide HX]; rfl, unhide HB⟩
    · obtain ⟨n, rfl⟩ := Int.eq_ofNat_of_zero_le (show 0 ≤ v by omega)
      by_cases h1 : (M : Int) < (n : Int)
      · have HX := hide (unhide HBAD n (unhide HP2) (.inr (.inl h1)))
        go_wp2_with fail
        go_ret2
        exact ⟨by rw [unhide HX]; rfl, unhide HB⟩
      · have HF2 := hide (unhide HFI n w1 (unhide HB) (by omega))
        cases hq : ((decN n).toList == s.toList) with
        | true =>
          have hs2 : decN n = s := by
            rw [ByteArray.toList_eq, ByteArray.toList_eq, beq_iff_eq] at hq
            rw [bU_of hq]
            exact bU_self s
          have HX := hide (show N = (n : Int) from by
            rcases unhide HNU with ⟨h1, h2⟩ | ⟨n2, h1, h2, h3⟩
            · exact absurd (show s.data.toList = Lib.decDigits n from by rw [← hs2]; exact bU_data (Lib.decDigits n)) (h2 n (by omega))
            · have := unhide HP2
              rw [h2, parse_decG n2 (by omega)] at this
              cases this
              exact h3)
          have hqn : ((decN n).toList != s.toList) = false := by rw [bne, hq]; rfl
          generalize decN n = D at hq hqn HF2
          clear hs2
          go_wp2_with (go_at_call 50; refine (unhide HF2).mono ?_; rintro e w2 ⟨rfl, hb2⟩)
          go_ret2
          exact ⟨by rw [unhide HX]; unfold numAns; rw [if_neg (by omega)]; rfl, belOn (unhide HB) hb2⟩
        | false =>
          have HX := hide (unhide HBAD n (unhide HP2) (.inr (.inr (fun q => by rw [q, Int.toNat_natCast, beq_self_eq_true] at hq; cases hq))))
          have hqn : ((decN n).toList != s.toList) = true := by rw [bne, hq]; rfl
          generalize decN n = D at hq hqn HF2
          go_wp2_with (go_at_call 50; refine (unhide HF2).mono ?_; rintro e w2 ⟨rfl, hb2⟩)
          go_ret2
          exact ⟨by rw [unhide HX]; rfl, belOn (unhide HB) hb2⟩
  · have HX := hide (show N = -1 from by
      rcases unhide HNU with ⟨h1, _⟩ | ⟨n, h1, h2, h3⟩
      · exact h1
      · exact absurd (by rw [h2]; exact parse_decG n (by omega)) (hno n))
    have HB := hide hb1
    clear hb1 hno
    go_wp2_with fail
    go_ret2
    exact ⟨by rw [unhide HX]; rfl, unhide HB⟩
end Go.Proofs.YtanekbifdedmeaaGreatDoor
