/- Texts of one kind, put together. -/
import Derived.Test.YtjiclgcohpkkjaaGreatDoorGzAF
import Derived.Test.YtjiclgcohpkkjaaGreatDoorGzAG
import Derived.Deep.RegionWith

/- Members by the program: sets as words, when members are right. -/
namespace Go.Proofs.YtjiclgcohpkkjaaGreatDoor
open Go.RowKit Plain
set_option linter.unusedVariables false

set_option maxRecDepth 10000 in
theorem nodeId_calls (n : Int) (w : World) : Calls Tryz.prog 166 #[.int .i64 n] w fun e w' => e = .returned (.bool (decide (1 ≤ n) && decide (n ≤ 50))) ∧ w = w' := by
  by_cases h1 : 1 ≤ n <;> by_cases h2 : n ≤ 50 <;>
    (go_enter Tryz.func166, Tryz.ntmps166
     go_wp2
     go_ret
     exact ⟨by simp [h1, h2], rfl⟩)

/-- A list of numbers in memory. -/
structure Plain.IntsAt (W : World) (a : Option Addr) (n : Nat) (ls : List Int) : Prop where
  row : RowAt i64E W a ls
  len : ls.length = n
  bn : n ≤ 1048576
theorem Plain.IntsAt.below {W W' : World} {a : Option Addr} {n : Nat} {ls : List Int} (h : IntsAt W a n ls) (hb : Below W.heap.size W W') : IntsAt W' a n ls := ⟨h.row.below hb, h.len, h.bn⟩

def risV (ls : List Int) : Value := .tuple #[.int .u64 ((if okIds 0 ls = true then setN ls else 0 : Nat) : Int), .bool (okIds 0 ls)]
theorem risV_yes {ls : List Int} (h : okIds 0 ls = true) : risV ls = .tuple #[.int .u64 (setN ls : Nat), .bool true] := by unfold risV; rw [h, if_pos rfl]
theorem risV_no {ls : List Int} (h : okIds 0 ls = false) : risV ls = .tuple #[.int .u64 0, .bool false] := by unfold risV; rw [h]; rfl

set_option maxRecDepth 10000 in
set_option maxHeartbeats 2000000 in
theorem risingSet_calls (a : Option Addr) (n c : Nat) (ls : List Int) (w : World) (h : IntsAt w a n ls) :
    Calls Tryz.prog 134 #[.slice a n c] w fun e w' => e = .returned (risV ls) ∧ w = w' := by
  have HH := hide h
  have hbn := h.bn
  clear h
  obtain ⟨R, hR⟩ : ∃ R, okIds 0 ls = R := ⟨_, rfl⟩
  have HR := hide hR
  clear hR
  obtain ⟨w0, rfl⟩ : ∃ w0, w0 = w := ⟨_, rfl⟩
  go_enter Tryz.func134, Tryz.ntmps134
  go_wp2_with fail
  go_loopw [4, 9] (fun s i wr => ∃ k : Nat, i = .int .i64 k ∧ s = .int .u64 (setN (ls.take k) : Nat) ∧ k ≤ n ∧ Hid (okIds (prevZ ls k) (ls.drop k) = R) ∧ Hid (TopIs (setN (ls.take k)) (prevZ ls k)) ∧ wr = w0) (fun _ i _ => n - (intOf i).toNat)
  case atStart => exact ⟨0, rfl, rfl, by omega, hide (unhide HR), hide topIs_zero, rfl⟩
  case round =>
    obtain ⟨k, rfl, rfl, hk, HO, HT, rfl⟩ := hrel
    by_cases hkn : k < n
    · have hkl : k < ls.length := by rw [(unhide HH).len]; exact hkn
      obtain ⟨g, e1, l1, p0, -⟩ := (unhide HH).row.ix k hkl
      have hst := okIds_step ls k hkl
      have hsn := setN_take ls k hkl
      have hpn : prevZ ls (k + 1) = ls[k] := by rw [prevZ, List.getElem?_eq_getElem hkl]; rfl
      have hlt := setN_lt (ls.take k)
      generalize ls[k] = x at p0 hst hsn hpn
      subst e1
      have i0 : (0 : Int) ≤ (k : Int) := by omega
      have i1 : (k : Int) < (n : Int) := by omega
      rw [unhide HO] at hst
      have HT2 := unhide HT
      have HSN := hide hsn
      have HPN := hide hpn
      generalize hp : prevZ ls k = pv at hst HT2
      generalize setN (ls.take k) = S at HT2 hlt hsn HSN
      clear HT HO hsn hpn
      cases hn : (decide (1 ≤ x) && decide (x ≤ 50)) with
      | false =>
        have HN := hide hn
        have HX := hide (show R = false from by
          rw [hst]
          have : (decide (pv < x) && decide (x ≤ 50)) = false := by
            obtain ⟨_, h3, _⟩ := HT2
            rw [Bool.eq_false_iff]
            intro hy
            simp at hy hn
            rcases h3 with ⟨_, h3⟩ | ⟨_, h3⟩ <;> omega
          rw [this]
          rfl)
        clear hst hn HT2
        go_wp2_with fail
        refine (nodeId_calls x _).mono ?_
        rintro e w1 ⟨rfl, rfl⟩
        rw [unhide HN]
        go_wp2_with fail
        exact bodyPost_ret (v := .tuple #[.int .u64 0, .bool false]) (by simp [results, Tryz.results134, go_sem]) rfl ⟨by rw [risV_no ((unhide HR).trans (unhide HX))], rfl⟩
      | true =>
        have HN := hide hn
        have hn2 : 1 ≤ x ∧ x ≤ 50 := by simpa using hn
        obtain ⟨n1, n2⟩ := hn2
        obtain ⟨X, rfl⟩ := Int.eq_ofNat_of_zero_le (show 0 ≤ x by omega)
        have hX : X ≤ 63 := by omega
        have hon := only_calls X wr hX
        have hpl : 2 ^ X ≤ 1125899906842624 := Nat.pow_le_pow_right (show 0 < 2 by decide) (show X ≤ 50 by omega)
        by_cases hle : (X : Int) ≤ pv
        · have hge := topIs_no HT2 n1 hle
          rw [Int.toNat_natCast] at hge
          have HX := hide (show R = false from by rw [hst, decide_eq_false (show ¬ pv < (X : Int) by omega)]; rfl)
          clear hst hn HT2 HSN
          generalize 2 ^ X = P at hon hge hpl
          have HON := hide hon
          clear hon
          have hge2 : (P : Int) ≤ (S : Int) := by omega
          go_wp2_with fail
          refine (nodeId_calls _ _).mono ?_
          rintro e w1 ⟨rfl, rfl⟩
          rw [unhide HN]
          go_wp2_with fail
          refine (unhide HON).mono ?_
          rintro e w1 ⟨rfl, rfl⟩
          go_wp2_with fail
          exact bodyPost_ret (v := .tuple #[.int .u64 0, .bool false]) (by simp [results, Tryz.results134, go_sem]) rfl ⟨by rw [risV_no ((unhide HR).trans (unhide HX))], rfl⟩
        · have hge := topIs_lt HT2 (show pv < (X : Int) by omega)
          have hnx := topIs_next HT2 n1 (show pv < (X : Int) by omega) n2
          rw [Int.toNat_natCast] at hge hnx
          have HX := hide (show okIds (prevZ ls (k + 1)) (ls.drop (k + 1)) = R from by rw [hst, decide_eq_true (show pv < (X : Int) by omega), decide_eq_true n2]; rfl)
          have hs2 := unhide HSN
          rw [if_pos ⟨n1, n2⟩, Int.toNat_natCast] at hs2
          clear hst hn HT2 HSN
          have hor : bits .or .u64 (S : Int) ((2 ^ X : Nat) : Int) = ((S ||| 2 ^ X : Nat) : Int) := u64_or_nat _ _ (by omega) (by omega)
          generalize 2 ^ X = P at hon hge hpl hs2 hnx hor
          rw [← hs2] at hnx hor
          have HS2 := hide hs2
          have HNX := hide hnx
          have HON := hide hon
          clear hon hs2 hnx
          generalize hS3 : setN (ls.take (k + 1)) = S2 at HS2 HNX hor
          have HS3 := hide hS3
          clear hS3
          have hge2 : ¬ (P : Int) ≤ (S : Int) := by omega
          go_wp2_with fail
          refine (nodeId_calls _ _).mono ?_
          rintro e w1 ⟨rfl, rfl⟩
          rw [unhide HN]
          go_wp2_with fail
          refine (unhide HON).mono ?_
          rintro e w1 ⟨rfl, rfl⟩
          go_wp2_with fail
          refine (unhide HON).mono ?_
          rintro e w1 ⟨rfl, rfl⟩
          go_wp2_with fail
          go_roundw
          case rel => exact ⟨k + 1, by go_num, by rw [unhide HS3], by omega, HX, hide (by rw [unhide HPN, unhide HS3]; exact unhide HNX), trivial⟩
          case measure => simp [intOf]; omega
    · obtain rfl : k = n := by omega
      have hO := unhide HO
      rw [List.drop_of_length_le (by rw [(unhide HH).len]; exact Nat.le_refl _)] at hO
      have HX := hide (show R = true from hO.symm)
      have HL := hide (show ls.take k = ls from List.take_of_length_le (by rw [(unhide HH).len]; exact Nat.le_refl _))
      clear hO HO
      rw [unhide HL]
      go_wp2_with fail
      exact bodyPost_ret (v := .tuple #[.int .u64 (setN ls : Nat), .bool true]) (by simp [results, Tryz.results134, go_sem]) rfl ⟨by rw [risV_yes ((unhide HR).trans (unhide HX))], rfl⟩
end Go.Proofs.YtjiclgcohpkkjaaGreatDoor


/- Members by the program: when they are right. -/
namespace Go.Proofs.YtjiclgcohpkkjaaGreatDoor
open Go.RowKit Plain
set_option linter.unusedVariables false

set_option maxRecDepth 10000 in
set_option maxHeartbeats 1000000 in
theorem tooMany_calls (x y : Nat) (w : World) (hx : x < 18446744073709551616) (hy : y < 18446744073709551616) :
    Calls Tryz.prog 135 #[.agg #[.int .u64 x, .int .u64 y]] w fun e w' => e = .returned (.bool (decide (7 < popN 64 x) || decide (7 < popN 64 y))) ∧ Below w.heap.size w w' := by
  have HX := hide (fun W => size_calls x W hx)
  have HY := hide (fun W => size_calls y W hy)
  generalize popN 64 x = a at HX
  generalize popN 64 y = b at HY
  have HB := hide (bel1 w (.cells #[.int .u64 x, .int .u64 y] 155))
  by_cases h1 : (7 : Int) < (a : Int)
  · rw [decide_eq_true (show 7 < a by omega)]
    go_enter Tryz.func135, Tryz.ntmps135
    go_wp2_with fail
    refine (unhide HX _).mono ?_
    rintro e w1 ⟨rfl, rfl⟩
    go_wp2_with fail
    go_ret
    exact ⟨rfl, unhide HB⟩
  · rw [decide_eq_false (show ¬ 7 < a by omega)]
    by_cases h2 : (7 : Int) < (b : Int)
    · rw [decide_eq_true (show 7 < b by omega)]
      go_enter Tryz.func135, Tryz.ntmps135
      go_wp2_with fail
      refine (unhide HX _).mono ?_
      rintro e w1 ⟨rfl, rfl⟩
      go_wp2_with fail
      refine (unhide HY _).mono ?_
      rintro e w1 ⟨rfl, rfl⟩
      go_wp2_with fail
      go_ret
      exact ⟨rfl, unhide HB⟩
    · rw [decide_eq_false (show ¬ 7 < b by omega)]
      have h3 : decide ((7 : Int) < (b : Int)) = false := decide_eq_false h2
      have h4 : decide ((7 : Int) < (a : Int)) = false := decide_eq_false h1
      go_enter Tryz.func135, Tryz.ntmps135
      go_wp2_with fail
      refine (unhide HX _).mono ?_
      rintro e w1 ⟨rfl, rfl⟩
      go_wp2_with fail
      refine (unhide HY _).mono ?_
      rintro e w1 ⟨rfl, rfl⟩
      go_wp2_with fail
      go_ret
      exact ⟨rfl, unhide HB⟩

namespace Plain
def preB (v l : List Int) : Bool := (okIds 0 v && okIds 0 l) && (decide (1 ≤ v.length) && disjB v l)
def councV (v l : List Int) : Value := if preB v l = true then .tuple #[.agg #[.int .u64 (setN v : Nat), .int .u64 (setN l : Nat)], .bool (decide (v.length ≤ 7) && decide (l.length ≤ 7))] else .tuple #[.agg #[.int .u64 0, .int .u64 0], .bool false]
theorem councV_no {v l : List Int} (h : preB v l = false) : councV v l = .tuple #[.agg #[.int .u64 0, .int .u64 0], .bool false] := by unfold councV; rw [h]; rfl
theorem councV_yes {v l : List Int} (h : preB v l = true) : councV v l = .tuple #[.agg #[.int .u64 (setN v : Nat), .int .u64 (setN l : Nat)], .bool (decide (v.length ≤ 7) && decide (l.length ≤ 7))] := by unfold councV; rw [if_pos h]
theorem confB_pre (v l : List Int) : confB v l = (preB v l && (decide (v.length ≤ 7) && decide (l.length ≤ 7))) := by unfold confB preB; simp only [Bool.and_assoc]
/-- What is told of members: their sets, where they are right. -/
theorem councV_is (v l : List Int) : ∃ V L : Nat, councV v l = .tuple #[.agg #[.int .u64 V, .int .u64 L], .bool (confB v l)] ∧ (confB v l = true → V = setN v ∧ L = setN l) := by
  rw [confB_pre]
  cases h : preB v l with
  | false => exact ⟨0, 0, councV_no h, fun h => by simp at h⟩
  | true => exact ⟨setN v, setN l, councV_yes h, fun _ => ⟨rfl, rfl⟩⟩
/-- Members in memory. -/
structure ConfAt (W : World) (av : Option Addr) (nv : Nat) (v : List Int) (al : Option Addr) (nl : Nat) (l : List Int) : Prop where
  v : IntsAt W av nv v
  l : IntsAt W al nl l
theorem ConfAt.below {W W' : World} {av : Option Addr} {nv : Nat} {v : List Int} {al : Option Addr} {nl : Nat} {l : List Int} (h : ConfAt W av nv v al nl l) (hb : Below W.heap.size W W') : ConfAt W' av nv v al nl l := ⟨h.v.below hb, h.l.below hb⟩
end Plain

set_option maxRecDepth 10000 in
set_option maxHeartbeats 4000000 in
theorem councilOf_calls (av : Option Addr) (nv cv : Nat) (v : List Int) (al : Option Addr) (nl cl : Nat) (l : List Int) (w : World) (h : ConfAt w av nv v al nl l) :
    Calls Tryz.prog 99 #[.agg #[.slice av nv cv, .slice al nl cl]] w fun e w' => e = .returned (councV v l) ∧ Below w.heap.size w w' := by
  obtain ⟨W0, hW0⟩ : ∃ W0, W0 = (w.alloc (.cells #[.slice av nv cv, .slice al nl cl] 25)).alloc (.cells #[.int .u64 0, .int .u64 0] 155) := ⟨_, rfl⟩
  have hb0 : Below w.heap.size w W0 := by rw [hW0]; exact belOn (bel1 _ _) (bel1 _ _)
  have hs0 : W0.heap.size = w.heap.size + 2 := by rw [hW0]; simp
  have c0 : W0.cell? ⟨w.heap.size, 0, none⟩ = some (.slice av nv cv) := by rw [hW0]; simp [go_sem]
  have c1 : W0.cell? ⟨w.heap.size, 1, none⟩ = some (.slice al nl cl) := by rw [hW0]; simp [go_sem]
  have r0 : W0.cell? ⟨w.heap.size + 1, 0, none⟩ = some (.int .u64 0) ∧ W0.frozen? ⟨w.heap.size + 1, 0, none⟩ = false := by rw [hW0, show w.heap.size + 1 = (w.alloc (.cells #[.slice av nv cv, .slice al nl cl] 25)).heap.size from by simp]; simp [go_sem]
  have r1 : W0.cell? ⟨w.heap.size + 1, 1, none⟩ = some (.int .u64 0) ∧ W0.frozen? ⟨w.heap.size + 1, 1, none⟩ = false := by rw [hW0, show w.heap.size + 1 = (w.alloc (.cells #[.slice av nv cv, .slice al nl cl] 25)).heap.size from by simp]; simp [go_sem]
  have HV := hide (risingSet_calls av nv cv v W0 (h.v.below hb0))
  have HL := hide (risingSet_calls al nl cl l W0 (h.l.below hb0))
  have HB0 := hide hb0
  have HW0 := hide hW0.symm
  have HLEN := hide h.v.len
  obtain ⟨r0, f0⟩ := r0
  obtain ⟨r1, f1⟩ := r1
  clear hb0 hW0 h
  have fin : ∀ u0 u1 : Value, Below w.heap.size w ((W0.setCell ⟨w.heap.size + 1, 0, none⟩ u0).setCell ⟨w.heap.size + 1, 1, none⟩ u1) := fun u0 u1 => ((unhide HB0).setCell (show w.heap.size ≤ w.heap.size + 1 by omega) _).setCell (show w.heap.size ≤ w.heap.size + 1 by omega) _
  have FIN := hide fin
  have HS0 := hide hs0
  clear fin hs0
  cases hv : okIds 0 v with
  | false =>
    have HX := hide (show preB v l = false from by unfold preB; rw [hv]; rfl)
    rw [risV_no hv] at HV
    obtain ⟨V, b, hV⟩ : ∃ V b, risV l = .tuple #[.int .u64 V, .bool b] := ⟨_, _, rfl⟩
    rw [hV] at HL
    clear hv hV
    go_enter Tryz.func99, Tryz.ntmps99
    go_wp2_with fail
    rw [unhide HW0]
    refine (unhide HV).mono ?_
    rintro e w1 ⟨rfl, rfl⟩
    go_wp2_with fail
    refine (unhide HL).mono ?_
    rintro e w1 ⟨rfl, rfl⟩
    go_wp2_with fail
    exact bodyPost_ret (v := .tuple #[.agg #[.int .u64 0, .int .u64 0], .bool false]) (by simp [results, Tryz.results99, go_sem, r0, r1]) rfl ⟨by rw [councV_no (unhide HX)], unhide FIN _ _⟩
  | true =>
   cases hl : okIds 0 l with
   | false =>
    have HX := hide (show preB v l = false from by unfold preB; rw [hv, hl]; rfl)
    rw [risV_yes hv] at HV
    rw [risV_no hl] at HL
    clear hv hl
    generalize setN v = V at HV
    go_enter Tryz.func99, Tryz.ntmps99
    go_wp2_with fail
    rw [unhide HW0]
    refine (unhide HV).mono ?_
    rintro e w1 ⟨rfl, rfl⟩
    go_wp2_with fail
    refine (unhide HL).mono ?_
    rintro e w1 ⟨rfl, rfl⟩
    go_wp2_with fail
    exact bodyPost_ret (v := .tuple #[.agg #[.int .u64 0, .int .u64 0], .bool false]) (by simp [results, Tryz.results99, go_sem, r0, r1]) rfl ⟨by rw [councV_no (unhide HX)], unhide FIN _ _⟩
   | true =>
    rw [risV_yes hv] at HV
    rw [risV_yes hl] at HL
    have hz := set_zero v hv
    have hd := set_disj v l hv hl
    have pv := pop_set v hv
    have pl := pop_set l hl
    have bv := setN_lt v
    have bl := setN_lt l
    by_cases h0 : setN v = 0
    · have HX := hide (show preB v l = false from by unfold preB; rw [decide_eq_false (show ¬ 1 ≤ v.length by have := hz.1 h0; omega)]; simp)
      rw [h0] at HV
      clear hv hl hz hd pv pl bv h0
      generalize setN l = L at HL bl
      go_enter Tryz.func99, Tryz.ntmps99
      go_wp2_with fail
      rw [unhide HW0]
      refine (unhide HV).mono ?_
      rintro e w1 ⟨rfl, rfl⟩
      go_wp2_with fail
      refine (unhide HL).mono ?_
      rintro e w1 ⟨rfl, rfl⟩
      go_wp2_with fail
      exact bodyPost_ret (v := .tuple #[.agg #[.int .u64 0, .int .u64 0], .bool false]) (by simp [results, Tryz.results99, go_sem, r0, r1]) rfl ⟨by rw [councV_no (unhide HX)], unhide FIN _ _⟩
    · have hand : bits .and .u64 (setN v : Int) (setN l : Int) = ((setN v &&& setN l : Nat) : Int) := u64_and_nat _ _ (by omega) (by omega)
      have h0z : ((setN v : Int) == 0) = false := by rw [beq_eq_false_iff_ne]; omega
      by_cases h1 : setN v &&& setN l = 0
      · have hdj := hd.1 h1
        have h1v : 1 ≤ v.length := by
          rcases Nat.eq_zero_or_pos v.length with h | h
          · exact absurd (hz.2 h) h0
          · exact h
        have HX := hide (show preB v l = true from by unfold preB; rw [hv, hl, hdj, decide_eq_true h1v]; rfl)
        rw [h1] at hand
        have HT := hide (fun W => tooMany_calls (setN v) (setN l) W (by omega) (by omega))
        rw [pv, pl] at HT
        clear hv hl hz hd pv pl h1 hdj h1v h0
        have hneg : (!(decide (7 < v.length) || decide (7 < l.length))) = (decide (v.length ≤ 7) && decide (l.length ≤ 7)) := by
          by_cases q1 : v.length ≤ 7 <;> by_cases q2 : l.length ≤ 7 <;> simp [q1, q2] <;> omega
        generalize (decide (7 < v.length) || decide (7 < l.length)) = T at HT hneg
        have HY := hide ((councV_yes (unhide HX)).trans (by rw [← hneg]))
        generalize setN v = V at HV hand HT HY bv h0z
        generalize setN l = L at HL hand HT HY bl
        clear hneg HX
        obtain ⟨W1, hW1⟩ : ∃ W1, W1 = W0.alloc (.cells #[.int .u64 V, .int .u64 L] 155) := ⟨_, rfl⟩
        have hb1 : Below W0.heap.size W0 W1 := by rw [hW1]; exact bel1 _ _
        have hs1 : W0.heap.size < W1.heap.size := by rw [hW1]; simp
        have m0 : W1.cell? ⟨W0.heap.size, 0, none⟩ = some (.int .u64 V) := by rw [hW1]; simp [go_sem]
        have m1 : W1.cell? ⟨W0.heap.size, 1, none⟩ = some (.int .u64 L) := by rw [hW1]; simp [go_sem]
        have hz1 : w.heap.size + 1 < W0.heap.size := by have := unhide HS0; omega
        have x0 := bcl hb1 hz1 r0
        have x1 := bcl hb1 hz1 r1
        have y0 := (hb1.frozen (p := ⟨w.heap.size + 1, 0, none⟩) hz1).trans f0
        have y1 := (hb1.frozen (p := ⟨w.heap.size + 1, 1, none⟩) hz1).trans f1
        have hz2 : w.heap.size + 1 < W1.heap.size := by omega
        have HB1 := hide (belOn (unhide HB0) hb1)
        have HW1 := hide hW1.symm
        clear hb1 hW1
        go_enter Tryz.func99, Tryz.ntmps99
        go_wp2_with fail
        rw [unhide HW0]
        refine (unhide HV).mono ?_
        rintro e w1 ⟨rfl, rfl⟩
        go_wp2_with fail
        refine (unhide HL).mono ?_
        rintro e w1 ⟨rfl, rfl⟩
        go_wp2_with fail
        rw [unhide HW1]
        clear r0 r1 f0 f1
        go_region_with (go_at_call 135; refine (unhide HT _).mono ?_; rintro e w2 ⟨rfl, hb2⟩; have s0 := bcl (bOfDrew hb2) hz2 x0; have s1 := bcl (bOfDrew hb2) hz2 x1; have t0 := ((bOfDrew hb2).frozen (p := ⟨w.heap.size + 1, 0, none⟩) hz2).trans y0; have t1 := ((bOfDrew hb2).frozen (p := ⟨w.heap.size + 1, 1, none⟩) hz2).trans y1; have u0 := bcl (bOfDrew hb2) hs1 m0; have u1 := bcl (bOfDrew hb2) hs1 m1)
        all_goals (try go_wp2_with fail)
        all_goals exact bodyPost_ret (v := .tuple #[.agg #[.int .u64 V, .int .u64 L], .bool !T]) (by simp [results, Tryz.results99, go_sem, s0, s1]) rfl ⟨by rw [unhide HY], ((belOn (unhide HB1) (bOfDrew hb2)).setCell (show w.heap.size ≤ w.heap.size + 1 by omega) _).setCell (show w.heap.size ≤ w.heap.size + 1 by omega) _⟩
      · have HX := hide (show preB v l = false from by
          unfold preB
          cases hq : disjB v l with
          | false => simp
          | true => exact absurd (hd.2 hq) h1)
        have h1z : (((setN v &&& setN l : Nat) : Int) != 0) = true := by rw [bne_iff_ne]; omega
        clear hv hl hz hd pv pl h1 h0
        generalize setN v &&& setN l = D at hand h1z
        generalize setN v = V at HV hand bv h0z
        generalize setN l = L at HL hand bl
        go_enter Tryz.func99, Tryz.ntmps99
        go_wp2_with fail
        rw [unhide HW0]
        refine (unhide HV).mono ?_
        rintro e w1 ⟨rfl, rfl⟩
        go_wp2_with fail
        refine (unhide HL).mono ?_
        rintro e w1 ⟨rfl, rfl⟩
        go_wp2_with fail
        exact bodyPost_ret (v := .tuple #[.agg #[.int .u64 0, .int .u64 0], .bool false]) (by simp [results, Tryz.results99, go_sem, r0, r1]) rfl ⟨by rw [councV_no (unhide HX)], unhide FIN _ _⟩
end Go.Proofs.YtjiclgcohpkkjaaGreatDoor


/- Members, as the exact laws copy, measure and compare them. -/
namespace Go.Proofs.YtjiclgcohpkkjaaGreatDoor
open Go.RowKit Plain
set_option linter.unusedVariables false

namespace Plain
/-- Members among the arguments. -/
structure ConfArg (W : World) (av : Option Addr) (nv cv : Nat) (v : List Int) (al : Option Addr) (nl cl : Nat) (l : List Int) : Prop where
  v : ArgRow 1 intL goodI W av nv cv v
  l : ArgRow 1 intL goodI W al nl cl l
theorem ConfArg.below {W W' : World} {av : Option Addr} {nv cv : Nat} {v : List Int} {al : Option Addr} {nl cl : Nat} {l : List Int} (h : ConfArg W av nv cv v al nl cl l) (hb : Below W.heap.size W W') : ConfArg W' av nv cv v al nl cl l :=
  ⟨⟨h.v.len, h.v.le, h.v.good, h.v.row.below hb⟩, ⟨h.l.len, h.l.le, h.l.good, h.l.row.below hb⟩⟩
end Plain
theorem OwnR.oth {α : Type} {e : Elem α} {W W' : World} {B : Nat} {v : Value} {xs : List α} (h : OwnR e W B v xs) (hh : ∀ g, v.ownBlock = some g → W'.heap[g]? = W.heap[g]?) : OwnR e W' B v xs := by
  refine ⟨h.1, ?_⟩
  rcases h.2 with ⟨a, c⟩ | ⟨g, cap, cur, rfl, c, d, r⟩
  · exact .inl ⟨a, c⟩
  · exact .inr ⟨g, cap, cur, rfl, c, (hh g rfl).trans d, r⟩
theorem Plain.own_blkI {g g' n c : Nat} (h : (Value.slice (some ⟨g, 0, none⟩) n c).ownBlock = some g') : g = g' := Option.some.inj h
theorem Plain.heap_setI {W : World} {b i g : Nat} {u : Value} (h : b ≠ g) : (W.setCell ⟨b, i, none⟩ u).heap[g]? = W.heap[g]? := Below.heap_setCell _ _ _ _ (fun e => h (by simp at e; exact e.symm))
/-- What toConf leaves. -/
def ToConf (nv nl : Nat) (v l : List Int) (w : World) (e : Ending) (w' : World) : Prop := ∃ g1 g2, e = .returned (.agg #[.slice (some ⟨g1, 0, none⟩) nv nv, .slice (some ⟨g2, 0, none⟩) nl nl]) ∧ g1 < g2 ∧ OwnR i64E w' w.heap.size (.slice (some ⟨g1, 0, none⟩) nv nv) v ∧ OwnR i64E w' w.heap.size (.slice (some ⟨g2, 0, none⟩) nl nl) l ∧ Below w.heap.size w w'





set_option maxRecDepth 10000 in
set_option maxHeartbeats 1000000 in
theorem eqConf_calls (av al bv bl : Option Addr) (nv nl c1 c2 c3 c4 : Nat) (v l : List Int) (w : World) (h1 : ConfAt w av nv v al nl l) (h2 : ConfAt w bv nv v bl nl l) :
    Calls Tryz.prog 29 #[.agg #[.slice av nv c1, .slice al nl c2], .agg #[.slice bv nv c3, .slice bl nl c4]] w fun e w' => e = .returned (.bool true) ∧ Below w.heap.size w w' := by
  obtain ⟨W0, hW0⟩ : ∃ W0, W0 = (w.alloc (.cells #[.slice av nv c1, .slice al nl c2] 25)).alloc (.cells #[.slice bv nv c3, .slice bl nl c4] 25) := ⟨_, rfl⟩
  have hb0 : Below w.heap.size w W0 := by rw [hW0]; exact belOn (bel1 _ _) (bel1 _ _)
  have hs0 : w.heap.size + 1 < W0.heap.size := by rw [hW0]; simp
  have hs1 : w.heap.size < W0.heap.size := by omega
  have c1' : W0.cell? ⟨w.heap.size, 1, none⟩ = some (.slice al nl c2) := by rw [hW0]; simp [go_sem]
  have d1 : W0.cell? ⟨w.heap.size + 1, 1, none⟩ = some (.slice bl nl c4) := by rw [hW0, show w.heap.size + 1 = (w.alloc (.cells #[.slice av nv c1, .slice al nl c2] 25)).heap.size from by simp]; simp [go_sem]
  have HB0 := hide hb0
  have HW0 := hide hW0.symm
  have b1 := h1.v.bn
  have b2 := h1.l.bn
  have H1 := hide (eqInt64S_calls av bv c1 c3 nv v W0 h1.v.len (by omega) (h1.below hb0).v.row (h2.below hb0).v.row)
  have H2 := hide (fun (W : World) (hW : Below W0.heap.size W0 W) => eqInt64S_calls al bl c2 c4 nl l W h1.l.len (by omega) (h1.below (belOn hb0 hW)).l.row (h2.below (belOn hb0 hW)).l.row)
  clear hb0 hW0 h1 h2
  go_enter Tryz.func29, Tryz.ntmps29
  go_wp2_with fail
  rw [unhide HW0]
  refine (unhide H1).mono ?_
  rintro e w1 ⟨rfl, hb1⟩
  have q1 := bcl hb1 hs1 c1'
  have q2 := bcl hb1 hs0 d1
  have HB1 := hide hb1
  clear hb1 c1' d1
  go_wp2_with fail
  refine (unhide H2 _ (unhide HB1)).mono ?_
  rintro e w2 ⟨rfl, hb2⟩
  have HB2 := hide (belOn (unhide HB0) (belOn (unhide HB1) hb2))
  clear hb2
  go_wp2_with fail
  go_ret
  exact ⟨rfl, unhide HB2⟩
end Go.Proofs.YtjiclgcohpkkjaaGreatDoor


/- Rows of headers, as the exact laws copy, measure and compare them. -/
namespace Go.Proofs.YtjiclgcohpkkjaaGreatDoor
open Go.RowKit Plain
set_option linter.unusedVariables false

namespace Plain
end Plain

namespace Plain
end Plain











end Go.Proofs.YtjiclgcohpkkjaaGreatDoor

/- A variable's block, cell by cell. -/
namespace Go.Proofs.YtjiclgcohpkkjaaGreatDoor
open Go.RowKit Plain
set_option linter.unusedVariables false

namespace Plain
theorem own_blk2 {g g' n c : Nat} (h : (Value.slice (some ⟨g, 0, none⟩) n c).ownBlock = some g') : g = g' := Option.some.inj h
theorem heap_set2 {W : World} {b i g : Nat} {u : Value} (h : b ≠ g) : (W.setCell ⟨b, i, none⟩ u).heap[g]? = W.heap[g]? := Below.heap_setCell _ _ _ _ (fun e => h (by simp at e; exact e.symm))
theorem cell_set2 {W : World} {b i : Nat} {u v : Value} (h : W.cell? ⟨b, i, none⟩ = some v) : (W.setCell ⟨b, i, none⟩ u).cell? ⟨b, i, none⟩ = some u := World.cell?_setCell_same' _ _ _ (by rw [h]; rfl)
theorem cell_off2 {W : World} {b i g j : Nat} {u : Value} (h : b ≠ g ∨ i ≠ j) : (W.setCell ⟨b, i, none⟩ u).cell? ⟨g, j, none⟩ = W.cell? ⟨g, j, none⟩ := World.cell?_setCell_other _ ⟨b, i, none⟩ ⟨g, j, none⟩ _ (fun q => by have h1 := congrArg Addr.block q; have h2 := congrArg Addr.off q; simp at h1 h2; omega)
/-- The block b holds the cells vs, and none is frozen. -/
structure Blk (W : World) (b : Nat) (vs : List Value) : Prop where
  lt : b < W.heap.size
  c : ∀ i (h : i < vs.length), W.cell? ⟨b, i, none⟩ = some vs[i]
  f : ∀ i, i < vs.length → W.frozen? ⟨b, i, none⟩ = false
theorem Blk.below {W W' : World} {b B : Nat} {vs : List Value} (h : Blk W b vs) (hb : Below B W W') (hB : b < B) : Blk W' b vs :=
  ⟨Nat.lt_of_lt_of_le h.lt hb.size, fun i hi => (hb.cell (p := ⟨b, i, none⟩) hB).trans (h.c i hi), fun i hi => (hb.frozen (p := ⟨b, i, none⟩) hB).trans (h.f i hi)⟩
theorem Blk.call {W W' : World} {b : Nat} {vs : List Value} (h : Blk W b vs) (hb : Below W.heap.size W W') : Blk W' b vs := h.below hb h.lt
theorem Blk.set {W : World} {b : Nat} {vs : List Value} (h : Blk W b vs) (i : Nat) (hi : i < vs.length) (u : Value) : Blk (W.setCell ⟨b, i, none⟩ u) b (vs.set i u) := by
  refine ⟨by simpa using h.lt, fun j hj => ?_, fun j hj => by rw [World.frozen?_setCell]; exact h.f j (by simpa using hj)⟩
  rw [List.length_set] at hj
  by_cases hij : i = j
  · subst hij
    rw [cell_set2 (h.c i hi), List.getElem_set_self]
  · rw [cell_off2 (.inr hij), h.c j hj, List.getElem_set_ne hij]
theorem Blk.off {W : World} {b g i : Nat} {vs : List Value} (h : Blk W b vs) (hg : g ≠ b) (u : Value) : Blk (W.setCell ⟨g, i, none⟩ u) b vs :=
  ⟨by simpa using h.lt, fun j hj => (cell_off2 (.inl hg)).trans (h.c j hj), fun j hj => by rw [World.frozen?_setCell]; exact h.f j hj⟩
theorem Blk.new (W : World) (l : List Value) (t : TypeId) : Blk (W.alloc (.cells l.toArray t)) W.heap.size l := by
  refine ⟨by simp, fun i hi => ?_, fun i hi => ?_⟩
  · simp [go_sem, hi]
  · simp [go_sem]
theorem Blk.alloc {W : World} {b : Nat} {vs : List Value} (h : Blk W b vs) (o : Obj) : Blk (W.alloc o) b vs := h.call (bel1 W o)
theorem Blk.lt_alloc {W : World} (l : List Value) (t : TypeId) : W.heap.size < (W.alloc (.cells l.toArray t)).heap.size := by simp
end Plain
theorem OwnR.off2 {α : Type} {e : Elem α} {W : World} {B g n c b i : Nat} {u : Value} {xs : List α} (h : OwnR e W B (.slice (some ⟨g, 0, none⟩) n c) xs) (hg : b ≠ g) : OwnR e (W.setCell ⟨b, i, none⟩ u) B (.slice (some ⟨g, 0, none⟩) n c) xs := by
  refine ⟨h.1, ?_⟩
  rcases h.2 with ⟨a, c'⟩ | ⟨g', cap, cur, he, c', d, r⟩
  · exact .inl ⟨a, c'⟩
  · refine .inr ⟨g', cap, cur, he, c', (heap_set2 ?_).trans d, r⟩
    have : (Value.slice (some ⟨g, 0, none⟩) n c).ownBlock = some g' := by rw [he]; rfl
    rw [← own_blk2 this]
    exact hg
end Go.Proofs.YtjiclgcohpkkjaaGreatDoor

