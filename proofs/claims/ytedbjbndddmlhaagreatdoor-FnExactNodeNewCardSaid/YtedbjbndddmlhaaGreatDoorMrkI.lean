/- Rows of numbers, and members, marked and looked at again, as the exact laws do it. -/
import Derived.Test.YtedbjbndddmlhaaGreatDoorConR
import Derived.Test.YtedbjbndddmlhaaGreatDoorOnlP
namespace Go.Proofs.YtedbjbndddmlhaaGreatDoor
open Go.RowKit Plain
set_option linter.unusedVariables false

namespace Plain
/-- What the marking leaves. -/
def mkI (b n : Nat) : List Int := (List.range n).map fun i : Nat => ((b + i : Nat) : Int)
theorem mkI_length (b n : Nat) : (mkI b n).length = n := by simp [mkI]
theorem mkI_get (b n k : Nat) (h : k < (mkI b n).length) : (mkI b n)[k] = ((b + k : Nat) : Int) := by simp [mkI]
def mixI (b : Nat) (fs : List Int) (k : Nat) : List Int := mkI b k ++ fs.drop k
theorem mixI_length (b : Nat) (fs : List Int) (k : Nat) (h : k ≤ fs.length) : (mixI b fs k).length = fs.length := by simp [mixI, mkI_length]; omega
theorem mixI_zero (b : Nat) (fs : List Int) : mixI b fs 0 = fs := by simp [mixI, mkI]
theorem mixI_end (b : Nat) (fs : List Int) : mixI b fs fs.length = mkI b fs.length := by simp [mixI]
theorem mixI_next (b : Nat) (fs : List Int) (k : Nat) (h : k < fs.length) : (mixI b fs k).set k ((b + k : Nat) : Int) = mixI b fs (k + 1) := by
  have hl := mkI_length b k
  unfold mixI
  rw [List.set_append_right _ _ (by omega), hl, Nat.sub_self, List.drop_eq_getElem_cons h, List.set_cons_zero]
  simp [mkI, List.range_succ]
end Plain

set_option maxHeartbeats 1000000 in
theorem markInt64S_calls (b : Nat) (a : Option Addr) (c n : Nat) (fs : List Int) (w : World) (hb2 : b ≤ 100000000) (hn : fs.length = n) (hn2 : n ≤ 100000000) (h1 : RowAt i64E w a fs) :
    Calls Tryz.prog 22 #[.slice a n c, .int .i64 b] w fun e w' => e = .returned (.int .i64 ((b + n : Nat) : Int)) ∧ RowAt i64E w' a (mkI b n) ∧ OnlyRow a w w' := by
  have H1 := hide h1
  have HN := hide hn
  clear h1 hn
  go_enter Tryz.func22, Tryz.ntmps22
  go_wp2_with fail
  go_loopw [1, 5] (fun m i wr => ∃ (k : Nat), i = .int .i64 k ∧ m = .int .i64 ((b + k : Nat) : Int) ∧ k ≤ n ∧ Hid (RowAt i64E wr a (mixI b fs k)) ∧ Hid (OnlyRow a w wr)) (fun _ i _ => n - (intOf i).toNat)
  case atStart => exact ⟨0, rfl, rfl, by omega, hide (by rw [mixI_zero]; exact unhide H1), OnlyRow.refl _ _⟩
  case round =>
    clear H1
    obtain ⟨k, rfl, rfl, hk, HF, HB⟩ := hrel
    by_cases hlt : k < n
    · have hfl : k < fs.length := by rw [unhide HN]; exact hlt
      have hml := mixI_length b fs k (by omega)
      have hkl : k < (mixI b fs k).length := by omega
      obtain ⟨g, e1, l1, p1, z1⟩ := (unhide HF).ix k hkl
      subst e1
      have hnx := mixI_next b fs k hfl
      have i0 : (0 : Int) ≤ (k : Int) := by omega
      have i1 : (k : Int) < (n : Int) := by omega
      obtain ⟨M, hM⟩ : ∃ M, b + k = M := ⟨_, rfl⟩
      rw [hM] at hnx ⊢
      have hS := (unhide HF).setJ k hkl 0 (by decide) (.int .i64 M) (M : Int) rfl
      rw [hnx, show k * i64E.n + 0 = k from Nat.mul_one k] at hS
      have HF2 := hide hS
      generalize (mixI b fs k)[k] = x at p1
      clear hS hnx HF
      go_wp2_with fail
      go_roundw
      case rel => exact ⟨k + 1, by go_num, by rw [show b + (k + 1) = M + 1 from by omega]; go_num, by omega, HF2, hide ((unhide HB).trans (OnlyRow.set _ _))⟩
      case measure => simp [intOf]; omega
    · obtain rfl : k = n := by omega
      have hF := unhide HF
      rw [← unhide HN, mixI_end, unhide HN] at hF
      have HF2 := hide hF
      clear hF HF
      go_wp2_with fail
      go_ret
      exact ⟨rfl, unhide HF2, unhide HB⟩

set_option maxHeartbeats 1000000 in
theorem heldInt64S_calls (b : Nat) (a : Option Addr) (c n : Nat) (w : World) (hb2 : b ≤ 100000000) (hn2 : n ≤ 100000000) (h1 : RowAt i64E w a (mkI b n)) :
    Calls Tryz.prog 27 #[.slice a n c, .int .i64 b] w fun e w' => e = .returned (.int .i64 ((b + n : Nat) : Int)) ∧ Below w.heap.size w w' := by
  have H1 := hide h1
  clear h1
  go_enter Tryz.func27, Tryz.ntmps27
  go_wp2_with fail
  go_loopw [1, 5] (fun m i wr => ∃ (k : Nat), i = .int .i64 k ∧ m = .int .i64 ((b + k : Nat) : Int) ∧ k ≤ n ∧ Hid (Below w.heap.size w wr)) (fun _ i _ => n - (intOf i).toNat)
  case atStart => exact ⟨0, rfl, rfl, by omega, Below.refl _ _⟩
  case round =>
    obtain ⟨k, rfl, rfl, hk, HB⟩ := hrel
    by_cases hlt : k < n
    · have hkl : k < (mkI b n).length := by rw [mkI_length]; exact hlt
      obtain ⟨g, e1, l1, p1, -⟩ := ((unhide H1).below (unhide HB)).ix k hkl
      rw [mkI_get] at p1
      subst e1
      have i0 : (0 : Int) ≤ (k : Int) := by omega
      have i1 : (k : Int) < (n : Int) := by omega
      obtain ⟨M, hM⟩ : ∃ M, b + k = M := ⟨_, rfl⟩
      rw [hM] at p1 ⊢
      go_wp2_with fail
      go_roundw
      case rel => exact ⟨k + 1, by go_num, by rw [show b + (k + 1) = M + 1 from by omega]; go_num, by omega, HB⟩
      case measure => simp [intOf]; omega
    · obtain rfl : k = n := by omega
      go_wp2_with fail
      go_ret
      exact ⟨rfl, unhide HB⟩

namespace Plain
/-- The blocks of members' two lists. -/
def inC (a b : Option Addr) (g : Nat) : Prop := inB a g ∨ inB b g
/-- Two lists, marked one behind the other. -/
structure CMark (W : World) (a b : Option Addr) (n m : Nat) : Prop where
  v : RowAt i64E W a (mkI 1 n)
  l : RowAt i64E W b (mkI (1 + n) m)
theorem CMark.below {W W' : World} {a b : Option Addr} {n m : Nat} (h : CMark W a b n m) (hb : Below W.heap.size W W') : CMark W' a b n m := ⟨h.v.below hb, h.l.below hb⟩
end Plain

set_option maxRecDepth 10000 in
set_option maxHeartbeats 1000000 in
theorem markConf_calls (av : Option Addr) (nv cv : Nat) (v : List Int) (al : Option Addr) (nl cl : Nat) (l : List Int) (w : World) (h : ConfAt w av nv v al nl l) (ap : ∀ g, inB av g → ¬ inB al g) (hin : ∀ g, inC av al g → g < w.heap.size) :
    Calls Tryz.prog 10 #[.agg #[.slice av nv cv, .slice al nl cl], .int .i64 1] w fun e w' => e = .returned (.int .i64 ((1 + nv + nl : Nat) : Int)) ∧ CMark w' av al nv nl ∧ OnlyP (inC av al) w w' := by
  obtain ⟨W0, hW0⟩ : ∃ W0, W0 = w.alloc (.cells #[.slice av nv cv, .slice al nl cl] 26) := ⟨_, rfl⟩
  have hb0 : Below w.heap.size w W0 := by rw [hW0]; exact bel1 _ _
  have hlt : w.heap.size < W0.heap.size := by rw [hW0]; simp
  have c1 : W0.cell? ⟨w.heap.size, 1, none⟩ = some (.slice al nl cl) := by rw [hW0]; simp [go_sem]
  have b1 := h.v.bn
  have b2 := h.l.bn
  have H1 := hide (markInt64S_calls 1 av cv nv v W0 (by decide) h.v.len (by omega) (h.below hb0).v.row)
  have H2 := hide (fun (W : World) (r : RowAt i64E W al l) => markInt64S_calls (1 + nv) al cl nl l W (by omega) h.l.len (by omega) r)
  have HL := hide (h.below hb0).l.row
  have HAP := hide ap
  have HIN := hide hin
  have HO0 := hide (OnlyP.of (p := inC av al) hb0)
  have HW0 := hide hW0.symm
  clear hb0 hW0 h ap hin
  go_enter Tryz.func10, Tryz.ntmps10
  go_wp2_with fail
  rw [unhide HW0]
  refine (unhide H1).mono ?_
  rintro e w1 ⟨rfl, r1, o1⟩
  have q1 : w1.cell? ⟨w.heap.size, 1, none⟩ = some (.slice al nl cl) := (o1.cell hlt (fun o e => by have := unhide HIN _ (.inl ⟨o, e⟩); omega)).trans c1
  have HR1 := hide r1
  have HO1 := hide o1
  have HL1 := hide ((unhide HL).offR o1 (fun g hg hg2 => unhide HAP g hg2 hg))
  clear r1 o1 c1
  go_wp2_with fail
  refine (unhide H2 _ (unhide HL1)).mono ?_
  rintro e w2 ⟨rfl, r2, o2⟩
  have HR2 := hide ((unhide HR1).offR o2 (unhide HAP))
  have HR3 := hide r2
  have HO2 := hide o2
  clear r2 o2 q1
  go_wp2_with fail
  go_ret
  exact ⟨rfl, ⟨unhide HR2, unhide HR3⟩, ((unhide HO0).trans (OnlyP.row (unhide HO1) (fun g o e => .inl ⟨o, e⟩))).trans (OnlyP.row (unhide HO2) (fun g o e => .inr ⟨o, e⟩))⟩

set_option maxRecDepth 10000 in
set_option maxHeartbeats 1000000 in
theorem heldConf_calls (av : Option Addr) (nv cv : Nat) (al : Option Addr) (nl cl : Nat) (w : World) (bv : nv ≤ 1048576) (bl : nl ≤ 1048576) (h : CMark w av al nv nl) :
    Calls Tryz.prog 25 #[.agg #[.slice av nv cv, .slice al nl cl], .int .i64 1] w fun e w' => e = .returned (.int .i64 ((1 + nv + nl : Nat) : Int)) ∧ Below w.heap.size w w' := by
  obtain ⟨W0, hW0⟩ : ∃ W0, W0 = w.alloc (.cells #[.slice av nv cv, .slice al nl cl] 26) := ⟨_, rfl⟩
  have hb0 : Below w.heap.size w W0 := by rw [hW0]; exact bel1 _ _
  have hlt : w.heap.size < W0.heap.size := by rw [hW0]; simp
  have c1 : W0.cell? ⟨w.heap.size, 1, none⟩ = some (.slice al nl cl) := by rw [hW0]; simp [go_sem]
  have H1 := hide (heldInt64S_calls 1 av cv nv W0 (by decide) (by omega) (h.below hb0).v)
  have H2 := hide (fun (W : World) (hW : Below W0.heap.size W0 W) => heldInt64S_calls (1 + nv) al cl nl W (by omega) (by omega) (h.below (belOn hb0 hW)).l)
  have HB0 := hide hb0
  have HW0 := hide hW0.symm
  have s1 : ¬ ((1 + nv : Nat) : Int) < 0 := by omega
  have s2 : ¬ ((1 + nv + nl : Nat) : Int) < 0 := by omega
  clear hb0 hW0 h
  generalize 1 + nv = A at H1 H2 s1 s2
  generalize A + nl = C at H2 s2
  go_enter Tryz.func25, Tryz.ntmps25
  go_wp2_with fail
  rw [unhide HW0]
  refine (unhide H1).mono ?_
  rintro e w1 ⟨rfl, hb1⟩
  have q1 := bcl hb1 hlt c1
  have HB1 := hide hb1
  clear hb1 c1
  go_wp2_with fail
  refine (unhide H2 _ (unhide HB1)).mono ?_
  rintro e w2 ⟨rfl, hb2⟩
  have HB2 := hide (belOn (unhide HB0) (belOn (unhide HB1) hb2))
  clear hb2
  go_wp2_with fail
  go_ret
  exact ⟨rfl, unhide HB2⟩
end Go.Proofs.YtedbjbndddmlhaaGreatDoor
