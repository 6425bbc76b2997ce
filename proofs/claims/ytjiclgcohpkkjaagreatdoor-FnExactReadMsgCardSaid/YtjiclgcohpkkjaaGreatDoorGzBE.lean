/- Texts of one kind, put together. -/
import Derived.Test.YtjiclgcohpkkjaaGreatDoorGzAF
import Derived.Test.YtjiclgcohpkkjaaGreatDoorGzAH
import Derived.Test.YtjiclgcohpkkjaaGreatDoorGzAM
import Derived.Test.YtjiclgcohpkkjaaGreatDoorGzAW

/- Rows of entries marked and looked at again, as the exact laws do it. -/
namespace Go.Proofs.YtjiclgcohpkkjaaGreatDoor
open Go.RowKit Plain
set_option linter.unusedVariables false

namespace Plain
/-- What the marking leaves. -/
def mkE (b n : Nat) : List Ent := (List.range n).map fun i : Nat => (⟨(((b + i * 3) : Nat) : Int), (((b + i * 3 + 1) : Nat) : Int), mtx (b + i * 3 + 2)⟩ : Ent)
theorem mkE_length (b n : Nat) : (mkE b n).length = n := by simp [mkE]
theorem mkE_get (b n k : Nat) (h : k < (mkE b n).length) : (mkE b n)[k] = ⟨(((b + k * 3) : Nat) : Int), (((b + k * 3 + 1) : Nat) : Int), mtx (b + k * 3 + 2)⟩ := by simp [mkE]
def mixE (b : Nat) (fs : List Ent) (k : Nat) : List Ent := mkE b k ++ fs.drop k
theorem mixE_length (b : Nat) (fs : List Ent) (k : Nat) (h : k ≤ fs.length) : (mixE b fs k).length = fs.length := by simp [mixE, mkE_length]; omega
theorem mixE_zero (b : Nat) (fs : List Ent) : mixE b fs 0 = fs := by simp [mixE, mkE]
theorem mixE_end (b : Nat) (fs : List Ent) : mixE b fs fs.length = mkE b fs.length := by simp [mixE]
theorem mixE_next (b : Nat) (fs : List Ent) (k : Nat) (h : k < fs.length) : (mixE b fs k).set k ⟨(((b + k * 3) : Nat) : Int), (((b + k * 3 + 1) : Nat) : Int), mtx (b + k * 3 + 2)⟩ = mixE b fs (k + 1) := by
  have hl := mkE_length b k
  unfold mixE
  rw [List.set_append_right _ _ (by omega), hl, Nat.sub_self, List.drop_eq_getElem_cons h, List.set_cons_zero]
  simp [mkE, List.range_succ]
end Plain
theorem RowAt.ey {W : World} {a : Option Addr} {xs : List Ent} (h : RowAt entE W a xs) (k : Nat) (hi : k < xs.length) : ∃ g u0 u1 u2, a = some ⟨g, 0, none⟩ ∧ g < W.heap.size ∧ W.cell? ⟨g, k * 3, none⟩ = some u0 ∧ W.frozen? ⟨g, k * 3, none⟩ = false ∧ W.cell? ⟨g, k * 3 + 1, none⟩ = some u1 ∧ W.frozen? ⟨g, k * 3 + 1, none⟩ = false ∧ W.cell? ⟨g, k * 3 + 2, none⟩ = some u2 ∧ W.frozen? ⟨g, k * 3 + 2, none⟩ = false := by
  obtain ⟨g, e1, hl, h1⟩ := h k hi
  exact ⟨g, _, _, _, e1, hl, (h1 0 (by decide)).1, (h1 0 (by decide)).2, (h1 1 (by decide)).1, (h1 1 (by decide)).2, (h1 2 (by decide)).1, (h1 2 (by decide)).2⟩

set_option maxRecDepth 10000 in
set_option maxHeartbeats 2000000 in
theorem markEntryS_calls (b : Nat) (a : Option Addr) (c n : Nat) (fs : List Ent) (w : World) (hb1 : 1 ≤ b) (hb2 : b ≤ 100000000) (hn : fs.length = n) (hn2 : n ≤ 100000000) (h1 : RowAt entE w a fs) :
    Calls Tryz.prog 30 #[.slice a n c, .int .i64 b] w fun e w' => e = .returned (.int .i64 ((b + n * 3 : Nat) : Int)) ∧ RowAt entE w' a (mkE b n) ∧ OnlyRow a w w' := by
  have H1 := hide h1
  have HN := hide hn
  clear h1 hn
  go_enter Tryz.func30, Tryz.ntmps30
  go_wp2_with fail
  go_loopw [1, 5] (fun m i wr => ∃ (k : Nat), i = .int .i64 k ∧ m = .int .i64 ((b + k * 3 : Nat) : Int) ∧ k ≤ n ∧ Hid (RowAt entE wr a (mixE b fs k)) ∧ Hid (OnlyRow a w wr)) (fun _ i _ => n - (intOf i).toNat)
  case atStart => exact ⟨0, rfl, rfl, by omega, hide (by rw [mixE_zero]; exact unhide H1), OnlyRow.refl _ _⟩
  case round =>
    clear H1
    obtain ⟨k, rfl, rfl, hk, HF, HB⟩ := hrel
    by_cases hlt : k < n
    · have hfl : k < fs.length := by rw [unhide HN]; exact hlt
      have hml := mixE_length b fs k (by omega)
      have hkl : k < (mixE b fs k).length := by omega
      have hnx := hide (mixE_next b fs k hfl)
      have i0 : (0 : Int) ≤ (k : Int) := by omega
      have i1 : (k : Int) < (n : Int) := by omega
      obtain ⟨M, hM⟩ : ∃ M, b + k * 3 = M := ⟨_, rfl⟩
      rw [hM] at hnx ⊢
      generalize mixE b fs k = cur at HF hkl hnx hml
      generalize hx : cur[k] = x
      obtain ⟨x0, x1, x2⟩ := x
      have hwr : ∀ z : Nat, z ≤ 4 → IntKind.i64.wrap (((M + z : Nat)) : Int) = ((M + z : Nat) : Int) := fun z hz => by rw [IntKind.wrap_i64]; omega
      have HF0 := HF
      have HB0 := HB
      clear HF HB
      obtain ⟨g, a0, a1, a2, e1, l, c0, z0, c1, z1, c2, z2⟩ := (unhide HF0).ey k hkl
      subst e1
      have hf0 := unhide HF0
      have hg0 : cur[k] = ⟨x0, x1, x2⟩ := hx
      have hf1 := hf0.setJ k hkl 0 (by decide) (.int .i64 ((M : Nat) : Int)) ⟨((M : Nat) : Int), x1, x2⟩ (by rw [hg0]; rfl)
      have hf2 := hf1.setJ k (by rw [List.length_set]; exact hkl) 1 (by decide) (.int .i64 ((M + 1 : Nat) : Int)) ⟨((M : Nat) : Int), ((M + 1 : Nat) : Int), x2⟩ (by rw [List.getElem_set_self]; rfl)
      rw [List.set_set] at hf2
      obtain ⟨W1, hW1⟩ : ∃ W1, W1 = ((wr.setCell ⟨g, k * 3, none⟩ (.int .i64 ((M : Nat) : Int))).setCell ⟨g, k * 3 + 1, none⟩ (.int .i64 ((M + 1 : Nat) : Int))) := ⟨_, rfl⟩
      have HF1 := hide (show RowAt entE W1 (some ⟨g, 0, none⟩) (cur.set k ⟨((M : Nat) : Int), ((M + 1 : Nat) : Int), x2⟩) from by rw [hW1]; exact hf2)
      have HB1 := hide (show OnlyRow (some ⟨g, 0, none⟩) w W1 from by rw [hW1]; exact (((unhide HB0).trans (OnlyRow.set _ _)).trans (OnlyRow.set _ _)))
      have HW1 := hide hW1.symm
      have w0 := hwr 0 (by omega)
      have w1 := hwr 1 (by omega)
      have w2 := hwr 2 (by omega)
      rw [Nat.add_zero] at w0
      have hk1 : k < (cur.set k ⟨((M : Nat) : Int), ((M + 1 : Nat) : Int), x2⟩).length := by rw [List.length_set]; exact hkl
      clear hW1 HF0 HB0 hwr hf0 hf1 hf2
      go_wp2_with fail
      rw [show ((M : Nat) : Int) + 1 = ((M + 1 : Nat) : Int) from rfl, show ((M + 1 : Nat) : Int) + 1 = ((M + 2 : Nat) : Int) from rfl]
      rw [unhide HW1]
      refine (markText_calls (M + 2) _ (by omega) (by omega)).mono ?_
      rintro e w1x ⟨rfl, hb1⟩
      have hr1 := (unhide HF1).below hb1
      obtain ⟨g1, a0s1, a1s1, a2s1, e1, ls1, c0s1, z0s1, c1s1, z1s1, c2s1, z2s1⟩ := hr1.ey k hk1
      cases e1
      have hs1 := hr1.setJ k hk1 2 (by decide) (.string (mtx (M + 2))) ⟨((M : Nat) : Int), ((M + 1 : Nat) : Int), mtx (M + 2)⟩ (by rw [List.getElem_set_self]; rfl)
      rw [List.set_set, unhide hnx] at hs1
      have HFZ := hide hs1
      have HBZ := hide ((unhide HB1).trans (OnlyRow.of hb1))
      clear hb1 hr1 HF1 HB1 hs1 hx hg0
      go_wp2_with fail
      go_roundw
      case rel => exact ⟨k + 1, by go_num, by rw [show b + (k + 1) * 3 = M + 3 from by omega]; go_num, by omega, HFZ, hide ((unhide HBZ).trans (OnlyRow.set _ _))⟩
      case measure => simp [intOf]; omega
    · obtain rfl : k = n := by omega
      have hF := unhide HF
      rw [← unhide HN, mixE_end, unhide HN] at hF
      have HF2 := hide hF
      clear hF HF
      go_wp2_with fail
      go_ret
      exact ⟨rfl, unhide HF2, unhide HB⟩

set_option maxRecDepth 10000 in
set_option maxHeartbeats 4000000 in
theorem heldEntryS_calls (b : Nat) (a : Option Addr) (c n : Nat) (w : World) (hb1 : 1 ≤ b) (hb2 : b ≤ 100000000) (hn2 : n ≤ 100000000) (h1 : RowAt entE w a (mkE b n)) :
    Calls Tryz.prog 32 #[.slice a n c, .int .i64 b] w fun e w' => e = .returned (.int .i64 ((b + n * 3 : Nat) : Int)) ∧ Below w.heap.size w w' := by
  have H1 := hide h1
  clear h1
  go_enter Tryz.func32, Tryz.ntmps32
  go_wp2_with fail
  go_loopw [1, 5] (fun m i wr => ∃ (k : Nat), i = .int .i64 k ∧ m = .int .i64 ((b + k * 3 : Nat) : Int) ∧ k ≤ n ∧ Hid (Below w.heap.size w wr)) (fun _ i _ => n - (intOf i).toNat)
  case atStart => exact ⟨0, rfl, rfl, by omega, Below.refl _ _⟩
  case round =>
    obtain ⟨k, rfl, rfl, hk, HB⟩ := hrel
    by_cases hlt : k < n
    · have hkl : k < (mkE b n).length := by rw [mkE_length]; exact hlt
      obtain ⟨g, e1, l1, p0, p1, p2⟩ := ((unhide H1).below (unhide HB)).ex k hkl
      rw [mkE_get b n k hkl] at p0 p1 p2
      clear H1
      subst e1
      have i0 : (0 : Int) ≤ (k : Int) := by omega
      have i1 : (k : Int) < (n : Int) := by omega
      obtain ⟨M, hM⟩ : ∃ M, b + k * 3 = M := ⟨_, rfl⟩
      simp only [hM] at p0 p1 p2
      rw [hM]
      have hwr : ∀ z : Nat, z ≤ 4 → IntKind.i64.wrap (((M + z : Nat)) : Int) = ((M + z : Nat) : Int) := fun z hz => by rw [IntKind.wrap_i64]; omega
      have w0 := hwr 0 (by omega)
      have w1 := hwr 1 (by omega)
      have w2 := hwr 2 (by omega)
      rw [Nat.add_zero] at w0
      have hM2 : M + 4 ≤ 1000000000 := by omega
      have hM1 : 1 ≤ M := by omega
      have HM := hide hM
      clear hwr hM
      go_wp2_with fail
      go_region_with (go_at_call 69; refine (markText_calls (M + 2) _ (by omega) (by omega)).mono ?_; rintro e v0 ⟨rfl, hb0⟩; have r0x2 := bcl (bOfDrew hb0) l1 p2)
      all_goals (have m0 := lt_of_cell r0x2)
      all_goals (have HB0 := hide (belOn (unhide HB) (bOfDrew hb0)))
      all_goals clear hb0 p0 p1 p2
      all_goals (try go_wp2_with fail)
      all_goals exact ⟨⟨k + 1, by go_num, by rw [show b + (k + 1) * 3 = M + 3 from by have := unhide HM; omega]; go_num, by omega, HB0⟩, by simp [intOf]; omega⟩
    · obtain rfl : k = n := by omega
      go_wp2_with fail
      go_ret
      exact ⟨rfl, unhide HB⟩
end Go.Proofs.YtjiclgcohpkkjaaGreatDoor


/- Rows of numbers, and members, marked and looked at again, as the exact laws do it. -/
namespace Go.Proofs.YtjiclgcohpkkjaaGreatDoor
open Go.RowKit Plain
set_option linter.unusedVariables false

namespace Plain
/-- What the marking leaves. -/
def mkI (b n : Nat) : List Int := (List.range n).map fun i : Nat => ((b + i : Nat) : Int)
theorem mkI_length (b n : Nat) : (mkI b n).length = n := by simp [mkI]
theorem mkI_get (b n k : Nat) (h : k < (mkI b n).length) : (mkI b n)[k] = ((b + k : Nat) : Int) := by simp [mkI]
def mixI (b : Nat) (fs : List Int) (k : Nat) : List Int := mkI b k ++ fs.drop k
theorem mixI_length (b : Nat) (fs : List Int) (k : Nat) (h : k ≤ fs.length) : (mixI b fs k).length = fs.length := by simp [mixI, mkI_length]; omega
theorem mixI_zero (b : Nat) (fs : List Int) : mixI b fs 0 = fs := by simp [mixI, mkI]
theorem mixI_end (b : Nat) (fs : List Int) : mixI b fs fs.length = mkI b fs.length := by simp [mixI]
theorem mixI_next (b : Nat) (fs : List Int) (k : Nat) (h : k < fs.length) : (mixI b fs k).set k ((b + k : Nat) : Int) = mixI b fs (k + 1) := by
  have hl := mkI_length b k
  unfold mixI
  rw [List.set_append_right _ _ (by omega), hl, Nat.sub_self, List.drop_eq_getElem_cons h, List.set_cons_zero]
  simp [mkI, List.range_succ]
end Plain

set_option maxHeartbeats 1000000 in
theorem markInt64S_calls (b : Nat) (a : Option Addr) (c n : Nat) (fs : List Int) (w : World) (hb2 : b ≤ 100000000) (hn : fs.length = n) (hn2 : n ≤ 100000000) (h1 : RowAt i64E w a fs) :
    Calls Tryz.prog 70 #[.slice a n c, .int .i64 b] w fun e w' => e = .returned (.int .i64 ((b + n : Nat) : Int)) ∧ RowAt i64E w' a (mkI b n) ∧ OnlyRow a w w' := by
  have H1 := hide h1
  have HN := hide hn
  clear h1 hn
  go_enter Tryz.func70, Tryz.ntmps70
  go_wp2_with fail
  go_loopw [1, 5] (fun m i wr => ∃ (k : Nat), i = .int .i64 k ∧ m = .int .i64 ((b + k : Nat) : Int) ∧ k ≤ n ∧ Hid (RowAt i64E wr a (mixI b fs k)) ∧ Hid (OnlyRow a w wr)) (fun _ i _ => n - (intOf i).toNat)
  case atStart => exact ⟨0, rfl, rfl, by omega, hide (by rw [mixI_zero]; exact unhide H1), OnlyRow.refl _ _⟩
  case round =>
    clear H1
    obtain ⟨k, rfl, rfl, hk, HF, HB⟩ := hrel
    by_cases hlt : k < n
    · have hfl : k < fs.length := by rw [unhide HN]; exact hlt
      have hml := mixI_length b fs k (by omega)
      have hkl : k < (mixI b fs k).length := by omega
      obtain ⟨g, e1, l1, p1, z1⟩ := (unhide HF).ix k hkl
      subst e1
      have hnx := mixI_next b fs k hfl
      have i0 : (0 : Int) ≤ (k : Int) := by omega
      have i1 : (k : Int) < (n : Int) := by omega
      obtain ⟨M, hM⟩ : ∃ M, b + k = M := ⟨_, rfl⟩
      rw [hM] at hnx ⊢
      have hS := (unhide HF).setJ k hkl 0 (by decide) (.int .i64 M) (M : Int) rfl
      rw [hnx, show k * i64E.n + 0 = k from Nat.mul_one k] at hS
      have HF2 := hide hS
      generalize (mixI b fs k)[k] = x at p1
      clear hS hnx HF
      go_wp2_with fail
      go_roundw
      case rel => exact ⟨k + 1, by go_num, by rw [show b + (k + 1) = M + 1 from by omega]; go_num, by omega, HF2, hide ((unhide HB).trans (OnlyRow.set _ _))⟩
      case measure => simp [intOf]; omega
    · obtain rfl : k = n := by omega
      have hF := unhide HF
      rw [← unhide HN, mixI_end, unhide HN] at hF
      have HF2 := hide hF
      clear hF HF
      go_wp2_with fail
      go_ret
      exact ⟨rfl, unhide HF2, unhide HB⟩

set_option maxHeartbeats 1000000 in
theorem heldInt64S_calls (b : Nat) (a : Option Addr) (c n : Nat) (w : World) (hb2 : b ≤ 100000000) (hn2 : n ≤ 100000000) (h1 : RowAt i64E w a (mkI b n)) :
    Calls Tryz.prog 71 #[.slice a n c, .int .i64 b] w fun e w' => e = .returned (.int .i64 ((b + n : Nat) : Int)) ∧ Below w.heap.size w w' := by
  have H1 := hide h1
  clear h1
  go_enter Tryz.func71, Tryz.ntmps71
  go_wp2_with fail
  go_loopw [1, 5] (fun m i wr => ∃ (k : Nat), i = .int .i64 k ∧ m = .int .i64 ((b + k : Nat) : Int) ∧ k ≤ n ∧ Hid (Below w.heap.size w wr)) (fun _ i _ => n - (intOf i).toNat)
  case atStart => exact ⟨0, rfl, rfl, by omega, Below.refl _ _⟩
  case round =>
    obtain ⟨k, rfl, rfl, hk, HB⟩ := hrel
    by_cases hlt : k < n
    · have hkl : k < (mkI b n).length := by rw [mkI_length]; exact hlt
      obtain ⟨g, e1, l1, p1, -⟩ := ((unhide H1).below (unhide HB)).ix k hkl
      rw [mkI_get] at p1
      subst e1
      have i0 : (0 : Int) ≤ (k : Int) := by omega
      have i1 : (k : Int) < (n : Int) := by omega
      obtain ⟨M, hM⟩ : ∃ M, b + k = M := ⟨_, rfl⟩
      rw [hM] at p1 ⊢
      go_wp2_with fail
      go_roundw
      case rel => exact ⟨k + 1, by go_num, by rw [show b + (k + 1) = M + 1 from by omega]; go_num, by omega, HB⟩
      case measure => simp [intOf]; omega
    · obtain rfl : k = n := by omega
      go_wp2_with fail
      go_ret
      exact ⟨rfl, unhide HB⟩

namespace Plain
/-- The blocks of members' two lists. -/
def inC (a b : Option Addr) (g : Nat) : Prop := inB a g ∨ inB b g
/-- Two lists, marked one behind the other. -/
structure CMark (W : World) (a b : Option Addr) (n m : Nat) : Prop where
  v : RowAt i64E W a (mkI 1 n)
  l : RowAt i64E W b (mkI (1 + n) m)
theorem CMark.below {W W' : World} {a b : Option Addr} {n m : Nat} (h : CMark W a b n m) (hb : Below W.heap.size W W') : CMark W' a b n m := ⟨h.v.below hb, h.l.below hb⟩
end Plain

set_option maxRecDepth 10000 in
set_option maxHeartbeats 1000000 in
theorem markConf_calls (av : Option Addr) (nv cv : Nat) (v : List Int) (al : Option Addr) (nl cl : Nat) (l : List Int) (w : World) (h : ConfAt w av nv v al nl l) (ap : ∀ g, inB av g → ¬ inB al g) (hin : ∀ g, inC av al g → g < w.heap.size) :
    Calls Tryz.prog 31 #[.agg #[.slice av nv cv, .slice al nl cl], .int .i64 1] w fun e w' => e = .returned (.int .i64 ((1 + nv + nl : Nat) : Int)) ∧ CMark w' av al nv nl ∧ OnlyP (inC av al) w w' := by
  obtain ⟨W0, hW0⟩ : ∃ W0, W0 = w.alloc (.cells #[.slice av nv cv, .slice al nl cl] 25) := ⟨_, rfl⟩
  have hb0 : Below w.heap.size w W0 := by rw [hW0]; exact bel1 _ _
  have hlt : w.heap.size < W0.heap.size := by rw [hW0]; simp
  have c1 : W0.cell? ⟨w.heap.size, 1, none⟩ = some (.slice al nl cl) := by rw [hW0]; simp [go_sem]
  have b1 := h.v.bn
  have b2 := h.l.bn
  have H1 := hide (markInt64S_calls 1 av cv nv v W0 (by decide) h.v.len (by omega) (h.below hb0).v.row)
  have H2 := hide (fun (W : World) (r : RowAt i64E W al l) => markInt64S_calls (1 + nv) al cl nl l W (by omega) h.l.len (by omega) r)
  have HL := hide (h.below hb0).l.row
  have HAP := hide ap
  have HIN := hide hin
  have HO0 := hide (OnlyP.of (p := inC av al) hb0)
  have HW0 := hide hW0.symm
  clear hb0 hW0 h ap hin
  go_enter Tryz.func31, Tryz.ntmps31
  go_wp2_with fail
  rw [unhide HW0]
  refine (unhide H1).mono ?_
  rintro e w1 ⟨rfl, r1, o1⟩
  have q1 : w1.cell? ⟨w.heap.size, 1, none⟩ = some (.slice al nl cl) := (o1.cell hlt (fun o e => by have := unhide HIN _ (.inl ⟨o, e⟩); omega)).trans c1
  have HR1 := hide r1
  have HO1 := hide o1
  have HL1 := hide ((unhide HL).offR o1 (fun g hg hg2 => unhide HAP g hg2 hg))
  clear r1 o1 c1
  go_wp2_with fail
  refine (unhide H2 _ (unhide HL1)).mono ?_
  rintro e w2 ⟨rfl, r2, o2⟩
  have HR2 := hide ((unhide HR1).offR o2 (unhide HAP))
  have HR3 := hide r2
  have HO2 := hide o2
  clear r2 o2 q1
  go_wp2_with fail
  go_ret
  exact ⟨rfl, ⟨unhide HR2, unhide HR3⟩, ((unhide HO0).trans (OnlyP.row (unhide HO1) (fun g o e => .inl ⟨o, e⟩))).trans (OnlyP.row (unhide HO2) (fun g o e => .inr ⟨o, e⟩))⟩

set_option maxRecDepth 10000 in
set_option maxHeartbeats 1000000 in
theorem heldConf_calls (av : Option Addr) (nv cv : Nat) (al : Option Addr) (nl cl : Nat) (w : World) (bv : nv ≤ 1048576) (bl : nl ≤ 1048576) (h : CMark w av al nv nl) :
    Calls Tryz.prog 33 #[.agg #[.slice av nv cv, .slice al nl cl], .int .i64 1] w fun e w' => e = .returned (.int .i64 ((1 + nv + nl : Nat) : Int)) ∧ Below w.heap.size w w' := by
  obtain ⟨W0, hW0⟩ : ∃ W0, W0 = w.alloc (.cells #[.slice av nv cv, .slice al nl cl] 25) := ⟨_, rfl⟩
  have hb0 : Below w.heap.size w W0 := by rw [hW0]; exact bel1 _ _
  have hlt : w.heap.size < W0.heap.size := by rw [hW0]; simp
  have c1 : W0.cell? ⟨w.heap.size, 1, none⟩ = some (.slice al nl cl) := by rw [hW0]; simp [go_sem]
  have H1 := hide (heldInt64S_calls 1 av cv nv W0 (by decide) (by omega) (h.below hb0).v)
  have H2 := hide (fun (W : World) (hW : Below W0.heap.size W0 W) => heldInt64S_calls (1 + nv) al cl nl W (by omega) (by omega) (h.below (belOn hb0 hW)).l)
  have HB0 := hide hb0
  have HW0 := hide hW0.symm
  have s1 : ¬ ((1 + nv : Nat) : Int) < 0 := by omega
  have s2 : ¬ ((1 + nv + nl : Nat) : Int) < 0 := by omega
  clear hb0 hW0 h
  generalize 1 + nv = A at H1 H2 s1 s2
  generalize A + nl = C at H2 s2
  go_enter Tryz.func33, Tryz.ntmps33
  go_wp2_with fail
  rw [unhide HW0]
  refine (unhide H1).mono ?_
  rintro e w1 ⟨rfl, hb1⟩
  have q1 := bcl hb1 hlt c1
  have HB1 := hide hb1
  clear hb1 c1
  go_wp2_with fail
  refine (unhide H2 _ (unhide HB1)).mono ?_
  rintro e w2 ⟨rfl, hb2⟩
  have HB2 := hide (belOn (unhide HB0) (belOn (unhide HB1) hb2))
  clear hb2
  go_wp2_with fail
  go_ret
  exact ⟨rfl, unhide HB2⟩
end Go.Proofs.YtjiclgcohpkkjaaGreatDoor


/- Members marked from any number on, and looked at again. -/
namespace Go.Proofs.YtjiclgcohpkkjaaGreatDoor
open Go.RowKit Plain
set_option linter.unusedVariables false

namespace Plain
/-- Two lists, marked one behind the other. -/
structure CMarkB (s : Nat) (W : World) (a b : Option Addr) (n m : Nat) : Prop where
  v : RowAt i64E W a (mkI s n)
  l : RowAt i64E W b (mkI (s + n) m)
theorem CMarkB.below {s : Nat} {W W' : World} {a b : Option Addr} {n m : Nat} (h : CMarkB s W a b n m) (hb : Below W.heap.size W W') : CMarkB s W' a b n m := ⟨h.v.below hb, h.l.below hb⟩
end Plain

set_option maxRecDepth 10000 in
set_option maxHeartbeats 1000000 in
theorem markConfB_calls (s : Nat) (hs1 : s ≤ 50000000) (av : Option Addr) (nv cv : Nat) (v : List Int) (al : Option Addr) (nl cl : Nat) (l : List Int) (w : World) (h : ConfAt w av nv v al nl l) (ap : ∀ g, inB av g → ¬ inB al g) (hin : ∀ g, inC av al g → g < w.heap.size) :
    Calls Tryz.prog 31 #[.agg #[.slice av nv cv, .slice al nl cl], .int .i64 (s : Nat)] w fun e w' => e = .returned (.int .i64 ((s + nv + nl : Nat) : Int)) ∧ CMarkB s w' av al nv nl ∧ OnlyP (inC av al) w w' := by
  obtain ⟨W0, hW0⟩ : ∃ W0, W0 = w.alloc (.cells #[.slice av nv cv, .slice al nl cl] 25) := ⟨_, rfl⟩
  have hb0 : Below w.heap.size w W0 := by rw [hW0]; exact bel1 _ _
  have hlt : w.heap.size < W0.heap.size := by rw [hW0]; simp
  have c1 : W0.cell? ⟨w.heap.size, 1, none⟩ = some (.slice al nl cl) := by rw [hW0]; simp [go_sem]
  have b1 := h.v.bn
  have b2 := h.l.bn
  have H1 := hide (markInt64S_calls s av cv nv v W0 (by omega) h.v.len (by omega) (h.below hb0).v.row)
  have H2 := hide (fun (W : World) (r : RowAt i64E W al l) => markInt64S_calls (s + nv) al cl nl l W (by omega) h.l.len (by omega) r)
  have HL := hide (h.below hb0).l.row
  have HAP := hide ap
  have HIN := hide hin
  have HO0 := hide (OnlyP.of (p := inC av al) hb0)
  have HW0 := hide hW0.symm
  clear hb0 hW0 h ap hin
  go_enter Tryz.func31, Tryz.ntmps31
  go_wp2_with fail
  rw [unhide HW0]
  refine (unhide H1).mono ?_
  rintro e w1 ⟨rfl, r1, o1⟩
  have q1 : w1.cell? ⟨w.heap.size, 1, none⟩ = some (.slice al nl cl) := (o1.cell hlt (fun o e => by have := unhide HIN _ (.inl ⟨o, e⟩); omega)).trans c1
  have HR1 := hide r1
  have HO1 := hide o1
  have HL1 := hide ((unhide HL).offR o1 (fun g hg hg2 => unhide HAP g hg2 hg))
  clear r1 o1 c1
  go_wp2_with fail
  refine (unhide H2 _ (unhide HL1)).mono ?_
  rintro e w2 ⟨rfl, r2, o2⟩
  have HR2 := hide ((unhide HR1).offR o2 (unhide HAP))
  have HR3 := hide r2
  have HO2 := hide o2
  clear r2 o2 q1
  go_wp2_with fail
  go_ret
  exact ⟨rfl, ⟨unhide HR2, unhide HR3⟩, ((unhide HO0).trans (OnlyP.row (unhide HO1) (fun g o e => .inl ⟨o, e⟩))).trans (OnlyP.row (unhide HO2) (fun g o e => .inr ⟨o, e⟩))⟩

set_option maxRecDepth 10000 in
set_option maxHeartbeats 1000000 in
theorem heldConfB_calls (s : Nat) (hs1 : s ≤ 50000000) (av : Option Addr) (nv cv : Nat) (al : Option Addr) (nl cl : Nat) (w : World) (bv : nv ≤ 1048576) (bl : nl ≤ 1048576) (h : CMarkB s w av al nv nl) :
    Calls Tryz.prog 33 #[.agg #[.slice av nv cv, .slice al nl cl], .int .i64 (s : Nat)] w fun e w' => e = .returned (.int .i64 ((s + nv + nl : Nat) : Int)) ∧ Below w.heap.size w w' := by
  obtain ⟨W0, hW0⟩ : ∃ W0, W0 = w.alloc (.cells #[.slice av nv cv, .slice al nl cl] 25) := ⟨_, rfl⟩
  have hb0 : Below w.heap.size w W0 := by rw [hW0]; exact bel1 _ _
  have hlt : w.heap.size < W0.heap.size := by rw [hW0]; simp
  have c1 : W0.cell? ⟨w.heap.size, 1, none⟩ = some (.slice al nl cl) := by rw [hW0]; simp [go_sem]
  have H1 := hide (heldInt64S_calls s av cv nv W0 (by omega) (by omega) (h.below hb0).v)
  have H2 := hide (fun (W : World) (hW : Below W0.heap.size W0 W) => heldInt64S_calls (s + nv) al cl nl W (by omega) (by omega) (h.below (belOn hb0 hW)).l)
  have HB0 := hide hb0
  have HW0 := hide hW0.symm
  have s1 : ¬ ((s + nv : Nat) : Int) < 0 := by omega
  have s2 : ¬ ((s + nv + nl : Nat) : Int) < 0 := by omega
  clear hb0 hW0 h
  generalize s + nv = A at H1 H2 s1 s2
  generalize A + nl = C at H2 s2
  go_enter Tryz.func33, Tryz.ntmps33
  go_wp2_with fail
  rw [unhide HW0]
  refine (unhide H1).mono ?_
  rintro e w1 ⟨rfl, hb1⟩
  have q1 := bcl hb1 hlt c1
  have HB1 := hide hb1
  clear hb1 c1
  go_wp2_with fail
  refine (unhide H2 _ (unhide HB1)).mono ?_
  rintro e w2 ⟨rfl, hb2⟩
  have HB2 := hide (belOn (unhide HB0) (belOn (unhide HB1) hb2))
  clear hb2
  go_wp2_with fail
  go_ret
  exact ⟨rfl, unhide HB2⟩
end Go.Proofs.YtjiclgcohpkkjaaGreatDoor


/- Messages marked, and looked at again, as the exact laws do it. -/
namespace Go.Proofs.YtjiclgcohpkkjaaGreatDoor
open Go.RowKit Plain
set_option linter.unusedVariables false

namespace Plain
def inM (a b c : Option Addr) (g : Nat) : Prop := inB a g ∨ inC b c g
/-- A message's rows, marked one behind the other. -/
structure MMark (W : World) (ae av al : Option Addr) (ne nv nl : Nat) : Prop where
  e : RowAt entE W ae (mkE 1 ne)
  c : CMarkB (1 + ne * 3) W av al nv nl
theorem MMark.below {W W' : World} {ae av al : Option Addr} {ne nv nl : Nat} (h : MMark W ae av al ne nv nl) (hb : Below W.heap.size W W') : MMark W' ae av al ne nv nl := ⟨h.e.below hb, h.c.below hb⟩
end Plain

set_option maxRecDepth 10000 in
set_option maxHeartbeats 4000000 in
theorem markMsg_calls (a0 a1 a2 a3 a4 a5 a6 : Int) (ok : Bool) (tx : ByteArray) (ne nv nl : Nat) (es : List Ent) (v l : List Int) (ae av al : Option Addr) (ce cv cl : Nat) (w : World) (hne : es.length = ne) (hne2 : ne ≤ 10000000) (hn : RowAt entE w ae es) (hc : ConfAt w av nv v al nl l)
    (ap : ∀ g, inB av g → ¬ inB al g) (ev : ∀ g, inB ae g → ¬ inB av g) (el : ∀ g, inB ae g → ¬ inB al g) (hin : ∀ g, inM ae av al g → g < w.heap.size) :
    Calls Tryz.prog 8 #[.agg #[.int .i64 a0, .int .i64 a1, .int .i64 a2, .int .i64 a3, .int .i64 a4, .int .i64 a5, .slice ae ne ce, .int .i64 a6, .bool ok, .string tx, .slice av nv cv, .slice al nl cl], .int .i64 1] w fun e w' => e = .returned (.int .i64 ((1 + ne * 3 + nv + nl : Nat) : Int)) ∧ MMark w' ae av al ne nv nl ∧ OnlyP (inM ae av al) w w' := by
  obtain ⟨W0, hW0⟩ : ∃ W0, W0 = w.alloc (.cells #[.int .i64 a0, .int .i64 a1, .int .i64 a2, .int .i64 a3, .int .i64 a4, .int .i64 a5, .slice ae ne ce, .int .i64 a6, .bool ok, .string tx, .slice av nv cv, .slice al nl cl] 27) := ⟨_, rfl⟩
  have hb0 : Below w.heap.size w W0 := by rw [hW0]; exact bel1 _ _
  have hz : W0.heap.size = w.heap.size + 1 := by rw [hW0]; simp
  have c10 : W0.cell? ⟨w.heap.size, 10, none⟩ = some (.slice av nv cv) := by rw [hW0]; simp [go_sem]
  have c11 : W0.cell? ⟨w.heap.size, 11, none⟩ = some (.slice al nl cl) := by rw [hW0]; simp [go_sem]
  have HE := hide (markEntryS_calls 1 ae ce ne es W0 (by omega) (by omega) hne (by omega) (hn.below hb0))
  have HC := hide (hc.below hb0)
  have HMC := hide (fun (W : World) (h : ConfAt W av nv v al nl l) (hi : ∀ g, inC av al g → g < W.heap.size) => markConfB_calls (1 + ne * 3) (by omega) av nv cv v al nl cl l W h ap hi)
  have HIN := hide hin
  have HEV := hide ev
  have HEL := hide el
  have HO0 := hide (OnlyP.of (p := inM ae av al) hb0)
  have HW0 := hide hW0.symm
  clear hb0 hW0 hn hc ap ev el hin
  go_enter Tryz.func8, Tryz.ntmps8
  go_wp2_with fail
  rw [unhide HW0]
  refine (unhide HE).mono ?_
  rintro e w1 ⟨rfl, r1, o1⟩
  have hz1 := o1.size
  have nae : ∀ o, ae ≠ some ⟨w.heap.size, o, none⟩ := fun o e => by have := unhide HIN _ (.inl ⟨o, e⟩); omega
  have q10 : w1.cell? ⟨w.heap.size, 10, none⟩ = some (.slice av nv cv) := (o1.cell (by omega) nae).trans c10
  have q11 : w1.cell? ⟨w.heap.size, 11, none⟩ = some (.slice al nl cl) := (o1.cell (by omega) nae).trans c11
  have HC1 := hide (show ConfAt w1 av nv v al nl l from ⟨⟨(unhide HC).v.row.offR o1 (fun g hg hg2 => unhide HEV g hg2 hg), (unhide HC).v.len, (unhide HC).v.bn⟩, ⟨(unhide HC).l.row.offR o1 (fun g hg hg2 => unhide HEL g hg2 hg), (unhide HC).l.len, (unhide HC).l.bn⟩⟩)
  have HR1 := hide r1
  have HO1 := hide o1
  have HM1 := hide (unhide HMC w1 (unhide HC1) (fun g hg => by have := unhide HIN g (.inr hg); omega))
  clear r1 o1 c10 c11 nae
  go_wp2_with fail
  refine (unhide HM1).mono ?_
  rintro e w2 ⟨rfl, r2, o2⟩
  have HR2 := hide ((unhide HR1).offP o2 (fun g hg h2 => by rcases h2 with h2 | h2; exact unhide HEV g hg h2; exact unhide HEL g hg h2))
  have HO2 := hide (show OnlyP (inM ae av al) w1 w2 from ⟨o2.os, o2.tape, o2.output, o2.size, fun k hk hn => o2.block k hk (fun h => hn (.inr h))⟩)
  have HR3 := hide r2
  clear r2 o2 q10 q11
  go_wp2_with fail
  go_ret
  exact ⟨rfl, ⟨unhide HR2, unhide HR3⟩, ((unhide HO0).trans (OnlyP.row (unhide HO1) (fun g o e => .inl ⟨o, e⟩))).trans (unhide HO2)⟩

set_option maxRecDepth 10000 in
set_option maxHeartbeats 4000000 in
theorem heldMsg_calls (a0 a1 a2 a3 a4 a5 a6 : Int) (ok : Bool) (tx : ByteArray) (ne nv nl : Nat) (ae av al : Option Addr) (ce cv cl : Nat) (w : World) (hne2 : ne ≤ 10000000) (hv2 : nv ≤ 1048576) (hl2 : nl ≤ 1048576) (h : MMark w ae av al ne nv nl) :
    Calls Tryz.prog 9 #[.agg #[.int .i64 a0, .int .i64 a1, .int .i64 a2, .int .i64 a3, .int .i64 a4, .int .i64 a5, .slice ae ne ce, .int .i64 a6, .bool ok, .string tx, .slice av nv cv, .slice al nl cl], .int .i64 1] w fun e w' => e = .returned (.int .i64 ((1 + ne * 3 + nv + nl : Nat) : Int)) ∧ Below w.heap.size w w' := by
  obtain ⟨W0, hW0⟩ : ∃ W0, W0 = w.alloc (.cells #[.int .i64 a0, .int .i64 a1, .int .i64 a2, .int .i64 a3, .int .i64 a4, .int .i64 a5, .slice ae ne ce, .int .i64 a6, .bool ok, .string tx, .slice av nv cv, .slice al nl cl] 27) := ⟨_, rfl⟩
  have hb0 : Below w.heap.size w W0 := by rw [hW0]; exact bel1 _ _
  have hz : W0.heap.size = w.heap.size + 1 := by rw [hW0]; simp
  have c10 : W0.cell? ⟨w.heap.size, 10, none⟩ = some (.slice av nv cv) := by rw [hW0]; simp [go_sem]
  have c11 : W0.cell? ⟨w.heap.size, 11, none⟩ = some (.slice al nl cl) := by rw [hW0]; simp [go_sem]
  have HE := hide (heldEntryS_calls 1 ae ce ne W0 (by omega) (by omega) (by omega) (h.e.below hb0))
  have HMC := hide (fun (W : World) (hW : Below W0.heap.size W0 W) => heldConfB_calls (1 + ne * 3) (by omega) av nv cv al nl cl W hv2 hl2 ((h.c.below hb0).below hW))
  have HB0 := hide hb0
  have HW0 := hide hW0.symm
  obtain ⟨A, hA⟩ : ∃ A : Nat, 1 + ne * 3 = A := ⟨_, rfl⟩
  rw [hA] at HE HMC ⊢
  have sA : ¬ ((A : Nat) : Int) < 0 := by omega
  obtain ⟨D, hD⟩ : ∃ D : Nat, A + nv + nl = D := ⟨_, rfl⟩
  rw [hD] at HMC ⊢
  have sD : ¬ ((D : Nat) : Int) < 0 := by omega
  clear hb0 hW0 h hA hD
  go_enter Tryz.func9, Tryz.ntmps9
  go_wp2_with fail
  rw [unhide HW0]
  refine (unhide HE).mono ?_
  rintro e w1 ⟨rfl, hb1⟩
  have q10 := bclG hb1 (show w.heap.size < W0.heap.size by omega) c10
  have q11 := bclG hb1 (show w.heap.size < W0.heap.size by omega) c11
  have HM1 := hide (unhide HMC w1 hb1)
  have HB1 := hide (belOn (unhide HB0) hb1)
  clear hb1 c10 c11
  go_wp2_with fail
  refine (unhide HM1).mono ?_
  rintro e w2 ⟨rfl, hb2⟩
  have HB2 := hide (belOn (unhide HB1) hb2)
  clear hb2 q10 q11
  go_wp2_with fail
  go_ret
  exact ⟨rfl, unhide HB2⟩
end Go.Proofs.YtjiclgcohpkkjaaGreatDoor

