/- Texts of one kind, put together. -/
import Derived.Test.YtliklijcdcfomaaGreatRzA
import Derived.Test.YtliklijcdcfomaaGreatAppG
import Derived.Lib.AppendZerosOnto
import Derived.Test.YtliklijcdcfomaaGreatSynI
import Derived.Test.YtliklijcdcfomaaGreatRzG

/- slices.Concat of two rows of entries, by the program. -/
namespace Go.Proofs.YtliklijcdcfomaaGreat
open Go.RowKit Plain
set_option linter.unusedVariables false

set_option maxRecDepth 10000 in
set_option maxHeartbeats 2000000 in
theorem growE_calls (n : Nat) (w : World) (hn : n ≤ 10000000) :
    Calls Tryz.prog 89 #[.slice none 0 0, .int .i64 n] w fun e w' => ∃ v, e = .returned v ∧ OwnR entE w' w.heap.size v [] ∧ Below w.heap.size w w' := by
  obtain ⟨i0, hi, hz0, hz1, hz2⟩ := info_parts entE.hinfo
  rcases Nat.eq_zero_or_pos n with rfl | h0
  · go_enter Tryz.func89, Tryz.ntmps89
    go_wp2_with fail
    go_ret
    exact ⟨_, rfl, ownR_nil _ _ _, Below.refl _ _⟩
  · have hold : (Builtin.firstCells i0.size 0 (.slice none 0 0)).run Tryz.prog w.drew = .ok (([] : List Value)).toArray w.drew := run_firstCells_none w.drew i0.size 0 0 0
    have hs0 : 0 < i0.size := by rw [hz1]; exact entE.hn
    have hrz : ∀ ty, (Builtin.append_ #[40, 3] ty #[.slice none 0 0, .int .i64 n]).run Tryz.prog w =
        .ok (.slice (some ⟨w.heap.size, 0, none⟩) n (grownCap w n 0 76)) (w.drew.alloc (.cells ((([] : List Value)).toArray ++ Builtin.zeroCells entE.zero.cells n ++ Builtin.zeroCells entE.zero.cells (grownCap w n 0 76 - n)) 76)) := fun ty => by
      have h := Lib.run_append_grow_zeros w 40 3 ty 76 i0 entE.zero .i64 .i64 Tryz.underlying40 Tryz.underlying3 hi hz0 none 0 0 [] hold n h0 hs0 (by omega) (by omega)
        (by rw [hz2]; show n * 32 ≤ _; omega)
        (by rw [hz2]; exact growslice_fits (by omega) (by show (0 + n) * 32 ≤ _; omega))
      rw [Nat.zero_add] at h
      exact h
    have hGn := grownCap_ge w n 0 76
    have hGm := grownCap_le_maxLen w n 0 76 (by unfold maxLen; omega)
    have hzc : entE.zero.cells.size = 3 := by rw [entE.hz]; rfl
    generalize grownCap w n 0 76 = G at hrz hGn hGm
    have i1 : (0 : Int) < (n : Int) := by omega
    have i2 : (Builtin.zeroCells entE.zero.cells n).size = n * 3 := by rw [size_zeroCells, hzc]
    have i3 : (Builtin.zeroCells entE.zero.cells (G - n)).size = (G - n) * 3 := by rw [size_zeroCells, hzc]
    generalize Builtin.zeroCells entE.zero.cells n = Z1 at hrz i2
    generalize Builtin.zeroCells entE.zero.cells (G - n) = Z2 at hrz i3
    have HZ := hide (And.intro i2 i3)
    clear i2 i3
    go_enter Tryz.func89, Tryz.ntmps89
    go_wp2_with (at_builtin; refine Lib.wpList_append_run _ rfl _ _ _ _ rfl _ _ rfl rfl _ _ (hrz _) ?_)
    go_ret
    obtain ⟨i2, i3⟩ := unhide HZ
    refine ⟨_, rfl, ⟨by simp, .inr ⟨w.heap.size, G, _, rfl, Nat.le_refl _, heap_alloc_new w.drew _, Nat.zero_le _, hGm, ?_, by simp⟩⟩, ((Below.refl _ w).drew).trans (bel1 w.drew _)⟩
    simp [i2, i3]
    show n * 3 + (G - n) * 3 = G * 3
    omega

set_option maxRecDepth 10000 in
set_option maxHeartbeats 4000000 in
theorem concatE_calls (gs : Nat) (a1 : Option Addr) (n1 c1 : Nat) (xs : List Ent) (a2 : Option Addr) (n2 c2 : Nat) (ys : List Ent) (w : World) (k0 : w.cell? ⟨gs, 0, none⟩ = some (.slice a1 n1 c1)) (k1 : w.cell? ⟨gs, 1, none⟩ = some (.slice a2 n2 c2))
    (h1 : RowAt entE w a1 xs) (h2 : RowAt entE w a2 ys) (hn1 : xs.length = n1) (hn2 : ys.length = n2) (b1 : n1 ≤ 2000000) (b2 : n2 ≤ 2000000) (d1 : AdG a1 c1) (d2 : AdG a2 c2) :
    Calls Tryz.prog 49 #[.slice (some ⟨gs, 0, none⟩) 2 2] w fun e w' => ∃ v, e = .returned v ∧ OwnR entE w' w.heap.size v (xs ++ ys) ∧ Below w.heap.size w w' := by
  have hgl := lt_of_cell k0
  simp only at hgl
  have HC := hide (fun (W : World) (hW : Below w.heap.size w W) => And.intro (bcl hW hgl k0) (bcl hW hgl k1))
  have H1 := hide (fun (W : World) (hW : Below w.heap.size w W) => h1.below hW)
  have H2 := hide (fun (W : World) (hW : Below w.heap.size w W) => h2.below hW)
  have HD := hide (And.intro d1 d2)
  have HN := hide (And.intro hn1 hn2)
  clear h1 h2 d1 d2 hn1 hn2
  have i00 : (0 : Int) < 2 := by decide
  go_enter Tryz.func49, Tryz.ntmps49
  go_wp2_with fail
  go_loopw [3, 11] (fun s3 s11 wr => wr = w ∧ ((s11 = .int .i64 0 ∧ s3 = .int .i64 0) ∨ (s11 = .int .i64 1 ∧ s3 = .int .i64 (n1 : Int)) ∨ (s11 = .int .i64 2 ∧ s3 = .int .i64 ((n1 + n2 : Nat) : Int)))) (fun _ s11 _ => 2 - (intOf s11).toNat)
  case atStart => exact ⟨rfl, .inl ⟨rfl, rfl⟩⟩
  case round =>
    obtain ⟨rfl, h | h | h⟩ := hrel
    all_goals obtain ⟨rfl, rfl⟩ := h
    · go_wp2_with fail
      go_roundw
      case rel => exact ⟨trivial, .inr (.inl ⟨rfl, by go_num⟩)⟩
      case measure => simp [intOf]
    · go_wp2_with fail
      go_roundw
      case rel => exact ⟨trivial, .inr (.inr ⟨rfl, by go_num⟩)⟩
      case measure => simp [intOf]
    · have HG := hide (growE_calls (n1 + n2) wr (by omega))
      go_wp2_with fail
      refine (unhide HG).mono ?_
      rintro e w2 ⟨v2, rfl, ho2, hb2⟩
      have HO2 := hide ho2
      have HB2 := hide hb2
      clear ho2 hb2
      go_wp2_with fail
      go_loopw [6, 27] (fun s6 s27 wx => Hid (Below wr.heap.size wr wx) ∧ ((s27 = .int .i64 0 ∧ Hid (OwnR entE wx wr.heap.size s6 [])) ∨ (s27 = .int .i64 1 ∧ Hid (OwnR entE wx wr.heap.size s6 xs)) ∨ (s27 = .int .i64 2 ∧ Hid (OwnR entE wx wr.heap.size s6 (xs ++ ys))))) (fun _ s27 _ => 2 - (intOf s27).toNat)
      case atStart => exact ⟨HB2, .inl ⟨rfl, HO2⟩⟩
      case round =>
        clear HO2 HB2 HG
        obtain ⟨HBx, h | h | h⟩ := hrel
        · obtain ⟨rfl, HO⟩ := h
          obtain ⟨q0, q1⟩ := unhide HC _ (unhide HBx)
          have HRW := hide (unhide H1 _ (unhide HBx))
          have hz := (unhide HBx).size
          go_wp2_with (at_builtin; refine appGG rfl _ _ rfl (unhide HO) rfl a1 n1 c1 rfl (unhide HN).1 (unhide HRW) (unhide HD).1 (by simp; omega) hz ?_; intro v5 w5 hO5 hb5; have HO5 := hide hO5; have HB5 := hide ((unhide HBx).trans hb5); clear hO5 hb5)
          go_roundw
          case rel => exact ⟨HB5, .inr (.inl ⟨by go_num, HO5⟩)⟩
          case measure => simp [intOf]
        · obtain ⟨rfl, HO⟩ := h
          obtain ⟨q0, q1⟩ := unhide HC _ (unhide HBx)
          have HRW := hide (unhide H2 _ (unhide HBx))
          have hz := (unhide HBx).size
          go_wp2_with (at_builtin; refine appGG rfl _ _ rfl (unhide HO) rfl a2 n2 c2 rfl (unhide HN).2 (unhide HRW) (unhide HD).2 (by rw [(unhide HN).1]; omega) hz ?_; intro v5 w5 hO5 hb5; have HO5 := hide hO5; have HB5 := hide ((unhide HBx).trans hb5); clear hO5 hb5)
          go_roundw
          case rel => exact ⟨HB5, .inr (.inr ⟨by go_num, HO5⟩)⟩
          case measure => simp [intOf]
        · obtain ⟨rfl, HO⟩ := h
          go_wp2_with fail
          go_ret
          exact ⟨_, rfl, unhide HO, unhide HBx⟩
end Go.Proofs.YtliklijcdcfomaaGreat


/- A disk that is synced where its ops were done, by the program. -/
namespace Go.Proofs.YtliklijcdcfomaaGreat
open Go.RowKit Plain
set_option linter.unusedVariables false

set_option maxRecDepth 10000 in
set_option maxHeartbeats 1000000 in
theorem syncedNo_calls (aL : Option Addr) (nL cL : Nat) (aS : Option Addr) (nS cS : Nat) (aO : Option Addr) (nO cO : Nat) (c : Int) (w : World) (hc : c ≠ 0) :
    Calls Tryz.prog 34 #[.agg #[.slice aL nL cL, .slice aS nS cS, .slice aO nO cO], .int .i64 c] w fun e w' => e = .returned (.tuple #[.agg #[.slice aL nL cL, .slice aS nS cS, .slice aO nO cO], .int .i64 c]) ∧ Below w.heap.size w w' := by
  go_enter Tryz.func34, Tryz.ntmps34
  go_wp2_with fail
  refine bodyPost_ret (v := .tuple #[.agg #[.slice aL nL cL, .slice aS nS cS, .slice aO nO cO], .int .i64 c]) (by simp [results, Tryz.results34, go_sem]) rfl ⟨rfl, ?_⟩
  first
    | exact belOn (bel1 _ _) (bel1 _ _)
    | exact below3 (belOn (bel1 _ _) (bel1 _ _)) (Nat.le_succ _)

set_option maxRecDepth 10000 in
set_option maxHeartbeats 1000000 in
theorem syncedYes_calls (aL : Option Addr) (nL cL : Nat) (live : List Fl) (aS : Option Addr) (nS cS : Nat) (safe : List Fl) (aO : Option Addr) (nO cO : Nat) (ops : List Dop) (w : World) (h : DiskO w aL nL cL live aS nS cS safe aO nO cO ops) :
    Calls Tryz.prog 34 #[.agg #[.slice aL nL cL, .slice aS nS cS, .slice aO nO cO], .int .i64 0] w (DskPost (fun v => .tuple #[v, .int .i64 0]) (synL live safe ops) (synL live safe ops) [] w) := by
  obtain ⟨W0, hW0⟩ : ∃ W0, W0 = (w.alloc (.cells #[.slice aL nL cL, .slice aS nS cS, .slice aO nO cO] 30)).alloc (.cells #[.slice none 0 0, .slice none 0 0, .slice none 0 0] 30) := ⟨_, rfl⟩
  have hb0 : Below w.heap.size w W0 := by rw [hW0]; exact belOn (bel1 _ _) (bel1 _ _)
  have hz0 : W0.heap.size = w.heap.size + 2 := by rw [hW0]; simp
  have c0 : W0.cell? ⟨w.heap.size, 0, none⟩ = some (.slice aL nL cL) := by rw [hW0]; simp [go_sem]
  have c1 : W0.cell? ⟨w.heap.size, 1, none⟩ = some (.slice aS nS cS) := by rw [hW0]; simp [go_sem]
  have c2 : W0.cell? ⟨w.heap.size, 2, none⟩ = some (.slice aO nO cO) := by rw [hW0]; simp [go_sem]
  have r0 : W0.cell? ⟨w.heap.size + 1, 0, none⟩ = some (.slice none 0 0) := by rw [hW0]; simp [go_sem]
  have r1 : W0.cell? ⟨w.heap.size + 1, 1, none⟩ = some (.slice none 0 0) := by rw [hW0]; simp [go_sem]
  have r2 : W0.cell? ⟨w.heap.size + 1, 2, none⟩ = some (.slice none 0 0) := by rw [hW0]; simp [go_sem]
  have y0 : W0.frozen? ⟨w.heap.size + 1, 0, none⟩ = false := by rw [hW0]; simp [go_sem]
  have y1 : W0.frozen? ⟨w.heap.size + 1, 1, none⟩ = false := by rw [hW0]; simp [go_sem]
  have y2 : W0.frozen? ⟨w.heap.size + 1, 2, none⟩ = false := by rw [hW0]; simp [go_sem]
  have HS := hide (impl_SyncO aL nL cL live aS nS cS safe aO nO cO ops W0 (h.below hb0))
  have HB0 := hide hb0
  have HW0 := hide hW0.symm
  unfold DskPost at HS
  generalize synL live safe ops = L at HS ⊢
  obtain ⟨m, hm⟩ : ∃ m, L.length = m := ⟨_, rfl⟩
  rw [hm] at HS
  have HM := hide hm
  clear hb0 hW0 h hm
  go_enter Tryz.func34, Tryz.ntmps34
  go_wp2_with fail
  rw [unhide HW0]
  refine (unhide HS).mono ?_
  rintro e w1 ⟨xL, kL, xS, kS, xO, kO, rfl, o1, o2, o3, ap, hb1⟩
  have r0 := bcl hb1 (by omega) r0
  have r1 := bcl hb1 (by omega) r1
  have r2 := bcl hb1 (by omega) r2
  have y0 := (hb1.frozen (p := ⟨w.heap.size + 1, 0, none⟩) (by show w.heap.size + 1 < _; omega)).trans y0
  have y1 := (hb1.frozen (p := ⟨w.heap.size + 1, 1, none⟩) (by show w.heap.size + 1 < _; omega)).trans y1
  have y2 := (hb1.frozen (p := ⟨w.heap.size + 1, 2, none⟩) (by show w.heap.size + 1 < _; omega)).trans y2
  have HB1 := hide (belOn (unhide HB0) hb1)
  have HO := hide (And.intro o1 (And.intro o2 (And.intro o3 ap)))
  have HZ := hide hz0
  clear hb1 o1 o2 o3 ap c0 c1 c2 hz0
  go_wp2_with fail
  refine bodyPost_ret (v := .tuple #[.agg #[.slice xL m kL, .slice xS m kS, .slice xO 0 kO], .int .i64 0]) (by simp [results, Tryz.results34, go_sem, r0, r1, r2]) rfl ?_
  obtain ⟨o1, o2, o3, ap⟩ := unhide HO
  have hz := unhide HZ
  have k : ∀ g, W0.heap.size ≤ g → (((w1.setCell ⟨w.heap.size + 1, 0, none⟩ (.slice xL m kL)).setCell ⟨w.heap.size + 1, 1, none⟩ (.slice xS m kS)).setCell ⟨w.heap.size + 1, 2, none⟩ (.slice xO 0 kO)).heap[g]? = w1.heap[g]? := fun g hg => by rw [heap_set (by omega), heap_set (by omega), heap_set (by omega)]
  refine ⟨xL, kL, xS, kS, xO, kO, by rw [unhide HM]; rfl, ?_, ?_, ?_, ap, below3 (unhide HB1) (Nat.le_succ _)⟩
  · rw [unhide HM]; exact (o1.other (fun g hg => k g (own_from o1 hg))).le (by omega)
  · rw [unhide HM]; exact (o2.other (fun g hg => k g (own_from o2 hg))).le (by omega)
  · exact (o3.other (fun g hg => k g (own_from o3 hg))).le (by omega)

/-- A disk that is answered in memory behind B. -/
def DskFrom (B : Nat) (f : Value → Value) (live safe : List Fl) (ops : List Dop) (w : World) (e : Ending) (w' : World) : Prop :=
  ∃ aL cL aS cS aO cO, e = .returned (f (.agg #[.slice aL live.length cL, .slice aS safe.length cS, .slice aO ops.length cO])) ∧ OwnR fileE w' B (.slice aL live.length cL) live ∧ OwnR fileE w' B (.slice aS safe.length cS) safe ∧ OwnR dopE w' B (.slice aO ops.length cO) ops ∧ Apart aL aS aO ∧ Below w.heap.size w w'
theorem synced_calls (aL : Option Addr) (cL : Nat) (live : List Fl) (aS : Option Addr) (cS : Nat) (safe : List Fl) (aO : Option Addr) (cO : Nat) (ops : List Dop) (B : Nat) (c : Int) (L2 S2 : List Fl) (O2 : List Dop) (w : World)
    (o1 : OwnR fileE w B (.slice aL live.length cL) live) (o2 : OwnR fileE w B (.slice aS safe.length cS) safe) (o3 : OwnR dopE w B (.slice aO ops.length cO) ops) (ap : Apart aL aS aO) (hB : B ≤ w.heap.size)
    (hf : FitF live ∧ FitF safe ∧ (∀ o ∈ ops, SmO o) ∧ live.length ≤ 1048576 ∧ safe.length ≤ 1048576 ∧ ops.length ≤ 1048576)
    (h0 : c = 0 → L2 = synL live safe ops ∧ S2 = synL live safe ops ∧ O2 = []) (h1 : c ≠ 0 → L2 = live ∧ S2 = safe ∧ O2 = ops) :
    Calls Tryz.prog 34 #[.agg #[.slice aL live.length cL, .slice aS safe.length cS, .slice aO ops.length cO], .int .i64 c] w (DskFrom B (fun v => .tuple #[v, .int .i64 c]) L2 S2 O2 w) := by
  obtain ⟨f1, f2, f3, f4, f5, f6⟩ := hf
  by_cases hc : c = 0
  · subst hc
    obtain ⟨rfl, rfl, rfl⟩ := h0 rfl
    refine (syncedYes_calls aL live.length cL live aS safe.length cS safe aO ops.length cO ops w ⟨o1.at, o2.at, o3.at.toO, rfl, rfl, rfl, o1.ad, o2.ad, f1, f2, f3, f4, f5, f6⟩).mono ?_
    rintro e w' ⟨xL, kL, xS, kS, xO, kO, he, p1, p2, p3, ap2, hb⟩
    exact ⟨xL, kL, xS, kS, xO, kO, he, p1.le hB, p2.le hB, p3.le hB, ap2, hb⟩
  · obtain ⟨rfl, rfl, rfl⟩ := h1 hc
    refine (syncedNo_calls aL _ cL aS _ cS aO _ cO c w hc).mono ?_
    rintro e w' ⟨he, hb⟩
    exact ⟨aL, cL, aS, cS, aO, cO, he, o1.keep hb, o2.keep hb, o3.keep hb, ap, hb⟩
end Go.Proofs.YtliklijcdcfomaaGreat

