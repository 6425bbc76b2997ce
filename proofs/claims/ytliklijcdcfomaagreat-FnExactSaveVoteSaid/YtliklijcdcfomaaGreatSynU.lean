/- A disk that is synced where its ops were done, by the program. -/
import Derived.Test.YtliklijcdcfomaaGreatSynI
import Derived.Test.YtliklijcdcfomaaGreatRzG
namespace Go.Proofs.YtliklijcdcfomaaGreat
open Go.RowKit Plain
set_option linter.unusedVariables false

set_option maxRecDepth 10000 in
set_option maxHeartbeats 1000000 in
theorem syncedNo_calls (aL : Option Addr) (nL cL : Nat) (aS : Option Addr) (nS cS : Nat) (aO : Option Addr) (nO cO : Nat) (c : Int) (w : World) (hc : c ≠ 0) :
    Calls Tryz.prog 34 #[.agg #[.slice aL nL cL, .slice aS nS cS, .slice aO nO cO], .int .i64 c] w fun e w' => e = .returned (.tuple #[.agg #[.slice aL nL cL, .slice aS nS cS, .slice aO nO cO], .int .i64 c]) ∧ Below w.heap.size w w' := by
  go_enter Tryz.func34, Tryz.ntmps34
  go_wp2_with fail
  refine bodyPost_ret (v := .tuple #[.agg #[.slice aL nL cL, .slice aS nS cS, .slice aO nO cO], .int .i64 c]) (by simp [results, Tryz.results34, go_sem]) rfl ⟨rfl, ?_⟩
  first
    | exact belOn (bel1 _ _) (bel1 _ _)
    | exact below3 (belOn (bel1 _ _) (bel1 _ _)) (Nat.le_succ _)

set_option maxRecDepth 10000 in
set_option maxHeartbeats 1000000 in
theorem syncedYes_calls (aL : Option Addr) (nL cL : Nat) (live : List Fl) (aS : Option Addr) (nS cS : Nat) (safe : List Fl) (aO : Option Addr) (nO cO : Nat) (ops : List Dop) (w : World) (h : DiskO w aL nL cL live aS nS cS safe aO nO cO ops) :
    Calls Tryz.prog 34 #[.agg #[.slice aL nL cL, .slice aS nS cS, .slice aO nO cO], .int .i64 0] w (DskPost (fun v => .tuple #[v, .int .i64 0]) (synL live safe ops) (synL live safe ops) [] w) := by
  obtain ⟨W0, hW0⟩ : ∃ W0, W0 = (w.alloc (.cells #[.slice aL nL cL, .slice aS nS cS, .slice aO nO cO] 30)).alloc (.cells #[.slice none 0 0, .slice none 0 0, .slice none 0 0] 30) := ⟨_, rfl⟩
  have hb0 : Below w.heap.size w W0 := by rw [hW0]; exact belOn (bel1 _ _) (bel1 _ _)
  have hz0 : W0.heap.size = w.heap.size + 2 := by rw [hW0]; simp
  have c0 : W0.cell? ⟨w.heap.size, 0, none⟩ = some (.slice aL nL cL) := by rw [hW0]; simp [go_sem]
  have c1 : W0.cell? ⟨w.heap.size, 1, none⟩ = some (.slice aS nS cS) := by rw [hW0]; simp [go_sem]
  have c2 : W0.cell? ⟨w.heap.size, 2, none⟩ = some (.slice aO nO cO) := by rw [hW0]; simp [go_sem]
  have r0 : W0.cell? ⟨w.heap.size + 1, 0, none⟩ = some (.slice none 0 0) := by rw [hW0]; simp [go_sem]
  have r1 : W0.cell? ⟨w.heap.size + 1, 1, none⟩ = some (.slice none 0 0) := by rw [hW0]; simp [go_sem]
  have r2 : W0.cell? ⟨w.heap.size + 1, 2, none⟩ = some (.slice none 0 0) := by rw [hW0]; simp [go_sem]
  have y0 : W0.frozen? ⟨w.heap.size + 1, 0, none⟩ = false := by rw [hW0]; simp [go_sem]
  have y1 : W0.frozen? ⟨w.heap.size + 1, 1, none⟩ = false := by rw [hW0]; simp [go_sem]
  have y2 : W0.frozen? ⟨w.heap.size + 1, 2, none⟩ = false := by rw [hW0]; simp [go_sem]
  have HS := hide (impl_SyncO aL nL cL live aS nS cS safe aO nO cO ops W0 (h.below hb0))
  have HB0 := hide hb0
  have HW0 := hide hW0.symm
  unfold DskPost at HS
  generalize synL live safe ops = L at HS ⊢
  obtain ⟨m, hm⟩ : ∃ m, L.length = m := ⟨_, rfl⟩
  rw [hm] at HS
  have HM := hide hm
  clear hb0 hW0 h hm
  go_enter Tryz.func34, Tryz.ntmps34
  go_wp2_with fail
  rw [unhide HW0]
  refine (unhide HS).mono ?_
  rintro e w1 ⟨xL, kL, xS, kS, xO, kO, rfl, o1, o2, o3, ap, hb1⟩
  have r0 := bcl hb1 (by omega) r0
  have r1 := bcl hb1 (by omega) r1
  have r2 := bcl hb1 (by omega) r2
  have y0 := (hb1.frozen (p := ⟨w.heap.size + 1, 0, none⟩) (by show w.heap.size + 1 < _; omega)).trans y0
  have y1 := (hb1.frozen (p := ⟨w.heap.size + 1, 1, none⟩) (by show w.heap.size + 1 < _; omega)).trans y1
  have y2 := (hb1.frozen (p := ⟨w.heap.size + 1, 2, none⟩) (by show w.heap.size + 1 < _; omega)).trans y2
  have HB1 := hide (belOn (unhide HB0) hb1)
  have HO := hide (And.intro o1 (And.intro o2 (And.intro o3 ap)))
  have HZ := hide hz0
  clear hb1 o1 o2 o3 ap c0 c1 c2 hz0
  go_wp2_with fail
  refine bodyPost_ret (v := .tuple #[.agg #[.slice xL m kL, .slice xS m kS, .slice xO 0 kO], .int .i64 0]) (by simp [results, Tryz.results34, go_sem, r0, r1, r2]) rfl ?_
  obtain ⟨o1, o2, o3, ap⟩ := unhide HO
  have hz := unhide HZ
  have k : ∀ g, W0.heap.size ≤ g → (((w1.setCell ⟨w.heap.size + 1, 0, none⟩ (.slice xL m kL)).setCell ⟨w.heap.size + 1, 1, none⟩ (.slice xS m kS)).setCell ⟨w.heap.size + 1, 2, none⟩ (.slice xO 0 kO)).heap[g]? = w1.heap[g]? := fun g hg => by rw [heap_set (by omega), heap_set (by omega), heap_set (by omega)]
  refine ⟨xL, kL, xS, kS, xO, kO, by rw [unhide HM]; rfl, ?_, ?_, ?_, ap, below3 (unhide HB1) (Nat.le_succ _)⟩
  · rw [unhide HM]; exact (o1.other (fun g hg => k g (own_from o1 hg))).le (by omega)
  · rw [unhide HM]; exact (o2.other (fun g hg => k g (own_from o2 hg))).le (by omega)
  · exact (o3.other (fun g hg => k g (own_from o3 hg))).le (by omega)

/-- A disk that is answered in memory behind B. -/
def DskFrom (B : Nat) (f : Value → Value) (live safe : List Fl) (ops : List Dop) (w : World) (e : Ending) (w' : World) : Prop :=
  ∃ aL cL aS cS aO cO, e = .returned (f (.agg #[.slice aL live.length cL, .slice aS safe.length cS, .slice aO ops.length cO])) ∧ OwnR fileE w' B (.slice aL live.length cL) live ∧ OwnR fileE w' B (.slice aS safe.length cS) safe ∧ OwnR dopE w' B (.slice aO ops.length cO) ops ∧ Apart aL aS aO ∧ Below w.heap.size w w'
theorem synced_calls (aL : Option Addr) (cL : Nat) (live : List Fl) (aS : Option Addr) (cS : Nat) (safe : List Fl) (aO : Option Addr) (cO : Nat) (ops : List Dop) (B : Nat) (c : Int) (L2 S2 : List Fl) (O2 : List Dop) (w : World)
    (o1 : OwnR fileE w B (.slice aL live.length cL) live) (o2 : OwnR fileE w B (.slice aS safe.length cS) safe) (o3 : OwnR dopE w B (.slice aO ops.length cO) ops) (ap : Apart aL aS aO) (hB : B ≤ w.heap.size)
    (hf : FitF live ∧ FitF safe ∧ (∀ o ∈ ops, SmO o) ∧ live.length ≤ 1048576 ∧ safe.length ≤ 1048576 ∧ ops.length ≤ 1048576)
    (h0 : c = 0 → L2 = synL live safe ops ∧ S2 = synL live safe ops ∧ O2 = []) (h1 : c ≠ 0 → L2 = live ∧ S2 = safe ∧ O2 = ops) :
    Calls Tryz.prog 34 #[.agg #[.slice aL live.length cL, .slice aS safe.length cS, .slice aO ops.length cO], .int .i64 c] w (DskFrom B (fun v => .tuple #[v, .int .i64 c]) L2 S2 O2 w) := by
  obtain ⟨f1, f2, f3, f4, f5, f6⟩ := hf
  by_cases hc : c = 0
  · subst hc
    obtain ⟨rfl, rfl, rfl⟩ := h0 rfl
    refine (syncedYes_calls aL live.length cL live aS safe.length cS safe aO ops.length cO ops w ⟨o1.at, o2.at, o3.at.toO, rfl, rfl, rfl, o1.ad, o2.ad, f1, f2, f3, f4, f5, f6⟩).mono ?_
    rintro e w' ⟨xL, kL, xS, kS, xO, kO, he, p1, p2, p3, ap2, hb⟩
    exact ⟨xL, kL, xS, kS, xO, kO, he, p1.le hB, p2.le hB, p3.le hB, ap2, hb⟩
  · obtain ⟨rfl, rfl, rfl⟩ := h1 hc
    refine (syncedNo_calls aL _ cL aS _ cS aO _ cO c w hc).mono ?_
    rintro e w' ⟨he, hb⟩
    exact ⟨aL, cL, aS, cS, aO, cO, he, o1.keep hb, o2.keep hb, o3.keep hb, ap, hb⟩
end Go.Proofs.YtliklijcdcfomaaGreat
