/- Disks, as the exact laws copy, measure and compare them. -/
import Derived.Test.YtmgjkomgpkoenaaGreatDopR
import Derived.Test.YtmgjkomgpkoenaaGreatDskW
namespace Go.Proofs.YtmgjkomgpkoenaaGreat
open Go.RowKit Plain
set_option linter.unusedVariables false

theorem OwnR.other {α : Type} {e : Elem α} {W W' : World} {B : Nat} {v : Value} {xs : List α} (h : OwnR e W B v xs) (hh : ∀ g, v.ownBlock = some g → W'.heap[g]? = W.heap[g]?) : OwnR e W' B v xs := by
  refine ⟨h.1, ?_⟩
  rcases h.2 with ⟨a, c⟩ | ⟨g, cap, cur, rfl, c, d, r⟩
  · exact .inl ⟨a, c⟩
  · exact .inr ⟨g, cap, cur, rfl, c, (hh g rfl).trans d, r⟩
theorem Plain.own_blk {g g' n c : Nat} (h : (Value.slice (some ⟨g, 0, none⟩) n c).ownBlock = some g') : g = g' := Option.some.inj h
theorem Plain.heap_set {W : World} {b i g : Nat} {u : Value} (h : b ≠ g) : (W.setCell ⟨b, i, none⟩ u).heap[g]? = W.heap[g]? := Below.heap_setCell _ _ _ _ (fun e => h (by simp at e; exact e.symm))
theorem Plain.cell_set {W : World} {b i : Nat} {u v : Value} (h : W.cell? ⟨b, i, none⟩ = some v) : (W.setCell ⟨b, i, none⟩ u).cell? ⟨b, i, none⟩ = some u := World.cell?_setCell_same' _ _ _ (by rw [h]; rfl)
theorem Plain.cell_off {W : World} {b i g j : Nat} {u : Value} (h : b ≠ g ∨ i ≠ j) : (W.setCell ⟨b, i, none⟩ u).cell? ⟨g, j, none⟩ = W.cell? ⟨g, j, none⟩ := World.cell?_setCell_other _ ⟨b, i, none⟩ ⟨g, j, none⟩ _ (fun q => by have h1 := congrArg Addr.block q; have h2 := congrArg Addr.off q; simp at h1 h2; omega)

/-- A disk among the arguments. -/
structure Plain.DskArg (W : World) (aL : Option Addr) (nL cL : Nat) (live : List Fl) (aS : Option Addr) (nS cS : Nat) (safe : List Fl) (aO : Option Addr) (nO cO : Nat) (ops : List Dop) : Prop where
  l : ArgRow 2 fileL goodF W aL nL cL live
  s : ArgRow 2 fileL goodF W aS nS cS safe
  o : ArgRow 4 dopL goodO W aO nO cO ops
theorem Plain.DskArg.below {W W' : World} {aL : Option Addr} {nL cL : Nat} {live : List Fl} {aS : Option Addr} {nS cS : Nat} {safe : List Fl} {aO : Option Addr} {nO cO : Nat} {ops : List Dop}
    (h : DskArg W aL nL cL live aS nS cS safe aO nO cO ops) (hb : Below W.heap.size W W') : DskArg W' aL nL cL live aS nS cS safe aO nO cO ops :=
  ⟨⟨h.l.len, h.l.le, h.l.good, h.l.row.below hb⟩, ⟨h.s.len, h.s.le, h.s.good, h.s.row.below hb⟩, ⟨h.o.len, h.o.le, h.o.good, h.o.row.below hb⟩⟩
/-- How many bytes and elements a disk has. -/
def Plain.totD (live safe : List Fl) (ops : List Dop) : Nat := (live.length + totF live) + ((safe.length + totF safe) + (ops.length + totO ops))
/-- A disk of the call's own. -/
structure Plain.DskOwn (W : World) (B : Nat) (vL vS vO : Value) (live safe : List Fl) (ops : List Dop) : Prop where
  l : OwnR fileE W B vL live
  s : OwnR fileE W B vS safe
  o : OwnR dopE W B vO ops
  ls : ∀ g, vL.ownBlock = some g → vS.ownBlock ≠ some g
  lo : ∀ g, vL.ownBlock = some g → vO.ownBlock ≠ some g
  so : ∀ g, vS.ownBlock = some g → vO.ownBlock ≠ some g
/-- What toDisk leaves. -/
def ToPost (nL nS nO : Nat) (live safe : List Fl) (ops : List Dop) (w : World) (e : Ending) (w' : World) : Prop := ∃ g1 g2 g3, e = .returned (.agg #[.slice (some ⟨g1, 0, none⟩) nL nL, .slice (some ⟨g2, 0, none⟩) nS nS, .slice (some ⟨g3, 0, none⟩) nO nO]) ∧ g1 < g2 ∧ g2 < g3 ∧ OwnR fileE w' w.heap.size (.slice (some ⟨g1, 0, none⟩) nL nL) live ∧ OwnR fileE w' w.heap.size (.slice (some ⟨g2, 0, none⟩) nS nS) safe ∧ OwnR dopE w' w.heap.size (.slice (some ⟨g3, 0, none⟩) nO nO) ops ∧ Below w.heap.size w w'

set_option maxRecDepth 10000 in
set_option maxHeartbeats 2000000 in
theorem toDisk_calls (aL : Option Addr) (nL cL : Nat) (live : List Fl) (aS : Option Addr) (nS cS : Nat) (safe : List Fl) (aO : Option Addr) (nO cO : Nat) (ops : List Dop) (w : World) (h : DskArg w aL nL cL live aS nS cS safe aO nO cO ops) (hl : nL ≤ 1048576) (hs : nS ≤ 1048576) (ho : nO ≤ 1048576) :
    Calls Tryz.prog 8 #[.agg #[.slice aL nL cL, .slice aS nS cS, .slice aO nO cO]] w (ToPost nL nS nO live safe ops w) := by
  obtain ⟨Wa, hWa⟩ : ∃ Wa, Wa = w.alloc (.cells #[.slice aL nL cL, .slice aS nS cS, .slice aO nO cO] 25) := ⟨_, rfl⟩
  obtain ⟨W3, hW3⟩ : ∃ W3, W3 = (Wa.alloc (.cells #[.slice none 0 0, .slice none 0 0, .slice none 0 0] 35)).alloc (.cells #[.slice none 0 0, .slice none 0 0, .slice none 0 0] 35) := ⟨_, rfl⟩
  have hba : Below w.heap.size w Wa := by rw [hWa]; exact bel1 _ _
  have hsa : Wa.heap.size = w.heap.size + 1 := by rw [hWa]; simp
  have hs3 : W3.heap.size = w.heap.size + 3 := by rw [hW3]; simp [hsa]
  have hb3 : Below Wa.heap.size Wa W3 := by rw [hW3]; exact belOn (bel1 _ _) (bel1 _ _)
  have c0 : Wa.cell? ⟨w.heap.size, 0, none⟩ = some (.slice aL nL cL) := by rw [hWa]; simp [go_sem]
  have c1 : Wa.cell? ⟨w.heap.size, 1, none⟩ = some (.slice aS nS cS) := by rw [hWa]; simp [go_sem]
  have c2 : Wa.cell? ⟨w.heap.size, 2, none⟩ = some (.slice aO nO cO) := by rw [hWa]; simp [go_sem]
  have hr : ∀ i, i < 3 → W3.cell? ⟨w.heap.size + 1, i, none⟩ = some (.slice none 0 0) ∧ W3.frozen? ⟨w.heap.size + 1, i, none⟩ = false := by
    intro i hi
    rw [hW3, ← hsa]
    rcases i with _ | _ | _ | i
    all_goals first | omega | simp [go_sem]
  have hu : ∀ i, i < 3 → W3.cell? ⟨w.heap.size + 2, i, none⟩ = some (.slice none 0 0) ∧ W3.frozen? ⟨w.heap.size + 2, i, none⟩ = false := by
    intro i hi
    rw [hW3, show w.heap.size + 2 = Wa.heap.size + 1 by omega]
    rcases i with _ | _ | _ | i
    all_goals first | omega | simp [go_sem]
  have HW3 := hide (hW3.trans (by rw [hWa])).symm
  have HQ := hide (fun (W : World) (hW : Below (w.heap.size + 2) W3 W) => (And.intro (bcl hW (by omega) (bcl hb3 (by omega) c0)) (And.intro (bcl hW (by omega) (bcl hb3 (by omega) c1)) (bcl hW (by omega) (bcl hb3 (by omega) c2)))))
  have HR := hide (fun (W : World) (hW : Below (w.heap.size + 2) W3 W) (i : Nat) (hi : i < 3) => And.intro (bcl hW (show w.heap.size + 1 < w.heap.size + 2 by omega) (hr i hi).1) ((hW.frozen (p := ⟨w.heap.size + 1, i, none⟩) (show w.heap.size + 1 < w.heap.size + 2 by omega)).trans (hr i hi).2))
  have HF := hide (fun (W : World) (hW : Below (w.heap.size + 2) W3 W) => (hba.trans (hb3.mono hba.size)).trans (hW.mono (show w.heap.size ≤ w.heap.size + 2 by omega)))
  have HU := hide hu
  have H := hide h
  have hz3 : w.heap.size + 2 ≤ W3.heap.size := by omega
  clear hr hu hba hb3 c0 c1 c2 hWa hW3 hsa h
  go_enter Tryz.func8, Tryz.ntmps8
  go_wp2_with fail
  rw [unhide HW3]
  refine (toFileS_calls aL nL cL live W3 (unhide H).l.len (by omega) ((unhide H).below (unhide HF _ (Below.refl _ _))).l.row).mono ?_
  rintro e w4 ⟨g1, rfl, hO4, hb4⟩
  have hK4 := (hb4.mono hz3)
  obtain ⟨q0, q1, q2⟩ := unhide HQ _ hK4
  have u0 := bcl hb4 (show w.heap.size + 2 < W3.heap.size by omega) (unhide HU 0 (by decide)).1
  have u1 := bcl hb4 (show w.heap.size + 2 < W3.heap.size by omega) (unhide HU 1 (by decide)).1
  have u2 := bcl hb4 (show w.heap.size + 2 < W3.heap.size by omega) (unhide HU 2 (by decide)).1
  have y0 := (hb4.frozen (p := ⟨w.heap.size + 2, 0, none⟩) (show w.heap.size + 2 < W3.heap.size by omega)).trans (unhide HU 0 (by decide)).2
  have y1 := (hb4.frozen (p := ⟨w.heap.size + 2, 1, none⟩) (show w.heap.size + 2 < W3.heap.size by omega)).trans (unhide HU 1 (by decide)).2
  have y2 := (hb4.frozen (p := ⟨w.heap.size + 2, 2, none⟩) (show w.heap.size + 2 < W3.heap.size by omega)).trans (unhide HU 2 (by decide)).2
  go_wp2_with fail
  have hg1 := World.ownsRow.lt hO4 g1 rfl
  obtain ⟨W5, hW5⟩ : ∃ W5, W5 = w4.setCell ⟨w.heap.size + 1 + 1, 0, none⟩ (.slice (some ⟨g1, 0, none⟩) nL nL) := ⟨_, rfl⟩
  rw [← hW5]
  have hK5 : Below (w.heap.size + 2) W3 W5 := by rw [hW5]; exact hK4.setCell (Nat.le_refl _) _
  have v0 : W5.cell? ⟨w.heap.size + 2, 0, none⟩ = some (.slice (some ⟨g1, 0, none⟩) nL nL) := by rw [hW5]; exact cell_set u0
  have v1 : W5.cell? ⟨w.heap.size + 2, 1, none⟩ = some (.slice none 0 0) := by rw [hW5]; exact (cell_off (.inr (by decide))).trans u1
  have v2 : W5.cell? ⟨w.heap.size + 2, 2, none⟩ = some (.slice none 0 0) := by rw [hW5]; exact (cell_off (.inr (by decide))).trans u2
  have x1 : W5.frozen? ⟨w.heap.size + 2, 1, none⟩ = false := by rw [hW5, World.frozen?_setCell]; exact y1
  have x2 : W5.frozen? ⟨w.heap.size + 2, 2, none⟩ = false := by rw [hW5, World.frozen?_setCell]; exact y2
  have hz5 : W5.heap.size = w4.heap.size := by rw [hW5]; simp
  have hO5 : OwnR fileE W5 W3.heap.size (.slice (some ⟨g1, 0, none⟩) nL nL) live := by rw [hW5]; exact hO4.other (fun g hg => by obtain rfl := own_blk hg; exact heap_set (by omega))
  have hz4 := hb4.size
  clear hW5 u0 u1 u2 y0 y1 y2 q0 q1 q2 hO4 hb4 hK4
  refine (toFileS_calls aS nS cS safe W5 (unhide H).s.len (by omega) ((unhide H).below (unhide HF _ hK5)).s.row).mono ?_
  rintro e w6 ⟨g2, rfl, hO6, hb6⟩
  have hz6 := hb6.size
  have hK6 := hK5.trans (hb6.mono (show w.heap.size + 2 ≤ W5.heap.size by omega))
  obtain ⟨q0, q1, q2⟩ := unhide HQ _ hK6
  have hl5 : w.heap.size + 2 < W5.heap.size := by omega
  have u0 := bcl hb6 hl5 v0
  have u1 := bcl hb6 hl5 v1
  have u2 := bcl hb6 hl5 v2
  have y1 := (hb6.frozen (p := ⟨w.heap.size + 2, 1, none⟩) hl5).trans x1
  have y2 := (hb6.frozen (p := ⟨w.heap.size + 2, 2, none⟩) hl5).trans x2
  have hO6b := hO5.keep hb6
  have hg2 := World.ownsRow.lt hO6 g2 rfl
  clear v0 v1 v2 x1 x2 hO5 hb6 hK5
  go_wp2_with fail
  obtain ⟨W7, hW7⟩ : ∃ W7, W7 = w6.setCell ⟨w.heap.size + 1 + 1, 1, none⟩ (.slice (some ⟨g2, 0, none⟩) nS nS) := ⟨_, rfl⟩
  rw [← hW7]
  have hK7 : Below (w.heap.size + 2) W3 W7 := by rw [hW7]; exact hK6.setCell (Nat.le_refl _) _
  have v0 : W7.cell? ⟨w.heap.size + 2, 0, none⟩ = some (.slice (some ⟨g1, 0, none⟩) nL nL) := by rw [hW7]; exact (cell_off (.inr (by decide))).trans u0
  have v1 : W7.cell? ⟨w.heap.size + 2, 1, none⟩ = some (.slice (some ⟨g2, 0, none⟩) nS nS) := by rw [hW7]; exact cell_set u1
  have v2 : W7.cell? ⟨w.heap.size + 2, 2, none⟩ = some (.slice none 0 0) := by rw [hW7]; exact (cell_off (.inr (by decide))).trans u2
  have x2 : W7.frozen? ⟨w.heap.size + 2, 2, none⟩ = false := by rw [hW7, World.frozen?_setCell]; exact y2
  have hz7 : W7.heap.size = w6.heap.size := by rw [hW7]; simp
  have hO7 : OwnR fileE W7 W3.heap.size (.slice (some ⟨g1, 0, none⟩) nL nL) live := by rw [hW7]; exact hO6b.other (fun g hg => by obtain rfl := own_blk hg; exact heap_set (by omega))
  have hO7b : OwnR fileE W7 W5.heap.size (.slice (some ⟨g2, 0, none⟩) nS nS) safe := by rw [hW7]; exact hO6.other (fun g hg => by obtain rfl := own_blk hg; exact heap_set (by omega))
  clear hW7 u0 u1 u2 y1 y2 q0 q1 q2 hO6 hO6b hK6
  refine (toDOpS_calls aO nO cO ops W7 (unhide H).o.len (by omega) ((unhide H).below (unhide HF _ hK7)).o.row).mono ?_
  rintro e w8 ⟨g3, rfl, hO8, hb8⟩
  have hz8 := hb8.size
  have hK8 := hK7.trans (hb8.mono (show w.heap.size + 2 ≤ W7.heap.size by omega))
  have hl7 : w.heap.size + 2 < W7.heap.size := by omega
  have u0 := bcl hb8 hl7 v0
  have u1 := bcl hb8 hl7 v1
  have u2 := bcl hb8 hl7 v2
  have y2 := (hb8.frozen (p := ⟨w.heap.size + 2, 2, none⟩) hl7).trans x2
  have hP1 := hO7.keep hb8
  have hP2 := hO7b.keep hb8
  have hg3 := World.ownsRow.lt hO8 g3 rfl
  obtain ⟨r0, s0⟩ := unhide HR _ hK8 0 (by decide)
  obtain ⟨r1, s1⟩ := unhide HR _ hK8 1 (by decide)
  obtain ⟨r2, s2⟩ := unhide HR _ hK8 2 (by decide)
  have HB8 := hide (unhide HF _ hK8)
  have HP1 := hide hP1
  have HP2 := hide hP2
  have HP3 := hide hO8
  clear v0 v1 v2 x2 hO7 hO7b hb8 hK7 hP1 hP2 hO8 hK8
  go_wp2_with fail
  refine bodyPost_ret (v := .agg #[.slice (some ⟨g1, 0, none⟩) nL nL, .slice (some ⟨g2, 0, none⟩) nS nS, .slice (some ⟨g3, 0, none⟩) nO nO]) (by simp [results, Tryz.results8, go_sem, r0, r1, r2]) rfl ?_
  refine ⟨g1, g2, g3, rfl, by omega, by omega, ((unhide HP1).other ?_).le (by omega), ((unhide HP2).other ?_).le (by omega), ((unhide HP3).other ?_).le (by omega), ?_⟩
  · intro g hg; obtain rfl := own_blk hg; rw [heap_set (by omega), heap_set (by omega), heap_set (by omega), heap_set (by omega)]
  · intro g hg; obtain rfl := own_blk hg; rw [heap_set (by omega), heap_set (by omega), heap_set (by omega), heap_set (by omega)]
  · intro g hg; obtain rfl := own_blk hg; rw [heap_set (by omega), heap_set (by omega), heap_set (by omega), heap_set (by omega)]
  · exact ((((unhide HB8).setCell (show w.heap.size ≤ w.heap.size + 1 + 1 by omega) _).setCell (show w.heap.size ≤ w.heap.size + 1 by omega) _).setCell (show w.heap.size ≤ w.heap.size + 1 by omega) _).setCell (show w.heap.size ≤ w.heap.size + 1 by omega) _

set_option maxRecDepth 10000 in
set_option maxHeartbeats 1000000 in
theorem szDisk_calls (aL : Option Addr) (nL cL : Nat) (live : List Fl) (aS : Option Addr) (nS cS : Nat) (safe : List Fl) (aO : Option Addr) (nO cO : Nat) (ops : List Dop) (left : Nat) (w : World) (h : DskArg w aL nL cL live aS nS cS safe aO nO cO ops) (hl : left ≤ 10000000) :
    Calls Tryz.prog 6 #[.agg #[.slice aL nL cL, .slice aS nS cS, .slice aO nO cO], .int .i64 left] w fun e w' => e = .returned (.int .i64 (purse left (totD live safe ops))) ∧ Below w.heap.size w w' := by
  obtain ⟨W0, hW0⟩ : ∃ W0, W0 = w.alloc (.cells #[.slice aL nL cL, .slice aS nS cS, .slice aO nO cO] 25) := ⟨_, rfl⟩
  have hb0 : Below w.heap.size w W0 := by rw [hW0]; exact bel1 _ _
  have hlt : w.heap.size < W0.heap.size := by rw [hW0]; simp
  have c0 : W0.cell? ⟨w.heap.size, 0, none⟩ = some (.slice aL nL cL) := by rw [hW0]; simp [go_sem]
  have c1 : W0.cell? ⟨w.heap.size, 1, none⟩ = some (.slice aS nS cS) := by rw [hW0]; simp [go_sem]
  have c2 : W0.cell? ⟨w.heap.size, 2, none⟩ = some (.slice aO nO cO) := by rw [hW0]; simp [go_sem]
  have HD := hide (fun (W : World) (hW : Below W0.heap.size W0 W) => (h.below hb0).below hW)
  have HC := hide (fun (W : World) (hW : Below W0.heap.size W0 W) => And.intro (bcl hW hlt c0) (And.intro (bcl hW hlt c1) (bcl hW hlt c2)))
  have HFIN := hide (fun (W : World) (hW : Below W0.heap.size W0 W) => belOn hb0 hW)
  have HW0 := hide hW0.symm
  have hbl := h.l.le
  have hbs := h.s.le
  have hbo := h.o.le
  unfold maxLen at hbl hbs hbo
  unfold totD
  rw [h.l.len, h.s.len, h.o.len]
  have HH := hide h
  obtain ⟨A, hA⟩ : ∃ A, nL + totF live = A := ⟨_, rfl⟩
  obtain ⟨B, hB⟩ : ∃ B, nS + totF safe = B := ⟨_, rfl⟩
  obtain ⟨C, hC⟩ : ∃ C, nO + totO ops = C := ⟨_, rfl⟩
  have H1 := hide (fun (W : World) (hW : Below W0.heap.size W0 W) (r : Nat) (hr : r ≤ 10000000) => szFileS_calls aL nL cL live r W (unhide HH).l.len (by omega) (unhide HH).l.good hr (unhide HD _ hW).l.row)
  have H2 := hide (fun (W : World) (hW : Below W0.heap.size W0 W) (r : Nat) (hr : r ≤ 10000000) => szFileS_calls aS nS cS safe r W (unhide HH).s.len (by omega) (unhide HH).s.good hr (unhide HD _ hW).s.row)
  have H3 := hide (fun (W : World) (hW : Below W0.heap.size W0 W) (r : Nat) (hr : r ≤ 10000000) => szDOpS_calls aO nO cO ops r W (unhide HH).o.len (by omega) (unhide HH).o.good hr (unhide HD _ hW).o.row)
  rw [hA, hB, hC]
  rw [hA] at H1
  rw [hB] at H2
  rw [hC] at H3
  clear h hb0 hlt c0 c1 c2 hW0 hA hB hC HH HD
  by_cases h1 : left < A
  · rw [purse_no (show (left : Int) < ((A + (B + C) : Nat) : Int) by omega)]
    have H1' := hide (unhide H1 _ (Below.refl _ _) left hl)
    rw [purse_no (show (left : Int) < (A : Int) by omega)] at H1'
    go_enter Tryz.func6, Tryz.ntmps6
    go_wp2_with fail
    rw [unhide HW0]
    refine (unhide H1').mono ?_
    rintro e w1 ⟨rfl, hb1⟩
    have HB1 := hide (unhide HFIN _ hb1)
    clear hb1
    go_wp2_with fail
    go_ret
    exact ⟨rfl, unhide HB1⟩
  · obtain ⟨r1, hr1⟩ : ∃ r1 : Nat, (left : Int) - (A : Int) = (r1 : Int) := ⟨left - A, by omega⟩
    rw [purse_step (by omega), hr1]
    have H1' := hide (unhide H1 _ (Below.refl _ _) left hl)
    rw [purse_yes (show ¬ (left : Int) < (A : Int) by omega), hr1] at H1'
    have hr1b : r1 ≤ 10000000 := by omega
    clear H1
    by_cases h2 : r1 < B
    · rw [purse_no (show (r1 : Int) < ((B + C : Nat) : Int) by omega)]
      have H2' := hide (fun W hW => unhide H2 W hW r1 hr1b)
      rw [purse_no (show (r1 : Int) < (B : Int) by omega)] at H2'
      go_enter Tryz.func6, Tryz.ntmps6
      go_wp2_with fail
      rw [unhide HW0]
      refine (unhide H1').mono ?_
      rintro e w1 ⟨rfl, hb1⟩
      have HB1 := hide hb1
      obtain ⟨q0, q1, q2⟩ := unhide HC _ hb1
      clear hb1
      go_wp2_with fail
      refine (unhide H2' _ (unhide HB1)).mono ?_
      rintro e w2 ⟨rfl, hb2⟩
      have HB2 := hide (unhide HFIN _ (belOn (unhide HB1) hb2))
      clear hb2
      go_wp2_with fail
      go_ret
      exact ⟨rfl, unhide HB2⟩
    · obtain ⟨r2, hr2⟩ : ∃ r2 : Nat, (r1 : Int) - (B : Int) = (r2 : Int) := ⟨r1 - B, by omega⟩
      rw [purse_step (by omega), hr2]
      have H2' := hide (fun W hW => unhide H2 W hW r1 hr1b)
      rw [purse_yes (show ¬ (r1 : Int) < (B : Int) by omega), hr2] at H2'
      have hr2b : r2 ≤ 10000000 := by omega
      clear H2
      have H3' := hide (fun W hW => unhide H3 W hW r2 hr2b)
      clear H3
      by_cases h3 : r2 < C
      · rw [purse_no (show (r2 : Int) < (C : Int) by omega)] at H3' ⊢
        go_enter Tryz.func6, Tryz.ntmps6
        go_wp2_with fail
        rw [unhide HW0]
        refine (unhide H1').mono ?_
        rintro e w1 ⟨rfl, hb1⟩
        have HB1 := hide hb1
        obtain ⟨q0, q1, q2⟩ := unhide HC _ hb1
        clear hb1
        go_wp2_with fail
        refine (unhide H2' _ (unhide HB1)).mono ?_
        rintro e w2 ⟨rfl, hb2⟩
        have HB2 := hide (belOn (unhide HB1) hb2)
        clear hb2 q0 q1 q2
        obtain ⟨q0, q1, q2⟩ := unhide HC _ (unhide HB2)
        go_wp2_with fail
        refine (unhide H3' _ (unhide HB2)).mono ?_
        rintro e w3 ⟨rfl, hb3⟩
        have HB3 := hide (unhide HFIN _ (belOn (unhide HB2) hb3))
        clear hb3
        go_wp2_with fail
        go_ret
        exact ⟨rfl, unhide HB3⟩
      · obtain ⟨r3, hr3⟩ : ∃ r3 : Nat, (r2 : Int) - (C : Int) = (r3 : Int) := ⟨r2 - C, by omega⟩
        rw [purse_yes (show ¬ (r2 : Int) < (C : Int) by omega), hr3] at H3' ⊢
        go_enter Tryz.func6, Tryz.ntmps6
        go_wp2_with fail
        rw [unhide HW0]
        refine (unhide H1').mono ?_
        rintro e w1 ⟨rfl, hb1⟩
        have HB1 := hide hb1
        obtain ⟨q0, q1, q2⟩ := unhide HC _ hb1
        clear hb1
        go_wp2_with fail
        refine (unhide H2' _ (unhide HB1)).mono ?_
        rintro e w2 ⟨rfl, hb2⟩
        have HB2 := hide (belOn (unhide HB1) hb2)
        clear hb2 q0 q1 q2
        obtain ⟨q0, q1, q2⟩ := unhide HC _ (unhide HB2)
        go_wp2_with fail
        refine (unhide H3' _ (unhide HB2)).mono ?_
        rintro e w3 ⟨rfl, hb3⟩
        have HB3 := hide (unhide HFIN _ (belOn (unhide HB2) hb3))
        clear hb3
        go_wp2_with fail
        go_ret
        exact ⟨rfl, unhide HB3⟩

/-- The three rows of a disk that is read. -/
structure Plain.DskRow (W : World) (aL aS aO : Option Addr) (live safe : List Fl) (ops : List Dop) : Prop where
  l : RowAt fileE W aL live
  s : RowAt fileE W aS safe
  o : RowAt dopE W aO ops
theorem Plain.DskRow.below {W W' : World} {aL aS aO : Option Addr} {live safe : List Fl} {ops : List Dop} (h : DskRow W aL aS aO live safe ops) (hb : Below W.heap.size W W') : DskRow W' aL aS aO live safe ops := ⟨h.l.below hb, h.s.below hb, h.o.below hb⟩

set_option maxRecDepth 10000 in
set_option maxHeartbeats 1000000 in
theorem eqDisk_calls (aL aS aO bL bS bO : Option Addr) (nL nS nO cL cS cO dL dS dO : Nat) (live safe : List Fl) (ops : List Dop) (w : World) (hl : live.length = nL) (hs : safe.length = nS) (ho : ops.length = nO) (zl : nL ≤ 10000000) (zs : nS ≤ 10000000) (zo : nO ≤ 10000000)
    (h1 : DskRow w aL aS aO live safe ops) (h2 : DskRow w bL bS bO live safe ops) :
    Calls Tryz.prog 11 #[.agg #[.slice aL nL cL, .slice aS nS cS, .slice aO nO cO], .agg #[.slice bL nL dL, .slice bS nS dS, .slice bO nO dO]] w fun e w' => e = .returned (.bool true) ∧ Below w.heap.size w w' := by
  obtain ⟨W0, hW0⟩ : ∃ W0, W0 = (w.alloc (.cells #[.slice aL nL cL, .slice aS nS cS, .slice aO nO cO] 35)).alloc (.cells #[.slice bL nL dL, .slice bS nS dS, .slice bO nO dO] 35) := ⟨_, rfl⟩
  have hb0 : Below w.heap.size w W0 := by rw [hW0]; exact belOn (bel1 _ _) (bel1 _ _)
  have hlt : w.heap.size < W0.heap.size := by rw [hW0]; simp; omega
  have hlt2 : w.heap.size + 1 < W0.heap.size := by rw [hW0]; simp
  have c0 : W0.cell? ⟨w.heap.size, 0, none⟩ = some (.slice aL nL cL) := by rw [hW0]; simp [go_sem]
  have c1 : W0.cell? ⟨w.heap.size, 1, none⟩ = some (.slice aS nS cS) := by rw [hW0]; simp [go_sem]
  have c2 : W0.cell? ⟨w.heap.size, 2, none⟩ = some (.slice aO nO cO) := by rw [hW0]; simp [go_sem]
  have d0 : W0.cell? ⟨w.heap.size + 1, 0, none⟩ = some (.slice bL nL dL) := by rw [hW0]; simp [go_sem]
  have d1 : W0.cell? ⟨w.heap.size + 1, 1, none⟩ = some (.slice bS nS dS) := by rw [hW0]; simp [go_sem]
  have d2 : W0.cell? ⟨w.heap.size + 1, 2, none⟩ = some (.slice bO nO dO) := by rw [hW0]; simp [go_sem]
  have HC := hide (fun (W : World) (hW : Below W0.heap.size W0 W) => And.intro (And.intro (bcl hW hlt c0) (And.intro (bcl hW hlt c1) (bcl hW hlt c2))) (And.intro (bcl hW hlt2 d0) (And.intro (bcl hW hlt2 d1) (bcl hW hlt2 d2))))
  have HD := hide (fun (W : World) (hW : Below W0.heap.size W0 W) => And.intro (h1.below (belOn hb0 hW)) (h2.below (belOn hb0 hW)))
  have HFIN := hide (fun (W : World) (hW : Below W0.heap.size W0 W) => belOn hb0 hW)
  have HW0 := hide hW0.symm
  have HL := hide hl
  have HS := hide hs
  have HO := hide ho
  clear h1 h2 hb0 hlt hlt2 c0 c1 c2 d0 d1 d2 hW0 hl hs ho
  go_enter Tryz.func11, Tryz.ntmps11
  go_wp2_with fail
  rw [unhide HW0]
  refine (eqFileS_calls aL bL cL dL nL live W0 (unhide HL) (by omega) (unhide HD _ (Below.refl _ _)).1.l (unhide HD _ (Below.refl _ _)).2.l).mono ?_
  rintro e w1 ⟨rfl, hb1⟩
  have HB1 := hide hb1
  obtain ⟨⟨q0, q1, q2⟩, p0, p1, p2⟩ := unhide HC _ hb1
  clear hb1
  go_wp2_with fail
  refine (eqFileS_calls aS bS cS dS nS safe w1 (unhide HS) (by omega) (unhide HD _ (unhide HB1)).1.s (unhide HD _ (unhide HB1)).2.s).mono ?_
  rintro e w2 ⟨rfl, hb2⟩
  have HB2 := hide (belOn (unhide HB1) hb2)
  clear hb2 q0 q1 q2 p0 p1 p2
  obtain ⟨⟨q0, q1, q2⟩, p0, p1, p2⟩ := unhide HC _ (unhide HB2)
  go_wp2_with fail
  refine (eqDOpS_calls aO bO cO dO nO ops w2 (unhide HO) (by omega) (unhide HD _ (unhide HB2)).1.o (unhide HD _ (unhide HB2)).2.o).mono ?_
  rintro e w3 ⟨rfl, hb3⟩
  have HB3 := hide (unhide HFIN _ (belOn (unhide HB2) hb3))
  clear hb3 q0 q1 q2 p0 p1 p2
  go_wp2_with fail
  go_ret
  exact ⟨rfl, unhide HB3⟩
end Go.Proofs.YtmgjkomgpkoenaaGreat
