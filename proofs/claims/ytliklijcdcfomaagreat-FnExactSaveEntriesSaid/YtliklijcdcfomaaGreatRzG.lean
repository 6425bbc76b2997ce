/- Texts of one kind, put together. -/
import Derived.Test.YtliklijcdcfomaaGreatRzB
import Derived.Test.YtliklijcdcfomaaGreatOzA
import Derived.RangeFuncNested
import Derived.RangeFuncBound
import Derived.RangeFuncCalls
import Derived.RangeFuncLeaves
import Derived.Shelf.Abstract
import Derived.Shelf.RegionOpen
import Derived.OwnWalkIn
import Derived.TacticsInMore
import Derived.LoopNIn
import Derived.LoopIn
import Derived.Deep.DeepCutAuto
import Derived.Deep.RegionHeld3
import Derived.Test.YtliklijcdcfomaaGreatEzA
import Derived.Test.YtliklijcdcfomaaGreatRdE
import Derived.Test.YtliklijcdcfomaaGreatAppG
import Derived.Test.YtliklijcdcfomaaGreatFzA

/- The frames of a log, read one by one. -/
namespace Go.Proofs.YtliklijcdcfomaaGreat
open Go.RowKit Plain
set_option linter.unusedVariables false
attribute [local go_sem] Oper.semAt_some

/-- A reader of frames: its block. -/
structure Plain.FrAt (W : World) (R : Nat) (s : ByteArray) (p : Nat) : Prop where
  c0 : W.cell? ⟨R, 0, none⟩ = some (.string s)
  c1 : W.cell? ⟨R, 1, none⟩ = some (.int .i64 p)
  cf : W.frozen? ⟨R, 1, none⟩ = false
  ct : TabAt W R 2
theorem Plain.FrAt.block {W W' : World} {R p : Nat} {s : ByteArray} (h : FrAt W R s p) (hb : W'.heap[R]? = W.heap[R]?) : FrAt W' R s p :=
  ⟨(World.cell?_of_block (a := ⟨R, 0, none⟩) hb).trans h.c0, (World.cell?_of_block (a := ⟨R, 1, none⟩) hb).trans h.c1, by have := h.cf; unfold World.frozen? at this ⊢; simp only at this ⊢; rw [hb]; exact this, fun j hj => (World.cell?_of_block (a := ⟨R, 2 + j, none⟩) hb).trans (h.ct j hj)⟩
theorem Plain.keepObj {w w' : World} (hb : Below w.heap.size w w') (b : Nat) (o : Obj) (h : w.heap[b]? = some o) : w'.heap[b]? = some o := (hb.block b (Array.getElem?_eq_some_iff.1 h).1).trans h
theorem Plain.cellKeep {w w' : World} (hb : Below w.heap.size w w') {p : Addr} {v : Value} (h : w.cell? p = some v) : w'.cell? p = some v := (hb.cell (lt_of_cell h)).trans h
theorem Plain.newB (w : World) (o : Obj) : Below w.heap.size w (w.alloc o) := (Below.refl _ _).alloc (Nat.le_refl _) _
theorem Plain.frOn {w W W' : World} (h0 : Below w.heap.size w W) (h1 : Below W.heap.size W W') : Below w.heap.size w W' := h0.trans (h1.mono h0.size)
theorem Plain.drewAl (w : World) (o : Obj) : Below w.heap.size w (w.alloc o).drew := belDrew ((Below.refl _ w).alloc (Nat.le_refl _) _)
theorem Plain.onlyR {R : Nat} {w w' : World} (h : OnlyAt ⟨R, 1, none⟩ w w') : OnlyP (fun k => k = R) w w' := ⟨h.os, h.tape, h.output, h.size, fun k hk hn => h.block k hk hn⟩
/-- What was stored: the world behind it. -/
structure Plain.FrNew (W W2 : World) (R : Nat) (s : ByteArray) : Prop where
  at0 : FrAt W2 R s 0
  gr : W.grownBy W2 (some R)
  size : W2.heap.size = W.heap.size
  lt : R < W2.heap.size
theorem frStore (s : ByteArray) (W : World) (R : Nat) (arr : Array Value) (h : TabTo arr 256) (hg : W.heap[R]? = some (.cells Tryz.zeroCells186 186 (0, 0))) :
    ∃ W2, (storeCells ⟨R, 0, none⟩ (Array.foldl (fun cs x => cs.setIfInBounds (2 + x.snd) x.fst) ((Tryz.zeroCells186.setIfInBounds 0 (.string s)).setIfInBounds 1 (.int .i64 0)) arr.zipIdx 0 256).toList).run Tryz.prog W = .ok () W2 ∧ FrNew W W2 R s := by
  have hbc := bigC_is s arr h.1
  have h1c := bigC_one s arr h.1 h.2.1
  have e : Array.foldl (fun cs x => cs.setIfInBounds (2 + x.snd) x.fst) ((Tryz.zeroCells186.setIfInBounds 0 (.string s)).setIfInBounds 1 (.int .i64 0)) arr.zipIdx 0 256 = bigC s arr := rfl
  rw [e]
  have hr := run_storeCells_from (P := Tryz.prog) R 186 (bigC s arr).toList 0 _ W hg (by rw [zero75, Array.length_toList, hbc.1]) (fun v hv => (Array.all_eq_true_iff_forall_mem.1 h1c) v (by simpa using hv))
  simp only [List.take_zero, List.nil_append, Array.toArray_toList] at hr
  have hrow := setRow_heap W R _ (bigC s arr) _ _ hg
  have hlt : R < W.heap.size := (Array.getElem?_eq_some_iff.1 hg).1
  obtain ⟨-, b0, b1, b2⟩ := hbc
  refine ⟨_, hr, ⟨(cell_of_row _ _ 0 _ _ _ hrow).trans b0, (cell_of_row _ _ 1 _ _ _ hrow).trans b1, frozen_of_row _ _ 1 _ _ hrow, fun j hj => ((cell_of_row _ _ (2 + j) _ _ _ hrow).trans (b2 j hj)).trans (h.2.2 j hj)⟩, splice_grown _, by simp, by simpa using hlt⟩
theorem bigSz (s : ByteArray) (arr : Array Value) (h : arr.size = 256) : (Array.foldl (fun cs x => cs.setIfInBounds (2 + x.snd) x.fst) ((Tryz.zeroCells186.setIfInBounds 0 (.string s)).setIfInBounds 1 (.int .i64 0)) arr.zipIdx 0 256).size = 258 := (bigC_is s arr h).1
theorem Plain.FrNew.below {w W W2 : World} {R : Nat} {s : ByteArray} (h : FrNew W W2 R s) (hb : Below w.heap.size w W) (hR : w.heap.size ≤ R) : Below w.heap.size w W2 := hb.grown h.gr hb.size (fun k e => by cases e; exact hR)

set_option maxRecDepth 10000 in
set_option maxHeartbeats 4000000 in
theorem frRead_calls (W : World) (s : ByteArray) (Bd : Nat) (hd : W.cell? ⟨Bd, 0, none⟩ = some (.string s)) (hs : s.size ≤ 1000000000) (l : Nat) (J : Nat → Nat → World → Prop) (Jx : World → Prop)
    (hJ : ∀ R p X X', J R p X → OnlyP (fun k => k = R) X X' → J R p X')
    (hY : ∀ R p X, J R p X → X.cell? ⟨R, 0, none⟩ = some (.string s) → ¬ s.size ≤ p → frC (s.extract p s.size) = 0 → YieldAt Fence.wide 1 Tryz.prog l #[.agg #[.int .i64 (bAt (s.extract p s.size) 0 : Nat), .string (frB (s.extract p s.size))]] X fun e W' =>
      (e = .returned (.bool true) ∧ J R (p + frN (s.extract p s.size)) W' ∧ W'.heap[R]? = X.heap[R]?) ∨ (e = .returned (.bool false) ∧ Jx W'))
    (h0 : ∀ R X, Below W.heap.size W X → W.heap.size ≤ R → R < X.heap.size → J R 0 X) :
    CallsIn Fence.wide 2 Tryz.prog 124 #[.func (.yield l) #[] #[], .pointer (some ⟨Bd, 0, none⟩)] W fun e W' => (∃ v, e = .returned v) ∧ ((∃ R p, J R p W' ∧ (s.size ≤ p ∨ frC (s.extract p s.size) ≠ 0)) ∨ Jx W') := by
  have HJ := hide hJ
  have HY := hide hY
  have H0 := hide h0
  have HD := hide (fun (X : World) (hX : Below W.heap.size W X) => (hX.cell (p := ⟨Bd, 0, none⟩) (lt_of_cell hd)).trans hd)
  clear hJ hY h0 hd
  refine callsIn_wide.2 ?_
  go_enter Tryz.func124, Tryz.ntmps124
  have d0 := unhide HD W (Below.refl _ _)
  go_wp2_with fail
  go_cut [3] (fun r wx => ∃ R, r = .pointer (some ⟨R, 0, none⟩) ∧ Hid (FrAt wx R s 0) ∧ Hid (Below W.heap.size W wx) ∧ W.heap.size ≤ R ∧ R < wx.heap.size)
  case first =>
    have HDK : ∀ X : World, Below W.heap.size W X → X.cell? ⟨Bd, 0, none⟩ = some (.string s) := fun X hX => unhide HD X hX
    have BW : Below W.heap.size W W.drew := belDrew (Below.refl _ _)
    have BWA := drewAl W (.cells Tryz.zeroCells186 186)
    go_region_held3 (fun w' => Below W.heap.size W w') (first | with_reducible exact BW | with_reducible exact BWA | with_reducible exact B1 | with_reducible exact B1A | with_reducible exact BA | with_reducible assumption) (first | (go_at_call 121; refine (newCrcTable_calls _).mono ?_; rintro e w1 ⟨arr, htab, rfl, hb1⟩; have B1 : Below W.heap.size W w1 := (by first | exact frOn BW hb1 | exact frOn BWA hb1); have B1A : Below W.heap.size W (w1.alloc (.cells Tryz.zeroCells186 186)) := frOn B1 (newB _ _); have hsz := htab.1; have hbig := bigSz s arr htab.1; obtain ⟨wA, hA, fA⟩ := frStore s (w1.alloc (.cells Tryz.zeroCells186 186)) w1.heap.size arr htab (h_new _ _ rfl); have BA : Below W.heap.size W wA := fA.below B1A B1.size; first | (obtain ⟨wB, hB, fB⟩ := frStore s w1 _ arr htab (keepObj hb1 _ _ (h_new _ _ rfl)); have BB : Below W.heap.size W wB := fB.below B1 (Nat.le_refl _)) | skip))
    all_goals (try go_wp2_with fail)
    all_goals go_meet
    all_goals first
      | exact ⟨_, rfl, hide fA.at0, hide BA, B1.size, fA.lt⟩
      | exact ⟨_, rfl, hide fB.at0, hide BB, Nat.le_refl _, fB.lt⟩
  case rest =>
    obtain ⟨w2, rfl⟩ : ∃ w2, w2 = wc := ⟨_, rfl⟩
    obtain ⟨R, rfl, HF, HB, hR1, hR2⟩ := hcut
    clear d0 HD
    go_wp2_with fail
    refine (wpIn_wide (n := 2)).1 ?_
    gi_loopw [4, 5] (fun _ _ wr => ∃ p : Nat, p ≤ s.size ∧ Hid (FrAt wr R s p) ∧ Hid (J R p wr)) (fun _ _ wr => match wr.cell? ⟨R, 1, none⟩ with | some (.int _ p) => s.size - p.toNat | _ => 0)
    case atStart => exact ⟨0, Nat.zero_le _, HF, hide (unhide H0 R w2 (unhide HB) hR1 hR2)⟩
    case round =>
      obtain ⟨p, hp, HFR, HJJ⟩ := hrel
      have HRS := hide ((callsIn_wide (n := 1)).2 (rest_ok R 0 s p wr (unhide HFR).c0 (unhide HFR).c1 (by omega) hp))
      have hJd : ∀ (X X' : World) (q : Nat), J R q X → OnlyP (fun k => k = R) X X' → J R q X' := fun X X' q h1 h2 => unhide HJ R q X X' h1 h2
      by_cases hpe : s.size ≤ p
      · have hemp := empty_rest s p hpe
        gi_wp2_with (first
          | (refine ⟨trivial, ?_⟩; gi_at_call 106; refine (unhide HRS).mono ?_; rintro e w3 ⟨rfl, k3, rfl⟩)
          | gi_in)
        go_end0
        exact ⟨⟨_, rfl⟩, .inl ⟨R, p, hJd wr _ p (unhide HJJ) ⟨rfl, rfl, rfl, Nat.le_refl _, fun _ _ _ => rfl⟩, .inl hpe⟩⟩
      · have hne := full_rest s p (by omega)
        have HFRM := hide (fun (k : Nat) => (callsIn_wide (n := 1)).2 (frame_calls R s p (wr.drewN k) (show (wr.drewN k).cell? _ = _ from (unhide HFR).c0) (show (wr.drewN k).cell? _ = _ from (unhide HFR).c1) (show (wr.drewN k).frozen? _ = _ from (unhide HFR).cf) (show TabAt (wr.drewN k) R 2 from (unhide HFR).ct) (by omega) (by omega)))
        have HYY := hide (fun X => unhide HY R p X)
        obtain ⟨r, hr⟩ : ∃ r, s.extract p s.size = r := ⟨_, rfl⟩
        rw [hr] at HFRM HYY HRS hne
        have HR0 := hide hr
        clear hr
        by_cases hc : frC r = 0
        · have hfv : frV r = .tuple #[.agg #[.int .i64 (bAt r 0 : Nat), .string (frB r)], .int .i64 0] := by unfold frV; rw [if_pos hc]
          have hfp : frP r p = p + frN r := by unfold frP; rw [if_pos hc]
          rw [hfv, hfp] at HFRM
          gi_wp2_with (first
            | (refine ⟨trivial, ?_⟩; gi_at_call 106; refine (unhide HRS).mono ?_; rintro e w3 ⟨rfl, k3, rfl⟩)
            | (refine ⟨trivial, ?_⟩; gi_at_call 122; refine (unhide HFRM _).mono ?_; rintro e w4 ⟨rfl, ho4, hc4⟩)
            | gi_in)
          have ho5 : OnlyP (fun k => k = R) wr (w4.alloc (.cells #[.int .i64 (bAt r 0 : Nat), .string (frB r)] 103)) := (OnlyP.trans (show OnlyP (fun k => k = R) wr (wr.drewN k3) from ⟨rfl, rfl, rfl, Nat.le_refl _, fun _ _ _ => rfl⟩) (onlyR ho4)).trans (OnlyP.of (newB _ _))
          obtain ⟨X, hX⟩ : ∃ X, w4.alloc (.cells #[.int .i64 (bAt r 0 : Nat), .string (frB r)] 103) = X := ⟨_, rfl⟩
          have hb4 : Below w4.heap.size w4 X := by rw [← hX]; exact newB _ _
          rw [hX] at ho5 ⊢
          have hRl : R < wr.heap.size := lt_of_cell (unhide HFR).c0
          have hF5 : FrAt X R s (p + frN r) := ⟨cellKeep hb4 ((ho4.cell ⟨R, 0, none⟩ hRl (by simp)).trans (unhide HFR).c0), cellKeep hb4 hc4, (hb4.frozen (p := ⟨R, 1, none⟩) (Nat.lt_of_lt_of_le hRl ho4.size)).trans ((ho4.frozen ⟨R, 1, none⟩ hRl).trans (unhide HFR).cf), fun j hj => cellKeep hb4 ((ho4.cell ⟨R, 2 + j, none⟩ hRl (by simp)).trans ((unhide HFR).ct j hj))⟩
          obtain ⟨fn, tmps, assign, body, hy, hR⟩ := unhide HYY X (hJd wr X p (unhide HJJ) ho5) hF5.c0 hpe hc
          have HF5 := hide hF5
          have hmeas : s.size - (p + frN r) < s.size - p := by
            have := (szI_ok (frC_ok hc)).1
            have e : frN r = (szI r).2 := rfl
            omega
          have hle : p + frN r ≤ s.size := by
            have h1 := (szI_ok (frC_ok hc)).2.1
            have e : frN r = (szI r).2 := rfl
            have h2 := rest_size s p
            rw [unhide HR0] at h2
            omega
          have HMS := hide hmeas
          clear ho4 hc4 hb4 ho5 hF5 hmeas
          rw [hy]
          gi_wp2
          refine hR.mono ?_
          rintro e W3 (⟨rfl, hJ4, hk3⟩ | ⟨rfl, hJ4⟩)
          case inr =>
            gi_wp2
            refine bodyPost_ret (results_none rfl _ _ _) rfl ?_
            exact ⟨⟨_, rfl⟩, .inr hJ4⟩
          gi_wp2
          have HF6 := hide ((unhide HF5).block hk3)
          go_roundw
          case rel => exact ⟨p + frN r, hle, HF6, hide hJ4⟩
          case measure =>
            rw [(unhide HF6).c1, (unhide HFR).c1]
            have := unhide HMS
            simp only
            omega
        · have hfv : frV r = .tuple #[.agg #[.int .i64 0, .string ByteArray.empty], .int .i64 (frC r)] := by unfold frV; rw [if_neg hc]
          have hfp : frP r p = p := by unfold frP; rw [if_neg hc]
          rw [hfv, hfp] at HFRM
          obtain ⟨c, hcc⟩ : ∃ c, frC r = c := ⟨_, rfl⟩
          rw [hcc] at hc HFRM
          have hcn : (c != 0) = true := by simp [bne_iff_ne, hc]
          gi_wp2_with (first
            | (refine ⟨trivial, ?_⟩; gi_at_call 106; refine (unhide HRS).mono ?_; rintro e w3 ⟨rfl, k3, rfl⟩)
            | (refine ⟨trivial, ?_⟩; gi_at_call 122; refine (unhide HFRM _).mono ?_; rintro e w4 ⟨rfl, ho4, hc4⟩)
            | gi_in)
          refine ⟨fun _ h => (by cases h), ?_⟩
          gi_wp2
          refine bodyPost_ret (results_none rfl _ _ _) rfl ?_
          refine ⟨⟨_, rfl⟩, .inl ⟨R, p, hJd wr _ p (unhide HJJ) ?_, .inr (by rw [unhide HR0, hcc]; exact hc)⟩⟩
          exact (OnlyP.trans (show OnlyP (fun k => k = R) wr (wr.drewN k3) from ⟨rfl, rfl, rfl, Nat.le_refl _, fun _ _ _ => rfl⟩) (onlyR ho4)).trans (OnlyP.of (newB _ _))
end Go.Proofs.YtliklijcdcfomaaGreat


/- A range over the frames of a log: the caller's side. -/
namespace Go.Proofs.YtliklijcdcfomaaGreat
open Go.RowKit Plain
set_option linter.unusedVariables false

/-- How a round's body may be left: what stays, and what holds then. -/
def Plain.RndP (l D R : Nat) (K : World → Prop) (Kx : Code → World → Prop) (X W : World) : Exit → Act → World → Prop
  | .normal, _, W' => (W'.heap[l]? = W.heap[l]? ∧ W'.heap[D]? = W.heap[D]? ∧ W'.heap[R]? = X.heap[R]?) ∧ K W'
  | .exit id, _, W' => (W'.heap[l]? = W.heap[l]? ∧ W'.heap[D]? = W.heap[D]?) ∧ Kx (.exit id) W'
  | _, _, _ => False
theorem Plain.only_put {l : Nat} {W : World} {o : Obj} : OnlyP (fun k => k = l) W (W.putObj l o) := by
  have h := grownBy_putObj' W l o
  exact ⟨h.os, h.tape, h.output, h.size, fun k hk hn => h.block k hk (fun e => hn (by cases e; rfl))⟩
theorem Plain.OnlyP.wide {p q : Nat → Prop} {w w' : World} (h : OnlyP p w w') (hq : ∀ k, p k → q k) : OnlyP q w w' := ⟨h.os, h.tape, h.output, h.size, fun k hk hn => h.block k hk (fun e => hn (hq k e))⟩

set_option maxHeartbeats 1000000 in
theorem range_frames {ps : Array Tmp} {assign body : Code} {Q : Exit → Act → World → Prop} {a : Act} {w : World} {g : Operand} (s : ByteArray) (Bd : Nat) (hd : w.cell? ⟨Bd, 0, none⟩ = some (.string s)) (hs : s.size ≤ 1000000000)
    (hg : a.eval g = .func (.func 124) #[] #[.pointer (some ⟨Bd, 0, none⟩)]) (hps : ps.size = 1)
    (K : Nat → Nat → World → Prop) (Kx : Code → World → Prop)
    (hKR : ∀ R p X, K R p X → w.heap.size + 2 ≤ R)
    (hK : ∀ R p X X', K R p X → OnlyP (fun k => k = R ∨ k = w.heap.size + 1) X X' → K R p X')
    (hKx : ∀ c X X', Kx c X → OnlyP (fun k => k = w.heap.size + 1) X X' → Kx c X')
    (h0 : ∀ R X, Below w.heap.size w X → w.heap.size + 2 ≤ R → R < X.heap.size → K R 0 X)
    (hround : ∀ (R p : Nat) (X : World), K R p X → X.cell? ⟨R, 0, none⟩ = some (.string s) → ¬ s.size ≤ p → frC (s.extract p s.size) = 0 →
      assign.wpIn (Fence.wide.inRound (w.heap.size + 1)) 1 Tryz.prog (Exit.then (fun a1 w1 => Below X.heap.size X w1 ∧ ∀ w2, OnlyP (fun k => k = w.heap.size + 1) w1 w2 → (∃ r, w2.heap[w.heap.size + 1]? = some (.loop r)) → w2.heap[w.heap.size]? = some (.deferred (some [])) →
          body.wpIn (Fence.wide.inRound (w.heap.size + 1)) 1 Tryz.prog (RndP (w.heap.size + 1) w.heap.size R (K R (p + frN (s.extract p s.size))) Kx X w2) a1 w2) (fun _ _ _ => False))
        { tmps := (ps.zip #[.agg #[.int .i64 (bAt (s.extract p s.size) 0 : Nat), .string (frB (s.extract p s.size))]]).foldl (fun t (p, v) => t.setIfInBounds p v) a.tmps, defers := [] } X)
    (hdone : ∀ (R p : Nat) (X : World), K R p X → (s.size ≤ p ∨ frC (s.extract p s.size) ≠ 0) → X.heap[w.heap.size]? = some (.deferred (some [])) → Q .normal { a with defers := { target := .collected w.heap.size, args := #[] } :: a.defers } X)
    (hstop : ∀ (c : Code) (X : World), Kx c X → X.heap[w.heap.size]? = some (.deferred (some [])) → c.wpIn Fence.wide 3 Tryz.prog Q { a with defers := { target := .collected w.heap.size, args := #[] } :: a.defers } X) :
    (Code.rangeFunc g ps assign body).wpIn Fence.wide 3 Tryz.prog Q a w := by
  refine wpIn_rangeFunc fun fn hfn => ?_
  obtain ⟨rc, hrc⟩ : ∃ rc : LoopState → Option Code → Obj, rc = fun st pe => .loop { state := st, pending := pe, fn := fn, tmps := a.tmps, params := ps, assign := assign, body := body, defers := w.heap.size } := ⟨_, rfl⟩
  obtain ⟨W1, hW1⟩ : ∃ W1, (w.alloc (.deferred (some []))).alloc (rc .ready none) = W1 := ⟨_, rfl⟩
  have hz : W1.heap.size = w.heap.size + 2 := by rw [← hW1]; simp
  have hbW : Below w.heap.size w W1 := by rw [← hW1]; exact frOn (newB _ _) (newB _ _)
  have hL1 : W1.heap[w.heap.size + 1]? = some (rc .ready none) := by
    rw [← hW1]
    have := World.alloc_heap_new (w.alloc (.deferred (some []))) (rc .ready none)
    rwa [World.size_alloc] at this
  have hD1 : W1.heap[w.heap.size]? = some (.deferred (some [])) := by
    rw [← hW1]
    exact keepObj (newB _ _) _ _ (World.alloc_heap_new w _)
  refine ⟨w.heap.size + 1, [{ target := .collected w.heap.size, args := #[] }], W1, { target := .fn (.func 124) #[.pointer (some ⟨Bd, 0, none⟩)], args := #[.func (.yield (w.heap.size + 1)) #[] #[]] }, W1, 124,
    #[.func (.yield (w.heap.size + 1)) #[] #[], .pointer (some ⟨Bd, 0, none⟩)], W1, ?_, ?_, fun _ _ => trivial, ?_, fun _ => by decide, ?_⟩
  · rw [← hW1, hrc]
    exact run_enterLoop_outer _ _ _ _ _
  · simp only [resolve, hg]
    simp [go_sem]
  · have eg : ∀ args w, (callFunc 124 args).run Tryz.prog w = .ok (.enter 124 args) w := enters_of Tryz.func124 (by kernel_rfl) rfl
    simp [invoke, go_sem, eg]
  · have key := frRead_calls W1 s Bd ((hbW.cell (p := ⟨Bd, 0, none⟩) (lt_of_cell hd)).trans hd) hs (w.heap.size + 1)
      (fun R p X => K R p X ∧ X.heap[w.heap.size + 1]? = some (rc .ready none) ∧ X.heap[w.heap.size]? = some (.deferred (some [])))
      (fun X => ∃ c, Kx c X ∧ X.heap[w.heap.size + 1]? = some (rc .done (some c)) ∧ X.heap[w.heap.size]? = some (.deferred (some [])))
      (fun R p X X' ⟨k1, k2, k3⟩ ho => by
        have hR := hKR R p X k1
        exact ⟨hK R p X X' k1 (ho.wide fun k e => .inl e), (ho.block _ (Array.getElem?_eq_some_iff.1 k2).1 (by omega)).trans k2, (ho.block _ (Array.getElem?_eq_some_iff.1 k3).1 (by omega)).trans k3⟩)
      ?_ (fun R X hb hR hl => ⟨h0 R X (frOn hbW hb) (by omega) hl, keepObj hb _ _ hL1, keepObj hb _ _ hD1⟩)
    · refine key.mono ?_
      rintro e W3 ⟨⟨v, rfl⟩, ⟨R, p, ⟨k1, k2, k3⟩, hend⟩ | ⟨c, k1, k2, k3⟩⟩
      · rw [hrc] at k2
        refine ⟨none, _, run_endLoop k2 (by simp), ?_⟩
        exact hdone R p _ (hK R p _ _ k1 (only_put.wide fun k e => .inr e)) hend ((World.putObj_heap_other (by omega)).trans k3)
      · rw [hrc] at k2
        refine ⟨some c, _, run_endLoop k2 (by simp), ?_⟩
        exact hstop c _ (hKx c _ _ k1 only_put) ((World.putObj_heap_other (by omega)).trans k3)
    · rintro R p X ⟨k1, k2, k3⟩ hc hp hz0
      have hR := hKR R p X k1
      have hy := run_yield (P := Tryz.prog) (args := #[.agg #[.int .i64 (bAt (s.extract p s.size) 0 : Nat), .string (frB (s.extract p s.size))]]) (by rw [hrc] at k2; exact k2) (by simp [hps])
      refine ⟨fn, _, assign, body, hy, roundIn_of_wpIn hfn (wpIn_mono (hround R p X k1 hc hp hz0) ?_)⟩
      rintro ex a1 w1 hx
      cases ex with
      | normal =>
        obtain ⟨hb1, hbd⟩ := hx
        have l1 := keepObj hb1 _ _ k2
        rw [hrc] at l1
        refine ⟨_, run_beginRound l1 rfl, ?_⟩
        have hlt : w.heap.size + 1 < w1.heap.size := (Array.getElem?_eq_some_iff.1 l1).1
        have l2 := World.putObj_heap_same (o := .loop { ({ state := .ready, pending := none, fn := fn, tmps := a.tmps, params := ps, assign := assign, body := body, defers := w.heap.size } : Loop) with state := .busy }) hlt
        have d2 : (w1.putObj (w.heap.size + 1) (.loop { ({ state := .ready, pending := none, fn := fn, tmps := a.tmps, params := ps, assign := assign, body := body, defers := w.heap.size } : Loop) with state := .busy })).heap[w.heap.size]? = some (.deferred (some [])) := (World.putObj_heap_other (by omega)).trans (keepObj hb1 _ _ k3)
        refine wpIn_mono (hbd _ only_put ⟨_, l2⟩ d2) ?_
        rintro e2 a2 w2 hq
        cases e2 with
        | normal =>
          obtain ⟨⟨q1, q2, q3⟩, hk⟩ := hq
          have l3 := q1.trans l2
          refine ⟨_, _, run_endRound none l3, .inl ⟨rfl, ⟨hK R _ _ _ hk (only_put.wide fun k e => .inr e), ?_, (World.putObj_heap_other (by omega)).trans (q2.trans d2)⟩, (World.putObj_heap_other (by omega)).trans q3⟩⟩
          rw [hrc]
          exact World.putObj_heap_same (Array.getElem?_eq_some_iff.1 l3).1
        | exit id =>
          obtain ⟨⟨q1, q2⟩, hk⟩ := hq
          have l3 := q1.trans l2
          refine ⟨_, _, run_endRound (some (.exit id)) l3, .inr ⟨rfl, .exit id, hKx _ _ _ hk only_put, ?_, (World.putObj_heap_other (by omega)).trans (q2.trans d2)⟩⟩
          rw [hrc]
          exact World.putObj_heap_same (Array.getElem?_eq_some_iff.1 l3).1
        | ret => exact hq.elim
        | goto t => exact hq.elim
        | panic ch => exact hq.elim
        | outgrown => exact hq.elim
      | ret => exact hx.elim
      | exit id => exact hx.elim
      | goto t => exact hx.elim
      | panic ch => exact hx.elim
      | outgrown => exact hx.elim
end Go.Proofs.YtliklijcdcfomaaGreat


/- A log, as the program reads it. -/
namespace Go.Proofs.YtliklijcdcfomaaGreat
open Go.RowKit Plain
set_option linter.unusedVariables false
attribute [local go_sem] Oper.semAt_some

theorem records_calls (s : ByteArray) (w : World) : Calls Tryz.prog 107 #[.string s] w fun e w' => e = .returned (.func (.func 124) #[] #[.pointer (some ⟨w.heap.size, 0, none⟩)]) ∧ w' = w.alloc (.cells #[.string s] 9) := by
  go_enter Tryz.func107, Tryz.ntmps107
  go_wp2_with fail
  go_ret
  exact ⟨rfl, rfl⟩

theorem appL {α : Type} {e : Elem α} {F : Fence} {n : Nat} {ops : Array Oper} {rest : List Oper} {o : Oper} {a : Act} {Q : Exit → Act → World → Prop} (hgd : o.guard = none) (s x : Operand)
    (ho : o.op = .call { callee := .builtin .append, args := #[s, x], argTypes := #[e.S, e.S] })
    {w : World} {B : Nat} {v : Value} {xs : List α} (hown : OwnR e w B v xs) (hs : a.eval s = v) (y : α) {cs : Array Value} (hcs : cs.toList = e.enc y)
    (gx : Nat) (hx : a.eval x = .slice (some ⟨gx, 0, none⟩) 1 1) (hgx : gx = w.heap.size) (hlen : xs.length < 100000000) (hB : B ≤ w.heap.size)
    (h : ∀ v' w', OwnR e w' B v' (xs ++ [y]) → Below B w w' → (w.alloc (.cells cs e.E)).grownBy w' v.ownBlock → wpListIn F n Tryz.prog ops Q rest (a.put o.dst v') w') :
    wpListIn F n Tryz.prog ops Q (o :: rest) a (w.alloc (.cells cs e.E)) := by
  subst hgx
  obtain ⟨i0, hi, hz0, hz1, hz2⟩ := info_parts e.hinfo
  have ha := World.ownsRow.alloc hown (.cells cs e.E)
  have hnew : (w.alloc (.cells cs e.E)).heap[w.heap.size]? = some (.cells cs e.E) := heap_alloc_new _ _
  have hby := e.hb
  refine wpListIn_append_own _ hgd s x e.S ho B e.E i0 e.zero e.n e.bytes e.hund hi hz0 hz1 hz2 e.hz e.hn v xs.length (xs.flatMap e.enc) hs ha
    ⟨w.heap.size, 0, none⟩ 1 1 (e.enc y) hx (by rw [e.hlen, Nat.one_mul]) (by rw [← hcs]; exact World.news_of_block hnew) (e.hone y) (by unfold maxLen; omega) ?_ (by simp; omega) ?_
  · exact Nat.le_trans (Nat.mul_le_mul_left _ hby) (by omega)
  · intro v' w' h1 h2 _
    refine h v' w' ?_ (((Below.refl B w).alloc hB _).trans (own_below ha h2 (by simp; omega))) h2
    unfold OwnR
    rw [List.flatMap_append, List.length_append]
    simpa using h1
theorem Plain.ownKeepL {α : Type} {e : Elem α} {W W' : World} {B : Nat} {v : Value} {xs : List α} (h : OwnR e W B v xs) (hh : ∀ g, v.ownBlock = some g → W'.heap[g]? = W.heap[g]?) : OwnR e W' B v xs := by
  refine ⟨h.1, ?_⟩
  rcases h.2 with ⟨q, c⟩ | ⟨g, cap, cur, q, c, d, r⟩
  · exact .inl ⟨q, c⟩
  · exact .inr ⟨g, cap, cur, q, c, (hh g (by rw [q]; rfl)).trans d, r⟩
/-- What lies in memory while a log is read. -/
structure Plain.LogK (term : Int) (w : World) (be bt B : Nat) (acc : List Ent) (v : Value) (X : World) : Prop where
  box : X.heap[be]? = some (.cells #[v] 40 (0, 0))
  trm : X.cell? ⟨bt, 0, none⟩ = some (.int .i64 term)
  own : OwnR entE X B v acc
  bel : Below w.heap.size w X
theorem Plain.own_from {α : Type} {e : Elem α} {X : World} {B g : Nat} {v : Value} {xs : List α} (h : OwnR e X B v xs) (hg : v.ownBlock = some g) : B ≤ g := by
  rcases h.2 with ⟨q, _⟩ | ⟨g1, cap, cur, q, c, d, r⟩
  · rw [q] at hg; cases hg
  · rw [q] at hg
    have : g1 = g := Option.some.inj hg
    omega
theorem Plain.LogK.keep {term : Int} {w : World} {be bt B : Nat} {acc : List Ent} {v : Value} {X X' : World} {p : Nat → Prop} (h : LogK term w be bt B acc v X) (ho : OnlyP p X X') (h1 : ¬ p be) (h2 : ¬ p bt) (h3 : ∀ g, v.ownBlock = some g → ¬ p g) (h4 : ∀ k, p k → w.heap.size ≤ k) : LogK term w be bt B acc v X' := by
  refine ⟨(ho.block _ (Array.getElem?_eq_some_iff.1 h.box).1 h1).trans h.box, (World.cell?_of_block (a := ⟨bt, 0, none⟩) (ho.block bt (lt_of_cell h.trm) h2)).trans h.trm, ?_, h.bel.trans (ho.below h4 h.bel.size)⟩
  refine ⟨h.own.1, ?_⟩
  rcases h.own.2 with ⟨q, c⟩ | ⟨g, cap, cur, q, c, d, r⟩
  · exact .inl ⟨q, c⟩
  · exact .inr ⟨g, cap, cur, q, c, (ho.block g (Array.getElem?_eq_some_iff.1 d).1 (h3 g (by rw [q]; rfl))).trans d, r⟩

set_option maxRecDepth 10000 in
set_option maxHeartbeats 4000000 in
theorem readLog_calls (s : ByteArray) (term : Int) (w : World) (hs : s.size ≤ 1000000000) :
    Calls Tryz.prog 77 #[.string s, .int .i64 term] w fun e w' => ∃ v, e = .returned v ∧ OwnR entE w' w.heap.size v (logF s term) ∧ Below w.heap.size w w' := by
  refine (callsIn_wide (n := 3)).1 ?_
  have hro : Fence.wide.round = none := rfl
  refine callsIn_of_wp_marks Tryz.func77 rfl trivial ?_ hro
  simp only [Tryz.ntmps77, List.size_toArray, List.length_cons, List.length_nil, Nat.reduceAdd, Nat.reduceSub, Array.replicate_succ, Array.replicate_zero, List.push_toArray, List.append_toArray, List.nil_append, List.cons_append]
  gi_wp2_with (first
    | (refine ⟨trivial, ?_⟩; gi_at_call 107; refine ((callsIn_wide (n := 2)).2 (records_calls s _)).mono ?_; rintro e w1 ⟨rfl, rfl⟩)
    | gi_in)
  obtain ⟨W0, hW0⟩ : ∃ W0, ((w.alloc (.cells #[.int .i64 term] 2)).alloc (.cells #[.slice none 0 0] 40)).alloc (.cells #[.string s] 9) = W0 := ⟨_, rfl⟩
  have hz : W0.heap.size = w.heap.size + 3 := by rw [← hW0]; simp
  have hb0 : Below w.heap.size w W0 := by rw [← hW0]; exact frOn (frOn (newB _ _) (newB _ _)) (newB _ _)
  have ct : W0.cell? ⟨w.heap.size, 0, none⟩ = some (.int .i64 term) := by rw [← hW0]; simp [go_sem]
  have cd : W0.cell? ⟨w.heap.size + 2, 0, none⟩ = some (.string s) := by rw [← hW0]; simp [go_sem]
  have hbx : W0.heap[w.heap.size + 1]? = some (.cells #[.slice none 0 0] 40 (0, 0)) := by
    rw [← hW0]
    refine keepObj (newB _ _) _ _ ?_
    have := heap_alloc_new (w.alloc (.cells #[.int .i64 term] 2)) (.cells #[.slice none 0 0] 40)
    rwa [World.size_alloc] at this
  rw [hW0]
  clear hW0
  refine range_frames s (w.heap.size + 2) cd hs rfl rfl
    (fun R p X => ∃ acc v, LMid s term acc p ∧ LogK term w (w.heap.size + 1) w.heap.size (W0.heap.size + 2) acc v X ∧ (∀ g, v.ownBlock = some g → g ≠ R) ∧ W0.heap.size + 2 ≤ R ∧ R < X.heap.size)
    (fun c X => c = .exit 0 ∧ ∃ v, LogK term w (w.heap.size + 1) w.heap.size (W0.heap.size + 2) (logF s term) v X)
    (fun R p X ⟨_, _, _, _, _, h, _⟩ => h)
    ?_ ?_ ?_ ?round ?done ?stop
  · rintro R p X X' ⟨acc, v, hM, hL, hv, hR1, hR2⟩ ho
    exact ⟨acc, v, hM, hL.keep ho (by omega) (by omega) (fun g hg => by have := hv g hg; have := own_from hL.own hg; omega) (fun k hk => by omega), hv, hR1, Nat.lt_of_lt_of_le hR2 ho.size⟩
  · rintro c X X' ⟨rfl, v, hL⟩ ho
    exact ⟨rfl, v, hL.keep ho (by omega) (by omega) (fun g hg => by have := own_from hL.own hg; omega) (fun k hk => by omega)⟩
  · intro R X hb hR hl
    exact ⟨[], .slice none 0 0, LMid.start s term, ⟨keepObj hb _ _ hbx, cellKeep hb ct, ownR_nil _ _ _, frOn hb0 hb⟩, (fun g hg => by cases hg), hR, hl⟩
  case round =>
    rintro R p X ⟨acc, v, hM, hL, hv, hR1, hR2⟩ hcR hp hz0
    obtain ⟨k, hk⟩ : ∃ k : Int, ((bAt (s.extract p s.size) 0 : Nat) : Int) = k := ⟨_, rfl⟩
    obtain ⟨b, hbb⟩ : ∃ b, frB (s.extract p s.size) = b := ⟨_, rfl⟩
    have hbz : b.size ≤ 1000000000 := by
      rw [← hbb]
      unfold frB
      simp only [ByteArray.size_extract]
      omega
    have hfm : frm (s.extract p s.size) = (k, b) := by unfold frm; rw [hk, hbb]
    have HST := hide (hM.stop hp hz0)
    have HNX := hide (fun e => hM.next (e := e) hp hz0)
    rw [hfm] at HST HNX
    have hm := hM.le
    generalize p + frN (s.extract p s.size) = pn at HNX ⊢
    rw [hk, hbb]
    obtain ⟨va, vc, rfl⟩ := hL.own.form
    gi_wp2
    refine ⟨newB _ _, fun w2 ho2 ⟨rr, hl2⟩ hd2 => ?_⟩
    have hxz : X.heap.size < (X.alloc (.cells #[.int .i64 k, .string b] 103)).heap.size := by simp
    have f0 : w2.cell? ⟨X.heap.size, 0, none⟩ = some (.int .i64 k) := (World.cell?_of_block (a := ⟨X.heap.size, 0, none⟩) (ho2.block _ hxz (by show ¬ (X.heap.size = W0.heap.size + 1); omega))).trans (by simp [go_sem])
    have f1 : w2.cell? ⟨X.heap.size, 1, none⟩ = some (.string b) := (World.cell?_of_block (a := ⟨X.heap.size, 1, none⟩) (ho2.block _ hxz (by show ¬ (X.heap.size = W0.heap.size + 1); omega))).trans (by simp [go_sem])
    have hLx : LogK term w (w.heap.size + 1) w.heap.size (W0.heap.size + 2) acc (.slice va acc.length vc) (X.alloc (.cells #[.int .i64 k, .string b] 103)) := hL.keep (p := fun _ => False) (OnlyP.of (newB _ _)) id id (fun _ _ => id) (fun _ h => h.elim)
    have hL2 := hLx.keep ho2 (by omega) (by omega) (fun g hg => by have := own_from hL.own hg; omega) (fun k hk => by omega)
    have hR3 : w2.heap[R]? = X.heap[R]? := (ho2.block R (by simp; omega) (by omega)).trans ((newB X _).block R hR2)
    have hs2 : X.heap.size < w2.heap.size := Nat.lt_of_lt_of_le hxz ho2.size
    have hrs := rawE_small b (by omega)
    have HRE := hide (CallsIn.inRound (W0.heap.size + 1) ((callsIn_wide (n := 0)).2 (readEntryX_calls k b w2 (by omega))))
    generalize rawE b = e0 at HRE hrs
    obtain ⟨tm, kd, bd⟩ := e0
    simp only [] at HRE hrs
    have HFO := hide (fun (W : World) (hW : RowAt entE W va acc) => CallsIn.inRound (W0.heap.size + 1) ((callsIn_wide (n := 0)).2 (follows_calls tm kd bd va acc.length vc acc term W (Nat.le_refl _) (by omega) (by omega) hW)))
    have hbl0 : ∀ (W : World), Below w2.heap.size w2 W → (W.heap[W0.heap.size + 1]? = w2.heap[W0.heap.size + 1]? ∧ W.heap[W0.heap.size]? = w2.heap[W0.heap.size]?) ∧ W.heap[R]? = X.heap[R]? := fun W hW => ⟨⟨hW.block _ (by omega), hW.block _ (by omega)⟩, (hW.block R (by omega)).trans hR3⟩
    have HBL := hide hbl0
    have HL2 := hide hL2
    clear hLx ho2 hL hbl0 hL2
    cases hfr : frE (k, b) with
    | none =>
      have hlg := unhide HST (acc_no (fun e he => by rw [hfr] at he; cases he))
      rw [hfr] at HRE
      have HLG := hide hlg
      clear hlg hfr
      gi_wp2_with (first
        | (refine ⟨trivial, ?_⟩; gi_at_call 108; refine (unhide HRE).mono ?_; rintro e w3 ⟨gd, rfl, hfe, hb3⟩; obtain rfl : gd = false := (by cases gd with | false => rfl | true => simp at hfe))
        | gi_in)
      refine ⟨trivial, ?_⟩
      gi_wp2
      have hbb3 : Below w2.heap.size w2 (w3.alloc (.cells #[.int .i64 tm, .int .i64 kd, .string bd] 76)) := frOn hb3 (newB _ _)
      exact ⟨(unhide HBL _ hbb3).1, rfl, _, by rw [unhide HLG]; exact (unhide HL2).keep (p := fun _ => False) (OnlyP.of hbb3) id id (fun _ _ => id) (fun _ h => h.elim)⟩
    | some e1 =>
      rw [hfr] at HRE
      cases hfo : (decide (acc.length < 500) && folB term (prevT acc acc.length) ⟨tm, kd, bd⟩) with
      | false =>
        rw [hfo] at HFO
        gi_wp2_with (first
          | (refine ⟨trivial, ?_⟩; gi_at_call 108; refine (unhide HRE).mono ?_; rintro e w3 ⟨gd, rfl, hfe, hb3⟩; obtain rfl : gd = true := (by cases gd with | true => rfl | false => simp at hfe); have hbb3 : Below w2.heap.size w2 (w3.alloc (.cells #[.int .i64 tm, .int .i64 kd, .string bd] 76)) := frOn hb3 (newB _ _); have hL3 := (unhide HL2).keep (p := fun _ => False) (OnlyP.of hbb3) id id (fun _ _ => id) (fun _ h => h.elim); have hcb := (cell_of_row _ _ 0 _ _ _ hL3.box); have hct := hL3.trm)
          | (refine ⟨trivial, ?_⟩; gi_at_call 90; refine (unhide HFO _ hL3.own.at).mono ?_; rintro e w5 ⟨rfl, hb5⟩)
          | gi_in)
        have hlg := unhide HST (acc_no (fun e he => by
          rw [hfr] at he
          cases he
          simp only [if_true, Option.some.injEq] at hfe
          rw [hfe]
          exact hfo))
        have hbb5 : Below w2.heap.size w2 w5 := frOn hbb3 hb5
        exact ⟨(unhide HBL _ hbb5).1, rfl, _, by rw [hlg]; exact (unhide HL2).keep (p := fun _ => False) (OnlyP.of hbb5) id id (fun _ _ => id) (fun _ h => h.elim)⟩
      | true =>
        rw [hfo] at HFO
        have hlen : acc.length < 100000000 := by omega
        gi_wp2_with (first
          | (refine ⟨trivial, ?_⟩; gi_at_call 108; refine (unhide HRE).mono ?_; rintro e w3 ⟨gd, rfl, hfe, hb3⟩; obtain rfl : gd = true := (by cases gd with | true => rfl | false => simp at hfe); have hbb3 : Below w2.heap.size w2 (w3.alloc (.cells #[.int .i64 tm, .int .i64 kd, .string bd] 76)) := frOn hb3 (newB _ _); have hL3 := (unhide HL2).keep (p := fun _ => False) (OnlyP.of hbb3) id id (fun _ _ => id) (fun _ h => h.elim); have hcb := (cell_of_row _ _ 0 _ _ _ hL3.box); have hct := hL3.trm)
          | (refine ⟨trivial, ?_⟩; gi_at_call 90; refine (unhide HFO _ hL3.own.at).mono ?_; rintro e w5 ⟨rfl, hb5⟩; have hbb5 : Below w2.heap.size w2 w5 := frOn hbb3 hb5; have hL5 := (unhide HL2).keep (p := fun _ => False) (OnlyP.of hbb5) id id (fun _ _ => id) (fun _ h => h.elim); have hcb5 := (cell_of_row _ _ 0 _ _ _ hL5.box); have hB5 : W0.heap.size + 2 ≤ w5.heap.size := (by have := hbb5.size; omega); have he0 := cellKeep hb5 (show (w3.alloc (.cells #[.int .i64 tm, .int .i64 kd, .string bd] 76)).cell? ⟨w3.heap.size, 0, none⟩ = some (.int .i64 tm) from by simp [go_sem]); have he1 := cellKeep hb5 (show (w3.alloc (.cells #[.int .i64 tm, .int .i64 kd, .string bd] 76)).cell? ⟨w3.heap.size, 1, none⟩ = some (.int .i64 kd) from by simp [go_sem]); have he2 := cellKeep hb5 (show (w3.alloc (.cells #[.int .i64 tm, .int .i64 kd, .string bd] 76)).cell? ⟨w3.heap.size, 2, none⟩ = some (.string bd) from by simp [go_sem]))
          | (gi_at_builtin; refine appL (e := entE) rfl (.tmp 26) (.tmp 28) rfl hL5.own rfl ⟨tm, kd, bd⟩ rfl _ rfl rfl hlen hB5 ?_; intro v6 w6 hown6 hb6 hg6; obtain ⟨a6, c6, hv6⟩ := hown6.form; subst hv6; have hz6 := hg6.size; have hbx6 : w6.heap[w.heap.size + 1]? = some (.cells #[.slice va acc.length vc] 40 (0, 0)) := (hg6.block (w.heap.size + 1) (by have := hbb5.size; simp; omega) (fun e => by have := own_from hL5.own e.symm; omega)).trans (keepObj (newB _ _) _ _ hL5.box); have hc6 := (cell_of_row _ _ 0 _ _ _ hbx6); have hf6 : w6.frozen? ⟨w.heap.size + 1, 0, none⟩ = false := frozen_of_row _ _ 0 _ _ hbx6)
          | gi_in)
        have hz4 : (acc ++ [(⟨tm, kd, bd⟩ : Ent)]).length = acc.length + 1 := by simp
        rw [hz4] at hown6
        have hfe2 : frE (k, b) = some ⟨tm, kd, bd⟩ := by
          rw [hfr]
          simpa using hfe
        have hfp := hfo
        rw [Bool.and_eq_true] at hfp
        have hacc := unhide HNX _ (acc_yes hfe2 (of_decide_eq_true hfp.1) hfp.2)
        have hg7 := grownBy_setCell' w6 (w.heap.size + 1) (.slice a6 (acc.length + 1) c6)
        have hbx7 : (w6.setCell ⟨w.heap.size + 1, 0, none⟩ (.slice a6 (acc.length + 1) c6)).heap[w.heap.size + 1]? = some (.cells #[.slice a6 (acc.length + 1) c6] 40 (0, 0)) := Boxed.set _ hbx6
        have hz5 : w5.heap.size + 1 ≤ w6.heap.size := by simpa using hg6.size
        have hk6 : ∀ x, x < w5.heap.size → (∀ g, (Value.slice va acc.length vc).ownBlock = some g → g ≠ x) → w6.heap[x]? = w5.heap[x]? := fun x hx hv => (hg6.block x (by simp; omega) (fun e => hv x e.symm rfl)).trans ((newB w5 _).block x hx)
        have hk7 : ∀ x, x < w6.heap.size → x ≠ w.heap.size + 1 → (w6.setCell ⟨w.heap.size + 1, 0, none⟩ (.slice a6 (acc.length + 1) c6)).heap[x]? = w6.heap[x]? := fun x hx hn => hg7.block x hx (fun e => hn (by cases e; rfl))
        have hz6 := hbb5.size
        have hR6 : w6.heap[R]? = X.heap[R]? := (hk6 R (by omega) hv).trans (unhide HBL _ hbb5).2
        have hlow : ∀ x, x < W0.heap.size + 2 → ∀ g, (Value.slice va acc.length vc).ownBlock = some g → g ≠ x := fun x hx g hg e => by have := own_from hL5.own hg; omega
        have hbtl := lt_of_cell hL5.trm
        simp only at hbtl
        refine ⟨⟨(hk7 _ (by omega) (by omega)).trans ((hk6 _ (by omega) (hlow _ (by omega))).trans (unhide HBL _ hbb5).1.1), (hk7 _ (by omega) (by omega)).trans ((hk6 _ (by omega) (hlow _ (by omega))).trans (unhide HBL _ hbb5).1.2), (hk7 R (by omega) (by omega)).trans hR6⟩, acc ++ [⟨tm, kd, bd⟩], _, hacc, ⟨hbx7, ?_, ?_, ?_⟩, ?_, hR1, ?_⟩
        · exact (World.cell?_of_block (a := ⟨w.heap.size, 0, none⟩) ((hk7 w.heap.size (by omega) (by omega)).trans (hk6 w.heap.size hbtl (hlow _ (by omega))))).trans hL5.trm
        · exact ownKeepL hown6 (fun g hg => hk7 g (World.ownsRow.lt hown6 g hg).2 (by have := own_from hown6 hg; omega))
        · exact (hL5.bel.trans (hb6.mono (by omega))).setCell (p := ⟨w.heap.size + 1, 0, none⟩) (by show w.heap.size ≤ w.heap.size + 1; omega) _
        · intro g hg e
          subst e
          obtain ⟨g1, ea, hl1, hc1⟩ := hown6.at 0 (by simp)
          subst ea
          obtain rfl : g1 = g := Option.some.inj hg
          have h1 := (hc1 0 (by decide)).1
          have h2 := (World.cell?_of_block (a := ⟨g1, 0, none⟩) hR6).trans hcR
          rw [show (0 : Nat) * entE.n + 0 = 0 from rfl, h2] at h1
          cases h1
        · rw [World.size_setCell]
          omega
  case done =>
    rintro R p X ⟨acc, v, hM, hL, hv, hR1, hR2⟩ hend hK
    have hlg : logF s term = acc := by
      rcases hend with h | h
      · exact hM.ends h
      · by_cases hp : s.size ≤ p
        · exact hM.ends hp
        · exact hM.code hp h
    have hc0 : X.cell? ⟨w.heap.size + 1, 0, none⟩ = some v := by rw [cell_of_row X _ 0 _ _ _ hL.box]; rfl
    gi_wp2
    rw [hlg]
    refine ⟨by simp, .inl ⟨_, _, rfl, run_takeDeferred hK, ?_⟩⟩
    have hgp := grownBy_putObj' X W0.heap.size (.deferred none)
    exact ⟨_, results_tmp rfl _ _ _, v, rfl, (ownKeepL (hL.own) (fun g hg => hgp.block g (World.ownsRow.lt hL.own g hg).2 (fun e => by have h9 : g = W0.heap.size := (Option.some.inj e); have := own_from hL.own hg; omega))).le (by omega), hL.bel.grown hgp hL.bel.size (fun k e => by cases e; omega)⟩
  case stop =>
    rintro c X ⟨rfl, v, hL⟩ hK
    have hc0 : X.cell? ⟨w.heap.size + 1, 0, none⟩ = some v := by rw [cell_of_row X _ 0 _ _ _ hL.box]; rfl
    gi_wp2
    refine ⟨by simp, .inl ⟨_, _, rfl, run_takeDeferred hK, ?_⟩⟩
    have hgp := grownBy_putObj' X W0.heap.size (.deferred none)
    exact ⟨_, results_tmp rfl _ _ _, v, rfl, (ownKeepL (hL.own) (fun g hg => hgp.block g (World.ownsRow.lt hL.own g hg).2 (fun e => by have h9 : g = W0.heap.size := (Option.some.inj e); have := own_from hL.own hg; omega))).le (by omega), hL.bel.grown hgp hL.bel.size (fun k e => by cases e; omega)⟩
end Go.Proofs.YtliklijcdcfomaaGreat


/- Recover of the program. -/
namespace Go.Proofs.YtliklijcdcfomaaGreat
open Go.RowKit Go.Maps Plain
set_option linter.unusedVariables false

theorem field_fl (n d : ByteArray) (W : World) : (Instr.field 73 (.agg #[.string n, .string d]) 1).run Tryz.prog W = .ok (.string d) W := by
  simp [Instr.field, go_sem, run_underlying Tryz.underlying73, asAgg]
theorem Plain.below3 {w X : World} {b : Nat} {u0 u1 u2 : Value} (h : Below w.heap.size w X) (hb : w.heap.size ≤ b) : Below w.heap.size w (((X.setCell ⟨b, 0, none⟩ u0).setCell ⟨b, 1, none⟩ u1).setCell ⟨b, 2, none⟩ u2) := ((h.setCell (p := ⟨b, 0, none⟩) hb _).setCell (p := ⟨b, 1, none⟩) hb _).setCell (p := ⟨b, 2, none⟩) hb _

set_option maxRecDepth 10000 in
set_option maxHeartbeats 4000000 in
theorem impl_Recover (aL : Option Addr) (nL cL : Nat) (live : List Fl) (aS : Option Addr) (nS cS : Nat) (safe : List Fl) (aO : Option Addr) (nO cO : Nat) (ops : List Dop) (w : World) (h : DiskAt w aL nL cL live aS nS cS safe aO nO cO ops) :
    Calls Tryz.prog 30 #[.agg #[.slice aL nL cL, .slice aS nS cS, .slice aO nO cO]] w fun e w' => ∃ sl, e = .returned (.tuple #[.agg #[.int .i64 (recT live safe ops).2.1, .int .i64 (recT live safe ops).2.2.1, sl], .bool (recT live safe ops).1]) ∧ OwnR entE w' w.heap.size sl (recT live safe ops).2.2.2 ∧ Below w.heap.size w w' := by
  obtain ⟨W0, hW0⟩ : ∃ W0, W0 = (w.alloc (.cells #[.slice aL nL cL, .slice aS nS cS, .slice aO nO cO] 30)).alloc (.cells #[.int .i64 0, .int .i64 0, .slice none 0 0] 49) := ⟨_, rfl⟩
  have hb0 : Below w.heap.size w W0 := by rw [hW0]; exact belOn (bel1 _ _) (bel1 _ _)
  have hz0 : W0.heap.size = w.heap.size + 2 := by rw [hW0]; simp
  have c0 : W0.cell? ⟨w.heap.size, 0, none⟩ = some (.slice aL nL cL) := by rw [hW0]; simp [go_sem]
  have c1 : W0.cell? ⟨w.heap.size, 1, none⟩ = some (.slice aS nS cS) := by rw [hW0]; simp [go_sem]
  have c2 : W0.cell? ⟨w.heap.size, 2, none⟩ = some (.slice aO nO cO) := by rw [hW0]; simp [go_sem]
  have r0 : W0.cell? ⟨w.heap.size + 1, 0, none⟩ = some (.int .i64 0) := by rw [hW0]; simp [go_sem]
  have r1 : W0.cell? ⟨w.heap.size + 1, 1, none⟩ = some (.int .i64 0) := by rw [hW0]; simp [go_sem]
  have r2 : W0.cell? ⟨w.heap.size + 1, 2, none⟩ = some (.slice none 0 0) := by rw [hW0]; simp [go_sem]
  have y0 : W0.frozen? ⟨w.heap.size + 1, 0, none⟩ = false := by rw [hW0]; simp [go_sem]
  have y1 : W0.frozen? ⟨w.heap.size + 1, 1, none⟩ = false := by rw [hW0]; simp [go_sem]
  have y2 : W0.frozen? ⟨w.heap.size + 1, 2, none⟩ = false := by rw [hW0]; simp [go_sem]
  have HD := hide (fun (W : World) (hW : Below W0.heap.size W0 W) => (h.below hb0).below hW)
  have HC := hide (fun (W : World) (hW : Below W0.heap.size W0 W) => And.intro (bcl hW (by omega) c0) (And.intro (bcl hW (by omega) c1) (bcl hW (by omega) c2)))
  have HR := hide (fun (W : World) (hW : Below W0.heap.size W0 W) => And.intro (And.intro (bcl hW (by omega) r0) (And.intro (bcl hW (by omega) r1) (bcl hW (by omega) r2))) (And.intro ((hW.frozen (p := ⟨w.heap.size + 1, 0, none⟩) (by show w.heap.size + 1 < _; omega)).trans y0) (And.intro ((hW.frozen (p := ⟨w.heap.size + 1, 1, none⟩) (by show w.heap.size + 1 < _; omega)).trans y1) ((hW.frozen (p := ⟨w.heap.size + 1, 2, none⟩) (by show w.heap.size + 1 < _; omega)).trans y2))))
  have HFIN := hide (fun (W : World) (hW : Below W0.heap.size W0 W) => belOn hb0 hW)
  have HZ0 := hide hz0
  have HW0 := hide hW0.symm
  have HH := hide h
  clear h hb0 c0 c1 c2 r0 r1 r2 y0 y1 y2 hW0 hz0
  unfold recT
  cases hd : diskB live safe ops with
  | false =>
    rw [if_neg (by simp)]
    have HX := hide hd
    clear hd
    go_enter Tryz.func30, Tryz.ntmps30
    go_wp2_with fail
    rw [unhide HW0]
    refine (impl_DiskOk aL nL cL live aS nS cS safe aO nO cO ops W0 (unhide HD _ (Below.refl _ _))).mono ?_
    rintro e w1 ⟨rfl, hb1⟩
    rw [unhide HX]
    have HB1 := hide (unhide HFIN _ hb1)
    obtain ⟨⟨r0, r1, r2⟩, y0, y1, y2⟩ := unhide HR _ hb1
    clear hb1
    go_wp2_with fail
    refine bodyPost_ret (v := .tuple #[.agg #[.int .i64 0, .int .i64 0, .slice none 0 0], .bool false]) (by simp [results, Tryz.results30, go_sem, r0, r1, r2]) rfl ⟨_, rfl, ownR_nil _ _ _, ?_⟩
    exact below3 (unhide HB1) (Nat.le_succ _)
  | true =>
    rw [if_pos rfl]
    have HX := hide hd
    have hfl := dk_live hd
    have hln := (files_small hfl).1
    have hfit := small_fit hfl
    rw [(unhide HH).ll] at hln
    have HLS := hide (tab_size' hfl logN)
    have HVS := hide (tab_size' hfl voteN)
    clear hd
    have HLV := hide (fun (W : World) (b m : Nat) (hT : Tab W b m (tabF live)) => hT.look_ok (nm := voteN) (by decide))
    have HLL := hide (fun (W : World) (b m : Nat) (hT : Tab W b m (tabF live)) => hT.look (nm := logN) (by decide))
    obtain ⟨n', hfa⟩ := fileAt_any (tabF live) logN
    rw [hfa] at HLL
    unfold votD logD
    have HLG := hide (fun (t : Int) (W : World) => readLog_calls ((tabF live logN).getD ⟨#[]⟩) t W (Nat.le_trans (unhide HLS) (by decide)))
    generalize (tabF live logN).getD ⟨#[]⟩ = dl at HLL HLG HLS ⊢
    clear hfa
    have hZ := unhide HZ0
    cases hv : tabF live voteN with
    | none =>
      rw [hv, fileAt_none hv] at HLV
      simp only [Option.isSome] at HLV ⊢
      have HLG0 := hide (unhide HLG 0)
      generalize logF dl 0 = es at HLG0 ⊢
      clear HLG hv
      go_enter Tryz.func30, Tryz.ntmps30
      go_wp2_with fail
      rw [unhide HW0]
      refine (impl_DiskOk aL nL cL live aS nS cS safe aO nO cO ops W0 (unhide HD _ (Below.refl _ _))).mono ?_
      rintro e w1 ⟨rfl, hb1⟩
      rw [unhide HX]
      obtain ⟨q0, q1, q2⟩ := unhide HC _ (frOn hb1 (newB w1 (.cells #[.int .i64 0, .int .i64 0, .slice none 0 0] 49)))
      have HB1 := hide hb1
      clear hb1
      go_wp2_with fail
      obtain ⟨W2, hW2⟩ : ∃ W2, W2 = w1.alloc (.cells #[.int .i64 0, .int .i64 0, .slice none 0 0] 49) := ⟨_, rfl⟩
      rw [← hW2]
      have HB2 := hide (show Below W0.heap.size W0 W2 from by rw [hW2]; exact frOn (unhide HB1) (newB _ _))
      have hz2 : w1.heap.size < W2.heap.size := by rw [hW2]; simp
      have hz1 := (unhide HB1).size
      have j0 : W2.cell? ⟨w1.heap.size, 0, none⟩ = some (.int .i64 0) := by rw [hW2]; simp [go_sem]
      have j1 : W2.cell? ⟨w1.heap.size, 1, none⟩ = some (.int .i64 0) := by rw [hW2]; simp [go_sem]
      have j2 : W2.cell? ⟨w1.heap.size, 2, none⟩ = some (.slice none 0 0) := by rw [hW2]; simp [go_sem]
      have k2 : W2.frozen? ⟨w1.heap.size, 2, none⟩ = false := by rw [hW2]; simp [go_sem]
      clear hW2
      refine (tableOf_calls aL nL cL live W2 (unhide HH).ll (by omega) hfit (unhide HD _ (unhide HB2)).rl).mono ?_
      rintro e w3 ⟨b, m, rfl, hbb, hm, HT, hb3⟩
      have hlk := unhide HLV _ _ _ HT
      have hl2 := unhide HLL _ _ _ (HT.blk (X := w3.alloc (.cells #[.string ⟨#[]⟩, .string ⟨#[]⟩] 73)) ((newB w3 _).block b HT.lt))
      have HB4 := hide (frOn (unhide HB2) (frOn hb3 (newB w3 (.cells #[.string ⟨#[]⟩, .string ⟨#[]⟩] 73))))
      have hb4 : Below W2.heap.size W2 (w3.alloc (.cells #[.string ⟨#[]⟩, .string ⟨#[]⟩] 73)) := frOn hb3 (newB w3 _)
      have p0 := bcl hb4 hz2 j0
      have HP := hide (fun (W : World) (hW : Below (w3.alloc (.cells #[.string ⟨#[]⟩, .string ⟨#[]⟩] 73)).heap.size (w3.alloc (.cells #[.string ⟨#[]⟩, .string ⟨#[]⟩] 73)) W) => And.intro (bcl (frOn hb4 hW) hz2 j0) (And.intro (bcl (frOn hb4 hW) hz2 j1) (And.intro (bcl (frOn hb4 hW) hz2 j2) (((frOn hb4 hW).frozen (p := ⟨w1.heap.size, 2, none⟩) hz2).trans k2))))
      have hne : w1.heap.size ≠ w.heap.size + 1 := by omega
      have hne2 : w.heap.size + 1 ≠ w1.heap.size := by omega
      have hz4 := hb4.size
      have hfd := field_fl n' dl (w3.alloc (.cells #[.string ⟨#[]⟩, .string ⟨#[]⟩] 73))
      unfold voteN at hlk
      unfold logN at hl2
      clear hb3 hb4 HT hbb hm q0 q1 q2 j0 j1 j2 k2
      go_wp2_with fail
      refine (unhide HLG0 _).mono ?_
      rintro e w5 ⟨v5, rfl, ho5, hb5⟩
      obtain ⟨a5, c5, rfl⟩ := ho5.form
      obtain ⟨s0, s1, s2, kk2⟩ := unhide HP _ hb5
      obtain ⟨⟨r0, r1, r2⟩, y0, y1, y2⟩ := unhide HR _ (frOn (unhide HB4) hb5)
      have HO5 := hide ho5
      have HB5 := hide (unhide HFIN _ (frOn (unhide HB4) hb5))
      clear ho5 hb5 p0
      go_wp2_with fail
      refine bodyPost_ret (v := .tuple #[.agg #[.int .i64 0, .int .i64 0, .slice a5 es.length c5], .bool true]) (by simp [results, Tryz.results30, go_sem, r0, r1, r2]) rfl ⟨_, rfl, ?_, ?_⟩
      · refine (ownKeepL (unhide HO5) (fun g hg => ?_)).le (by omega)
        have := own_from (unhide HO5) hg
        rw [heap_set (by omega), heap_set (by omega), heap_set (by omega), heap_set (by omega)]
      · exact below3 ((unhide HB5).setCell (p := ⟨w1.heap.size, 2, none⟩) (by show w.heap.size ≤ w1.heap.size; omega) _) (Nat.le_succ _)
    | some dv =>
      rw [hv, fileAt_some hv] at HLV
      rw [hv] at HVS
      simp only [Option.isSome, Option.getD_some] at HLV HVS ⊢
      have HRV := hide (fun (W : World) => readVote_calls dv W (Nat.le_trans (unhide HVS) (by decide)))
      clear hv
      generalize votF dv = V at HRV ⊢
      cases V with
      | none =>
        simp only [votV] at HRV ⊢
        go_enter Tryz.func30, Tryz.ntmps30
        go_wp2_with fail
        rw [unhide HW0]
        refine (impl_DiskOk aL nL cL live aS nS cS safe aO nO cO ops W0 (unhide HD _ (Below.refl _ _))).mono ?_
        rintro e w1 ⟨rfl, hb1⟩
        rw [unhide HX]
        obtain ⟨q0, q1, q2⟩ := unhide HC _ (frOn hb1 (newB w1 (.cells #[.int .i64 0, .int .i64 0, .slice none 0 0] 49)))
        have HB1 := hide hb1
        clear hb1
        go_wp2_with fail
        obtain ⟨W2, hW2⟩ : ∃ W2, W2 = w1.alloc (.cells #[.int .i64 0, .int .i64 0, .slice none 0 0] 49) := ⟨_, rfl⟩
        rw [← hW2]
        have HB2 := hide (show Below W0.heap.size W0 W2 from by rw [hW2]; exact frOn (unhide HB1) (newB _ _))
        have hz2 : w1.heap.size < W2.heap.size := by rw [hW2]; simp
        have hz1 := (unhide HB1).size
        have j0 : W2.cell? ⟨w1.heap.size, 0, none⟩ = some (.int .i64 0) := by rw [hW2]; simp [go_sem]
        have j1 : W2.cell? ⟨w1.heap.size, 1, none⟩ = some (.int .i64 0) := by rw [hW2]; simp [go_sem]
        have j2 : W2.cell? ⟨w1.heap.size, 2, none⟩ = some (.slice none 0 0) := by rw [hW2]; simp [go_sem]
        have k0 : W2.frozen? ⟨w1.heap.size, 0, none⟩ = false := by rw [hW2]; simp [go_sem]
        have k1 : W2.frozen? ⟨w1.heap.size, 1, none⟩ = false := by rw [hW2]; simp [go_sem]
        have k2 : W2.frozen? ⟨w1.heap.size, 2, none⟩ = false := by rw [hW2]; simp [go_sem]
        clear hW2
        refine (tableOf_calls aL nL cL live W2 (unhide HH).ll (by omega) hfit (unhide HD _ (unhide HB2)).rl).mono ?_
        rintro e w3 ⟨b, m, rfl, hbb, hm, HT, hb3⟩
        have hlk := unhide HLV _ _ _ HT
        obtain ⟨W4, hW4⟩ : ∃ W4, W4 = w3.alloc (.cells #[.string voteN, .string dv] 73) := ⟨_, rfl⟩
        have hb34 : Below w3.heap.size w3 W4 := by rw [hW4]; exact newB _ _
        have HB4 := hide (frOn (unhide HB2) (frOn hb3 hb34))
        have hb4 : Below W2.heap.size W2 W4 := frOn hb3 hb34
        have hT4 : Tab W4 b m (tabF live) := HT.blk (hb34.block b HT.lt)
        have f1 : W4.cell? ⟨w3.heap.size, 1, none⟩ = some (.string dv) := by rw [hW4]; simp [go_sem]
        have HP := hide (fun (W : World) (hW : Below W4.heap.size W4 W) => And.intro (And.intro (bcl (frOn hb4 hW) hz2 j0) (And.intro (bcl (frOn hb4 hW) hz2 j1) (bcl (frOn hb4 hW) hz2 j2))) (And.intro (((frOn hb4 hW).frozen (p := ⟨w1.heap.size, 0, none⟩) hz2).trans k0) (And.intro (((frOn hb4 hW).frozen (p := ⟨w1.heap.size, 1, none⟩) hz2).trans k1) (((frOn hb4 hW).frozen (p := ⟨w1.heap.size, 2, none⟩) hz2).trans k2))))
        have HLL4 := hide (fun (X : World) (hX : X.heap[b]? = W4.heap[b]?) => unhide HLL _ _ _ (hT4.blk hX))
        have hbw4 := hT4.lt
        have hne : w1.heap.size ≠ w.heap.size + 1 := by omega
        have hne2 : w.heap.size + 1 ≠ w1.heap.size := by omega
        have hne3 : w1.heap.size ≠ b := by omega
        have hz4 := hb4.size
        have HW4 := hide hW4.symm
        unfold voteN at hlk HW4
        clear hb3 hb4 HT hm q0 q1 q2 j0 j1 j2 k0 k1 k2 hb34 hT4 hW4

        go_wp2_with fail
        rw [unhide HW4]
        refine (unhide HRV _).mono ?_
        rintro e w5 ⟨rfl, hb5⟩
        obtain ⟨⟨r0, r1, r2⟩, y0, y1, y2⟩ := unhide HR _ (frOn (unhide HB4) hb5)
        have HB5 := hide (unhide HFIN _ (frOn (unhide HB4) hb5))
        clear hb5
        go_wp2_with fail
        refine bodyPost_ret (v := .tuple #[.agg #[.int .i64 0, .int .i64 0, .slice none 0 0], .bool false]) (by simp [results, Tryz.results30, go_sem, r0, r1, r2]) rfl ⟨_, rfl, ownR_nil _ _ _, ?_⟩
        exact below3 (unhide HB5) (Nat.le_succ _)
      | some tv =>
        obtain ⟨tm, vt⟩ := tv
        simp only [votV] at HRV ⊢
        have HLG0 := hide (unhide HLG tm)
        generalize logF dl tm = es at HLG0 ⊢
        clear HLG
        go_enter Tryz.func30, Tryz.ntmps30
        go_wp2_with fail
        rw [unhide HW0]
        refine (impl_DiskOk aL nL cL live aS nS cS safe aO nO cO ops W0 (unhide HD _ (Below.refl _ _))).mono ?_
        rintro e w1 ⟨rfl, hb1⟩
        rw [unhide HX]
        obtain ⟨q0, q1, q2⟩ := unhide HC _ (frOn hb1 (newB w1 (.cells #[.int .i64 0, .int .i64 0, .slice none 0 0] 49)))
        have HB1 := hide hb1
        clear hb1
        go_wp2_with fail
        obtain ⟨W2, hW2⟩ : ∃ W2, W2 = w1.alloc (.cells #[.int .i64 0, .int .i64 0, .slice none 0 0] 49) := ⟨_, rfl⟩
        rw [← hW2]
        have HB2 := hide (show Below W0.heap.size W0 W2 from by rw [hW2]; exact frOn (unhide HB1) (newB _ _))
        have hz2 : w1.heap.size < W2.heap.size := by rw [hW2]; simp
        have hz1 := (unhide HB1).size
        have j0 : W2.cell? ⟨w1.heap.size, 0, none⟩ = some (.int .i64 0) := by rw [hW2]; simp [go_sem]
        have j1 : W2.cell? ⟨w1.heap.size, 1, none⟩ = some (.int .i64 0) := by rw [hW2]; simp [go_sem]
        have j2 : W2.cell? ⟨w1.heap.size, 2, none⟩ = some (.slice none 0 0) := by rw [hW2]; simp [go_sem]
        have k0 : W2.frozen? ⟨w1.heap.size, 0, none⟩ = false := by rw [hW2]; simp [go_sem]
        have k1 : W2.frozen? ⟨w1.heap.size, 1, none⟩ = false := by rw [hW2]; simp [go_sem]
        have k2 : W2.frozen? ⟨w1.heap.size, 2, none⟩ = false := by rw [hW2]; simp [go_sem]
        clear hW2
        refine (tableOf_calls aL nL cL live W2 (unhide HH).ll (by omega) hfit (unhide HD _ (unhide HB2)).rl).mono ?_
        rintro e w3 ⟨b, m, rfl, hbb, hm, HT, hb3⟩
        have hlk := unhide HLV _ _ _ HT
        obtain ⟨W4, hW4⟩ : ∃ W4, W4 = w3.alloc (.cells #[.string voteN, .string dv] 73) := ⟨_, rfl⟩
        have hb34 : Below w3.heap.size w3 W4 := by rw [hW4]; exact newB _ _
        have HB4 := hide (frOn (unhide HB2) (frOn hb3 hb34))
        have hb4 : Below W2.heap.size W2 W4 := frOn hb3 hb34
        have hT4 : Tab W4 b m (tabF live) := HT.blk (hb34.block b HT.lt)
        have f1 : W4.cell? ⟨w3.heap.size, 1, none⟩ = some (.string dv) := by rw [hW4]; simp [go_sem]
        have HP := hide (fun (W : World) (hW : Below W4.heap.size W4 W) => And.intro (And.intro (bcl (frOn hb4 hW) hz2 j0) (And.intro (bcl (frOn hb4 hW) hz2 j1) (bcl (frOn hb4 hW) hz2 j2))) (And.intro (((frOn hb4 hW).frozen (p := ⟨w1.heap.size, 0, none⟩) hz2).trans k0) (And.intro (((frOn hb4 hW).frozen (p := ⟨w1.heap.size, 1, none⟩) hz2).trans k1) (((frOn hb4 hW).frozen (p := ⟨w1.heap.size, 2, none⟩) hz2).trans k2))))
        have HLL4 := hide (fun (X : World) (hX : X.heap[b]? = W4.heap[b]?) => unhide HLL _ _ _ (hT4.blk hX))
        have hbw4 := hT4.lt
        have hne : w1.heap.size ≠ w.heap.size + 1 := by omega
        have hne2 : w.heap.size + 1 ≠ w1.heap.size := by omega
        have hne3 : w1.heap.size ≠ b := by omega
        have hz4 := hb4.size
        have HW4 := hide hW4.symm
        unfold voteN at hlk HW4
        clear hb3 hb4 HT hm q0 q1 q2 j0 j1 j2 k0 k1 k2 hb34 hT4 hW4

        go_wp2_with fail
        rw [unhide HW4]
        refine (unhide HRV _).mono ?_
        rintro e w5 ⟨rfl, hb5⟩
        obtain ⟨⟨s0, s1, s2⟩, kk0, kk1, kk2⟩ := unhide HP _ hb5
        have hl5 := unhide HLL4 ((w5.setCell ⟨w1.heap.size, 0, none⟩ (.int .i64 tm)).setCell ⟨w1.heap.size, 1, none⟩ (.int .i64 vt)) (by rw [heap_set hne3, heap_set hne3]; exact hb5.block b hbw4)
        have hfd := field_fl n' dl ((w5.setCell ⟨w1.heap.size, 0, none⟩ (.int .i64 tm)).setCell ⟨w1.heap.size, 1, none⟩ (.int .i64 vt))
        unfold logN at hl5
        have HB5 := hide (frOn (unhide HB4) hb5)
        have HR5 := hide (unhide HR _ (frOn (unhide HB4) hb5))
        have hz5 := hb5.size
        clear hb5
        obtain ⟨X, hX⟩ : ∃ X, X = (w5.setCell ⟨w1.heap.size, 0, none⟩ (.int .i64 tm)).setCell ⟨w1.heap.size, 1, none⟩ (.int .i64 vt) := ⟨_, rfl⟩
        have x0 : X.cell? ⟨w1.heap.size, 0, none⟩ = some (.int .i64 tm) := by rw [hX]; exact (cell_off (.inr (by decide))).trans (cell_set s0)
        have x1 : X.cell? ⟨w1.heap.size, 1, none⟩ = some (.int .i64 vt) := by rw [hX]; exact cell_set ((cell_off (.inr (by decide))).trans s1)
        have x2 : X.cell? ⟨w1.heap.size, 2, none⟩ = some (.slice none 0 0) := by rw [hX]; exact (cell_off (.inr (by decide))).trans ((cell_off (.inr (by decide))).trans s2)
        have x3 : X.frozen? ⟨w1.heap.size, 2, none⟩ = false := by rw [hX]; simp only [World.frozen?_setCell]; exact kk2
        have hzx : X.heap.size = w5.heap.size := by rw [hX, World.size_setCell, World.size_setCell]
        have HBX := hide (show Below W0.heap.size W0 X from by rw [hX]; exact ((unhide HB5).setCell (p := ⟨w1.heap.size, 0, none⟩) (by show W0.heap.size ≤ w1.heap.size; omega) _).setCell (p := ⟨w1.heap.size, 1, none⟩) (by show W0.heap.size ≤ w1.heap.size; omega) _)
        have HX5 := hide hX.symm
        clear hX
        go_wp2_with fail
        rw [unhide HX5]
        refine (unhide HLG0 _).mono ?_
        rintro e w6 ⟨v6, rfl, ho6, hb6⟩
        obtain ⟨a6, c6, rfl⟩ := ho6.form
        have hjx : w1.heap.size < X.heap.size := by omega
        have t0 := bcl hb6 hjx x0
        have t1 := bcl hb6 hjx x1
        have t2 := bcl hb6 hjx x2
        have t3 := (hb6.frozen (p := ⟨w1.heap.size, 2, none⟩) hjx).trans x3
        obtain ⟨⟨r0, r1, r2⟩, y0, y1, y2⟩ := unhide HR _ (frOn (unhide HBX) hb6)
        have HO6 := hide ho6
        have HB6 := hide (unhide HFIN _ (frOn (unhide HBX) hb6))
        clear ho6 hb6 s0 s1 s2 kk0 kk1 kk2 x0 x1 x2 x3 hl5 hfd HX5
        go_wp2_with fail
        refine bodyPost_ret (v := .tuple #[.agg #[.int .i64 tm, .int .i64 vt, .slice a6 es.length c6], .bool true]) (by simp [results, Tryz.results30, go_sem, r0, r1, r2]) rfl ⟨_, rfl, ?_, ?_⟩
        · refine (ownKeepL (unhide HO6) (fun g hg => ?_)).le (by omega)
          have := own_from (unhide HO6) hg
          rw [heap_set (by omega), heap_set (by omega), heap_set (by omega), heap_set (by omega)]
        · exact below3 ((unhide HB6).setCell (p := ⟨w1.heap.size, 2, none⟩) (by show w.heap.size ≤ w1.heap.size; omega) _) (Nat.le_succ _)
end Go.Proofs.YtliklijcdcfomaaGreat

