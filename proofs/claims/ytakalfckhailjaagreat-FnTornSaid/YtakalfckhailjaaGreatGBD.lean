/- Texts of one kind, put together. -/
import Derived.Test.YtakalfckhailjaaGreatGAM
import Derived.Test.YtakalfckhailjaaGreatGAD
import Derived.RangeFuncNested
import Derived.RangeFuncBound
import Derived.RangeFuncCalls
import Derived.RangeFuncLeaves
import Derived.Shelf.Abstract
import Derived.Shelf.RegionOpen
import Derived.OwnWalkIn
import Derived.TacticsInMore
import Derived.LoopNIn
import Derived.LoopIn
import Derived.Deep.DeepCutAuto
import Derived.Deep.RegionHeld3

/- The frames of a log, read one by one. -/
namespace Go.Proofs.YtakalfckhailjaaGreat
open Go.RowKit Plain
set_option linter.unusedVariables false
attribute [local go_sem] Oper.semAt_some

/-- A reader of frames: its block. -/
structure Plain.FrAt (W : World) (R : Nat) (s : ByteArray) (p : Nat) : Prop where
  c0 : W.cell? ⟨R, 0, none⟩ = some (.string s)
  c1 : W.cell? ⟨R, 1, none⟩ = some (.int .i64 p)
  cf : W.frozen? ⟨R, 1, none⟩ = false
  ct : TabAt W R 2
theorem Plain.FrAt.block {W W' : World} {R p : Nat} {s : ByteArray} (h : FrAt W R s p) (hb : W'.heap[R]? = W.heap[R]?) : FrAt W' R s p :=
  ⟨(World.cell?_of_block (a := ⟨R, 0, none⟩) hb).trans h.c0, (World.cell?_of_block (a := ⟨R, 1, none⟩) hb).trans h.c1, by have := h.cf; unfold World.frozen? at this ⊢; simp only at this ⊢; rw [hb]; exact this, fun j hj => (World.cell?_of_block (a := ⟨R, 2 + j, none⟩) hb).trans (h.ct j hj)⟩
theorem Plain.keepObj {w w' : World} (hb : Below w.heap.size w w') (b : Nat) (o : Obj) (h : w.heap[b]? = some o) : w'.heap[b]? = some o := (hb.block b (Array.getElem?_eq_some_iff.1 h).1).trans h
theorem Plain.cellKeep {w w' : World} (hb : Below w.heap.size w w') {p : Addr} {v : Value} (h : w.cell? p = some v) : w'.cell? p = some v := (hb.cell (lt_of_cell h)).trans h
theorem Plain.newB (w : World) (o : Obj) : Below w.heap.size w (w.alloc o) := (Below.refl _ _).alloc (Nat.le_refl _) _
theorem Plain.frOn {w W W' : World} (h0 : Below w.heap.size w W) (h1 : Below W.heap.size W W') : Below w.heap.size w W' := h0.trans (h1.mono h0.size)
theorem Plain.drewAl (w : World) (o : Obj) : Below w.heap.size w (w.alloc o).drew := belDrew ((Below.refl _ w).alloc (Nat.le_refl _) _)
theorem Plain.onlyR {R : Nat} {w w' : World} (h : OnlyAt ⟨R, 1, none⟩ w w') : OnlyP (fun k => k = R) w w' := ⟨h.os, h.tape, h.output, h.size, fun k hk hn => h.block k hk hn⟩
/-- What was stored: the world behind it. -/
structure Plain.FrNew (W W2 : World) (R : Nat) (s : ByteArray) : Prop where
  at0 : FrAt W2 R s 0
  gr : W.grownBy W2 (some R)
  size : W2.heap.size = W.heap.size
  lt : R < W2.heap.size
theorem frStore (s : ByteArray) (W : World) (R : Nat) (arr : Array Value) (h : TabTo arr 256) (hg : W.heap[R]? = some (.cells Tryz.zeroCells178 178 (0, 0))) :
    ∃ W2, (storeCells ⟨R, 0, none⟩ (Array.foldl (fun cs x => cs.setIfInBounds (2 + x.snd) x.fst) ((Tryz.zeroCells178.setIfInBounds 0 (.string s)).setIfInBounds 1 (.int .i64 0)) arr.zipIdx 0 256).toList).run Tryz.prog W = .ok () W2 ∧ FrNew W W2 R s := by
  have hbc := bigC_is s arr h.1
  have h1c := bigC_one s arr h.1 h.2.1
  have e : Array.foldl (fun cs x => cs.setIfInBounds (2 + x.snd) x.fst) ((Tryz.zeroCells178.setIfInBounds 0 (.string s)).setIfInBounds 1 (.int .i64 0)) arr.zipIdx 0 256 = bigC s arr := rfl
  rw [e]
  have hr := run_storeCells_from (P := Tryz.prog) R 178 (bigC s arr).toList 0 _ W hg (by rw [zero75, Array.length_toList, hbc.1]) (fun v hv => (Array.all_eq_true_iff_forall_mem.1 h1c) v (by simpa using hv))
  simp only [List.take_zero, List.nil_append, Array.toArray_toList] at hr
  have hrow := setRow_heap W R _ (bigC s arr) _ _ hg
  have hlt : R < W.heap.size := (Array.getElem?_eq_some_iff.1 hg).1
  obtain ⟨-, b0, b1, b2⟩ := hbc
  refine ⟨_, hr, ⟨(cell_of_row _ _ 0 _ _ _ hrow).trans b0, (cell_of_row _ _ 1 _ _ _ hrow).trans b1, frozen_of_row _ _ 1 _ _ hrow, fun j hj => ((cell_of_row _ _ (2 + j) _ _ _ hrow).trans (b2 j hj)).trans (h.2.2 j hj)⟩, splice_grown _, by simp, by simpa using hlt⟩
theorem bigSz (s : ByteArray) (arr : Array Value) (h : arr.size = 256) : (Array.foldl (fun cs x => cs.setIfInBounds (2 + x.snd) x.fst) ((Tryz.zeroCells178.setIfInBounds 0 (.string s)).setIfInBounds 1 (.int .i64 0)) arr.zipIdx 0 256).size = 258 := (bigC_is s arr h).1
theorem Plain.FrNew.below {w W W2 : World} {R : Nat} {s : ByteArray} (h : FrNew W W2 R s) (hb : Below w.heap.size w W) (hR : w.heap.size ≤ R) : Below w.heap.size w W2 := hb.grown h.gr hb.size (fun k e => by cases e; exact hR)

set_option maxRecDepth 10000 in
set_option maxHeartbeats 4000000 in
theorem frRead_calls (W : World) (s : ByteArray) (Bd : Nat) (hd : W.cell? ⟨Bd, 0, none⟩ = some (.string s)) (hs : s.size ≤ 1000000000) (l : Nat) (J : Nat → Nat → World → Prop) (Jx : World → Prop)
    (hJ : ∀ R p X X', J R p X → OnlyP (fun k => k = R) X X' → J R p X')
    (hY : ∀ R p X, J R p X → X.cell? ⟨R, 0, none⟩ = some (.string s) → ¬ s.size ≤ p → frC (s.extract p s.size) = 0 → YieldAt Fence.wide 1 Tryz.prog l #[.agg #[.int .i64 (bAt (s.extract p s.size) 0 : Nat), .string (frB (s.extract p s.size))]] X fun e W' =>
      (e = .returned (.bool true) ∧ J R (p + frN (s.extract p s.size)) W' ∧ W'.heap[R]? = X.heap[R]?) ∨ (e = .returned (.bool false) ∧ Jx W'))
    (h0 : ∀ R X, Below W.heap.size W X → W.heap.size ≤ R → R < X.heap.size → J R 0 X) :
    CallsIn Fence.wide 2 Tryz.prog 117 #[.func (.yield l) #[] #[], .pointer (some ⟨Bd, 0, none⟩)] W fun e W' => (∃ v, e = .returned v) ∧ ((∃ R p, J R p W' ∧ (s.size ≤ p ∨ frC (s.extract p s.size) ≠ 0)) ∨ Jx W') := by
  have HJ := hide hJ
  have HY := hide hY
  have H0 := hide h0
  have HD := hide (fun (X : World) (hX : Below W.heap.size W X) => (hX.cell (p := ⟨Bd, 0, none⟩) (lt_of_cell hd)).trans hd)
  clear hJ hY h0 hd
  refine callsIn_wide.2 ?_
  go_enter Tryz.func117, Tryz.ntmps117
  have d0 := unhide HD W (Below.refl _ _)
  go_wp2_with fail
  go_cut [3] (fun r wx => ∃ R, r = .pointer (some ⟨R, 0, none⟩) ∧ Hid (FrAt wx R s 0) ∧ Hid (Below W.heap.size W wx) ∧ W.heap.size ≤ R ∧ R < wx.heap.size)
  case first =>
    have HDK : ∀ X : World, Below W.heap.size W X → X.cell? ⟨Bd, 0, none⟩ = some (.string s) := fun X hX => unhide HD X hX
    have BW : Below W.heap.size W W.drew := belDrew (Below.refl _ _)
    have BWA := drewAl W (.cells Tryz.zeroCells178 178)
    go_region_held3 (fun w' => Below W.heap.size W w') (first | with_reducible exact BW | with_reducible exact BWA | with_reducible exact B1 | with_reducible exact B1A | with_reducible exact BA | with_reducible assumption) (first | (go_at_call 114; refine (newCrcTable_calls _).mono ?_; rintro e w1 ⟨arr, htab, rfl, hb1⟩; have B1 : Below W.heap.size W w1 := (by first | exact frOn BW hb1 | exact frOn BWA hb1); have B1A : Below W.heap.size W (w1.alloc (.cells Tryz.zeroCells178 178)) := frOn B1 (newB _ _); have hsz := htab.1; have hbig := bigSz s arr htab.1; obtain ⟨wA, hA, fA⟩ := frStore s (w1.alloc (.cells Tryz.zeroCells178 178)) w1.heap.size arr htab (h_new _ _ rfl); have BA : Below W.heap.size W wA := fA.below B1A B1.size; first | (obtain ⟨wB, hB, fB⟩ := frStore s w1 _ arr htab (keepObj hb1 _ _ (h_new _ _ rfl)); have BB : Below W.heap.size W wB := fB.below B1 (Nat.le_refl _)) | skip))
    all_goals (try go_wp2_with fail)
    all_goals go_meet
    all_goals first
      | exact ⟨_, rfl, hide fA.at0, hide BA, B1.size, fA.lt⟩
      | exact ⟨_, rfl, hide fB.at0, hide BB, Nat.le_refl _, fB.lt⟩
  case rest =>
    obtain ⟨w2, rfl⟩ : ∃ w2, w2 = wc := ⟨_, rfl⟩
    obtain ⟨R, rfl, HF, HB, hR1, hR2⟩ := hcut
    clear d0 HD
    go_wp2_with fail
    refine (wpIn_wide (n := 2)).1 ?_
    gi_loopw [4, 5] (fun _ _ wr => ∃ p : Nat, p ≤ s.size ∧ Hid (FrAt wr R s p) ∧ Hid (J R p wr)) (fun _ _ wr => match wr.cell? ⟨R, 1, none⟩ with | some (.int _ p) => s.size - p.toNat | _ => 0)
    case atStart => exact ⟨0, Nat.zero_le _, HF, hide (unhide H0 R w2 (unhide HB) hR1 hR2)⟩
    case round =>
      obtain ⟨p, hp, HFR, HJJ⟩ := hrel
      have HRS := hide ((callsIn_wide (n := 1)).2 (rest_ok R 0 s p wr (unhide HFR).c0 (unhide HFR).c1 (by omega) hp))
      have hJd : ∀ (X X' : World) (q : Nat), J R q X → OnlyP (fun k => k = R) X X' → J R q X' := fun X X' q h1 h2 => unhide HJ R q X X' h1 h2
      by_cases hpe : s.size ≤ p
      · have hemp := empty_rest s p hpe
        gi_wp2_with (first
          | (refine ⟨trivial, ?_⟩; gi_at_call 92; refine (unhide HRS).mono ?_; rintro e w3 ⟨rfl, k3, rfl⟩)
          | gi_in)
        go_end0
        exact ⟨⟨_, rfl⟩, .inl ⟨R, p, hJd wr _ p (unhide HJJ) ⟨rfl, rfl, rfl, Nat.le_refl _, fun _ _ _ => rfl⟩, .inl hpe⟩⟩
      · have hne := full_rest s p (by omega)
        have HFRM := hide (fun (k : Nat) => (callsIn_wide (n := 1)).2 (frame_calls R s p (wr.drewN k) (show (wr.drewN k).cell? _ = _ from (unhide HFR).c0) (show (wr.drewN k).cell? _ = _ from (unhide HFR).c1) (show (wr.drewN k).frozen? _ = _ from (unhide HFR).cf) (show TabAt (wr.drewN k) R 2 from (unhide HFR).ct) (by omega) (by omega)))
        have HYY := hide (fun X => unhide HY R p X)
        obtain ⟨r, hr⟩ : ∃ r, s.extract p s.size = r := ⟨_, rfl⟩
        rw [hr] at HFRM HYY HRS hne
        have HR0 := hide hr
        clear hr
        by_cases hc : frC r = 0
        · have hfv : frV r = .tuple #[.agg #[.int .i64 (bAt r 0 : Nat), .string (frB r)], .int .i64 0] := by unfold frV; rw [if_pos hc]
          have hfp : frP r p = p + frN r := by unfold frP; rw [if_pos hc]
          rw [hfv, hfp] at HFRM
          gi_wp2_with (first
            | (refine ⟨trivial, ?_⟩; gi_at_call 92; refine (unhide HRS).mono ?_; rintro e w3 ⟨rfl, k3, rfl⟩)
            | (refine ⟨trivial, ?_⟩; gi_at_call 115; refine (unhide HFRM _).mono ?_; rintro e w4 ⟨rfl, ho4, hc4⟩)
            | gi_in)
          have ho5 : OnlyP (fun k => k = R) wr (w4.alloc (.cells #[.int .i64 (bAt r 0 : Nat), .string (frB r)] 95)) := (OnlyP.trans (show OnlyP (fun k => k = R) wr (wr.drewN k3) from ⟨rfl, rfl, rfl, Nat.le_refl _, fun _ _ _ => rfl⟩) (onlyR ho4)).trans (OnlyP.of (newB _ _))
          obtain ⟨X, hX⟩ : ∃ X, w4.alloc (.cells #[.int .i64 (bAt r 0 : Nat), .string (frB r)] 95) = X := ⟨_, rfl⟩
          have hb4 : Below w4.heap.size w4 X := by rw [← hX]; exact newB _ _
          rw [hX] at ho5 ⊢
          have hRl : R < wr.heap.size := lt_of_cell (unhide HFR).c0
          have hF5 : FrAt X R s (p + frN r) := ⟨cellKeep hb4 ((ho4.cell ⟨R, 0, none⟩ hRl (by simp)).trans (unhide HFR).c0), cellKeep hb4 hc4, (hb4.frozen (p := ⟨R, 1, none⟩) (Nat.lt_of_lt_of_le hRl ho4.size)).trans ((ho4.frozen ⟨R, 1, none⟩ hRl).trans (unhide HFR).cf), fun j hj => cellKeep hb4 ((ho4.cell ⟨R, 2 + j, none⟩ hRl (by simp)).trans ((unhide HFR).ct j hj))⟩
          obtain ⟨fn, tmps, assign, body, hy, hR⟩ := unhide HYY X (hJd wr X p (unhide HJJ) ho5) hF5.c0 hpe hc
          have HF5 := hide hF5
          have hmeas : s.size - (p + frN r) < s.size - p := by
            have := (szI_ok (frC_ok hc)).1
            have e : frN r = (szI r).2 := rfl
            omega
          have hle : p + frN r ≤ s.size := by
            have h1 := (szI_ok (frC_ok hc)).2.1
            have e : frN r = (szI r).2 := rfl
            have h2 := rest_size s p
            rw [unhide HR0] at h2
            omega
          have HMS := hide hmeas
          clear ho4 hc4 hb4 ho5 hF5 hmeas
          rw [hy]
          gi_wp2
          refine hR.mono ?_
          rintro e W3 (⟨rfl, hJ4, hk3⟩ | ⟨rfl, hJ4⟩)
          case inr =>
            gi_wp2
            refine bodyPost_ret (results_none rfl _ _ _) rfl ?_
            exact ⟨⟨_, rfl⟩, .inr hJ4⟩
          gi_wp2
          have HF6 := hide ((unhide HF5).block hk3)
          go_roundw
          case rel => exact ⟨p + frN r, hle, HF6, hide hJ4⟩
          case measure =>
            rw [(unhide HF6).c1, (unhide HFR).c1]
            have := unhide HMS
            simp only
            omega
        · have hfv : frV r = .tuple #[.agg #[.int .i64 0, .string ByteArray.empty], .int .i64 (frC r)] := by unfold frV; rw [if_neg hc]
          have hfp : frP r p = p := by unfold frP; rw [if_neg hc]
          rw [hfv, hfp] at HFRM
          obtain ⟨c, hcc⟩ : ∃ c, frC r = c := ⟨_, rfl⟩
          rw [hcc] at hc HFRM
          have hcn : (c != 0) = true := by simp [bne_iff_ne, hc]
          gi_wp2_with (first
            | (refine ⟨trivial, ?_⟩; gi_at_call 92; refine (unhide HRS).mono ?_; rintro e w3 ⟨rfl, k3, rfl⟩)
            | (refine ⟨trivial, ?_⟩; gi_at_call 115; refine (unhide HFRM _).mono ?_; rintro e w4 ⟨rfl, ho4, hc4⟩)
            | gi_in)
          refine ⟨fun _ h => (by cases h), ?_⟩
          gi_wp2
          refine bodyPost_ret (results_none rfl _ _ _) rfl ?_
          refine ⟨⟨_, rfl⟩, .inl ⟨R, p, hJd wr _ p (unhide HJJ) ?_, .inr (by rw [unhide HR0, hcc]; exact hc)⟩⟩
          exact (OnlyP.trans (show OnlyP (fun k => k = R) wr (wr.drewN k3) from ⟨rfl, rfl, rfl, Nat.le_refl _, fun _ _ _ => rfl⟩) (onlyR ho4)).trans (OnlyP.of (newB _ _))
end Go.Proofs.YtakalfckhailjaaGreat


/- A range over the frames of a log: the caller's side. -/
namespace Go.Proofs.YtakalfckhailjaaGreat
open Go.RowKit Plain
set_option linter.unusedVariables false

/-- How a round's body may be left: what stays, and what holds then. -/
def Plain.RndP (l D R : Nat) (K : World → Prop) (Kx : Code → World → Prop) (X W : World) : Exit → Act → World → Prop
  | .normal, _, W' => (W'.heap[l]? = W.heap[l]? ∧ W'.heap[D]? = W.heap[D]? ∧ W'.heap[R]? = X.heap[R]?) ∧ K W'
  | .exit id, _, W' => (W'.heap[l]? = W.heap[l]? ∧ W'.heap[D]? = W.heap[D]?) ∧ Kx (.exit id) W'
  | _, _, _ => False
theorem Plain.only_put {l : Nat} {W : World} {o : Obj} : OnlyP (fun k => k = l) W (W.putObj l o) := by
  have h := grownBy_putObj' W l o
  exact ⟨h.os, h.tape, h.output, h.size, fun k hk hn => h.block k hk (fun e => hn (by cases e; rfl))⟩
theorem Plain.OnlyP.wide {p q : Nat → Prop} {w w' : World} (h : OnlyP p w w') (hq : ∀ k, p k → q k) : OnlyP q w w' := ⟨h.os, h.tape, h.output, h.size, fun k hk hn => h.block k hk (fun e => hn (hq k e))⟩

set_option maxHeartbeats 1000000 in
theorem range_frames {ps : Array Tmp} {assign body : Code} {Q : Exit → Act → World → Prop} {a : Act} {w : World} {g : Operand} (s : ByteArray) (Bd : Nat) (hd : w.cell? ⟨Bd, 0, none⟩ = some (.string s)) (hs : s.size ≤ 1000000000)
    (hg : a.eval g = .func (.func 117) #[] #[.pointer (some ⟨Bd, 0, none⟩)]) (hps : ps.size = 1)
    (K : Nat → Nat → World → Prop) (Kx : Code → World → Prop)
    (hKR : ∀ R p X, K R p X → w.heap.size + 2 ≤ R)
    (hK : ∀ R p X X', K R p X → OnlyP (fun k => k = R ∨ k = w.heap.size + 1) X X' → K R p X')
    (hKx : ∀ c X X', Kx c X → OnlyP (fun k => k = w.heap.size + 1) X X' → Kx c X')
    (h0 : ∀ R X, Below w.heap.size w X → w.heap.size + 2 ≤ R → R < X.heap.size → K R 0 X)
    (hround : ∀ (R p : Nat) (X : World), K R p X → X.cell? ⟨R, 0, none⟩ = some (.string s) → ¬ s.size ≤ p → frC (s.extract p s.size) = 0 →
      assign.wpIn (Fence.wide.inRound (w.heap.size + 1)) 1 Tryz.prog (Exit.then (fun a1 w1 => Below X.heap.size X w1 ∧ ∀ w2, OnlyP (fun k => k = w.heap.size + 1) w1 w2 → (∃ r, w2.heap[w.heap.size + 1]? = some (.loop r)) → w2.heap[w.heap.size]? = some (.deferred (some [])) →
          body.wpIn (Fence.wide.inRound (w.heap.size + 1)) 1 Tryz.prog (RndP (w.heap.size + 1) w.heap.size R (K R (p + frN (s.extract p s.size))) Kx X w2) a1 w2) (fun _ _ _ => False))
        { tmps := (ps.zip #[.agg #[.int .i64 (bAt (s.extract p s.size) 0 : Nat), .string (frB (s.extract p s.size))]]).foldl (fun t (p, v) => t.setIfInBounds p v) a.tmps, defers := [] } X)
    (hdone : ∀ (R p : Nat) (X : World), K R p X → (s.size ≤ p ∨ frC (s.extract p s.size) ≠ 0) → X.heap[w.heap.size]? = some (.deferred (some [])) → Q .normal { a with defers := { target := .collected w.heap.size, args := #[] } :: a.defers } X)
    (hstop : ∀ (c : Code) (X : World), Kx c X → X.heap[w.heap.size]? = some (.deferred (some [])) → c.wpIn Fence.wide 3 Tryz.prog Q { a with defers := { target := .collected w.heap.size, args := #[] } :: a.defers } X) :
    (Code.rangeFunc g ps assign body).wpIn Fence.wide 3 Tryz.prog Q a w := by
  refine wpIn_rangeFunc fun fn hfn => ?_
  obtain ⟨rc, hrc⟩ : ∃ rc : LoopState → Option Code → Obj, rc = fun st pe => .loop { state := st, pending := pe, fn := fn, tmps := a.tmps, params := ps, assign := assign, body := body, defers := w.heap.size } := ⟨_, rfl⟩
  obtain ⟨W1, hW1⟩ : ∃ W1, (w.alloc (.deferred (some []))).alloc (rc .ready none) = W1 := ⟨_, rfl⟩
  have hz : W1.heap.size = w.heap.size + 2 := by rw [← hW1]; simp
  have hbW : Below w.heap.size w W1 := by rw [← hW1]; exact frOn (newB _ _) (newB _ _)
  have hL1 : W1.heap[w.heap.size + 1]? = some (rc .ready none) := by
    rw [← hW1]
    have := World.alloc_heap_new (w.alloc (.deferred (some []))) (rc .ready none)
    rwa [World.size_alloc] at this
  have hD1 : W1.heap[w.heap.size]? = some (.deferred (some [])) := by
    rw [← hW1]
    exact keepObj (newB _ _) _ _ (World.alloc_heap_new w _)
  refine ⟨w.heap.size + 1, [{ target := .collected w.heap.size, args := #[] }], W1, { target := .fn (.func 117) #[.pointer (some ⟨Bd, 0, none⟩)], args := #[.func (.yield (w.heap.size + 1)) #[] #[]] }, W1, 117,
    #[.func (.yield (w.heap.size + 1)) #[] #[], .pointer (some ⟨Bd, 0, none⟩)], W1, ?_, ?_, fun _ _ => trivial, ?_, fun _ => by decide, ?_⟩
  · rw [← hW1, hrc]
    exact run_enterLoop_outer _ _ _ _ _
  · simp only [resolve, hg]
    simp [go_sem]
  · have eg : ∀ args w, (callFunc 117 args).run Tryz.prog w = .ok (.enter 117 args) w := enters_of Tryz.func117 (by kernel_rfl) rfl
    simp [invoke, go_sem, eg]
  · have key := frRead_calls W1 s Bd ((hbW.cell (p := ⟨Bd, 0, none⟩) (lt_of_cell hd)).trans hd) hs (w.heap.size + 1)
      (fun R p X => K R p X ∧ X.heap[w.heap.size + 1]? = some (rc .ready none) ∧ X.heap[w.heap.size]? = some (.deferred (some [])))
      (fun X => ∃ c, Kx c X ∧ X.heap[w.heap.size + 1]? = some (rc .done (some c)) ∧ X.heap[w.heap.size]? = some (.deferred (some [])))
      (fun R p X X' ⟨k1, k2, k3⟩ ho => by
        have hR := hKR R p X k1
        exact ⟨hK R p X X' k1 (ho.wide fun k e => .inl e), (ho.block _ (Array.getElem?_eq_some_iff.1 k2).1 (by omega)).trans k2, (ho.block _ (Array.getElem?_eq_some_iff.1 k3).1 (by omega)).trans k3⟩)
      ?_ (fun R X hb hR hl => ⟨h0 R X (frOn hbW hb) (by omega) hl, keepObj hb _ _ hL1, keepObj hb _ _ hD1⟩)
    · refine key.mono ?_
      rintro e W3 ⟨⟨v, rfl⟩, ⟨R, p, ⟨k1, k2, k3⟩, hend⟩ | ⟨c, k1, k2, k3⟩⟩
      · rw [hrc] at k2
        refine ⟨none, _, run_endLoop k2 (by simp), ?_⟩
        exact hdone R p _ (hK R p _ _ k1 (only_put.wide fun k e => .inr e)) hend ((World.putObj_heap_other (by omega)).trans k3)
      · rw [hrc] at k2
        refine ⟨some c, _, run_endLoop k2 (by simp), ?_⟩
        exact hstop c _ (hKx c _ _ k1 only_put) ((World.putObj_heap_other (by omega)).trans k3)
    · rintro R p X ⟨k1, k2, k3⟩ hc hp hz0
      have hR := hKR R p X k1
      have hy := run_yield (P := Tryz.prog) (args := #[.agg #[.int .i64 (bAt (s.extract p s.size) 0 : Nat), .string (frB (s.extract p s.size))]]) (by rw [hrc] at k2; exact k2) (by simp [hps])
      refine ⟨fn, _, assign, body, hy, roundIn_of_wpIn hfn (wpIn_mono (hround R p X k1 hc hp hz0) ?_)⟩
      rintro ex a1 w1 hx
      cases ex with
      | normal =>
        obtain ⟨hb1, hbd⟩ := hx
        have l1 := keepObj hb1 _ _ k2
        rw [hrc] at l1
        refine ⟨_, run_beginRound l1 rfl, ?_⟩
        have hlt : w.heap.size + 1 < w1.heap.size := (Array.getElem?_eq_some_iff.1 l1).1
        have l2 := World.putObj_heap_same (o := .loop { ({ state := .ready, pending := none, fn := fn, tmps := a.tmps, params := ps, assign := assign, body := body, defers := w.heap.size } : Loop) with state := .busy }) hlt
        have d2 : (w1.putObj (w.heap.size + 1) (.loop { ({ state := .ready, pending := none, fn := fn, tmps := a.tmps, params := ps, assign := assign, body := body, defers := w.heap.size } : Loop) with state := .busy })).heap[w.heap.size]? = some (.deferred (some [])) := (World.putObj_heap_other (by omega)).trans (keepObj hb1 _ _ k3)
        refine wpIn_mono (hbd _ only_put ⟨_, l2⟩ d2) ?_
        rintro e2 a2 w2 hq
        cases e2 with
        | normal =>
          obtain ⟨⟨q1, q2, q3⟩, hk⟩ := hq
          have l3 := q1.trans l2
          refine ⟨_, _, run_endRound none l3, .inl ⟨rfl, ⟨hK R _ _ _ hk (only_put.wide fun k e => .inr e), ?_, (World.putObj_heap_other (by omega)).trans (q2.trans d2)⟩, (World.putObj_heap_other (by omega)).trans q3⟩⟩
          rw [hrc]
          exact World.putObj_heap_same (Array.getElem?_eq_some_iff.1 l3).1
        | exit id =>
          obtain ⟨⟨q1, q2⟩, hk⟩ := hq
          have l3 := q1.trans l2
          refine ⟨_, _, run_endRound (some (.exit id)) l3, .inr ⟨rfl, .exit id, hKx _ _ _ hk only_put, ?_, (World.putObj_heap_other (by omega)).trans (q2.trans d2)⟩⟩
          rw [hrc]
          exact World.putObj_heap_same (Array.getElem?_eq_some_iff.1 l3).1
        | ret => exact hq.elim
        | goto t => exact hq.elim
        | panic ch => exact hq.elim
        | outgrown => exact hq.elim
      | ret => exact hx.elim
      | exit id => exact hx.elim
      | goto t => exact hx.elim
      | panic ch => exact hx.elim
      | outgrown => exact hx.elim
end Go.Proofs.YtakalfckhailjaaGreat

