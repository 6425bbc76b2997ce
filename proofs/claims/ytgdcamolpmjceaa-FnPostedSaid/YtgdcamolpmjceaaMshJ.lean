/- The program's mesh: one packet more. -/
import Derived.Test.YtgdcamolpmjceaaMshI
namespace Go.Proofs.Ytgdcamolpmjceaa
open Go.RowKit Go.Maps Plain
open Go.ChangeMaps (setBlock heap_setBlock_same heap_setBlock_other)
set_option linter.unusedVariables false

/-- The row's head under a way. -/
def Plain.rowV (H : Int → Int → Option (Nat × Nat)) (F : Int → Int → List Pkt) (f t : Int) : Value := match H f t with
  | none => .slice none 0 0
  | some y => .slice (some ⟨y.1, 0, none⟩) (F f t).length y.2
theorem Plain.MshAt.rowOf {W : World} {B M b n : Nat} {nx : Int} {F : Int → Int → List Pkt} {H : Int → Int → Option (Nat × Nat)} (h : MshAt W B M b n nx F H) (f t : Int) : OwnR pktE W B (rowV H F f t) (F f t) := by
  unfold rowV
  cases hh : H f t with
  | none => rw [h.nil f t hh]; exact ⟨rfl, .inl ⟨rfl, rfl⟩⟩
  | some y => exact h.row f t y hh
theorem Plain.rowV_blk {H : Int → Int → Option (Nat × Nat)} {F : Int → Int → List Pkt} {f t : Int} {g : Nat} (h : (rowV H F f t).ownBlock = some g) : ∃ y, H f t = some y ∧ y.1 = g := by
  unfold rowV at h
  cases hh : H f t with
  | none => rw [hh] at h; cases h
  | some y => rw [hh] at h; exact ⟨y, rfl, Option.some.inj h⟩

/-- What the entry of a way gives, in each world with the same map. -/
def Plain.EntQ (b n : Nat) (D : DataW Unit) (f t : Int) (v0 : Value) (st : Int) (es1 : Array MapEntry) (c1 : Nat) : Prop :=
  ∀ (w2 : World) (g m c : Nat), w2.heap[b]? = some (.map es1 c1) → ∃ es' c', (Instr.entryStore 51 (.map (some b)) (goInt st) (.slice (some ⟨g, 0, none⟩) m c)).run Try.prog w2 = .ok () (setBlock w2 b (.map es' c')) ∧ (setBlock w2 b (.map es' c')).ownsMap Try.prog 53 hdElem b (n + 1) (D.put (keyW f t) (hdD g m c))
theorem Plain.MshAt.entry {W : World} {B M b n : Nat} {nx : Int} {F : Int → Int → List Pkt} {H : Int → Int → Option (Nat × Nat)} (h : MshAt W B M b n nx F H) (hn : n < 100000) {f t : Int} (hp : wfP f t) :
    ∃ D, (∀ f t, wfP f t → match H f t with
    | none => Maps.has D (keyW f t) = false
    | some y => Maps.has D (keyW f t) = true ∧ ∀ z, D.atKey (keyW f t) z = hdD y.1 (F f t).length y.2) ∧ IsMap D ∧
    ∀ X : World, X.heap[b]? = W.heap[b]? → ∃ st es1 c1, (Instr.mapEntry 51 (.map (some b)) (.agg #[.int .i64 f, .int .i64 t])).run Try.prog X = .ok (.tuple #[rowV H F f t, goInt st]) (setBlock X b (.map es1 c1)) ∧ (setBlock X b (.map es1 c1)).heap[b]? = some (.map es1 c1) ∧ EntQ b n D f t (rowV H F f t) st es1 c1 := by
  obtain ⟨D, hD, hK⟩ := h.map
  refine ⟨D, hK, hD.isMap, fun X hX => ?_⟩
  have hDX : X.ownsMap Try.prog 53 hdElem b n D := by
    obtain ⟨es, clock, q1, q2⟩ := hD
    exact ⟨es, clock, hX.trans q1, q2⟩
  obtain ⟨v0, st, es1, c1, h1, h2, h3, ⟨ps, h4⟩, h5⟩ := ways_entry hDX (by unfold maxLen; omega) (keyW_of hp)
  have hv : v0 = rowV H F f t := by
    have hx := hK f t hp
    unfold rowV
    cases hh : H f t with
    | none =>
      rw [hh] at hx
      rw [atKey_of_not_has hx] at h4
      exact hdElem_none h4
    | some y =>
      rw [hh] at hx
      rw [hx.2] at h4
      exact hdElem_some h4
  subst hv
  exact ⟨st, es1, c1, h1, h3, h5⟩

theorem Plain.MshAt.next {W X w' : World} {B M b n : Nat} {nx : Int} {F : Int → Int → List Pkt} {H : Int → Int → Option (Nat × Nat)} (h : MshAt W B M b n nx F H) {p : Pkt} (hp : wfP p.src p.dst) (hq : rgP p.src p.dst) {D : DataW Unit} (hK : ∀ f t, wfP f t → match H f t with
    | none => Maps.has D (keyW f t) = false
    | some y => Maps.has D (keyW f t) = true ∧ ∀ z, D.atKey (keyW f t) z = hdD y.1 (F f t).length y.2) (hDm : IsMap D)
    (hX : W.grownBy X (some b)) {g' c' : Nat} (own : OwnR pktE w' B (.slice (some ⟨g', 0, none⟩) ((F p.src p.dst).length + 1) c') (F p.src p.dst ++ [p])) (gr : X.grownBy w' (rowV H F p.src p.dst).ownBlock) (ha : (rowV H F p.src p.dst).ownBlock = some g' ∨ g' = X.heap.size) {o : Obj}
    (hmap : (setBlock w' b o).ownsMap Try.prog 53 hdElem b (n + 1) (D.put (keyW p.src p.dst) (hdD g' ((F p.src p.dst).length + 1) c'))) :
    (∃ H', MshAt (setBlock w' b o) B M b (n + 1) nx (addF F p) H') ∧ Below B W (setBlock w' b o) := by
  have hl := h.lt
  have hxs := hX.size
  have hg : g' ≠ b ∧ g' ≠ M := by
    rcases ha with ha | ha
    · obtain ⟨y, hy, rfl⟩ := rowV_blk ha
      exact h.off _ _ _ hy
    · omega
  have hblk : ∀ k, k ≠ b → (setBlock w' b o).heap[k]? = w'.heap[k]? := fun k hk => by unfold setBlock; exact Array.getElem?_setIfInBounds_ne (fun e => hk e.symm)
  have hfar : ∀ k, k < W.heap.size → k ≠ b → (rowV H F p.src p.dst).ownBlock ≠ some k → (setBlock w' b o).heap[k]? = W.heap[k]? := fun k hk hb hr =>
    (hblk k hb).trans ((gr.block k (by omega) (fun e => hr e.symm)).trans (hX.block k hk (fun e => hb (by simpa using e))))
  have hMr : (rowV H F p.src p.dst).ownBlock ≠ some M := fun e => by
    obtain ⟨y, hy, e2⟩ := rowV_blk e
    exact (h.off _ _ _ hy).2 e2
  have hM := hfar M hl.1 h.Mb hMr
  refine ⟨⟨fun f t => if p.src = f ∧ p.dst = t then some (g', c') else H f t, ⟨_, hmap, ?_⟩, ?_, ?_, ?_, ?_, ?_, h.Mb, h.BM, h.Bb, (World.cell?_of_block (a := ⟨M, 0, none⟩) hM).trans h.c0, (World.cell?_of_block (a := ⟨M, 1, none⟩) hM).trans h.c1, (World.frozen?_of_block (a := ⟨M, 0, none⟩) hM).trans h.z0, ?_⟩, ?_⟩
  · intro f t hft
    by_cases e : p.src = f ∧ p.dst = t
    · obtain ⟨rfl, rfl⟩ := e
      simp only [and_self, if_true, addF, List.length_append, List.length_singleton]
      exact ⟨has_put_same hDm (keyW_ok _ _) _, fun z => atKey_put_same hDm (keyW_ok _ _) _ z⟩
    · have hne : keyW f t ≠ keyW p.src p.dst := fun q => e (by have := keyW_inj hft hp q; exact ⟨this.1.symm, this.2.symm⟩)
      simp only [if_neg e, addF]
      have hx := hK f t hft
      cases hh : H f t with
      | none => rw [hh] at hx; exact (has_put_other hne _).trans hx
      | some y => rw [hh] at hx; exact ⟨(has_put_other hne _).trans hx.1, fun z => (atKey_put_other hne _ z).trans (hx.2 z)⟩
  · intro f t hft
    by_cases e : p.src = f ∧ p.dst = t
    · rw [if_pos e] at hft; cases hft
    · rw [if_neg e] at hft
      unfold addF
      rw [if_neg e]
      exact h.nil f t hft
  · intro f t y hy
    by_cases e : p.src = f ∧ p.dst = t
    · obtain ⟨rfl, rfl⟩ := e; exact hp
    · rw [if_neg e] at hy; exact h.wf f t y hy
  · intro f t y hy
    by_cases e : p.src = f ∧ p.dst = t
    · rw [if_pos e] at hy
      obtain ⟨rfl, rfl⟩ := e
      obtain rfl : (g', c') = y := Option.some.inj hy
      simp only [addF, and_self, if_true, List.length_append, List.length_singleton]
      exact own.otherN (fun k hk => by have := own_blkN hk; subst this; exact hblk _ hg.1)
    · rw [if_neg e] at hy
      simp only [addF, if_neg e]
      refine (h.row f t y hy).otherN (fun k hk => ?_)
      have := own_blkN hk
      subst this
      have hlt : y.1 < W.heap.size := by
        rcases (h.row f t y hy).2 with ⟨q, _⟩ | ⟨g, cap, cur, q, _, q2, _⟩
        · cases q
        · have := own_blkN (g := y.1) (g' := g) (by rw [q]; rfl)
          rw [this]
          exact (Array.getElem?_eq_some_iff.1 q2).1
      refine hfar _ hlt (h.off f t y hy).1 (fun q => ?_)
      obtain ⟨z, hz, e2⟩ := rowV_blk q
      have := h.apart _ _ _ _ _ _ hz hy e2
      exact e this
  · intro f t f' t' y y' hy hy' hyy
    by_cases e : p.src = f ∧ p.dst = t
    · rw [if_pos e] at hy
      obtain rfl : (g', c') = y := Option.some.inj hy
      by_cases e' : p.src = f' ∧ p.dst = t'
      · exact ⟨e.1.symm.trans e'.1, e.2.symm.trans e'.2⟩
      · rw [if_neg e'] at hy'
        exfalso
        rcases ha with ha | ha
        · obtain ⟨z, hz, e2⟩ := rowV_blk ha
          exact e' (h.apart _ _ _ _ _ _ hz hy' (e2.trans hyy))
        · have hlt : y'.1 < W.heap.size := by
            rcases (h.row f' t' y' hy').2 with ⟨q, _⟩ | ⟨g, cap, cur, q, _, q2, _⟩
            · cases q
            · have := own_blkN (g := y'.1) (g' := g) (by rw [q]; rfl)
              rw [this]
              exact (Array.getElem?_eq_some_iff.1 q2).1
          simp only at hyy
          omega
    · rw [if_neg e] at hy
      by_cases e' : p.src = f' ∧ p.dst = t'
      · rw [if_pos e'] at hy'
        obtain rfl : (g', c') = y' := Option.some.inj hy'
        exfalso
        rcases ha with ha | ha
        · obtain ⟨z, hz, e2⟩ := rowV_blk ha
          exact e (h.apart _ _ _ _ _ _ hz hy (e2.trans hyy.symm))
        · have hlt : y.1 < W.heap.size := by
            rcases (h.row f t y hy).2 with ⟨q, _⟩ | ⟨g, cap, cur, q, _, q2, _⟩
            · cases q
            · have := own_blkN (g := y.1) (g' := g) (by rw [q]; rfl)
              rw [this]
              exact (Array.getElem?_eq_some_iff.1 q2).1
          simp only at hyy
          omega
      · rw [if_neg e'] at hy'
        exact h.apart _ _ _ _ _ _ hy hy' hyy
  · intro f t y hy
    by_cases e : p.src = f ∧ p.dst = t
    · rw [if_pos e] at hy
      obtain rfl : (g', c') = y := Option.some.inj hy
      exact hg
    · rw [if_neg e] at hy; exact h.off f t y hy
  · intro f t y hy
    by_cases e : p.src = f ∧ p.dst = t
    · obtain ⟨rfl, rfl⟩ := e; exact hq
    · rw [if_neg e] at hy; exact h.rng f t y hy
  · refine ⟨gr.os.trans hX.os, gr.tape.trans hX.tape, gr.output.trans hX.output, ?_, fun k hk => ?_⟩
    · have := gr.size
      show W.heap.size ≤ (w'.heap.setIfInBounds b o).size
      rw [Array.size_setIfInBounds]
      omega
    · have h1 := h.Bb
      refine hfar k (by omega) (by omega) (fun q => ?_)
      obtain ⟨z, hz, rfl⟩ := rowV_blk q
      rcases (h.row _ _ _ hz).2 with ⟨q, _⟩ | ⟨g, cap, cur, q, q1, q2, _⟩
      · cases q
      · have := own_blkN (g := z.1) (g' := g) (by rw [q]; rfl)
        omega

/-- The blocks that the region reads are as they were. -/
def Plain.PS (M g : Nat) (W X : World) : Prop := ∀ k, k = M ∨ k = g ∨ k = g + 1 → X.heap[k]? = W.heap[k]?
theorem Plain.PS.al {M g : Nat} {W X : World} (h : PS M g W X) (hl : ∀ k, k = M ∨ k = g ∨ k = g + 1 → k < X.heap.size) (o : Obj) : PS M g W (X.alloc o) := fun k hk => by
  have := hl k hk
  exact ((bel1 X o).block k this).trans (h k hk)
theorem Plain.PS.mp {M g b : Nat} {W X : World} (h : PS M g W X) (hl : ∀ k, k = M ∨ k = g ∨ k = g + 1 → k ≠ b) (o : Obj) : PS M g W (setBlock X b o) := fun k hk => by
  rw [← h k hk]
  unfold setBlock
  exact Array.getElem?_setIfInBounds_ne (fun e => hl k hk e.symm)
theorem Plain.PS.gr {M g : Nat} {W X X' : World} {r : Option Nat} (h : PS M g W X) (hg : X.grownBy X' r) (hl : ∀ k, k = M ∨ k = g ∨ k = g + 1 → k < X.heap.size ∧ r ≠ some k) : PS M g W X' := fun k hk => (hg.block k (hl k hk).1 (fun e => (hl k hk).2 e.symm)).trans (h k hk)
theorem Plain.MshAt.blk {W : World} {B M b n : Nat} {nx : Int} {F : Int → Int → List Pkt} {H : Int → Int → Option (Nat × Nat)} (h : MshAt W B M b n nx F H) {f t : Int} {k : Nat} (hk : (rowV H F f t).ownBlock = some k) : k < W.heap.size ∧ k ≠ M ∧ k ≠ b := by
  obtain ⟨y, hy, rfl⟩ := rowV_blk hk
  refine ⟨?_, (h.off _ _ _ hy).2, (h.off _ _ _ hy).1⟩
  rcases (h.row f t y hy).2 with ⟨q, _⟩ | ⟨g, cap, cur, q, _, q2, _⟩
  · cases q
  · have := own_blkN (g := y.1) (g' := g) (by rw [q]; rfl)
    rw [this]
    exact (Array.getElem?_eq_some_iff.1 q2).1

set_option maxRecDepth 10000 in
set_option maxHeartbeats 4000000 in
theorem put_calls {W : World} {B M b n : Nat} {nx : Int} {F : Int → Int → List Pkt} {H : Int → Int → Option (Nat × Nat)} (h : MshAt W B M b n nx F H) (pi fr ds : Int) (bd : ByteArray) (hp : wfP fr ds) (hq : rgP fr ds) (hn : n < 100000) (hf : (F fr ds).length ≤ 100000) :
    Calls Try.prog 32 #[.pointer (some ⟨M, 0, none⟩), .agg #[.int .i64 pi, .int .i64 fr, .int .i64 ds, .string bd]] W fun e w' => e = .returned (.tuple #[]) ∧ (∃ H', MshAt w' B M b (n + 1) nx (addF F ⟨pi, fr, ds, bd⟩) H') ∧ Below B W w' := by
  obtain ⟨W1, hW1⟩ : ∃ W1, W1 = (W.alloc (.cells #[.int .i64 pi, .int .i64 fr, .int .i64 ds, .string bd] 34)).alloc (.cells #[.int .i64 fr, .int .i64 ds] 53) := ⟨_, rfl⟩
  have hl := h.lt
  have hz : W1.heap.size = W.heap.size + 2 := by rw [hW1]; simp
  have hb1 : Below W.heap.size W W1 := by rw [hW1]; exact belOn (bel1 _ _) (bel1 _ _)
  have h1 := h.below hb1
  have a0 : W1.cell? ⟨W.heap.size, 0, none⟩ = some (.int .i64 pi) := by rw [hW1]; simp [go_sem]
  have a1 : W1.cell? ⟨W.heap.size, 1, none⟩ = some (.int .i64 fr) := by rw [hW1]; simp [go_sem]
  have a2 : W1.cell? ⟨W.heap.size, 2, none⟩ = some (.int .i64 ds) := by rw [hW1]; simp [go_sem]
  have a3 : W1.cell? ⟨W.heap.size, 3, none⟩ = some (.string bd) := by rw [hW1]; simp [go_sem]
  have b0 : W1.cell? ⟨W.heap.size + 1, 0, none⟩ = some (.int .i64 fr) := by rw [hW1]; simp [go_sem]
  have b1 : W1.cell? ⟨W.heap.size + 1, 1, none⟩ = some (.int .i64 ds) := by rw [hW1]; simp [go_sem]
  have hgM := (show M < W.heap.size from hl.1)
  have hgb := (show b < W.heap.size from hl.2)
  have P1 := fun (X : World) (hX : PS M W.heap.size W1 X) => (World.cell?_of_block (a := ⟨M, 1, none⟩) (hX M (.inl rfl))).trans h1.c1
  have A0 := fun (X : World) (hX : PS M W.heap.size W1 X) => (World.cell?_of_block (a := ⟨W.heap.size, 0, none⟩) (hX _ (.inr (.inl rfl)))).trans a0
  have A1 := fun (X : World) (hX : PS M W.heap.size W1 X) => (World.cell?_of_block (a := ⟨W.heap.size, 1, none⟩) (hX _ (.inr (.inl rfl)))).trans a1
  have A2 := fun (X : World) (hX : PS M W.heap.size W1 X) => (World.cell?_of_block (a := ⟨W.heap.size, 2, none⟩) (hX _ (.inr (.inl rfl)))).trans a2
  have A3 := fun (X : World) (hX : PS M W.heap.size W1 X) => (World.cell?_of_block (a := ⟨W.heap.size, 3, none⟩) (hX _ (.inr (.inl rfl)))).trans a3
  have B0 := fun (X : World) (hX : PS M W.heap.size W1 X) => (World.cell?_of_block (a := ⟨W.heap.size + 1, 0, none⟩) (hX _ (.inr (.inr rfl)))).trans b0
  have B1 := fun (X : World) (hX : PS M W.heap.size W1 X) => (World.cell?_of_block (a := ⟨W.heap.size + 1, 1, none⟩) (hX _ (.inr (.inr rfl)))).trans b1
  obtain ⟨D, hK, hDm, hE⟩ := h1.entry hn hp
  obtain ⟨O, hO⟩ : ∃ O : Obj, O = .cells #[.int .i64 pi, .int .i64 fr, .int .i64 ds, .string bd] 34 := ⟨_, rfl⟩
  obtain ⟨X0, hX0⟩ : ∃ X0, X0 = (W1.alloc O).drew := ⟨_, rfl⟩
  have hX0b : X0.heap[b]? = W1.heap[b]? := by rw [hX0]; exact (bel1 W1 O).block b (by omega)
  have hX0s : X0.heap.size = W1.heap.size + 1 := by rw [hX0]; simp
  obtain ⟨st, es2, c2, r2, q2, t2⟩ := hE X0 hX0b
  obtain ⟨X, hX⟩ : ∃ X, X = setBlock X0 b (.map es2 c2) := ⟨_, rfl⟩
  have hXs : X.heap.size = W1.heap.size + 1 := by rw [hX, ← hX0s]; simp [setBlock]
  have hXo : ∀ k, k ≠ b → X.heap[k]? = X0.heap[k]? := fun k hk => by rw [hX]; unfold setBlock; exact Array.getElem?_setIfInBounds_ne (fun e => hk e.symm)
  have hXg : W1.grownBy X (some b) := ⟨by rw [hX, hX0]; rfl, by rw [hX, hX0]; rfl, by rw [hX, hX0]; rfl, by omega, fun k hk hne => (hXo k (fun e => hne (by rw [e]))).trans (by rw [hX0]; exact (bel1 W1 O).block k hk)⟩
  have hown : OwnR pktE X B (rowV H F fr ds) (F fr ds) := (h1.rowOf fr ds).otherN (fun k hk => hXg.block k (h1.blk hk).1 (fun e => (h1.blk hk).2.2 (Option.some.inj e)))
  have hra : RowAt pktE X (some ⟨W1.heap.size, 0, none⟩) [(⟨pi, fr, ds, bd⟩ : Pkt)] := by
    have hc : X.heap[W1.heap.size]? = some O := by rw [hXo _ (by omega), hX0]; exact heap_alloc_new W1 O
    intro i hi
    obtain rfl : i = 0 := by simpa using hi
    refine ⟨W1.heap.size, rfl, by omega, fun j hj => ?_⟩
    have hj4 : j < 4 := hj
    obtain rfl | rfl | rfl | rfl : j = 0 ∨ j = 1 ∨ j = 2 ∨ j = 3 := by omega
    all_goals exact ⟨by simp [World.cell?, hc, hO, go_sem, pktE], by simp [World.frozen?, hc, hO, go_sem, pktE]⟩
  have HPS0 := hide (show PS M W.heap.size W1 W1.drew from fun k hk => rfl)
  have HPS1 := hide (show PS M W.heap.size W1 X0 from fun k hk => by rw [hX0]; exact (bel1 W1 O).block k (by omega))
  have HPS2 := hide (show PS M W.heap.size W1 X from fun k hk => hXg.block k (by omega) (fun e => by have := Option.some.inj e; have := h.Mb; omega))
  have HPS3 := hide (fun (w' : World) (hg : X.grownBy w' (rowV H F fr ds).ownBlock) => show PS M W.heap.size W1 w' from PS.gr (unhide HPS2) hg (fun k hk => ⟨by omega, fun e => by have e2 := h.blk (W := W) e; omega⟩))
  have HEND := hide (fun (g' c' : Nat) (w' : World) (own : OwnR pktE w' B (.slice (some ⟨g', 0, none⟩) ((F fr ds).length + 1) c') (F fr ds ++ [⟨pi, fr, ds, bd⟩])) (gr : X.grownBy w' (rowV H F fr ds).ownBlock) (ha : (rowV H F fr ds).ownBlock = some g' ∨ g' = X.heap.size) =>
    show ∃ es' c3, (Instr.entryStore 51 (.map (some b)) (.int .i64 st) (.slice (some ⟨g', 0, none⟩) ((F fr ds).length + 1) c')).run Try.prog w' = .ok () (setBlock w' b (.map es' c3)) ∧ (∃ H', MshAt (setBlock w' b (.map es' c3)) B M b (n + 1) nx (addF F ⟨pi, fr, ds, bd⟩) H') ∧ Below B W (setBlock w' b (.map es' c3)) from by
      obtain ⟨es', c3, z1, z2⟩ := t2 w' g' _ c' ((gr.block b (by omega) (fun e => (h.blk e.symm).2.2 rfl)).trans (by rw [hX]; exact q2))
      obtain ⟨z3, z4⟩ := h1.next (p := ⟨pi, fr, ds, bd⟩) hp hq hK hDm hXg own gr ha z2
      have := h.BM
      exact ⟨es', c3, z1, z3, (hb1.mono (by omega)).trans z4⟩)
  have HPS4 := hide (fun (w' : World) (o : Obj) (hg : PS M W.heap.size W1 w') => PS.mp (b := b) hg (fun k hk => by have := h.Mb; omega) o)
  have HROW := hide hown
  rw [hz] at hra
  have HRA := hide hra
  have hBX : B ≤ X.heap.size := by have := h.BM; omega
  have HBX := hide hBX
  have hlen9 : (F fr ds).length + 1 < 100000000 := by omega
  have HX := hide hX.symm
  have HW1 := hide hW1.symm
  have HX0 := hide hX0.symm
  rw [hO] at HX0
  rw [← hX] at r2
  rw [hX0, hO] at r2
  clear a0 a1 a2 a3 b0 b1 hE t2 q2 hK h1 h hW1 hb1 hown hra hXs hXo hXg hX hX0s hX0b hX0 hO hBX hDm
  generalize rowV H F fr ds = rv at r2 HPS3 HEND HROW
  obtain ⟨ra, rc, hrv⟩ := (unhide HROW).form
  subst hrv
  go_enter Try.func32, Try.ntmps32
  go_wp2_with fail
  rw [unhide HW1]
  go_region_held3 (fun w' => PS M W.heap.size W1 w') (first | exact unhide HPS0 | (rw [unhide HX0]; exact unhide HPS1) | exact unhide HPS2 | exact unhide HPS3 _ (by assumption) | exact unhide HPS4 _ _ (by assumption)) (first | (refine stepLies (e := pktE) rfl (.tmp 15) (.tmp 17) rfl (unhide HROW) rfl (W.heap.size + 2) 1 rfl (unhide HRA) hlen9 (unhide HBX) ?_; intro g' c' w' ho hgr ha; obtain ⟨es', c3, z1, z2, z3⟩ := unhide HEND g' c' w' ho hgr ha))
  all_goals (try go_wp2_with fail)
  all_goals ((try simp only [Exit.inBlock, Exit.then]); refine bodyPost_end (results_none rfl _ _ _) rfl ?_)
  all_goals exact ⟨rfl, by assumption, by assumption⟩
end Go.Proofs.Ytgdcamolpmjceaa
