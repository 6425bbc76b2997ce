/- A disk that is drawn. -/
import Derived.Test.YtknpccpfjclngaaDkO
import Derived.Test.YtknpccpfjclngaaAppO
import Derived.Deep.RegionHeld3
import Derived.Deep.RegionLaw
import Derived.Deep.CutBlock
import Derived.Deep.DeepCutAuto
namespace Go.Proofs.Ytknpccpfjclngaa
open Go.RowKit Plain
set_option linter.unusedVariables false

/-- A disk's variable that may be written. -/
structure NwK (b : Nat) (v0 v1 v2 : Value) (W : World) : Prop where
  lt : b < W.heap.size
  c0 : W.cell? ⟨b, 0, none⟩ = some v0
  c1 : W.cell? ⟨b, 1, none⟩ = some v1
  c2 : W.cell? ⟨b, 2, none⟩ = some v2
  z0 : W.frozen? ⟨b, 0, none⟩ = false
  z1 : W.frozen? ⟨b, 1, none⟩ = false
  z2 : W.frozen? ⟨b, 2, none⟩ = false
theorem NwK.new (V : World) (v0 v1 v2 : Value) (h : (V.alloc (.cells #[v0, v1, v2] 27)).cell? ⟨V.heap.size, 0, none⟩ = some v0 := by simp [go_sem]) : NwK V.heap.size v0 v1 v2 (V.alloc (.cells #[v0, v1, v2] 27)) := ⟨by simp, by simp [go_sem], by simp [go_sem], by simp [go_sem], by simp [go_sem], by simp [go_sem], by simp [go_sem]⟩
theorem NwK.below {b : Nat} {v0 v1 v2 : Value} {V V' : World} (h : NwK b v0 v1 v2 V) (hb : Below V.heap.size V V') : NwK b v0 v1 v2 V' :=
  ⟨Nat.lt_of_lt_of_le h.lt hb.size, bcl hb h.lt h.c0, bcl hb h.lt h.c1, bcl hb h.lt h.c2, (hb.frozen (p := ⟨b, 0, none⟩) h.lt).trans h.z0, (hb.frozen (p := ⟨b, 1, none⟩) h.lt).trans h.z1, (hb.frozen (p := ⟨b, 2, none⟩) h.lt).trans h.z2⟩
theorem NwK.set {b : Nat} {v0 v1 v2 : Value} {V : World} (h : NwK b v0 v1 v2 V) (u0 u1 u2 : Value) : NwK b u0 u1 u2 (((V.setCell ⟨b, 0, none⟩ u0).setCell ⟨b, 1, none⟩ u1).setCell ⟨b, 2, none⟩ u2) := by
  have h0 : (V.setCell ⟨b, 0, none⟩ u0).cell? ⟨b, 0, none⟩ = some u0 := cell_set h.c0
  have h1 : ((V.setCell ⟨b, 0, none⟩ u0).setCell ⟨b, 1, none⟩ u1).cell? ⟨b, 1, none⟩ = some u1 := cell_set ((cell_off (.inr (by decide))).trans h.c1)
  exact ⟨by simpa using h.lt, (cell_off (.inr (by decide))).trans ((cell_off (.inr (by decide))).trans h0), (cell_off (.inr (by decide))).trans h1, cell_set ((cell_off (.inr (by decide))).trans ((cell_off (.inr (by decide))).trans h.c2)), by rw [World.frozen?_setCell, World.frozen?_setCell, World.frozen?_setCell]; exact h.z0, by rw [World.frozen?_setCell, World.frozen?_setCell, World.frozen?_setCell]; exact h.z1, by rw [World.frozen?_setCell, World.frozen?_setCell, World.frozen?_setCell]; exact h.z2⟩
/-- The new disk's variable behind an op. -/
def Plain.DkN (z d : Nat) (live safe : List Fl) (ops : List Dop) (c : Int) (W : World) : Prop :=
  ∃ aL cL aS cS aO cO, NwK d (.slice aL live.length cL) (.slice aS safe.length cS) (.slice aO ops.length cO) W ∧ (RowAt fileE W aL live ∧ RowAt fileE W aS safe ∧ RowAt dopE W aO ops) ∧ (AdOk aL cL ∧ AdOk aS cS ∧ AdOk aO cO) ∧ ((∀ k, inB aL k → z ≤ k) ∧ (∀ k, inB aS k → z ≤ k) ∧ ∀ k, inB aO k → z ≤ k) ∧ (c = 0 → LvOwn z W aL cL live aS safe aO cO ops)
theorem RowAt.set3K {α : Type} {e : Elem α} {W : World} {a : Option Addr} {ys : List α} {b : Nat} {u0 u1 u2 : Value} (h : RowAt e W a ys) (hne : ∀ k, inB a k → k ≠ b) : RowAt e (((W.setCell ⟨b, 0, none⟩ u0).setCell ⟨b, 1, none⟩ u1).setCell ⟨b, 2, none⟩ u2) a ys := ((RowAt.setO h (.inr hne)).setO (.inr hne)).setO (.inr hne)
theorem dkn_fin {d B z : Nat} {w12 : World} {v0 v1 v2 : Value} {c : Int} {uL uS uO : Option Addr} {iL iS iO : Nat} {L2 S2 : List Fl} {O2 : List Dop} (hN : NwK d v0 v1 v2 w12) (hd : d < B) (hz : z ≤ d)
    (u1 : RowAt fileE w12 uL L2) (u2 : RowAt fileE w12 uS S2) (u3 : RowAt dopE w12 uO O2) (ua : AdOk uL iL ∧ AdOk uS iS ∧ AdOk uO iO) (m1 : ∀ k, inB uL k → B ≤ k) (m2 : ∀ k, inB uS k → B ≤ k) (m3 : ∀ k, inB uO k → B ≤ k) (ho : c = 0 → LvOwn B w12 uL iL L2 uS S2 uO iO O2) :
    DkN z d L2 S2 O2 c (((w12.setCell ⟨d, 0, none⟩ (.slice uL L2.length iL)).setCell ⟨d, 1, none⟩ (.slice uS S2.length iS)).setCell ⟨d, 2, none⟩ (.slice uO O2.length iO)) :=
  ⟨uL, iL, uS, iS, uO, iO, hN.set _ _ _, ⟨RowAt.set3K u1 (fun k hk => by have := m1 k hk; omega), RowAt.set3K u2 (fun k hk => by have := m2 k hk; omega), RowAt.set3K u3 (fun k hk => by have := m3 k hk; omega)⟩, ua, ⟨fun k hk => by have := m1 k hk; omega, fun k hk => by have := m2 k hk; omega, fun k hk => by have := m3 k hk; omega⟩, fun q => ((((ho q).set (by omega)).set (by omega)).set (by omega)).le (by omega)⟩
theorem dkn_finA {B z : Nat} {w12 : World} {c : Int} {uL uS uO : Option Addr} {iL iS iO : Nat} {L2 S2 : List Fl} {O2 : List Dop} (hz : z ≤ B)
    (u1 : RowAt fileE w12 uL L2) (u2 : RowAt fileE w12 uS S2) (u3 : RowAt dopE w12 uO O2) (ua : AdOk uL iL ∧ AdOk uS iS ∧ AdOk uO iO) (m1 : ∀ k, inB uL k → B ≤ k) (m2 : ∀ k, inB uS k → B ≤ k) (m3 : ∀ k, inB uO k → B ≤ k) (ho : c = 0 → LvOwn B w12 uL iL L2 uS S2 uO iO O2) :
    DkN z w12.heap.size L2 S2 O2 c (w12.alloc (.cells #[.slice uL L2.length iL, .slice uS S2.length iS, .slice uO O2.length iO] 27)) :=
  ⟨uL, iL, uS, iS, uO, iO, NwK.new w12 _ _ _, ⟨u1.below (bel1 _ _), u2.below (bel1 _ _), u3.below (bel1 _ _)⟩, ua, ⟨fun k hk => by have := m1 k hk; omega, fun k hk => by have := m2 k hk; omega, fun k hk => by have := m3 k hk; omega⟩, fun q => ((ho q).below (bel1 _ _)).le hz⟩
theorem NwK.only {d R : Nat} {v0 v1 v2 : Value} {V V' : World} (h : NwK d v0 v1 v2 V) (ho : OnlyAt ⟨R, 1, none⟩ V V') (hR : d ≠ R) : NwK d v0 v1 v2 V' :=
  ⟨Nat.lt_of_lt_of_le h.lt ho.size, ho.c h.c0 hR, ho.c h.c1 hR, ho.c h.c2 hR, ho.z h.lt h.z0, ho.z h.lt h.z1, ho.z h.lt h.z2⟩
theorem belSet3 {B b : Nat} {w X : World} {u0 u1 u2 : Value} (h : Below B w X) (hb : B ≤ b) : Below B w (((X.setCell ⟨b, 0, none⟩ u0).setCell ⟨b, 1, none⟩ u1).setCell ⟨b, 2, none⟩ u2) := ((h.setCell (p := ⟨b, 0, none⟩) hb _).setCell (p := ⟨b, 1, none⟩) hb _).setCell (p := ⟨b, 2, none⟩) hb _
theorem Plain.DkR.put2 {w wr : World} {R : Nat} {a : Option Addr} {len cap : Nat} {zs : List Int} {live safe live' safe' : List Fl} {ops ops' : List Dop} {aL aS aO xL xS xO : Option Addr} {cL cS cO dL dS dO : Nat} (h : DkR w R a len cap zs live safe ops aL cL aS cS aO cO wr) (hR : R < w.heap.size)
    (rl : RowAt fileE wr xL live') (rs : RowAt fileE wr xS safe') (ro : RowAt dopE wr xO ops') (ad : AdOk xL dL ∧ AdOk xS dS ∧ AdOk xO dO) (nl : ∀ g, inB xL g → w.heap.size + 1 < g) (ns : ∀ g, inB xS g → w.heap.size + 1 < g) (no : ∀ g, inB xO g → w.heap.size + 1 < g) (hd : diskB live' safe' ops' = true) (hs : ∀ o ∈ ops', SmO o) (ho : LvOwn (w.heap.size + 2) wr xL dL live' xS safe' xO dO ops') :
    DkR w R a len cap zs live' safe' ops' xL dL xS dS xO dO (((wr.setCell ⟨w.heap.size + 1, 0, none⟩ (.slice xL live'.length dL)).setCell ⟨w.heap.size + 1, 1, none⟩ (.slice xS safe'.length dS)).setCell ⟨w.heap.size + 1, 2, none⟩ (.slice xO ops'.length dO)) := by
  obtain ⟨hv, -, -, -, hr, hoo, hz, hc⟩ := h
  have hb2 : Below (w.heap.size + 1) wr (((wr.setCell ⟨w.heap.size + 1, 0, none⟩ (.slice xL live'.length dL)).setCell ⟨w.heap.size + 1, 1, none⟩ (.slice xS safe'.length dS)).setCell ⟨w.heap.size + 1, 2, none⟩ (.slice xO ops'.length dO)) := belSet3 (Below.refl _ _) (Nat.le_refl _)
  have hN := NwK.set (b := w.heap.size + 1) (V := wr) ⟨lt_of_cell hv.c0, hv.c0, hv.c1, hv.c2, hv.z0, hv.z1, hv.z2⟩ (.slice xL live'.length dL) (.slice xS safe'.length dS) (.slice xO ops'.length dO)
  exact ⟨⟨hN.c0, hN.c1, hN.c2, hN.z0, hN.z1, hN.z2, RowAt.set3K rl (fun k hk => by have := nl k hk; omega), RowAt.set3K rs (fun k hk => by have := ns k hk; omega), RowAt.set3K ro (fun k hk => by have := no k hk; omega), ad, nl, ns, no⟩, (((ho.set (by omega)).set (by omega)).set (by omega)), hd, hs, hr.onlyB hb2 (by omega), hoo.thenBelow hb2 (by omega), Nat.le_trans hz hb2.size, fun i hi => ⟨(hb2.cell (p := ⟨w.heap.size, i, none⟩) (show w.heap.size < w.heap.size + 1 by omega)).trans (hc i hi).1, (hb2.frozen (p := ⟨w.heap.size, i, none⟩) (show w.heap.size < w.heap.size + 1 by omega)).trans (hc i hi).2⟩⟩
/-- The drawn variable at the end: a disk's rows, right or not. -/
structure Plain.DkF (w : World) (R : Nat) (a : Option Addr) (len cap : Nat) (zs : List Int) (live safe : List Fl) (ops : List Dop) (aL : Option Addr) (cL : Nat) (aS : Option Addr) (cS : Nat) (aO : Option Addr) (cO : Nat) (wr : World) : Prop where
  c0 : wr.cell? ⟨w.heap.size + 1, 0, none⟩ = some (.slice aL live.length cL)
  c1 : wr.cell? ⟨w.heap.size + 1, 1, none⟩ = some (.slice aS safe.length cS)
  c2 : wr.cell? ⟨w.heap.size + 1, 2, none⟩ = some (.slice aO ops.length cO)
  rl : RowAt fileE wr aL live
  rs : RowAt fileE wr aS safe
  ro : RowO dopE wr aO ops
  ad : AdOk aL cL ∧ AdOk aS cS
  ado : AdN aO cO
  fit : FitF live ∧ FitF safe ∧ (∀ o ∈ ops, SmO o) ∧ live.length ≤ 1000 ∧ safe.length ≤ 1000 ∧ ops.length ≤ 200
  nl : ∀ g, inB aL g → w.heap.size + 1 < g
  ns : ∀ g, inB aS g → w.heap.size + 1 < g
  no : ∀ g, inB aO g → w.heap.size + 1 < g
  rd : Rd wr R a len cap zs
  on : OnlyAt ⟨R, 1, none⟩ w wr
  z : w.heap.size + 2 ≤ wr.heap.size
  c : ∀ i, i < 3 → wr.cell? ⟨w.heap.size, i, none⟩ = some (.slice none 0 0) ∧ wr.frozen? ⟨w.heap.size, i, none⟩ = false
/-- What disk() answers. -/
def Plain.DiskD (R : Nat) (a : Option Addr) (len cap : Nat) (zs : List Int) (w : World) (e : Ending) (w' : World) : Prop :=
  ∃ aL cL live aS cS safe aO cO ops, e = .returned (.agg #[.slice aL live.length cL, .slice aS safe.length cS, .slice aO ops.length cO]) ∧ (RowAt fileE w' aL live ∧ RowAt fileE w' aS safe ∧ RowO dopE w' aO ops) ∧ (AdOk aL cL ∧ AdOk aS cS ∧ AdN aO cO) ∧ (FitF live ∧ FitF safe ∧ (∀ o ∈ ops, SmO o) ∧ live.length ≤ 1000 ∧ safe.length ≤ 1000 ∧ ops.length ≤ 200) ∧ ((∀ g, inB aL g → w.heap.size < g) ∧ (∀ g, inB aS g → w.heap.size < g) ∧ ∀ g, inB aO g → w.heap.size < g) ∧ Rd w' R a len cap zs ∧ OnlyAt ⟨R, 1, none⟩ w w'

theorem rowO_set3 {W : World} {a : Option Addr} {xs : List Dop} {b : Nat} {u0 u1 u2 : Value} (h : RowO dopE W a xs) (hne : ∀ k, inB a k → k ≠ b) : RowO dopE (((W.setCell ⟨b, 0, none⟩ u0).setCell ⟨b, 1, none⟩ u1).setCell ⟨b, 2, none⟩ u2) a xs := fun i hi => by
  obtain ⟨g, o, e1, hl, h1⟩ := h i hi
  have hg : b ≠ g := fun q => hne g ⟨o, e1⟩ q.symm
  exact ⟨g, o, e1, by simpa using hl, fun j hj => ⟨(cell_off (.inl hg)).trans ((cell_off (.inl hg)).trans ((cell_off (.inl hg)).trans (h1 j hj).1)), by rw [World.frozen?_setCell, World.frozen?_setCell, World.frozen?_setCell]; exact (h1 j hj).2⟩⟩
theorem rowO_set1 {W : World} {a : Option Addr} {xs : List Dop} {b t : Nat} {u : Value} (h : RowO dopE W a xs) (hne : ∀ k, inB a k → k ≠ b) : RowO dopE (W.setCell ⟨b, t, none⟩ u) a xs := fun i hi => by
  obtain ⟨g, o, e1, hl, h1⟩ := h i hi
  have hg : b ≠ g := fun q => hne g ⟨o, e1⟩ q.symm
  exact ⟨g, o, e1, by simpa using hl, fun j hj => ⟨(cell_off (.inl hg)).trans (h1 j hj).1, by rw [World.frozen?_setCell]; exact (h1 j hj).2⟩⟩
theorem rowTail {W : World} {g : Nat} {x : Dop} {xs : List Dop} (h : RowAt dopE W (some ⟨g, 0, none⟩) (x :: xs)) : RowO dopE W (some ⟨g, 4, none⟩) xs := fun i hi => by
  obtain ⟨g', e1, hl, h1⟩ := h (i + 1) (by simpa using hi)
  cases e1
  refine ⟨g, 4, rfl, hl, fun j hj => ?_⟩
  have q := h1 j hj
  have e : (i + 1) * dopE.n + j = 4 + i * dopE.n + j := by show (i + 1) * 4 + j = 4 + i * 4 + j; omega
  rw [e] at q
  exact q
/-- The drawn disk's variable is one of a disk. -/
theorem Plain.DkR.toF {w wr : World} {R : Nat} {a : Option Addr} {len cap : Nat} {zs : List Int} {live safe : List Fl} {ops : List Dop} {aL aS aO : Option Addr} {cL cS cO : Nat} (h : DkR w R a len cap zs live safe ops aL cL aS cS aO cO wr) : DkF w R a len cap zs live safe ops aL cL aS cS aO cO wr := by
  have h1 := (disk_run h.d).1
  have h2 := disk_parts h.d
  have n1 := (files_small h1).1
  have n2 := (files_small h2.1).1
  exact ⟨h.v.c0, h.v.c1, h.v.c2, h.v.rl, h.v.rs, h.v.ro.toO, ⟨h.v.ad.1, h.v.ad.2.1⟩, h.v.ad.2.2.toN, ⟨small_fit h1, small_fit h2.1, h.s, by omega, by omega, h2.2.1⟩, h.v.nl, h.v.ns, h.v.no, h.rd, h.on, h.z, h.c⟩
theorem make_bytesK (n : Nat) (w : World) (hn : n ≤ 1000000) : (Instr.makeSlice 22 (.int .i64 n) (.int .i64 n)).run Try.prog w = .ok (.slice (some ⟨w.heap.size, 0, none⟩) n n) (w.alloc (.cells (zerosA n) 5)) := by
  obtain ⟨i0, hi, hz0, hz1, hz2⟩ := info_parts info5
  have := run_make w 22 5 i0 (.int .u8 0) Try.underlying22 hi hz0 .i64 .i64 n n (by omega) (by omega) (by rw [hz2]; omega) (by omega)
  rw [hz1] at this
  exact this

set_option maxRecDepth 10000 in
set_option maxHeartbeats 8000000 in
theorem diskD_calls (R : Nat) (a : Option Addr) (len cap : Nat) (zs : List Int) (w : World) (h : Rd w R a len cap zs) :
    Calls Try.prog 19 #[.pointer (some ⟨R, 0, none⟩)] w (DiskD R a len cap zs w) := by
  have hR := h.lt
  obtain ⟨W0, hW0⟩ : ∃ W0, W0 = (w.alloc (.cells #[.slice none 0 0, .slice none 0 0, .slice none 0 0] 27)).alloc (.cells #[.slice none 0 0, .slice none 0 0, .slice none 0 0] 27) := ⟨_, rfl⟩
  have hb0 : Below w.heap.size w W0 := by rw [hW0]; exact belOn (bel1 _ _) (bel1 _ _)
  have hs0 : W0.heap.size = w.heap.size + 2 := by rw [hW0]; simp
  have hR0 := h.below hb0
  have hD0 : DkR w R a len cap zs [] [] [] none 0 none 0 none 0 W0 := by
    refine ⟨⟨?_, ?_, ?_, ?_, ?_, ?_, fun i hi => absurd hi (by simp), fun i hi => absurd hi (by simp), fun i hi => absurd hi (by simp), ⟨.inl ⟨rfl, rfl⟩, .inl ⟨rfl, rfl⟩, .inl ⟨rfl, rfl⟩⟩, fun g ⟨o, e⟩ => (by cases e), fun g ⟨o, e⟩ => (by cases e), fun g ⟨o, e⟩ => (by cases e)⟩, LvOwn.nil _ _ (by omega), disk_synced (fs := []) (by rfl), fun o ho => (by cases ho), hR0, OnlyAt.of_below hb0, by omega, fun i hi => ?_⟩
    iterate 6 (rw [hW0]; simp [go_sem])
    rw [hW0]
    rcases i with _ | _ | _ | i
    all_goals first | omega | simp [go_sem]
  have H0 := hide hD0
  have HW0 := hide hW0.symm
  clear hW0 h hb0 hs0 hR0 hD0
  go_enter Try.func19, Try.ntmps19
  go_wp2_with fail
  rw [unhide HW0]
  refine (sizeD_calls R a len cap zs W0 (unhide H0).rd).mono ?_
  rintro e w1 ⟨k0, rfl, hk0, hk1, hR1, ho1⟩
  obtain ⟨K0, rfl⟩ := Int.eq_ofNat_of_zero_le (show 0 ≤ k0 by omega)
  have H1 := hide ((unhide H0).only hR hR1 ho1)
  clear hR1 ho1 H0
  go_wp2_with fail
  go_loopw [4] (fun s4 wr => ∃ (k : Nat) (live safe : List Fl) (ops : List Dop) (aL : Option Addr) (cL : Nat) (aS : Option Addr) (cS : Nat) (aO : Option Addr) (cO : Nat), s4 = .int .i64 k ∧ k ≤ 10 ∧ ops.length + k ≤ 10 ∧ Hid (DkR w R a len cap zs live safe ops aL cL aS cS aO cO wr)) (fun i _ => (intOf i).toNat)
  case atStart => exact ⟨K0, [], [], [], _, _, _, _, _, _, rfl, by omega, by simp; omega, H1⟩
  case round =>
    clear H1
    obtain ⟨k, live, safe, ops, aL, cL, aS, cS, aO, cO, rfl, hk, hko, HD⟩ := hrel
    by_cases hkz : 0 < k
    · have i0 : (0 : Int) < (k : Int) := by omega
      go_wp2_with fail
      refine (once_calls R a len cap zs 5 wr (unhide HD).rd (by omega) (by omega)).mono ?_
      rintro e w2 ⟨b, rfl, hR2, ho2⟩
      have H2 := hide ((unhide HD).only hR hR2 ho2)
      clear hR2 ho2 HD
      have q0 := (unhide H2).v.c0
      have q1 := (unhide H2).v.c1
      have q2 := (unhide H2).v.c2
      have z0 := (unhide H2).v.z0
      have z1 := (unhide H2).v.z1
      have z2 := (unhide H2).v.z2
      have hlt : w.heap.size + 1 < w2.heap.size := lt_of_cell q0
      cases b with
      | true =>
        have HSY := hide (spec_SyncO aL live.length cL live aS safe.length cS safe aO ops.length cO ops w2 ((unhide H2).v.disk (unhide H2).d (unhide H2).s).toO)
        have hL : synL live safe ops = live := by unfold synL; rw [(unhide H2).d]; rfl
        rw [hL] at HSY
        unfold SpcO at HSY
        have HDS := hide (disk_synced (disk_run (unhide H2).d).1)
        clear hL
        go_wp2_with fail
        refine (unhide HSY).mono ?_
        rintro e w3 ⟨xL, dL, xS, dS, xO, dO, rfl, o1, o2, o3, ad, m1, m2, m3, hb, hlv⟩
        have H3 := hide ((unhide H2).put hR hb o1 o2 o3 ad m1 m2 m3 (unhide HDS) (fun o ho => by cases ho) (hlv (by rw [(unhide H2).d]; rfl)))
        have p0 := bcl hb hlt q0
        have p1 := bcl hb hlt q1
        have p2 := bcl hb hlt q2
        have y0 := (hb.frozen (p := ⟨w.heap.size + 1, 0, none⟩) hlt).trans z0
        have y1 := (hb.frozen (p := ⟨w.heap.size + 1, 1, none⟩) hlt).trans z1
        have y2 := (hb.frozen (p := ⟨w.heap.size + 1, 2, none⟩) hlt).trans z2
        clear o1 o2 o3 ad m1 m2 m3 hb q0 q1 q2 z0 z1 z2 HSY HDS H2 hlv
        go_wp2_with fail
        exact ⟨⟨k - 1, live, live, [], _, _, _, _, _, _, by go_num, by omega, by simp; omega, H3⟩, by simp [intOf]; omega⟩
      | false =>
        have HRD := hide (unhide H2).rd
        have HDO := hide (fun (X : World) (hO : OnlyAt ⟨R, 1, none⟩ w2 X) (kd : Int) (nm tx dt : ByteArray) (hsm : SmO ⟨kd, nm, tx, dt⟩) => spec_DoO aL live.length cL live aS safe.length cS safe aO ops.length cO ops kd nm tx dt X (((unhide H2).v.only hO (by omega)).disk (unhide H2).d (unhide H2).s) hsm)
        unfold SpcO at HDO
        have A0 := fun (X : World) (hO : OnlyAt ⟨R, 1, none⟩ w2 X) => ((unhide H2).v.only hO (show R < w.heap.size + 1 by omega)).c0
        have A1 := fun (X : World) (hO : OnlyAt ⟨R, 1, none⟩ w2 X) => ((unhide H2).v.only hO (show R < w.heap.size + 1 by omega)).c1
        have A2 := fun (X : World) (hO : OnlyAt ⟨R, 1, none⟩ w2 X) => ((unhide H2).v.only hO (show R < w.heap.size + 1 by omega)).c2
        have HA := hide (And.intro A0 (And.intro A1 A2))
        have s0 := bcl (bel1 w2 (.cells #[.slice none 0 0, .slice none 0 0, .slice none 0 0] 27)) hlt q0
        have s1 := bcl (bel1 w2 (.cells #[.slice none 0 0, .slice none 0 0, .slice none 0 0] 27)) hlt q1
        have s2 := bcl (bel1 w2 (.cells #[.slice none 0 0, .slice none 0 0, .slice none 0 0] 27)) hlt q2
        have hRl : R < w2.heap.size := by omega
        have hRn : w2.heap.size ≠ R := by omega
        clear z0 z1 z2
        go_upto_region 7 with fail
        go_cut [5, 6] (fun s5 s6 wx => ∃ (o : Dop) (d : Nat), s5 = .pointer (some ⟨d, 0, none⟩) ∧ s6 = .int .i64 (actC live safe ops [o]) ∧ w2.heap.size ≤ d ∧ Hid (DkN w2.heap.size d (actL live safe ops [o]) (actS live safe ops) (actO live safe ops [o]) (actC live safe ops [o]) wx) ∧ Hid (SmO o) ∧ Hid (Rd wx R a len cap zs) ∧ Hid (OnlyAt ⟨R, 1, none⟩ w2 wx))
        case first =>
          clear A0 A1 A2
          obtain ⟨A0, A1, A2⟩ := unhide HA
          go_region_law (first
            | (go_simp; go_at_call 48; refine (dop_calls R a len cap zs w2.drew ((unhide HRD).below (belDrew (Below.refl _ _)))).mono ?_; rintro e w3 ⟨⟨kd, nm, tx, dt⟩, rfl, hf, hdt, hR3, hoD⟩; have ho3 : OnlyAt ⟨R, 1, none⟩ w2 w3 := (OnlyAt.of_below (a := ⟨R, 1, none⟩) (belDrew (Below.refl _ _))).trans hoD; have hlt3 : w.heap.size + 1 < w3.heap.size := Nat.lt_of_lt_of_le hlt ho3.size; have r0 := A0 w3 ho3; have r1 := A1 w3 ho3; have r2 := A2 w3 ho3; have x0 := bcl (bel1 w3 (.cells #[.slice none 0 0, .slice none 0 0, .slice none 0 0] 27)) hlt3 r0; have x1 := bcl (bel1 w3 (.cells #[.slice none 0 0, .slice none 0 0, .slice none 0 0] 27)) hlt3 r1; have x2 := bcl (bel1 w3 (.cells #[.slice none 0 0, .slice none 0 0, .slice none 0 0] 27)) hlt3 r2; have hsm : SmO ⟨kd, nm, tx, dt⟩ := small_form hf hdt)
            | (go_simp; go_at_call 48; refine (dop_calls R a len cap zs (w2.alloc (.cells #[.slice none 0 0, .slice none 0 0, .slice none 0 0] 27)).drew ((unhide HRD).below (belDrew (bel1 _ _)))).mono ?_; rintro e w3 ⟨⟨kd, nm, tx, dt⟩, rfl, hf, hdt, hR3, hoD⟩; have ho3 : OnlyAt ⟨R, 1, none⟩ w2 w3 := (OnlyAt.of_below (a := ⟨R, 1, none⟩) (belDrew (bel1 _ _))).trans hoD; have NB := (((NwK.new w2 (.slice none 0 0) (.slice none 0 0) (.slice none 0 0)).below (belDrew (Below.refl _ _))).only hoD hRn); have hlt3 : w.heap.size + 1 < w3.heap.size := Nat.lt_of_lt_of_le hlt ho3.size; have r0 := A0 w3 ho3; have r1 := A1 w3 ho3; have r2 := A2 w3 ho3; have x0 := bcl (bel1 w3 (.cells #[.slice none 0 0, .slice none 0 0, .slice none 0 0] 27)) hlt3 r0; have x1 := bcl (bel1 w3 (.cells #[.slice none 0 0, .slice none 0 0, .slice none 0 0] 27)) hlt3 r1; have x2 := bcl (bel1 w3 (.cells #[.slice none 0 0, .slice none 0 0, .slice none 0 0] 27)) hlt3 r2; have hsm : SmO ⟨kd, nm, tx, dt⟩ := small_form hf hdt)
            | (go_simp; go_at_call 47; refine (unhide HDO w3 ho3 kd nm tx dt hsm).mono ?_; rintro e w12 ⟨uL, iL, uS, iS, uO, iO, rfl, u1, u2, u3, ua, m1, m2, m3, hb12, hlv⟩; have BBx : Below w2.heap.size w3 w12 := hb12.mono ho3.size; have NB2 := NB.below hb12; have NB3 := hide NB2; have hdB := NB.lt; have hzd := Nat.le_refl w2.heap.size; obtain ⟨-, m0, m1', m2', y0, y1, y2⟩ := NB2)
            | (go_simp; go_at_call 47; refine (unhide HDO (w3.alloc (.cells #[.slice none 0 0, .slice none 0 0, .slice none 0 0] 27)) (ho3.trans (OnlyAt.of_below (a := ⟨R, 1, none⟩) (bel1 _ _))) kd nm tx dt hsm).mono ?_; rintro e w12 ⟨uL, iL, uS, iS, uO, iO, rfl, u1, u2, u3, ua, m1, m2, m3, hb12, hlv⟩; have BBx : Below w2.heap.size w3 w12 := ((bel1 w3 _).mono ho3.size).trans (hb12.mono (Nat.le_trans ho3.size (bel1 w3 _).size)); have NB2 := (NwK.new w3 (.slice none 0 0) (.slice none 0 0) (.slice none 0 0)).below hb12; have NB3 := hide NB2; have hdB : w3.heap.size < (w3.alloc (.cells #[.slice none 0 0, .slice none 0 0, .slice none 0 0] 27)).heap.size := (by simp); have hzd := ho3.size; obtain ⟨-, m0, m1', m2', y0, y1, y2⟩ := NB2)
            | (go_simp; go_at_call 47; refine (unhide HDO w3 ho3 kd nm tx dt hsm).mono ?_; rintro e w12 ⟨uL, iL, uS, iS, uO, iO, rfl, u1, u2, u3, ua, m1, m2, m3, hb12, hlv⟩; have BBx : Below w2.heap.size w3 w12 := hb12.mono ho3.size; have hzB := ho3.size))
          all_goals (try go_wp2_with fail)
          all_goals go_meet
          all_goals first
            | exact ⟨⟨kd, nm, tx, dt⟩, w12.heap.size, rfl, rfl, Nat.le_trans hzB hb12.size, hide (dkn_finA hzB u1 u2 u3 ua m1 m2 m3 hlv), hide hsm, hide (hR3.onlyB (BBx.alloc (Nat.le_trans ho3.size BBx.size) _) hRl), hide (ho3.thenBelow (BBx.alloc (Nat.le_trans ho3.size BBx.size) _) (Nat.le_refl _))⟩
            | exact ⟨⟨kd, nm, tx, dt⟩, _, rfl, rfl, hzd, hide (dkn_fin (unhide NB3) hdB hzd u1 u2 u3 ua m1 m2 m3 hlv), hide hsm, hide (hR3.onlyB (belSet3 BBx hzd) hRl), hide (ho3.thenBelow (belSet3 BBx hzd) (Nat.le_refl _))⟩
        case rest =>
        obtain ⟨wx, rfl⟩ : ∃ wx, wx = wc := ⟨_, rfl⟩
        clear A0 A1 A2 HA HDO HRD q0 q1 q2 s0 s1 s2
        obtain ⟨o, d, rfl, rfl, hd, HN, HSO, HRX, HOX⟩ := hcut
        have H3 := hide ((unhide H2).only hR (unhide HRX) (unhide HOX))
        have hPO : actC live safe ops [o] = 0 → actO live safe ops [o] = ops ++ [o] := fun hc => by
          unfold actC at hc
          rw [(unhide H2).d, if_pos rfl] at hc
          unfold actO
          rw [(unhide H2).d, if_pos rfl, if_pos hc]
        have hrun := fun hc => act_runR (live := live) (safe := safe) (ops := ops) (xs := [o]) (unhide H2).d hc
        generalize actC live safe ops [o] = PC at HN hPO hrun
        generalize actL live safe ops [o] = PL at HN hrun
        generalize actS live safe ops = PS at HN hrun
        generalize actO live safe ops [o] = PO at HN hPO hrun
        have HPO := hide hPO
        have HRUN := hide hrun
        clear hPO hrun HRX HOX
        by_cases hc : PC = 0
        · subst hc
          obtain ⟨xL, dL, xS, dS, xO, dO, hN, ⟨u1, u2, u3⟩, ua, ⟨m1, m2, m3⟩, hlv⟩ := unhide HN
          have hpo := unhide HPO rfl
          have H4 := hide ((unhide H3).put2 hR u1 u2 u3 ua (fun g hg => by have := m1 g hg; omega) (fun g hg => by have := m2 g hg; omega) (fun g hg => by have := m3 g hg; omega) (unhide HRUN rfl).1 (fun x hx => by rw [hpo] at hx; exact (List.mem_append.1 hx).elim (fun q => (unhide H2).s x q) (fun q => by rw [List.mem_singleton.1 q]; exact unhide HSO)) ((hlv rfl).le (by omega)))
          have hpl : PO.length = ops.length + 1 := by rw [hpo]; simp
          obtain ⟨-, n0, n1, n2, -, -, -⟩ := hN
          have q0 := (unhide H3).v.c0
          have q1 := (unhide H3).v.c1
          have q2 := (unhide H3).v.c2
          have z0 := (unhide H3).v.z0
          have z1 := (unhide H3).v.z1
          have z2 := (unhide H3).v.z2
          have HPL := hide hpl
          clear hpo hpl u1 u2 u3 ua m1 m2 m3 hlv HPO HRUN
          go_wp2_with fail
          exact ⟨⟨k - 1, PL, PS, PO, _, _, _, _, _, _, by go_num, by omega, by have := unhide HPL; omega, H4⟩, by simp [intOf]; omega⟩
        · have hcb : ((PC : Int) == 0) = false := beq_eq_false_iff_ne.2 hc
          go_wp2_with fail
          exact ⟨⟨k - 1, live, safe, ops, _, _, _, _, _, _, by go_num, by omega, by omega, H3⟩, by simp [intOf]; omega⟩
    · obtain rfl : k = 0 := by omega
      go_wp2_with fail
      refine (below_calls R a len cap zs 40 wr (unhide HD).rd (by omega) (by omega)).mono ?_
      rintro e w3 ⟨j, rfl, hj0, hj1, hR3, ho3⟩
      have H3 := hide ((unhide HD).only hR hR3 ho3)
      clear hR3 ho3 HD
      go_upto_block 2 with fail
      go_cut [] (fun wx => ∃ live' safe' ops' xL dL xS dS xO dO, Hid (DkF w R a len cap zs live' safe' ops' xL dL xS dS xO dO wx))
      case first =>
        have q0 := (unhide H3).v.c0
        have q1 := (unhide H3).v.c1
        have q2 := (unhide H3).v.c2
        have z0 := (unhide H3).v.z0
        have z1 := (unhide H3).v.z1
        have z2 := (unhide H3).v.z2
        have hlt : w.heap.size + 1 < w3.heap.size := lt_of_cell q0
        have hKF := (unhide H3).toF
        by_cases h0 : j = 0
        · subst h0
          obtain ⟨B, hB1, hB2, hB3, hap1, hap2, -⟩ := (unhide H3).own
          obtain ⟨W4, hW4⟩ : ∃ W4, W4 = w3.alloc (.cells #[.string ⟨#[122, 122]⟩, .string ⟨#[]⟩] 65) := ⟨_, rfl⟩
          have hb4 : Below w3.heap.size w3 W4 := by rw [hW4]; exact bel1 _ _
          have hs4 : W4.heap.size = w3.heap.size + 1 := by rw [hW4]; simp
          have HLT := hide (show RowAt fileE W4 (some ⟨w3.heap.size, 0, none⟩) [(⟨#[122, 122]⟩, ⟨#[]⟩)] from by
            intro i hi
            obtain rfl : i = 0 := by simpa using hi
            refine ⟨w3.heap.size, rfl, by omega, fun t ht => ?_⟩
            have ht2 : t < 2 := ht
            rw [hW4]
            rcases t with _ | _ | t
            · exact ⟨by simp [go_sem]; rfl, by simp [go_sem]⟩
            · exact ⟨by simp [go_sem]; rfl, by simp [go_sem]⟩
            · omega)
          have HOW := hide (show OwnOr fileE W4 B aL cL live from by
            rcases hB3 with q | ⟨q1, q2, g, q3, q4⟩
            · exact .inl (q.keep hb4)
            · exact .inr ⟨q1, q2, g, q3, by omega⟩)
          have hzl : live.length + 1 < 100000000 := by have := hKF.fit.2.2.2.1; omega
          have hBl : B ≤ W4.heap.size := by omega
          have hnD := hide (show ¬ inB aL (w.heap.size + 1) from fun q => by have := (unhide H3).v.nl _ q; omega)
          have hnR := hide (show ¬ inB aL w.heap.size from fun q => by have := (unhide H3).v.nl _ q; omega)
          have p0 := bcl hb4 hlt q0
          have p1 := bcl hb4 hlt q1
          have p2 := bcl hb4 hlt q2
          have HB4 := hide hb4
          have HKF := hide hKF
          have HAP := hide (And.intro hap1 hap2)
          have HB12 := hide (And.intro hB1 hB2)
          have y0 := (hb4.frozen (p := ⟨w.heap.size + 1, 0, none⟩) hlt).trans z0
          have hltb : w.heap.size + 1 < W4.heap.size := by omega
          have HW4 := hide hW4.symm
          clear hb4 hW4 hKF hap1 hap2 hB1 hB2 hB3 q1 q2 z1 z2
          go_wp2_with (at_builtin; rw [unhide HW4]; go_must (refine appM (e := fileE) rfl _ _ rfl (unhide HOW) rfl w3.heap.size 1 rfl (unhide HLT) hzl hBl ?_); intro g7 c7 w7 ap7; have a5 := ap7.blk (w.heap.size + 1) hltb (unhide hnD); have r0 := (World.cell?_of_block (a := ⟨w.heap.size + 1, 0, none⟩) a5).trans p0; have r1 := (World.cell?_of_block (a := ⟨w.heap.size + 1, 1, none⟩) a5).trans p1; have r2 := (World.cell?_of_block (a := ⟨w.heap.size + 1, 2, none⟩) a5).trans p2; have x0 := (World.frozen?_of_block (a := ⟨w.heap.size + 1, 0, none⟩) a5).trans y0)
          go_meet
          have hF := unhide HKF
          obtain ⟨hB1, hB2⟩ := unhide HB12
          have hg7 : w.heap.size + 1 < g7 := by
            rcases ap7.lies with q | q
            · exact hF.nl g7 q
            · omega
          have hb47 : Below (w.heap.size + 1) w3 w7 := ((unhide HB4).mono (by omega)).trans ((ap7.below hBl).mono (by omega))
          have hb2 := belowSetD hb47 0 (.slice (some ⟨g7, 0, none⟩) (live.length + 1) c7)
          have hlen : (live ++ [((⟨#[122, 122]⟩, ⟨#[]⟩) : Fl)]).length = live.length + 1 := by simp
          have RS : RowAt fileE w7 aS safe := by
            rcases (unhide HAP).1 with q | q
            · rw [q]; exact fun i hi => absurd hi (by simp)
            · exact (((unhide H3).v.rs).below (unhide HB4)).offM ap7 (fun _ k hk h2 => q k h2 hk)
          have RO : RowAt dopE w7 aO ops := by
            rcases (unhide HAP).2 with q | q
            · rw [q]; exact fun i hi => absurd hi (by simp)
            · exact (((unhide H3).v.ro).below (unhide HB4)).offM ap7 (fun _ k hk h2 => q k h2 hk)
          refine ⟨live ++ [(⟨#[122, 122]⟩, ⟨#[]⟩)], safe, ops, some ⟨g7, 0, none⟩, c7, aS, cS, aO, cO, hide ⟨?_, ?_, ?_, ?_, ?_, ?_, ⟨.inr ⟨g7, rfl⟩, hF.ad.2⟩, hF.ado, ⟨?_, hF.fit.2.1, hF.fit.2.2.1, ?_, hF.fit.2.2.2.2⟩, ?_, hF.ns, hF.no, hF.rd.onlyB hb2 (by omega), hF.on.thenBelow hb2 (by omega), Nat.le_trans hF.z hb2.size, ?_⟩⟩
          · rw [hlen]; exact cell_set r0
          · exact (cell_off (.inr (by decide))).trans r1
          · exact (cell_off (.inr (by decide))).trans r2
          · have q := ap7.own.at.setO (b := w.heap.size + 1) (i := 0) (u := .slice (some ⟨g7, 0, none⟩) (live.length + 1) c7) (.inr (fun k hk => by obtain ⟨o, e⟩ := hk; cases e; omega))
            exact q
          · exact RS.setO (.inr (fun k hk => by have := hF.ns k hk; omega))
          · exact (RO.setO (.inr (fun k hk => by have := hF.no k hk; omega))).toO
          · intro f hf
            rcases List.mem_append.1 hf with q | q
            · exact hF.fit.1 f q
            · rw [List.mem_singleton.1 q]
              exact ⟨by show (2 : Nat) ≤ _; omega, by show (0 : Nat) ≤ _; omega⟩
          · rw [hlen]
            have := (files_small (disk_run (unhide H3).d).1).1
            omega
          · intro g hg
            obtain ⟨o, e⟩ := hg
            cases e
            exact hg7
          · intro i hi
            exact ⟨(hb2.cell (p := ⟨w.heap.size, i, none⟩) (show w.heap.size < w.heap.size + 1 by omega)).trans (hF.c i hi).1, (hb2.frozen (p := ⟨w.heap.size, i, none⟩) (show w.heap.size < w.heap.size + 1 by omega)).trans (hF.c i hi).2⟩
        · have b0 : (j == 0) = false := beq_eq_false_iff_ne.2 h0
          by_cases h1 : j = 1
          · subst h1
            cases hop : ops with
            | nil =>
              subst hop
              have hl0 : ([] : List Dop).length = 0 := rfl
              go_wp2_with fail
              go_meet
              exact ⟨_, _, _, _, _, _, _, _, _, hide hKF⟩
            | cons o1 os =>
              subst hop
              obtain ⟨g, e1, hlg, -⟩ := (unhide H3).v.ro 0 (by simp)
              subst e1
              have hl1 : (o1 :: os).length = os.length + 1 := rfl
              rw [hl1] at q2
              have i0 : (0 : Int) < ((os.length + 1 : Nat) : Int) := by omega
              have hgD : w.heap.size + 1 < g := hKF.no g ⟨0, rfl⟩
              have hcap : os.length + 1 ≤ cO := by
                obtain ⟨B, -, -, -, -, -, q⟩ := (unhide H3).own
                exact q
              have HKF := hide hKF
              have HRO := hide (show RowO dopE w3 (some ⟨g, 4, none⟩) os from rowTail (unhide H3).v.ro)
              clear hKF
              go_wp2_with fail
              all_goals go_meet
              all_goals
                have hF := unhide HKF
                have hb2 := belowSetD (Below.refl (w.heap.size + 1) w3) 2
                refine ⟨live, safe, os, aL, cL, aS, cS, _, _, hide ⟨(cell_off (.inr (by decide))).trans hF.c0, (cell_off (.inr (by decide))).trans hF.c1, cell_set q2, ?_, ?_, ?_, hF.ad, .inr ⟨g, _, rfl⟩, ⟨hF.fit.1, hF.fit.2.1, fun x hx => hF.fit.2.2.1 x (List.mem_cons_of_mem _ hx), hF.fit.2.2.2.1, hF.fit.2.2.2.2.1, by have := hF.fit.2.2.2.2.2; simp only [List.length_cons] at this; omega⟩, hF.nl, hF.ns, ?_, hF.rd.onlyB (hb2 _) (by omega), hF.on.thenBelow (hb2 _) (by omega), Nat.le_trans hF.z (hb2 _).size, ?_⟩⟩
                · exact hF.rl.setO (.inr (fun k hk => by have := hF.nl k hk; omega))
                · exact hF.rs.setO (.inr (fun k hk => by have := hF.ns k hk; omega))
                · first
                    | exact rowO_set1 (unhide HRO) (fun k hk => by obtain ⟨o, e⟩ := hk; cases e; omega)
                    | (have : os = [] := List.eq_nil_of_length_eq_zero (by omega)
                       subst this
                       exact fun i hi => absurd hi (by simp))
                · intro g' hg'
                  obtain ⟨o, e⟩ := hg'
                  cases e
                  exact hgD
                · intro i hi
                  exact ⟨((hb2 _).cell (p := ⟨w.heap.size, i, none⟩) (show w.heap.size < w.heap.size + 1 by omega)).trans (hF.c i hi).1, ((hb2 _).frozen (p := ⟨w.heap.size, i, none⟩) (show w.heap.size < w.heap.size + 1 by omega)).trans (hF.c i hi).2⟩
          · have b1 : (j == 1) = false := beq_eq_false_iff_ne.2 h1
            by_cases h2 : j = 2
            · subst h2
              go_wp2_with fail
              refine (below_calls R a len cap zs 9 w3 hKF.rd (by omega) (by omega)).mono ?_
              rintro e w5 ⟨v, rfl, hv0, hv1, hR5, ho5⟩
              have HF5 := hide ((unhide H3).only hR hR5 ho5)
              obtain ⟨n, hn⟩ : ∃ n : Nat, 200000 - v = (n : Int) := ⟨(200000 - v).toNat, by omega⟩
              have hmk := make_bytesK n w5 (by omega)
              have hcv : (convert 22 9 (.slice (some ⟨w5.heap.size, 0, none⟩) n n)).run Try.prog (w5.alloc (.cells (zerosA n) 5)) = .ok (.string (strOfNums (List.replicate n 0))) (w5.alloc (.cells (zerosA n) 5)) :=
                run_convert_bytes_arg _ _ _ Try.underlying22 Try.underlying5 w5.heap.size 0 n n (List.replicate n 0) (by simp) (fun i hi => by
                  rw [Nat.zero_add, cell_of_row _ _ i _ _ _ (show (w5.alloc (.cells (zerosA n) 5)).heap[w5.heap.size]? = _ from (MapKept.heap_alloc w5 _).1)]
                  rw [zerosA_get n i hi]
                  simp [hi, List.getD]) _ Try.underlying9
              obtain ⟨b, hb⟩ : ∃ b, strOfNums (List.replicate n 0) = b := ⟨_, rfl⟩
              have hbs : b.size ≤ 200000 := by rw [← hb, strOfNums_size]; simp; omega
              rw [hb] at hcv
              have hlt5 : w.heap.size + 1 < w5.heap.size := lt_of_cell (unhide HF5).v.c0
              obtain ⟨W7, hW7⟩ : ∃ W7, W7 = ((w5.alloc (.cells (zerosA n) 5)).alloc (.cells #[.string ⟨#[98, 105, 103]⟩, .string b] 65)) := ⟨_, rfl⟩
              have hb7 : Below w5.heap.size w5 W7 := by rw [hW7]; exact belOn (bel1 _ _) (bel1 _ _)
              have hs7 : W7.heap.size = w5.heap.size + 2 := by rw [hW7]; simp
              have q0 := bcl hb7 hlt5 (unhide HF5).v.c0
              have q1 := bcl hb7 hlt5 (unhide HF5).v.c1
              have q2 := bcl hb7 hlt5 (unhide HF5).v.c2
              have z0 := (hb7.frozen (p := ⟨w.heap.size + 1, 0, none⟩) hlt5).trans (unhide HF5).v.z0
              have z1 := (hb7.frozen (p := ⟨w.heap.size + 1, 1, none⟩) hlt5).trans (unhide HF5).v.z1
              have z2 := (hb7.frozen (p := ⟨w.heap.size + 1, 2, none⟩) hlt5).trans (unhide HF5).v.z2
              have HBG := hide (show RowAt fileE W7 (some ⟨w5.heap.size + 1, 0, none⟩) [(⟨#[98, 105, 103]⟩, b)] from by
                intro i hi
                obtain rfl : i = 0 := by simpa using hi
                refine ⟨w5.heap.size + 1, rfl, by omega, fun t ht => ?_⟩
                have ht2 : t < 2 := ht
                have e1 : w5.heap.size + 1 = (w5.alloc (.cells (zerosA n) 5)).heap.size := by simp
                rw [hW7, e1]
                rcases t with _ | _ | t
                · exact ⟨by simp [go_sem]; rfl, by simp [go_sem]⟩
                · exact ⟨by simp [go_sem]; rfl, by simp [go_sem]⟩
                · omega)
              have HB7 := hide hb7
              have HBS := hide hbs
              have HW7 := hide hW7.symm
              clear hR5 ho5 hb hbs hb7 hKF hW7
              go_upto_region 18 with (rw [unhide HW7])
              go_wp2_with fail
              go_meet
              have hF := unhide HF5
              have hN := NwK.set (b := w.heap.size + 1) (V := W7) ⟨lt_of_cell q0, q0, q1, q2, z0, z1, z2⟩ (.slice (some ⟨w5.heap.size + 1, 0, none⟩) 1 1) (.slice none 0 0) (.slice none 0 0)
              have hb2 := belowSetD (belSet3 (u0 := .slice (some ⟨w5.heap.size + 1, 0, none⟩) 1 1) (u1 := .slice none 0 0) (u2 := .slice none 0 0) ((unhide HB7).mono (show w.heap.size + 1 ≤ w5.heap.size by omega)) (Nat.le_refl (w.heap.size + 1))) 1 (.slice (some ⟨w5.heap.size + 1, 0, none⟩) 1 1)
              have hne : ∀ k, inB (some ⟨w5.heap.size + 1, 0, none⟩) k → k ≠ w.heap.size + 1 := fun k hk => by obtain ⟨o, e⟩ := hk; cases e; omega
              have hng : ∀ k, inB (some ⟨w5.heap.size + 1, 0, none⟩) k → w.heap.size + 1 < k := fun k hk => by obtain ⟨o, e⟩ := hk; cases e; omega
              have RB := (RowAt.set3K (b := w.heap.size + 1) (u0 := .slice (some ⟨w5.heap.size + 1, 0, none⟩) 1 1) (u1 := .slice none 0 0) (u2 := .slice none 0 0) (unhide HBG) hne).setO (b := w.heap.size + 1) (i := 1) (u := .slice (some ⟨w5.heap.size + 1, 0, none⟩) 1 1) (.inr hne)
              have hfit : FitF [((⟨#[98, 105, 103]⟩, b) : Fl)] := fun f hf => by
                rw [List.mem_singleton.1 hf]
                exact ⟨by show (3 : Nat) ≤ _; omega, by have := unhide HBS; show b.size ≤ _; omega⟩
              exact ⟨[(⟨#[98, 105, 103]⟩, b)], [(⟨#[98, 105, 103]⟩, b)], [], _, 1, _, 1, none, 0, hide ⟨(cell_off (.inr (by decide))).trans hN.c0, cell_set hN.c1, (cell_off (.inr (by decide))).trans hN.c2, RB, RB, fun i hi => absurd hi (by simp), ⟨.inr ⟨_, rfl⟩, .inr ⟨_, rfl⟩⟩, .inl ⟨rfl, rfl⟩, ⟨hfit, hfit, fun o ho => (by cases ho), by show (1 : Nat) ≤ _; omega, by show (1 : Nat) ≤ _; omega, Nat.zero_le _⟩, hng, hng, fun g ⟨o, e⟩ => (by cases e), hF.rd.onlyB hb2 (by omega), hF.on.thenBelow hb2 (by omega), Nat.le_trans hF.z hb2.size, fun i hi => ⟨(hb2.cell (p := ⟨w.heap.size, i, none⟩) (show w.heap.size < w.heap.size + 1 by omega)).trans (hF.c i hi).1, (hb2.frozen (p := ⟨w.heap.size, i, none⟩) (show w.heap.size < w.heap.size + 1 by omega)).trans (hF.c i hi).2⟩⟩⟩
            · have b2 : (j == 2) = false := beq_eq_false_iff_ne.2 h2
              go_wp2_with fail
              go_meet
              exact ⟨_, _, _, _, _, _, _, _, _, hide hKF⟩
      case rest =>
      obtain ⟨w4, rfl⟩ : ∃ w4, w4 = wc := ⟨_, rfl⟩
      obtain ⟨lv, sf, op, xL, dL, xS, dS, xO, dO, HF⟩ := hcut
      clear H3
      have q0 := (unhide HF).c0
      have q1 := (unhide HF).c1
      have q2 := (unhide HF).c2
      obtain ⟨r0, z0⟩ := (unhide HF).c 0 (by decide)
      obtain ⟨r1, z1⟩ := (unhide HF).c 1 (by decide)
      obtain ⟨r2, z2⟩ := (unhide HF).c 2 (by decide)
      go_wp2_with fail
      refine bodyPost_ret (v := .agg #[.slice xL lv.length dL, .slice xS sf.length dS, .slice xO op.length dO]) (by simp [results, Try.results19, go_sem, r0, r1, r2]) rfl ?_
      have hF := unhide HF
      have hb2 : Below w.heap.size w4 (((w4.setCell ⟨w.heap.size, 0, none⟩ (.slice xL lv.length dL)).setCell ⟨w.heap.size, 1, none⟩ (.slice xS sf.length dS)).setCell ⟨w.heap.size, 2, none⟩ (.slice xO op.length dO)) := belSet3 (Below.refl _ _) (Nat.le_refl _)
      exact ⟨xL, dL, lv, xS, dS, sf, xO, dO, op, rfl, ⟨RowAt.set3K hF.rl (fun k hk => by have := hF.nl k hk; omega), RowAt.set3K hF.rs (fun k hk => by have := hF.ns k hk; omega), rowO_set3 hF.ro (fun k hk => by have := hF.no k hk; omega)⟩, ⟨hF.ad.1, hF.ad.2, hF.ado⟩, hF.fit, ⟨fun g hg => by have := hF.nl g hg; omega, fun g hg => by have := hF.ns g hg; omega, fun g hg => by have := hF.no g hg; omega⟩, hF.rd.onlyB hb2 (by omega), hF.on.thenBelow hb2 (Nat.le_refl _)⟩
end Go.Proofs.Ytknpccpfjclngaa
