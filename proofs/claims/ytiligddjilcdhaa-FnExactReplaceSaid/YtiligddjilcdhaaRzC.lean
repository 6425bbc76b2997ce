/- Texts of one kind, put together. -/
import Derived.Test.YtiligddjilcdhaaDskD
import Derived.Test.YtiligddjilcdhaaDoM
import Derived.Test.YtiligddjilcdhaaRzA
import Derived.Test.YtiligddjilcdhaaRzB
import Derived.Test.YtiligddjilcdhaaDskX
import Derived.Deep.DeepCutAuto
import Derived.Deep.RegionHeld3
import Derived.WalkKit
import Derived.ProofKit
import Derived.Below

/- A disk variable that is made, and filled later. -/
namespace Go.Proofs.Ytiligddjilcdhaa
open Go.RowKit Plain
set_option linter.unusedVariables false

/-- A block of three empty slices that may be written. -/
structure Plain.NZ (b : Nat) (V : World) : Prop where
  lt : b < V.heap.size
  c0 : V.cell? ⟨b, 0, none⟩ = some (.slice none 0 0)
  c1 : V.cell? ⟨b, 1, none⟩ = some (.slice none 0 0)
  c2 : V.cell? ⟨b, 2, none⟩ = some (.slice none 0 0)
  z0 : V.frozen? ⟨b, 0, none⟩ = false
  z1 : V.frozen? ⟨b, 1, none⟩ = false
  z2 : V.frozen? ⟨b, 2, none⟩ = false
theorem Plain.NZ.new (V : World) : NZ V.heap.size (V.alloc (.cells #[.slice none 0 0, .slice none 0 0, .slice none 0 0] 31)) := ⟨by simp, by simp [go_sem], by simp [go_sem], by simp [go_sem], by simp [go_sem], by simp [go_sem], by simp [go_sem]⟩
theorem Plain.NZ.newD (V : World) : NZ V.heap.size (V.alloc (.cells #[.slice none 0 0, .slice none 0 0, .slice none 0 0] 31)).drew := ⟨(NZ.new V).lt, (NZ.new V).c0, (NZ.new V).c1, (NZ.new V).c2, (NZ.new V).z0, (NZ.new V).z1, (NZ.new V).z2⟩
theorem Plain.NZ.below {b : Nat} {V V' : World} (h : NZ b V) (hb : Below V.heap.size V V') : NZ b V' :=
  ⟨Nat.lt_of_lt_of_le h.lt hb.size, bcl hb h.lt h.c0, bcl hb h.lt h.c1, bcl hb h.lt h.c2, (hb.frozen (p := ⟨b, 0, none⟩) h.lt).trans h.z0, (hb.frozen (p := ⟨b, 1, none⟩) h.lt).trans h.z1, (hb.frozen (p := ⟨b, 2, none⟩) h.lt).trans h.z2⟩
theorem Plain.DC.set {b : Nat} {V : World} (h : NZ b V) (v0 v1 v2 : Value) : DC b v0 v1 v2 (((V.setCell ⟨b, 0, none⟩ v0).setCell ⟨b, 1, none⟩ v1).setCell ⟨b, 2, none⟩ v2) := by
  have h0 : (V.setCell ⟨b, 0, none⟩ v0).cell? ⟨b, 0, none⟩ = some v0 := cell_set h.c0
  have h1 : ((V.setCell ⟨b, 0, none⟩ v0).setCell ⟨b, 1, none⟩ v1).cell? ⟨b, 1, none⟩ = some v1 := cell_set ((cell_off (.inr (by decide))).trans h.c1)
  refine ⟨by simpa using h.lt, (cell_off (.inr (by decide))).trans ((cell_off (.inr (by decide))).trans h0), (cell_off (.inr (by decide))).trans h1, cell_set ((cell_off (.inr (by decide))).trans ((cell_off (.inr (by decide))).trans h.c2))⟩
theorem Plain.keepD {B : Nat} {w X : World} {o : Obj} (h : Below B w X.drew) (hB : B ≤ w.heap.size) : Below B w (X.alloc o).drew := h.trans ((bel1 X.drew o).mono (Nat.le_trans hB h.size))
theorem Plain.keepE {B : Nat} {w X : World} {o : Obj} (h : Below B w X) (hB : B ≤ w.heap.size) : Below B w (X.alloc o) := h.trans ((bel1 X o).mono (Nat.le_trans hB h.size))
theorem RowAt.set3 {α : Type} {e : Elem α} {W : World} {a : Option Addr} {ys : List α} {b : Nat} {u0 u1 u2 : Value} (h : RowAt e W a ys) (hne : ∀ k, inB a k → k ≠ b) : RowAt e (((W.setCell ⟨b, 0, none⟩ u0).setCell ⟨b, 1, none⟩ u1).setCell ⟨b, 2, none⟩ u2) a ys := ((h.setO (.inr hne)).setO (.inr hne)).setO (.inr hne)
theorem act_bound (live safe : List Fl) (ops : List Dop) (o : Dop) {nL nS nO : Nat} (h1 : live.length = nL) (h2 : safe.length = nS) (h3 : ops.length = nO) (b1 : nL ≤ 1048576) (b2 : nS ≤ 1048576) (b3 : nO ≤ 1048576) : (actL live safe ops [o]).length ≤ 10000000 ∧ (actS live safe ops).length ≤ 10000000 ∧ (actO live safe ops [o]).length ≤ 10000000 := by
  refine ⟨?_, ?_, ?_⟩
  · unfold actL
    split
    · split
      · rename_i hd hz
        rw [goA] at hz ⊢
        split at hz
        · split at hz
          · split at hz
            · rename_i q1 q2 q3
              rw [if_pos q1, if_pos q2, if_pos q3, goA]
              rw [Bool.and_eq_true] at q3
              have := (files_small q3.2).1
              show (doF live o).1.length ≤ _
              omega
            · exact absurd hz (by decide)
          · exact absurd hz (by decide)
        · exact absurd hz (by decide)
      · omega
    · simp
  · unfold actS; split
    · omega
    · simp
  · unfold actO; split
    · split
      · simp; omega
      · omega
    · simp
theorem own3 {V : World} {B : Nat} {a1 a2 a3 : Option Addr} {n1 c1 n2 c2 n3 c3 : Nat} {f1 f2 : List Fl} {f3 : List Dop} (o1 : OwnR fileE V B (.slice a1 n1 c1) f1) (o2 : OwnR fileE V B (.slice a2 n2 c2) f2) (o3 : OwnR dopE V B (.slice a3 n3 c3) f3) : ∀ g, inD a1 a2 a3 g → B ≤ g ∧ g < V.heap.size := fun g hg => by
  rcases hg with h | h | h
  · exact o1.bl g h
  · exact o2.bl g h
  · exact o3.bl g h
end Go.Proofs.Ytiligddjilcdhaa


/- A file replaced, by the specification. -/
namespace Go.Proofs.Ytiligddjilcdhaa
open Go.RowKit Plain
set_option linter.unusedVariables false

namespace Plain
theorem goA_cons (fs : List Fl) (n : Nat) (o : Dop) (l : List Dop) : goA fs n (o :: l) = if (goA fs n [o]).1 = 0 then goA (goA fs n [o]).2 (n + 1) l else ((goA fs n [o]).1, []) := by
  simp only [goA]
  split
  · split
    · split
      · simp
      · simp
    · simp
  · simp
theorem goA_one {fs : List Fl} {n : Nat} {o : Dop} (h : (goA fs n [o]).1 = 0) : n < 200 ∧ filesB (goA fs n [o]).2 = true := by
  simp only [goA] at h ⊢
  split at h
  · split at h
    · split at h
      · rename_i h1 h2 h3
        simp only [Bool.and_eq_true, decide_eq_true_eq] at h3
        rw [if_pos h1, if_pos h2, if_pos (by simp [h3.1, h3.2])]
        exact h3
      · simp at h
    · simp at h
  · simp at h
/-- The block nb holds a disk that is being made. -/
structure NowAt (W : World) (nb : Nat) (aL : Option Addr) (cL : Nat) (live : List Fl) (aS : Option Addr) (cS : Nat) (safe : List Fl) (aO : Option Addr) (cO : Nat) (ops : List Dop) : Prop where
  dk : DiskAt W aL live.length cL live aS safe.length cS safe aO ops.length cO ops
  lt : nb < W.heap.size
  c0 : W.cell? ⟨nb, 0, none⟩ = some (.slice aL live.length cL)
  c1 : W.cell? ⟨nb, 1, none⟩ = some (.slice aS safe.length cS)
  c2 : W.cell? ⟨nb, 2, none⟩ = some (.slice aO ops.length cO)
  z0 : W.frozen? ⟨nb, 0, none⟩ = false
  z1 : W.frozen? ⟨nb, 1, none⟩ = false
  z2 : W.frozen? ⟨nb, 2, none⟩ = false
theorem NowAt.next {W w' : World} {nb : Nat} {aL aS aO aL' aS' aO' : Option Addr} {cL cS cO cL' cS' cO' : Nat} {live safe live' : List Fl} {ops ops' : List Dop} (h : NowAt W nb aL cL live aS cS safe aO cO ops) (hb : Below W.heap.size W w')
    (r1 : RowAt fileE w' aL' live') (r2 : RowAt fileE w' aS' safe) (r3 : RowAt dopE w' aO' ops') (ad : AdOk aL' cL' ∧ AdOk aS' cS' ∧ AdOk aO' cO') (m1 : ∀ k, inB aL' k → W.heap.size ≤ k) (m2 : ∀ k, inB aS' k → W.heap.size ≤ k) (m3 : ∀ k, inB aO' k → W.heap.size ≤ k)
    (f1 : FitF live') (fo : ∀ o ∈ ops', SmO o) (l1 : live'.length ≤ 1048576) (l3 : ops'.length ≤ 1048576) :
    NowAt (((w'.setCell ⟨nb, 0, none⟩ (.slice aL' live'.length cL')).setCell ⟨nb, 1, none⟩ (.slice aS' safe.length cS')).setCell ⟨nb, 2, none⟩ (.slice aO' ops'.length cO')) nb aL' cL' live' aS' cS' safe aO' cO' ops' := by
  have hl := h.lt
  have h0 := bcl hb hl h.c0
  have h1 := bcl hb hl h.c1
  have h2 := bcl hb hl h.c2
  have k0 : (w'.setCell ⟨nb, 0, none⟩ (.slice aL' live'.length cL')).cell? ⟨nb, 0, none⟩ = some (.slice aL' live'.length cL') := cell_set h0
  have k1 : ((w'.setCell ⟨nb, 0, none⟩ (.slice aL' live'.length cL')).setCell ⟨nb, 1, none⟩ (.slice aS' safe.length cS')).cell? ⟨nb, 1, none⟩ = some (.slice aS' safe.length cS') := cell_set ((cell_off (.inr (by decide))).trans h1)
  have e1 : ∀ k, inB aL' k → k ≠ nb := fun k hk => by have := m1 k hk; omega
  have e2 : ∀ k, inB aS' k → k ≠ nb := fun k hk => by have := m2 k hk; omega
  have e3 : ∀ k, inB aO' k → k ≠ nb := fun k hk => by have := m3 k hk; omega
  refine ⟨⟨r1.set3 e1, r2.set3 e2, r3.set3 e3, rfl, rfl, rfl, ad.1, ad.2.1, ad.2.2, f1, h.dk.fs, fo, l1, h.dk.bs, l3⟩, by simpa using Nat.lt_of_lt_of_le hl hb.size, (cell_off (.inr (by decide))).trans ((cell_off (.inr (by decide))).trans k0), (cell_off (.inr (by decide))).trans k1, cell_set ((cell_off (.inr (by decide))).trans ((cell_off (.inr (by decide))).trans h2)), ?_, ?_, ?_⟩
  · simp only [World.frozen?_setCell]; exact (hb.frozen (p := ⟨nb, 0, none⟩) hl).trans h.z0
  · simp only [World.frozen?_setCell]; exact (hb.frozen (p := ⟨nb, 1, none⟩) hl).trans h.z1
  · simp only [World.frozen?_setCell]; exact (hb.frozen (p := ⟨nb, 2, none⟩) hl).trans h.z2
theorem bel3 {B nb : Nat} {w w' : World} {v0 v1 v2 : Value} (h : Below B w w') (hn : B ≤ nb) : Below B w (((w'.setCell ⟨nb, 0, none⟩ v0).setCell ⟨nb, 1, none⟩ v1).setCell ⟨nb, 2, none⟩ v2) := ((h.setCell hn _).setCell hn _).setCell hn _
theorem spcRet0 {f : Value → Value} {w w7 : World} {rb : Nat} {y1 y2 y3 : Option Addr} {k1 k2 k3 : Nat} {live safe : List Fl} {ops : List Dop} (h1 : RowAt fileE w7 y1 live) (h2 : RowAt fileE w7 y2 safe) (h3 : RowAt dopE w7 y3 ops) (had : AdOk y1 k1 ∧ AdOk y2 k2 ∧ AdOk y3 k3) (m1 : ∀ k, inB y1 k → rb < k) (m2 : ∀ k, inB y2 k → rb < k) (m3 : ∀ k, inB y3 k → rb < k)
    (hrb : w.heap.size ≤ rb) (hb : Below w.heap.size w w7) : SpcQ f live safe ops w (.returned (f (.agg #[.slice y1 live.length k1, .slice y2 safe.length k2, .slice y3 ops.length k3]))) (((w7.setCell ⟨rb, 0, none⟩ (.slice y1 live.length k1)).setCell ⟨rb, 1, none⟩ (.slice y2 safe.length k2)).setCell ⟨rb, 2, none⟩ (.slice y3 ops.length k3)) :=
  spcRetQ h1 h2 h3 had (fun k hk => by have := m1 k hk; omega) (fun k hk => by have := m2 k hk; omega) (fun k hk => by have := m3 k hk; omega) hrb hb
end Plain

theorem Plain.strAddR {a b : ByteArray} (W : World) (h : a.size + b.size ≤ 1000000000000) : (Op.stringOp .add a b).run Try.prog W = .ok (.string (a ++ b)) W := by
  have h1 : ¬ ((a.size + b.size : Nat) : Int) > IntKind.i64.max := by rw [show IntKind.i64.max = 9223372036854775807 from rfl]; omega
  unfold Op.stringOp
  simp only [if_neg h1]
  rfl

set_option maxRecDepth 10000 in
set_option maxHeartbeats 16000000 in
theorem spec_Replace (a1 : Option Addr) (nL cL : Nat) (live : List Fl) (a2 : Option Addr) (nS cS : Nat) (safe : List Fl) (a3 : Option Addr) (nO cO : Nat) (ops : List Dop) (nm dt fr : ByteArray) (w : World) (h : DiskAt w a1 nL cL live a2 nS cS safe a3 nO cO ops) (hnm : nm.size ≤ 100000000) (hdt : dt.size ≤ 100000000) (hfr : nm ++ ⟨#[46, 110, 101, 119]⟩ = fr) :
    Calls Try.prog 15 #[.agg #[.slice a1 nL cL, .slice a2 nS cS, .slice a3 nO cO], .string nm, .string dt] w (SpcQ (fun v => .tuple #[v, .int .i64 (actC live safe ops (repX live safe ops fr nm dt))]) (actL live safe ops (repX live safe ops fr nm dt)) (actS live safe ops) (actO live safe ops (repX live safe ops fr nm dt)) w) := by
  have hfz : fr.size ≤ 100000004 := by rw [← hfr, ByteArray.size_append]; show nm.size + 4 ≤ _; omega
  have hll := h.ll
  have hls := h.ls
  have hlo := h.lo
  subst hll hls hlo
  obtain ⟨Wa, hWa⟩ : ∃ Wa, Wa = w.alloc (.cells #[.slice a1 live.length cL, .slice a2 safe.length cS, .slice a3 ops.length cO] 31) := ⟨_, rfl⟩
  obtain ⟨W0, hW0⟩ : ∃ W0, W0 = Wa.alloc (.cells #[.slice none 0 0, .slice none 0 0, .slice none 0 0] 31) := ⟨_, rfl⟩
  have hba : Below w.heap.size w Wa := by rw [hWa]; exact bel1 _ _
  have hsa : Wa.heap.size = w.heap.size + 1 := by rw [hWa]; simp
  have hs0 : W0.heap.size = w.heap.size + 2 := by rw [hW0]; simp [hsa]
  have hb0 : Below Wa.heap.size Wa W0 := by rw [hW0]; exact bel1 _ _
  have c0 : W0.cell? ⟨w.heap.size, 0, none⟩ = some (.slice a1 live.length cL) := bcl hb0 (by omega) (by rw [hWa]; simp [go_sem])
  have c1 : W0.cell? ⟨w.heap.size, 1, none⟩ = some (.slice a2 safe.length cS) := bcl hb0 (by omega) (by rw [hWa]; simp [go_sem])
  have c2 : W0.cell? ⟨w.heap.size, 2, none⟩ = some (.slice a3 ops.length cO) := bcl hb0 (by omega) (by rw [hWa]; simp [go_sem])
  have hr : ∀ i, i < 3 → W0.cell? ⟨w.heap.size + 1, i, none⟩ = some (.slice none 0 0) ∧ W0.frozen? ⟨w.heap.size + 1, i, none⟩ = false := by
    intro i hi
    rw [hW0, ← hsa]
    rcases i with _ | _ | _ | i
    all_goals first | omega | simp [go_sem]
  have HC := hide (fun (W : World) (hW : Below W0.heap.size W0 W) => And.intro (bcl hW (show w.heap.size < W0.heap.size by omega) c0) (And.intro (bcl hW (show w.heap.size < W0.heap.size by omega) c1) (bcl hW (show w.heap.size < W0.heap.size by omega) c2)))
  have HR := hide (fun (W : World) (hW : Below W0.heap.size W0 W) (i : Nat) (hi : i < 3) => And.intro (bcl hW (show w.heap.size + 1 < W0.heap.size by omega) (hr i hi).1) ((hW.frozen (p := ⟨w.heap.size + 1, i, none⟩) (show w.heap.size + 1 < W0.heap.size by omega)).trans (hr i hi).2))
  have HFIN := hide (fun (W : World) (hW : Below W0.heap.size W0 W) => belOn (belOn hba hb0) hW)
  have HD := hide (fun (W : World) (hW : Below W0.heap.size W0 W) => (h.below (belOn hba hb0)).below hW)
  have HW0 := hide (show (w.alloc (.cells #[.slice a1 live.length cL, .slice a2 safe.length cS, .slice a3 ops.length cO] 31)).alloc (.cells #[.slice none 0 0, .slice none 0 0, .slice none 0 0] 31) = W0 from by rw [hW0, hWa])
  have HS0 := hide hs0
  have HOK := hide (spec_DiskOk a1 live.length cL live a2 safe.length cS safe a3 ops.length cO ops W0 (unhide HD _ (Below.refl _ _)))
  have HCP := hide (fun (W : World) (hW : Below W0.heap.size W0 W) => l4Copy_calls a1 live.length cL live a2 safe.length cS safe a3 ops.length cO ops W (unhide HD _ hW))
  have sm_x : SmO ⟨1, fr, ⟨#[]⟩, dt⟩ := ⟨by show fr.size ≤ _; omega, by show (0 : Nat) ≤ _; omega, by show dt.size ≤ _; omega⟩
  have sm_y : SmO ⟨2, fr, nm, ⟨#[]⟩⟩ := ⟨by show fr.size ≤ _; omega, by show nm.size ≤ _; omega, by show (0 : Nat) ≤ _; omega⟩
  have sm_r : SmO ⟨3, fr, ⟨#[]⟩, ⟨#[]⟩⟩ := ⟨by show fr.size ≤ _; omega, by show (0 : Nat) ≤ _; omega, by show (0 : Nat) ≤ _; omega⟩
  have hadd := fun W => strAddR (a := nm) (b := ⟨#[46, 110, 101, 119]⟩) W (by show nm.size + 4 ≤ _; omega)
  rw [hfr] at hadd
  have HFO := hide h.fo
  have hbo := h.bo
  have hbl := h.bl
  unfold repX readF actC actL actS actO
  cases hd : diskB live safe ops with
  | false =>
    rw [hd] at HOK
    simp only [Bool.false_eq_true, if_false]
    clear hba hb0 hWa hW0 hr h hsa hs0 hd hadd
    go_enter Try.func15, Try.ntmps15
    go_wp2_with fail
    rw [unhide HW0]
    refine (unhide HOK).mono ?_
    rintro e w1 ⟨rfl, hb1⟩
    have HB1 := hide hb1
    obtain ⟨r0, z0⟩ := unhide HR _ hb1 0 (by decide)
    obtain ⟨r1, z1⟩ := unhide HR _ hb1 1 (by decide)
    obtain ⟨r2, z2⟩ := unhide HR _ hb1 2 (by decide)
    clear hb1 c0 c1 c2
    go_wp2_with fail
    refine bodyPost_ret (v := .tuple #[.agg #[.slice none 0 0, .slice none 0 0, .slice none 0 0], .int .i64 1]) (by simp [results, Try.results15, go_sem, r0, r1, r2]) rfl ?_
    exact spcRet0 (live := []) (safe := []) (ops := []) (rb := w.heap.size + 1) (rowNil2 _ _ _) (rowNil2 _ _ _) (rowNil2 _ _ _) ⟨.inl ⟨rfl, rfl⟩, .inl ⟨rfl, rfl⟩, .inl ⟨rfl, rfl⟩⟩ (fun k ⟨o, e⟩ => by cases e) (fun k ⟨o, e⟩ => by cases e) (fun k ⟨o, e⟩ => by cases e) (by omega) (unhide HFIN _ (unhide HB1))
  | true =>
    have hfs := disk_liv2 hd
    have hO2 : ops.length ≤ 200 := by
      have hd2 := hd
      unfold diskB at hd2
      simp only [Bool.and_eq_true, decide_eq_true_eq] at hd2
      omega
    rw [hd] at HOK
    have HRI := hide (files_ok hfs).2
    have hln := (files_small hfs).1
    have HA := hide (fun (W : World) (hW : Below W0.heap.size W0 W) => l4At_calls a1 live.length cL live fr W rfl (by omega) (unhide HD _ hW).rl)
    simp only [if_true]
    have NB := fun (V : World) (hV : Below W0.heap.size W0 V) => (show NowAt (V.alloc (.cells #[.slice a1 live.length cL, .slice a2 safe.length cS, .slice a3 ops.length cO] 31)) V.heap.size a1 cL live a2 cS safe a3 cO ops from ⟨(unhide HD V hV).below (bel1 _ _), by simp, by simp [go_sem], by simp [go_sem], by simp [go_sem], by simp [go_sem], by simp [go_sem], by simp [go_sem]⟩)
    have HNB := hide NB
    clear NB
    cases ha : atF fr live with
    | none =>
      have hxs : (if (tabF live fr).isSome = true then [(⟨3, fr, ⟨#[]⟩, ⟨#[]⟩⟩ : Dop), ⟨1, fr, ⟨#[]⟩, dt⟩, ⟨2, fr, nm, ⟨#[]⟩⟩] else [⟨1, fr, ⟨#[]⟩, dt⟩, ⟨2, fr, nm, ⟨#[]⟩⟩]) = [⟨1, fr, ⟨#[]⟩, dt⟩, ⟨2, fr, nm, ⟨#[]⟩⟩] := by rw [tab_at_none (unhide HRI) ha]; rfl
      rw [ha] at HA
      have HAV : atV none = -1 := rfl
      rw [HAV] at HA
      rw [hxs]
      obtain ⟨G, hG⟩ : ∃ G, goA live ops.length [⟨1, fr, ⟨#[]⟩, dt⟩, ⟨2, fr, nm, ⟨#[]⟩⟩] = G := ⟨_, rfl⟩
      rw [hG]
      obtain ⟨PC, hPC⟩ : ∃ x, G.1 = x := ⟨_, rfl⟩
      obtain ⟨PL, hPL⟩ : ∃ x, (if G.1 = 0 then G.2 else live) = x := ⟨_, rfl⟩
      obtain ⟨PO, hPO⟩ : ∃ x, (if G.1 = 0 then ops ++ [⟨1, fr, ⟨#[]⟩, dt⟩, ⟨2, fr, nm, ⟨#[]⟩⟩] else ops) = x := ⟨_, rfl⟩
      rw [hPL, hPO, hPC]
      have HP := hide (And.intro hPC (And.intro hPL hPO))
      clear hPC hPL hPO
      have HG0 := hide hG.symm
      have HF0 := hide hfs
      have HO0 := hide hO2
      clear hba hb0 hWa hW0 hr h hsa hs0 hd ha hxs hfs hO2 hln hG
      go_enter Try.func15, Try.ntmps15
      go_wp2_with fail
      rw [unhide HW0]
      refine (unhide HOK).mono ?_
      rintro e w1 ⟨rfl, hb1⟩
      obtain ⟨V0, hV0⟩ : ∃ V, V = w1.alloc (.cells #[.slice a1 live.length cL, .slice a2 safe.length cS, .slice a3 ops.length cO] 31) := ⟨_, rfl⟩
      have HB0 := hide (show Below W0.heap.size W0 V0 from by rw [hV0]; exact belOn hb1 (bel1 _ _))
      have HN0 := hide (show NowAt V0 w1.heap.size a1 cL live a2 cS safe a3 cO ops from by rw [hV0]; exact unhide HNB w1 hb1)
      have HNW := hide (show W0.heap.size ≤ w1.heap.size from hb1.size)
      have hne : ¬ w1.heap.size = w.heap.size := by have := hb1.size; have := unhide HS0; omega
      obtain ⟨q0, q1, q2⟩ := unhide HC _ hb1
      have lq := lt_of_cell q0
      have s0 := bcl (bel1 w1 (.cells #[.slice a1 live.length cL, .slice a2 safe.length cS, .slice a3 ops.length cO] 31)) lq q0
      have HV0 := hide hV0.symm
      clear hb1 hV0
      go_wp2_with fail
      rw [unhide HV0]
      refine (unhide HA _ (unhide HB0)).mono ?_
      rintro e w2 ⟨rfl, rfl⟩
      clear q0 q1 q2 s0
      have k0 := (unhide HN0).c0
      have k1 := (unhide HN0).c1
      have k2 := (unhide HN0).c2
      go_wp2_with fail
      clear k0 k1 k2
      have HAC := hide (l4Act_calls _ _ _ live _ _ _ safe _ _ _ ops 1 fr ⟨#[]⟩ dt V0 (unhide HN0).dk (unhide HF0) (unhide HO0) sm_x)
      have hG1 := (unhide HG0).trans (goA_cons live (ops).length ⟨1, fr, ⟨#[]⟩, dt⟩ [⟨2, fr, nm, ⟨#[]⟩⟩])
      by_cases hc : (goA live (ops).length [⟨1, fr, ⟨#[]⟩, dt⟩]).1 = 0
      · obtain ⟨-, hf1⟩ := goA_one hc
        have hn1 := (goA_one hc).1
        obtain ⟨L1, hL1⟩ : ∃ x, (goA live (ops).length [⟨1, fr, ⟨#[]⟩, dt⟩]).2 = x := ⟨_, rfl⟩
        rw [if_pos hc, hL1] at hG1
        rw [hL1] at hf1
        rw [hc, hL1, if_pos rfl, if_pos rfl] at HAC
        obtain ⟨P1, hP1⟩ : ∃ x, (ops ++ [(⟨1, fr, ⟨#[]⟩, dt⟩ : Dop)]) = x := ⟨_, rfl⟩
        rw [hP1] at HAC
        have hlP : P1.length = (ops).length + 1 := by rw [← hP1, List.length_append]; rfl
        have HG1 := hide (show G = goA L1 P1.length [⟨2, fr, nm, ⟨#[]⟩⟩] from by rw [hlP]; exact hG1)
        have HF1 := hide hf1
        have HO1 := hide (show P1.length ≤ 200 from by rw [hlP]; exact hn1)
        have HE1 := hide hP1
        have HLP := hide hlP
        clear hlP
        refine (unhide HAC).mono ?_
        rintro e v1 ⟨aL1, cL1, aS1, cS1, aO1, cO1, rfl, o1, o2, o3, ad, m1, m2, m3, hb⟩
        have y0 := bcl hb (unhide HN0).lt (unhide HN0).c0
        have y1 := bcl hb (unhide HN0).lt (unhide HN0).c1
        have y2 := bcl hb (unhide HN0).lt (unhide HN0).c2
        have x0 := (hb.frozen (p := ⟨w1.heap.size, 0, none⟩) (unhide HN0).lt).trans (unhide HN0).z0
        have x1 := (hb.frozen (p := ⟨w1.heap.size, 1, none⟩) (unhide HN0).lt).trans (unhide HN0).z1
        have x2 := (hb.frozen (p := ⟨w1.heap.size, 2, none⟩) (unhide HN0).lt).trans (unhide HN0).z2
        obtain ⟨q0, q1, q2⟩ := unhide HC _ (belOn (unhide HB0) hb)
        obtain ⟨V1, hV1⟩ : ∃ V, V = ((v1.setCell ⟨w1.heap.size, 0, none⟩ (.slice aL1 (L1).length cL1)).setCell ⟨w1.heap.size, 1, none⟩ (.slice aS1 safe.length cS1)).setCell ⟨w1.heap.size, 2, none⟩ (.slice aO1 (P1).length cO1) := ⟨_, rfl⟩
        have HB1 := hide (show Below W0.heap.size W0 V1 from by rw [hV1]; exact bel3 (belOn (unhide HB0) hb) (unhide HNW))
        have HN1 := hide (show NowAt V1 w1.heap.size aL1 cL1 L1 aS1 cS1 safe aO1 cO1 P1 from by
          rw [hV1]
          exact (unhide HN0).next hb o1 o2 o3 ad m1 m2 m3 (small_fit hf1) (fun x hx => by
            rw [← unhide HE1] at hx
            rcases List.mem_append.1 hx with hx | hx
            · exact (unhide HN0).dk.fo x hx
            · obtain rfl := List.mem_singleton.1 hx; exact sm_x) (by have := (files_small hf1).1; omega) (by have := unhide HLP; omega))
        have HV1 := hide hV1.symm
        clear hV1 o1 o2 o3 ad m1 m2 m3 hb hL1 hf1 hn1 hG1 hc HAC hP1 HLP
        go_wp2_with fail
        rw [unhide HV1]
        clear y0 y1 y2 x0 x1 x2 q0 q1 q2
        have HAC := hide (l4Act_calls _ _ _ L1 _ _ _ safe _ _ _ P1 2 fr nm ⟨#[]⟩ V1 (unhide HN1).dk (unhide HF1) (unhide HO1) sm_y)
        have hG2 := (unhide HG1).trans (goA_cons L1 (P1).length ⟨2, fr, nm, ⟨#[]⟩⟩ [])
        by_cases hc : (goA L1 (P1).length [⟨2, fr, nm, ⟨#[]⟩⟩]).1 = 0
        · obtain ⟨-, hf2⟩ := goA_one hc
          have hn2 := (goA_one hc).1
          obtain ⟨L2, hL2⟩ : ∃ x, (goA L1 (P1).length [⟨2, fr, nm, ⟨#[]⟩⟩]).2 = x := ⟨_, rfl⟩
          rw [if_pos hc, hL2] at hG2
          rw [hL2] at hf2
          rw [hc, hL2, if_pos rfl, if_pos rfl] at HAC
          obtain ⟨P2, hP2⟩ : ∃ x, (P1 ++ [(⟨2, fr, nm, ⟨#[]⟩⟩ : Dop)]) = x := ⟨_, rfl⟩
          rw [hP2] at HAC
          have hlP : P2.length = (P1).length + 1 := by rw [← hP2, List.length_append]; rfl
          have HG2 := hide (show G = goA L2 P2.length [] from by rw [hlP]; exact hG2)
          have HF2 := hide hf2
          have HO2 := hide (show P2.length ≤ 200 from by rw [hlP]; exact hn2)
          have HE2 := hide hP2
          have HLP := hide hlP
          clear hlP
          refine (unhide HAC).mono ?_
          rintro e v2 ⟨aL2, cL2, aS2, cS2, aO2, cO2, rfl, o1, o2, o3, ad, m1, m2, m3, hb⟩
          have y0 := bcl hb (unhide HN1).lt (unhide HN1).c0
          have y1 := bcl hb (unhide HN1).lt (unhide HN1).c1
          have y2 := bcl hb (unhide HN1).lt (unhide HN1).c2
          have x0 := (hb.frozen (p := ⟨w1.heap.size, 0, none⟩) (unhide HN1).lt).trans (unhide HN1).z0
          have x1 := (hb.frozen (p := ⟨w1.heap.size, 1, none⟩) (unhide HN1).lt).trans (unhide HN1).z1
          have x2 := (hb.frozen (p := ⟨w1.heap.size, 2, none⟩) (unhide HN1).lt).trans (unhide HN1).z2
          obtain ⟨q0, q1, q2⟩ := unhide HC _ (belOn (unhide HB1) hb)
          obtain ⟨V2, hV2⟩ : ∃ V, V = ((v2.setCell ⟨w1.heap.size, 0, none⟩ (.slice aL2 (L2).length cL2)).setCell ⟨w1.heap.size, 1, none⟩ (.slice aS2 safe.length cS2)).setCell ⟨w1.heap.size, 2, none⟩ (.slice aO2 (P2).length cO2) := ⟨_, rfl⟩
          have HB2 := hide (show Below W0.heap.size W0 V2 from by rw [hV2]; exact bel3 (belOn (unhide HB1) hb) (unhide HNW))
          have HN2 := hide (show NowAt V2 w1.heap.size aL2 cL2 L2 aS2 cS2 safe aO2 cO2 P2 from by
            rw [hV2]
            exact (unhide HN1).next hb o1 o2 o3 ad m1 m2 m3 (small_fit hf2) (fun x hx => by
              rw [← unhide HE2] at hx
              rcases List.mem_append.1 hx with hx | hx
              · exact (unhide HN1).dk.fo x hx
              · obtain rfl := List.mem_singleton.1 hx; exact sm_y) (by have := (files_small hf2).1; omega) (by have := unhide HLP; omega))
          have HV2 := hide hV2.symm
          clear hV2 o1 o2 o3 ad m1 m2 m3 hb hL2 hf2 hn2 hG2 hc HAC hP2 HLP
          go_wp2_with fail
          rw [unhide HV2]
          clear y0 y1 y2 x0 x1 x2 q0 q1 q2
          refine (l4Copy_calls _ _ _ _ _ _ _ _ _ _ _ _ V2 (unhide HN2).dk).mono ?_
          rintro e wf ⟨xL, iL, xS, iS, xO, iO, B3, rfl, o1, o2, o3, ad, -, -, -, -, m1, m2, m3, hbf⟩
          have HBf := hide (belOn (unhide HB2) hbf)
          have HOf := hide (And.intro o1 (And.intro o2 (And.intro o3 (And.intro ad (And.intro m1 (And.intro m2 m3))))))
          obtain ⟨r0, z0⟩ := unhide HR _ (unhide HBf) 0 (by decide)
          obtain ⟨r1, z1⟩ := unhide HR _ (unhide HBf) 1 (by decide)
          obtain ⟨r2, z2⟩ := unhide HR _ (unhide HBf) 2 (by decide)
          have hzk := (unhide HB2).size
          clear o1 o2 o3 ad m1 m2 m3 hbf
          go_wp2_with fail
          refine bodyPost_ret (v := .tuple #[.agg #[.slice xL (L2).length iL, .slice xS safe.length iS, .slice xO (P2).length iO], .int .i64 0]) (by simp [results, Try.results15, go_sem, r0, r1, r2]) rfl ?_
          obtain ⟨o1, o2, o3, ad, m1, m2, m3⟩ := unhide HOf
          have hs0 := unhide HS0
          have hG : G = (0, L2) := unhide HG2
          obtain ⟨e1, e2, e3⟩ := unhide HP
          rw [hG] at e1 e2 e3
          have e1' : PC = 0 := e1.symm
          have e2' : PL = L2 := e2.symm
          have e3' : PO = P2 := e3.symm.trans (by rw [← unhide HE2, ← unhide HE1]; simp)
          subst e1' e2' e3'
          exact spcRet0 (rb := w.heap.size + 1) o1 o2 o3 ad (fun k hk => by have := m1 k hk; omega) (fun k hk => by have := (m2 k hk).1; omega) (fun k hk => by have := (m3 k hk).1; omega) (by omega) (unhide HFIN _ (unhide HBf))
        · obtain ⟨C, hC⟩ : ∃ x, (goA L1 (P1).length [⟨2, fr, nm, ⟨#[]⟩⟩]).1 = x := ⟨_, rfl⟩
          rw [if_neg hc, hC] at hG2
          rw [hC] at hc HAC
          rw [if_neg hc, if_neg hc] at HAC
          have HG2 := hide (show G = (C, []) from hG2)
          have HNZ := hide hc
          have hcb : (C == (0 : Int)) = false := by rw [beq_eq_false_iff_ne]; exact hc
          refine (unhide HAC).mono ?_
          rintro e v2 ⟨aL2, cL2, aS2, cS2, aO2, cO2, rfl, o1, o2, o3, ad, m1, m2, m3, hb⟩
          have y0 := bcl hb (unhide HN1).lt (unhide HN1).c0
          have y1 := bcl hb (unhide HN1).lt (unhide HN1).c1
          have y2 := bcl hb (unhide HN1).lt (unhide HN1).c2
          have x0 := (hb.frozen (p := ⟨w1.heap.size, 0, none⟩) (unhide HN1).lt).trans (unhide HN1).z0
          have x1 := (hb.frozen (p := ⟨w1.heap.size, 1, none⟩) (unhide HN1).lt).trans (unhide HN1).z1
          have x2 := (hb.frozen (p := ⟨w1.heap.size, 2, none⟩) (unhide HN1).lt).trans (unhide HN1).z2
          obtain ⟨q0, q1, q2⟩ := unhide HC _ (belOn (unhide HB1) hb)
          obtain ⟨V2, hV2⟩ : ∃ V, V = ((v2.setCell ⟨w1.heap.size, 0, none⟩ (.slice aL2 (L1).length cL2)).setCell ⟨w1.heap.size, 1, none⟩ (.slice aS2 safe.length cS2)).setCell ⟨w1.heap.size, 2, none⟩ (.slice aO2 (P1).length cO2) := ⟨_, rfl⟩
          have HB2 := hide (show Below W0.heap.size W0 V2 from by rw [hV2]; exact bel3 (belOn (unhide HB1) hb) (unhide HNW))
          have HV2 := hide hV2.symm
          clear hV2 o1 o2 o3 ad m1 m2 m3 hb hG2 hC HAC
          go_wp2_with fail
          rw [unhide HV2]
          clear y0 y1 y2 x0 x1 x2 q0 q1 q2
          refine (unhide HCP _ (unhide HB2)).mono ?_
          rintro e wf ⟨xL, iL, xS, iS, xO, iO, B3, rfl, o1, o2, o3, ad, -, -, -, -, m1, m2, m3, hbf⟩
          have HBf := hide (belOn (unhide HB2) hbf)
          have HOf := hide (And.intro o1 (And.intro o2 (And.intro o3 (And.intro ad (And.intro m1 (And.intro m2 m3))))))
          obtain ⟨r0, z0⟩ := unhide HR _ (unhide HBf) 0 (by decide)
          obtain ⟨r1, z1⟩ := unhide HR _ (unhide HBf) 1 (by decide)
          obtain ⟨r2, z2⟩ := unhide HR _ (unhide HBf) 2 (by decide)
          have hzk := (unhide HB2).size
          clear o1 o2 o3 ad m1 m2 m3 hbf
          go_wp2_with fail
          refine bodyPost_ret (v := .tuple #[.agg #[.slice xL (live).length iL, .slice xS safe.length iS, .slice xO (ops).length iO], .int .i64 C]) (by simp [results, Try.results15, go_sem, r0, r1, r2]) rfl ?_
          obtain ⟨o1, o2, o3, ad, m1, m2, m3⟩ := unhide HOf
          have hs0 := unhide HS0
          have hG := unhide HG2
          obtain ⟨e1, e2, e3⟩ := unhide HP
          rw [hG] at e1 e2 e3
          have e1' : PC = C := e1.symm
          have e2' : PL = live := e2.symm.trans (if_neg (unhide HNZ))
          have e3' : PO = ops := e3.symm.trans (if_neg (unhide HNZ))
          subst e1' e2' e3'
          exact spcRet0 (rb := w.heap.size + 1) o1 o2 o3 ad (fun k hk => by have := m1 k hk; omega) (fun k hk => by have := (m2 k hk).1; omega) (fun k hk => by have := (m3 k hk).1; omega) (by omega) (unhide HFIN _ (unhide HBf))
      · obtain ⟨C, hC⟩ : ∃ x, (goA live (ops).length [⟨1, fr, ⟨#[]⟩, dt⟩]).1 = x := ⟨_, rfl⟩
        rw [if_neg hc, hC] at hG1
        rw [hC] at hc HAC
        rw [if_neg hc, if_neg hc] at HAC
        have HG1 := hide (show G = (C, []) from hG1)
        have HNZ := hide hc
        have hcb : (C == (0 : Int)) = false := by rw [beq_eq_false_iff_ne]; exact hc
        refine (unhide HAC).mono ?_
        rintro e v1 ⟨aL1, cL1, aS1, cS1, aO1, cO1, rfl, o1, o2, o3, ad, m1, m2, m3, hb⟩
        have y0 := bcl hb (unhide HN0).lt (unhide HN0).c0
        have y1 := bcl hb (unhide HN0).lt (unhide HN0).c1
        have y2 := bcl hb (unhide HN0).lt (unhide HN0).c2
        have x0 := (hb.frozen (p := ⟨w1.heap.size, 0, none⟩) (unhide HN0).lt).trans (unhide HN0).z0
        have x1 := (hb.frozen (p := ⟨w1.heap.size, 1, none⟩) (unhide HN0).lt).trans (unhide HN0).z1
        have x2 := (hb.frozen (p := ⟨w1.heap.size, 2, none⟩) (unhide HN0).lt).trans (unhide HN0).z2
        obtain ⟨q0, q1, q2⟩ := unhide HC _ (belOn (unhide HB0) hb)
        obtain ⟨V1, hV1⟩ : ∃ V, V = ((v1.setCell ⟨w1.heap.size, 0, none⟩ (.slice aL1 (live).length cL1)).setCell ⟨w1.heap.size, 1, none⟩ (.slice aS1 safe.length cS1)).setCell ⟨w1.heap.size, 2, none⟩ (.slice aO1 (ops).length cO1) := ⟨_, rfl⟩
        have HB1 := hide (show Below W0.heap.size W0 V1 from by rw [hV1]; exact bel3 (belOn (unhide HB0) hb) (unhide HNW))
        have HV1 := hide hV1.symm
        clear hV1 o1 o2 o3 ad m1 m2 m3 hb hG1 hC HAC
        go_wp2_with fail
        rw [unhide HV1]
        clear y0 y1 y2 x0 x1 x2 q0 q1 q2
        refine (unhide HCP _ (unhide HB1)).mono ?_
        rintro e wf ⟨xL, iL, xS, iS, xO, iO, B3, rfl, o1, o2, o3, ad, -, -, -, -, m1, m2, m3, hbf⟩
        have HBf := hide (belOn (unhide HB1) hbf)
        have HOf := hide (And.intro o1 (And.intro o2 (And.intro o3 (And.intro ad (And.intro m1 (And.intro m2 m3))))))
        obtain ⟨r0, z0⟩ := unhide HR _ (unhide HBf) 0 (by decide)
        obtain ⟨r1, z1⟩ := unhide HR _ (unhide HBf) 1 (by decide)
        obtain ⟨r2, z2⟩ := unhide HR _ (unhide HBf) 2 (by decide)
        have hzk := (unhide HB1).size
        clear o1 o2 o3 ad m1 m2 m3 hbf
        go_wp2_with fail
        refine bodyPost_ret (v := .tuple #[.agg #[.slice xL (live).length iL, .slice xS safe.length iS, .slice xO (ops).length iO], .int .i64 C]) (by simp [results, Try.results15, go_sem, r0, r1, r2]) rfl ?_
        obtain ⟨o1, o2, o3, ad, m1, m2, m3⟩ := unhide HOf
        have hs0 := unhide HS0
        have hG := unhide HG1
        obtain ⟨e1, e2, e3⟩ := unhide HP
        rw [hG] at e1 e2 e3
        have e1' : PC = C := e1.symm
        have e2' : PL = live := e2.symm.trans (if_neg (unhide HNZ))
        have e3' : PO = ops := e3.symm.trans (if_neg (unhide HNZ))
        subst e1' e2' e3'
        exact spcRet0 (rb := w.heap.size + 1) o1 o2 o3 ad (fun k hk => by have := m1 k hk; omega) (fun k hk => by have := (m2 k hk).1; omega) (fun k hk => by have := (m3 k hk).1; omega) (by omega) (unhide HFIN _ (unhide HBf))
    | some j =>
      have hxs : (if (tabF live fr).isSome = true then [(⟨3, fr, ⟨#[]⟩, ⟨#[]⟩⟩ : Dop), ⟨1, fr, ⟨#[]⟩, dt⟩, ⟨2, fr, nm, ⟨#[]⟩⟩] else [⟨1, fr, ⟨#[]⟩, dt⟩, ⟨2, fr, nm, ⟨#[]⟩⟩]) = [⟨3, fr, ⟨#[]⟩, ⟨#[]⟩⟩, ⟨1, fr, ⟨#[]⟩, dt⟩, ⟨2, fr, nm, ⟨#[]⟩⟩] := by rw [tab_at_some (unhide HRI) ha]; rfl
      rw [ha] at HA
      have HAV : atV (some j) = (j : Int) := rfl
      rw [HAV] at HA
      have hj0 : (0 : Int) ≤ (j : Int) := by omega
      rw [hxs]
      obtain ⟨G, hG⟩ : ∃ G, goA live ops.length [⟨3, fr, ⟨#[]⟩, ⟨#[]⟩⟩, ⟨1, fr, ⟨#[]⟩, dt⟩, ⟨2, fr, nm, ⟨#[]⟩⟩] = G := ⟨_, rfl⟩
      rw [hG]
      obtain ⟨PC, hPC⟩ : ∃ x, G.1 = x := ⟨_, rfl⟩
      obtain ⟨PL, hPL⟩ : ∃ x, (if G.1 = 0 then G.2 else live) = x := ⟨_, rfl⟩
      obtain ⟨PO, hPO⟩ : ∃ x, (if G.1 = 0 then ops ++ [⟨3, fr, ⟨#[]⟩, ⟨#[]⟩⟩, ⟨1, fr, ⟨#[]⟩, dt⟩, ⟨2, fr, nm, ⟨#[]⟩⟩] else ops) = x := ⟨_, rfl⟩
      rw [hPL, hPO, hPC]
      have HP := hide (And.intro hPC (And.intro hPL hPO))
      clear hPC hPL hPO
      have HG0 := hide hG.symm
      have HF0 := hide hfs
      have HO0 := hide hO2
      clear hba hb0 hWa hW0 hr h hsa hs0 hd ha hxs hfs hO2 hln hG
      go_enter Try.func15, Try.ntmps15
      go_wp2_with fail
      rw [unhide HW0]
      refine (unhide HOK).mono ?_
      rintro e w1 ⟨rfl, hb1⟩
      obtain ⟨V0, hV0⟩ : ∃ V, V = w1.alloc (.cells #[.slice a1 live.length cL, .slice a2 safe.length cS, .slice a3 ops.length cO] 31) := ⟨_, rfl⟩
      have HB0 := hide (show Below W0.heap.size W0 V0 from by rw [hV0]; exact belOn hb1 (bel1 _ _))
      have HN0 := hide (show NowAt V0 w1.heap.size a1 cL live a2 cS safe a3 cO ops from by rw [hV0]; exact unhide HNB w1 hb1)
      have HNW := hide (show W0.heap.size ≤ w1.heap.size from hb1.size)
      have hne : ¬ w1.heap.size = w.heap.size := by have := hb1.size; have := unhide HS0; omega
      obtain ⟨q0, q1, q2⟩ := unhide HC _ hb1
      have lq := lt_of_cell q0
      have s0 := bcl (bel1 w1 (.cells #[.slice a1 live.length cL, .slice a2 safe.length cS, .slice a3 ops.length cO] 31)) lq q0
      have HV0 := hide hV0.symm
      clear hb1 hV0
      go_wp2_with fail
      rw [unhide HV0]
      refine (unhide HA _ (unhide HB0)).mono ?_
      rintro e w2 ⟨rfl, rfl⟩
      clear q0 q1 q2 s0
      have k0 := (unhide HN0).c0
      have k1 := (unhide HN0).c1
      have k2 := (unhide HN0).c2
      go_wp2_with fail
      clear k0 k1 k2
      have HAC := hide (l4Act_calls _ _ _ live _ _ _ safe _ _ _ ops 3 fr ⟨#[]⟩ ⟨#[]⟩ V0 (unhide HN0).dk (unhide HF0) (unhide HO0) sm_r)
      have hG1 := (unhide HG0).trans (goA_cons live (ops).length ⟨3, fr, ⟨#[]⟩, ⟨#[]⟩⟩ [⟨1, fr, ⟨#[]⟩, dt⟩, ⟨2, fr, nm, ⟨#[]⟩⟩])
      by_cases hc : (goA live (ops).length [⟨3, fr, ⟨#[]⟩, ⟨#[]⟩⟩]).1 = 0
      · obtain ⟨-, hf1⟩ := goA_one hc
        have hn1 := (goA_one hc).1
        obtain ⟨L1, hL1⟩ : ∃ x, (goA live (ops).length [⟨3, fr, ⟨#[]⟩, ⟨#[]⟩⟩]).2 = x := ⟨_, rfl⟩
        rw [if_pos hc, hL1] at hG1
        rw [hL1] at hf1
        rw [hc, hL1, if_pos rfl, if_pos rfl] at HAC
        obtain ⟨P1, hP1⟩ : ∃ x, (ops ++ [(⟨3, fr, ⟨#[]⟩, ⟨#[]⟩⟩ : Dop)]) = x := ⟨_, rfl⟩
        rw [hP1] at HAC
        have hlP : P1.length = (ops).length + 1 := by rw [← hP1, List.length_append]; rfl
        have HG1 := hide (show G = goA L1 P1.length [⟨1, fr, ⟨#[]⟩, dt⟩, ⟨2, fr, nm, ⟨#[]⟩⟩] from by rw [hlP]; exact hG1)
        have HF1 := hide hf1
        have HO1 := hide (show P1.length ≤ 200 from by rw [hlP]; exact hn1)
        have HE1 := hide hP1
        have HLP := hide hlP
        clear hlP
        refine (unhide HAC).mono ?_
        rintro e v1 ⟨aL1, cL1, aS1, cS1, aO1, cO1, rfl, o1, o2, o3, ad, m1, m2, m3, hb⟩
        have y0 := bcl hb (unhide HN0).lt (unhide HN0).c0
        have y1 := bcl hb (unhide HN0).lt (unhide HN0).c1
        have y2 := bcl hb (unhide HN0).lt (unhide HN0).c2
        have x0 := (hb.frozen (p := ⟨w1.heap.size, 0, none⟩) (unhide HN0).lt).trans (unhide HN0).z0
        have x1 := (hb.frozen (p := ⟨w1.heap.size, 1, none⟩) (unhide HN0).lt).trans (unhide HN0).z1
        have x2 := (hb.frozen (p := ⟨w1.heap.size, 2, none⟩) (unhide HN0).lt).trans (unhide HN0).z2
        obtain ⟨q0, q1, q2⟩ := unhide HC _ (belOn (unhide HB0) hb)
        obtain ⟨V1, hV1⟩ : ∃ V, V = ((v1.setCell ⟨w1.heap.size, 0, none⟩ (.slice aL1 (L1).length cL1)).setCell ⟨w1.heap.size, 1, none⟩ (.slice aS1 safe.length cS1)).setCell ⟨w1.heap.size, 2, none⟩ (.slice aO1 (P1).length cO1) := ⟨_, rfl⟩
        have HB1 := hide (show Below W0.heap.size W0 V1 from by rw [hV1]; exact bel3 (belOn (unhide HB0) hb) (unhide HNW))
        have HN1 := hide (show NowAt V1 w1.heap.size aL1 cL1 L1 aS1 cS1 safe aO1 cO1 P1 from by
          rw [hV1]
          exact (unhide HN0).next hb o1 o2 o3 ad m1 m2 m3 (small_fit hf1) (fun x hx => by
            rw [← unhide HE1] at hx
            rcases List.mem_append.1 hx with hx | hx
            · exact (unhide HN0).dk.fo x hx
            · obtain rfl := List.mem_singleton.1 hx; exact sm_r) (by have := (files_small hf1).1; omega) (by have := unhide HLP; omega))
        have HV1 := hide hV1.symm
        clear hV1 o1 o2 o3 ad m1 m2 m3 hb hL1 hf1 hn1 hG1 hc HAC hP1 HLP
        go_wp2_with fail
        rw [unhide HV1]
        clear y0 y1 y2 x0 x1 x2 q0 q1 q2
        have HAC := hide (l4Act_calls _ _ _ L1 _ _ _ safe _ _ _ P1 1 fr ⟨#[]⟩ dt V1 (unhide HN1).dk (unhide HF1) (unhide HO1) sm_x)
        have hG2 := (unhide HG1).trans (goA_cons L1 (P1).length ⟨1, fr, ⟨#[]⟩, dt⟩ [⟨2, fr, nm, ⟨#[]⟩⟩])
        by_cases hc : (goA L1 (P1).length [⟨1, fr, ⟨#[]⟩, dt⟩]).1 = 0
        · obtain ⟨-, hf2⟩ := goA_one hc
          have hn2 := (goA_one hc).1
          obtain ⟨L2, hL2⟩ : ∃ x, (goA L1 (P1).length [⟨1, fr, ⟨#[]⟩, dt⟩]).2 = x := ⟨_, rfl⟩
          rw [if_pos hc, hL2] at hG2
          rw [hL2] at hf2
          rw [hc, hL2, if_pos rfl, if_pos rfl] at HAC
          obtain ⟨P2, hP2⟩ : ∃ x, (P1 ++ [(⟨1, fr, ⟨#[]⟩, dt⟩ : Dop)]) = x := ⟨_, rfl⟩
          rw [hP2] at HAC
          have hlP : P2.length = (P1).length + 1 := by rw [← hP2, List.length_append]; rfl
          have HG2 := hide (show G = goA L2 P2.length [⟨2, fr, nm, ⟨#[]⟩⟩] from by rw [hlP]; exact hG2)
          have HF2 := hide hf2
          have HO2 := hide (show P2.length ≤ 200 from by rw [hlP]; exact hn2)
          have HE2 := hide hP2
          have HLP := hide hlP
          clear hlP
          refine (unhide HAC).mono ?_
          rintro e v2 ⟨aL2, cL2, aS2, cS2, aO2, cO2, rfl, o1, o2, o3, ad, m1, m2, m3, hb⟩
          have y0 := bcl hb (unhide HN1).lt (unhide HN1).c0
          have y1 := bcl hb (unhide HN1).lt (unhide HN1).c1
          have y2 := bcl hb (unhide HN1).lt (unhide HN1).c2
          have x0 := (hb.frozen (p := ⟨w1.heap.size, 0, none⟩) (unhide HN1).lt).trans (unhide HN1).z0
          have x1 := (hb.frozen (p := ⟨w1.heap.size, 1, none⟩) (unhide HN1).lt).trans (unhide HN1).z1
          have x2 := (hb.frozen (p := ⟨w1.heap.size, 2, none⟩) (unhide HN1).lt).trans (unhide HN1).z2
          obtain ⟨q0, q1, q2⟩ := unhide HC _ (belOn (unhide HB1) hb)
          obtain ⟨V2, hV2⟩ : ∃ V, V = ((v2.setCell ⟨w1.heap.size, 0, none⟩ (.slice aL2 (L2).length cL2)).setCell ⟨w1.heap.size, 1, none⟩ (.slice aS2 safe.length cS2)).setCell ⟨w1.heap.size, 2, none⟩ (.slice aO2 (P2).length cO2) := ⟨_, rfl⟩
          have HB2 := hide (show Below W0.heap.size W0 V2 from by rw [hV2]; exact bel3 (belOn (unhide HB1) hb) (unhide HNW))
          have HN2 := hide (show NowAt V2 w1.heap.size aL2 cL2 L2 aS2 cS2 safe aO2 cO2 P2 from by
            rw [hV2]
            exact (unhide HN1).next hb o1 o2 o3 ad m1 m2 m3 (small_fit hf2) (fun x hx => by
              rw [← unhide HE2] at hx
              rcases List.mem_append.1 hx with hx | hx
              · exact (unhide HN1).dk.fo x hx
              · obtain rfl := List.mem_singleton.1 hx; exact sm_x) (by have := (files_small hf2).1; omega) (by have := unhide HLP; omega))
          have HV2 := hide hV2.symm
          clear hV2 o1 o2 o3 ad m1 m2 m3 hb hL2 hf2 hn2 hG2 hc HAC hP2 HLP
          go_wp2_with fail
          rw [unhide HV2]
          clear y0 y1 y2 x0 x1 x2 q0 q1 q2
          have HAC := hide (l4Act_calls _ _ _ L2 _ _ _ safe _ _ _ P2 2 fr nm ⟨#[]⟩ V2 (unhide HN2).dk (unhide HF2) (unhide HO2) sm_y)
          have hG3 := (unhide HG2).trans (goA_cons L2 (P2).length ⟨2, fr, nm, ⟨#[]⟩⟩ [])
          by_cases hc : (goA L2 (P2).length [⟨2, fr, nm, ⟨#[]⟩⟩]).1 = 0
          · obtain ⟨-, hf3⟩ := goA_one hc
            have hn3 := (goA_one hc).1
            obtain ⟨L3, hL3⟩ : ∃ x, (goA L2 (P2).length [⟨2, fr, nm, ⟨#[]⟩⟩]).2 = x := ⟨_, rfl⟩
            rw [if_pos hc, hL3] at hG3
            rw [hL3] at hf3
            rw [hc, hL3, if_pos rfl, if_pos rfl] at HAC
            obtain ⟨P3, hP3⟩ : ∃ x, (P2 ++ [(⟨2, fr, nm, ⟨#[]⟩⟩ : Dop)]) = x := ⟨_, rfl⟩
            rw [hP3] at HAC
            have hlP : P3.length = (P2).length + 1 := by rw [← hP3, List.length_append]; rfl
            have HG3 := hide (show G = goA L3 P3.length [] from by rw [hlP]; exact hG3)
            have HF3 := hide hf3
            have HO3 := hide (show P3.length ≤ 200 from by rw [hlP]; exact hn3)
            have HE3 := hide hP3
            have HLP := hide hlP
            clear hlP
            refine (unhide HAC).mono ?_
            rintro e v3 ⟨aL3, cL3, aS3, cS3, aO3, cO3, rfl, o1, o2, o3, ad, m1, m2, m3, hb⟩
            have y0 := bcl hb (unhide HN2).lt (unhide HN2).c0
            have y1 := bcl hb (unhide HN2).lt (unhide HN2).c1
            have y2 := bcl hb (unhide HN2).lt (unhide HN2).c2
            have x0 := (hb.frozen (p := ⟨w1.heap.size, 0, none⟩) (unhide HN2).lt).trans (unhide HN2).z0
            have x1 := (hb.frozen (p := ⟨w1.heap.size, 1, none⟩) (unhide HN2).lt).trans (unhide HN2).z1
            have x2 := (hb.frozen (p := ⟨w1.heap.size, 2, none⟩) (unhide HN2).lt).trans (unhide HN2).z2
            obtain ⟨q0, q1, q2⟩ := unhide HC _ (belOn (unhide HB2) hb)
            obtain ⟨V3, hV3⟩ : ∃ V, V = ((v3.setCell ⟨w1.heap.size, 0, none⟩ (.slice aL3 (L3).length cL3)).setCell ⟨w1.heap.size, 1, none⟩ (.slice aS3 safe.length cS3)).setCell ⟨w1.heap.size, 2, none⟩ (.slice aO3 (P3).length cO3) := ⟨_, rfl⟩
            have HB3 := hide (show Below W0.heap.size W0 V3 from by rw [hV3]; exact bel3 (belOn (unhide HB2) hb) (unhide HNW))
            have HN3 := hide (show NowAt V3 w1.heap.size aL3 cL3 L3 aS3 cS3 safe aO3 cO3 P3 from by
              rw [hV3]
              exact (unhide HN2).next hb o1 o2 o3 ad m1 m2 m3 (small_fit hf3) (fun x hx => by
                rw [← unhide HE3] at hx
                rcases List.mem_append.1 hx with hx | hx
                · exact (unhide HN2).dk.fo x hx
                · obtain rfl := List.mem_singleton.1 hx; exact sm_y) (by have := (files_small hf3).1; omega) (by have := unhide HLP; omega))
            have HV3 := hide hV3.symm
            clear hV3 o1 o2 o3 ad m1 m2 m3 hb hL3 hf3 hn3 hG3 hc HAC hP3 HLP
            go_wp2_with fail
            rw [unhide HV3]
            clear y0 y1 y2 x0 x1 x2 q0 q1 q2
            refine (l4Copy_calls _ _ _ _ _ _ _ _ _ _ _ _ V3 (unhide HN3).dk).mono ?_
            rintro e wf ⟨xL, iL, xS, iS, xO, iO, B3, rfl, o1, o2, o3, ad, -, -, -, -, m1, m2, m3, hbf⟩
            have HBf := hide (belOn (unhide HB3) hbf)
            have HOf := hide (And.intro o1 (And.intro o2 (And.intro o3 (And.intro ad (And.intro m1 (And.intro m2 m3))))))
            obtain ⟨r0, z0⟩ := unhide HR _ (unhide HBf) 0 (by decide)
            obtain ⟨r1, z1⟩ := unhide HR _ (unhide HBf) 1 (by decide)
            obtain ⟨r2, z2⟩ := unhide HR _ (unhide HBf) 2 (by decide)
            have hzk := (unhide HB3).size
            clear o1 o2 o3 ad m1 m2 m3 hbf
            go_wp2_with fail
            refine bodyPost_ret (v := .tuple #[.agg #[.slice xL (L3).length iL, .slice xS safe.length iS, .slice xO (P3).length iO], .int .i64 0]) (by simp [results, Try.results15, go_sem, r0, r1, r2]) rfl ?_
            obtain ⟨o1, o2, o3, ad, m1, m2, m3⟩ := unhide HOf
            have hs0 := unhide HS0
            have hG : G = (0, L3) := unhide HG3
            obtain ⟨e1, e2, e3⟩ := unhide HP
            rw [hG] at e1 e2 e3
            have e1' : PC = 0 := e1.symm
            have e2' : PL = L3 := e2.symm
            have e3' : PO = P3 := e3.symm.trans (by rw [← unhide HE3, ← unhide HE2, ← unhide HE1]; simp)
            subst e1' e2' e3'
            exact spcRet0 (rb := w.heap.size + 1) o1 o2 o3 ad (fun k hk => by have := m1 k hk; omega) (fun k hk => by have := (m2 k hk).1; omega) (fun k hk => by have := (m3 k hk).1; omega) (by omega) (unhide HFIN _ (unhide HBf))
          · obtain ⟨C, hC⟩ : ∃ x, (goA L2 (P2).length [⟨2, fr, nm, ⟨#[]⟩⟩]).1 = x := ⟨_, rfl⟩
            rw [if_neg hc, hC] at hG3
            rw [hC] at hc HAC
            rw [if_neg hc, if_neg hc] at HAC
            have HG3 := hide (show G = (C, []) from hG3)
            have HNZ := hide hc
            have hcb : (C == (0 : Int)) = false := by rw [beq_eq_false_iff_ne]; exact hc
            refine (unhide HAC).mono ?_
            rintro e v3 ⟨aL3, cL3, aS3, cS3, aO3, cO3, rfl, o1, o2, o3, ad, m1, m2, m3, hb⟩
            have y0 := bcl hb (unhide HN2).lt (unhide HN2).c0
            have y1 := bcl hb (unhide HN2).lt (unhide HN2).c1
            have y2 := bcl hb (unhide HN2).lt (unhide HN2).c2
            have x0 := (hb.frozen (p := ⟨w1.heap.size, 0, none⟩) (unhide HN2).lt).trans (unhide HN2).z0
            have x1 := (hb.frozen (p := ⟨w1.heap.size, 1, none⟩) (unhide HN2).lt).trans (unhide HN2).z1
            have x2 := (hb.frozen (p := ⟨w1.heap.size, 2, none⟩) (unhide HN2).lt).trans (unhide HN2).z2
            obtain ⟨q0, q1, q2⟩ := unhide HC _ (belOn (unhide HB2) hb)
            obtain ⟨V3, hV3⟩ : ∃ V, V = ((v3.setCell ⟨w1.heap.size, 0, none⟩ (.slice aL3 (L2).length cL3)).setCell ⟨w1.heap.size, 1, none⟩ (.slice aS3 safe.length cS3)).setCell ⟨w1.heap.size, 2, none⟩ (.slice aO3 (P2).length cO3) := ⟨_, rfl⟩
            have HB3 := hide (show Below W0.heap.size W0 V3 from by rw [hV3]; exact bel3 (belOn (unhide HB2) hb) (unhide HNW))
            have HV3 := hide hV3.symm
            clear hV3 o1 o2 o3 ad m1 m2 m3 hb hG3 hC HAC
            go_wp2_with fail
            rw [unhide HV3]
            clear y0 y1 y2 x0 x1 x2 q0 q1 q2
            refine (unhide HCP _ (unhide HB3)).mono ?_
            rintro e wf ⟨xL, iL, xS, iS, xO, iO, B3, rfl, o1, o2, o3, ad, -, -, -, -, m1, m2, m3, hbf⟩
            have HBf := hide (belOn (unhide HB3) hbf)
            have HOf := hide (And.intro o1 (And.intro o2 (And.intro o3 (And.intro ad (And.intro m1 (And.intro m2 m3))))))
            obtain ⟨r0, z0⟩ := unhide HR _ (unhide HBf) 0 (by decide)
            obtain ⟨r1, z1⟩ := unhide HR _ (unhide HBf) 1 (by decide)
            obtain ⟨r2, z2⟩ := unhide HR _ (unhide HBf) 2 (by decide)
            have hzk := (unhide HB3).size
            clear o1 o2 o3 ad m1 m2 m3 hbf
            go_wp2_with fail
            refine bodyPost_ret (v := .tuple #[.agg #[.slice xL (live).length iL, .slice xS safe.length iS, .slice xO (ops).length iO], .int .i64 C]) (by simp [results, Try.results15, go_sem, r0, r1, r2]) rfl ?_
            obtain ⟨o1, o2, o3, ad, m1, m2, m3⟩ := unhide HOf
            have hs0 := unhide HS0
            have hG := unhide HG3
            obtain ⟨e1, e2, e3⟩ := unhide HP
            rw [hG] at e1 e2 e3
            have e1' : PC = C := e1.symm
            have e2' : PL = live := e2.symm.trans (if_neg (unhide HNZ))
            have e3' : PO = ops := e3.symm.trans (if_neg (unhide HNZ))
            subst e1' e2' e3'
            exact spcRet0 (rb := w.heap.size + 1) o1 o2 o3 ad (fun k hk => by have := m1 k hk; omega) (fun k hk => by have := (m2 k hk).1; omega) (fun k hk => by have := (m3 k hk).1; omega) (by omega) (unhide HFIN _ (unhide HBf))
        · obtain ⟨C, hC⟩ : ∃ x, (goA L1 (P1).length [⟨1, fr, ⟨#[]⟩, dt⟩]).1 = x := ⟨_, rfl⟩
          rw [if_neg hc, hC] at hG2
          rw [hC] at hc HAC
          rw [if_neg hc, if_neg hc] at HAC
          have HG2 := hide (show G = (C, []) from hG2)
          have HNZ := hide hc
          have hcb : (C == (0 : Int)) = false := by rw [beq_eq_false_iff_ne]; exact hc
          refine (unhide HAC).mono ?_
          rintro e v2 ⟨aL2, cL2, aS2, cS2, aO2, cO2, rfl, o1, o2, o3, ad, m1, m2, m3, hb⟩
          have y0 := bcl hb (unhide HN1).lt (unhide HN1).c0
          have y1 := bcl hb (unhide HN1).lt (unhide HN1).c1
          have y2 := bcl hb (unhide HN1).lt (unhide HN1).c2
          have x0 := (hb.frozen (p := ⟨w1.heap.size, 0, none⟩) (unhide HN1).lt).trans (unhide HN1).z0
          have x1 := (hb.frozen (p := ⟨w1.heap.size, 1, none⟩) (unhide HN1).lt).trans (unhide HN1).z1
          have x2 := (hb.frozen (p := ⟨w1.heap.size, 2, none⟩) (unhide HN1).lt).trans (unhide HN1).z2
          obtain ⟨q0, q1, q2⟩ := unhide HC _ (belOn (unhide HB1) hb)
          obtain ⟨V2, hV2⟩ : ∃ V, V = ((v2.setCell ⟨w1.heap.size, 0, none⟩ (.slice aL2 (L1).length cL2)).setCell ⟨w1.heap.size, 1, none⟩ (.slice aS2 safe.length cS2)).setCell ⟨w1.heap.size, 2, none⟩ (.slice aO2 (P1).length cO2) := ⟨_, rfl⟩
          have HB2 := hide (show Below W0.heap.size W0 V2 from by rw [hV2]; exact bel3 (belOn (unhide HB1) hb) (unhide HNW))
          have HV2 := hide hV2.symm
          clear hV2 o1 o2 o3 ad m1 m2 m3 hb hG2 hC HAC
          go_wp2_with fail
          rw [unhide HV2]
          clear y0 y1 y2 x0 x1 x2 q0 q1 q2
          refine (unhide HCP _ (unhide HB2)).mono ?_
          rintro e wf ⟨xL, iL, xS, iS, xO, iO, B3, rfl, o1, o2, o3, ad, -, -, -, -, m1, m2, m3, hbf⟩
          have HBf := hide (belOn (unhide HB2) hbf)
          have HOf := hide (And.intro o1 (And.intro o2 (And.intro o3 (And.intro ad (And.intro m1 (And.intro m2 m3))))))
          obtain ⟨r0, z0⟩ := unhide HR _ (unhide HBf) 0 (by decide)
          obtain ⟨r1, z1⟩ := unhide HR _ (unhide HBf) 1 (by decide)
          obtain ⟨r2, z2⟩ := unhide HR _ (unhide HBf) 2 (by decide)
          have hzk := (unhide HB2).size
          clear o1 o2 o3 ad m1 m2 m3 hbf
          go_wp2_with fail
          refine bodyPost_ret (v := .tuple #[.agg #[.slice xL (live).length iL, .slice xS safe.length iS, .slice xO (ops).length iO], .int .i64 C]) (by simp [results, Try.results15, go_sem, r0, r1, r2]) rfl ?_
          obtain ⟨o1, o2, o3, ad, m1, m2, m3⟩ := unhide HOf
          have hs0 := unhide HS0
          have hG := unhide HG2
          obtain ⟨e1, e2, e3⟩ := unhide HP
          rw [hG] at e1 e2 e3
          have e1' : PC = C := e1.symm
          have e2' : PL = live := e2.symm.trans (if_neg (unhide HNZ))
          have e3' : PO = ops := e3.symm.trans (if_neg (unhide HNZ))
          subst e1' e2' e3'
          exact spcRet0 (rb := w.heap.size + 1) o1 o2 o3 ad (fun k hk => by have := m1 k hk; omega) (fun k hk => by have := (m2 k hk).1; omega) (fun k hk => by have := (m3 k hk).1; omega) (by omega) (unhide HFIN _ (unhide HBf))
      · obtain ⟨C, hC⟩ : ∃ x, (goA live (ops).length [⟨3, fr, ⟨#[]⟩, ⟨#[]⟩⟩]).1 = x := ⟨_, rfl⟩
        rw [if_neg hc, hC] at hG1
        rw [hC] at hc HAC
        rw [if_neg hc, if_neg hc] at HAC
        have HG1 := hide (show G = (C, []) from hG1)
        have HNZ := hide hc
        have hcb : (C == (0 : Int)) = false := by rw [beq_eq_false_iff_ne]; exact hc
        refine (unhide HAC).mono ?_
        rintro e v1 ⟨aL1, cL1, aS1, cS1, aO1, cO1, rfl, o1, o2, o3, ad, m1, m2, m3, hb⟩
        have y0 := bcl hb (unhide HN0).lt (unhide HN0).c0
        have y1 := bcl hb (unhide HN0).lt (unhide HN0).c1
        have y2 := bcl hb (unhide HN0).lt (unhide HN0).c2
        have x0 := (hb.frozen (p := ⟨w1.heap.size, 0, none⟩) (unhide HN0).lt).trans (unhide HN0).z0
        have x1 := (hb.frozen (p := ⟨w1.heap.size, 1, none⟩) (unhide HN0).lt).trans (unhide HN0).z1
        have x2 := (hb.frozen (p := ⟨w1.heap.size, 2, none⟩) (unhide HN0).lt).trans (unhide HN0).z2
        obtain ⟨q0, q1, q2⟩ := unhide HC _ (belOn (unhide HB0) hb)
        obtain ⟨V1, hV1⟩ : ∃ V, V = ((v1.setCell ⟨w1.heap.size, 0, none⟩ (.slice aL1 (live).length cL1)).setCell ⟨w1.heap.size, 1, none⟩ (.slice aS1 safe.length cS1)).setCell ⟨w1.heap.size, 2, none⟩ (.slice aO1 (ops).length cO1) := ⟨_, rfl⟩
        have HB1 := hide (show Below W0.heap.size W0 V1 from by rw [hV1]; exact bel3 (belOn (unhide HB0) hb) (unhide HNW))
        have HV1 := hide hV1.symm
        clear hV1 o1 o2 o3 ad m1 m2 m3 hb hG1 hC HAC
        go_wp2_with fail
        rw [unhide HV1]
        clear y0 y1 y2 x0 x1 x2 q0 q1 q2
        refine (unhide HCP _ (unhide HB1)).mono ?_
        rintro e wf ⟨xL, iL, xS, iS, xO, iO, B3, rfl, o1, o2, o3, ad, -, -, -, -, m1, m2, m3, hbf⟩
        have HBf := hide (belOn (unhide HB1) hbf)
        have HOf := hide (And.intro o1 (And.intro o2 (And.intro o3 (And.intro ad (And.intro m1 (And.intro m2 m3))))))
        obtain ⟨r0, z0⟩ := unhide HR _ (unhide HBf) 0 (by decide)
        obtain ⟨r1, z1⟩ := unhide HR _ (unhide HBf) 1 (by decide)
        obtain ⟨r2, z2⟩ := unhide HR _ (unhide HBf) 2 (by decide)
        have hzk := (unhide HB1).size
        clear o1 o2 o3 ad m1 m2 m3 hbf
        go_wp2_with fail
        refine bodyPost_ret (v := .tuple #[.agg #[.slice xL (live).length iL, .slice xS safe.length iS, .slice xO (ops).length iO], .int .i64 C]) (by simp [results, Try.results15, go_sem, r0, r1, r2]) rfl ?_
        obtain ⟨o1, o2, o3, ad, m1, m2, m3⟩ := unhide HOf
        have hs0 := unhide HS0
        have hG := unhide HG1
        obtain ⟨e1, e2, e3⟩ := unhide HP
        rw [hG] at e1 e2 e3
        have e1' : PC = C := e1.symm
        have e2' : PL = live := e2.symm.trans (if_neg (unhide HNZ))
        have e3' : PO = ops := e3.symm.trans (if_neg (unhide HNZ))
        subst e1' e2' e3'
        exact spcRet0 (rb := w.heap.size + 1) o1 o2 o3 ad (fun k hk => by have := m1 k hk; omega) (fun k hk => by have := (m2 k hk).1; omega) (fun k hk => by have := (m3 k hk).1; omega) (by omega) (unhide HFIN _ (unhide HBf))
end Go.Proofs.Ytiligddjilcdhaa


/- The walk of the law FnExactReplace. -/
set_option linter.unusedVariables false
namespace Go.Proofs.Ytiligddjilcdhaa.fnExactReplace
open Go.RowKit
open Plain

theorem goA_len (xs : List Dop) : ∀ (fs : List Fl) (n : Nat), fs.length ≤ 1048576 → (goA fs n xs).2.length ≤ 1048576 := by
  induction xs with
  | nil => intro fs n h; exact h
  | cons o l ih =>
    intro fs n h
    simp only [goA]
    split
    · split
      · split
        · rename_i h3
          simp only [Bool.and_eq_true, decide_eq_true_eq] at h3
          exact ih _ _ (by have := (files_small h3.2).1; omega)
        · simp
      · simp
    · simp
theorem rep_bound (live safe : List Fl) (ops xs : List Dop) {nL nS nO : Nat} (h1 : live.length = nL) (h2 : safe.length = nS) (h3 : ops.length = nO) (b1 : nL ≤ 1048576) (b2 : nS ≤ 1048576) (b3 : nO ≤ 1048576) (hx : xs.length ≤ 3) : (actL live safe ops xs).length ≤ 10000000 ∧ (actS live safe ops).length ≤ 10000000 ∧ (actO live safe ops xs).length ≤ 10000000 := by
  have hg := goA_len xs live ops.length (by omega)
  unfold actL actS actO
  refine ⟨?_, ?_, ?_⟩
  · split
    · split <;> omega
    · simp
  · split
    · omega
    · simp
  · split
    · split
      · rw [List.length_append]; omega
      · omega
    · simp
theorem rep_len (live safe : List Fl) (ops : List Dop) (fr nm dt : ByteArray) : (repX live safe ops fr nm dt).length ≤ 3 := by
  unfold repX
  split <;> simp
set_option maxRecDepth 10000 in
set_option maxHeartbeats 16000000 in
theorem walk (aL : Option Addr) (nL cL : Nat) (live : List Fl) (aS : Option Addr) (nS cS : Nat) (safe : List Fl) (aO : Option Addr) (nO cO : Nat) (ops : List Dop) (nm dt : ByteArray) (w : World) (hl : ArgRow 2 fileL goodF w aL nL cL live) (hs : ArgRow 2 fileL goodF w aS nS cS safe) (ho : ArgRow 4 dopL goodO w aO nO cO ops) (hnm : nm.size ≤ maxLen) (hdt : dt.size ≤ maxLen) :
    Calls Try.prog 4 #[.agg #[.slice aL nL cL, .slice aS nS cS, .slice aO nO cO], .string nm, .string dt] w fun e w' => e = .returned (.bool true) ∧ Below w.heap.size w w' := by
  have h : DskArg w aL nL cL live aS nS cS safe aO nO cO ops := ⟨hl, hs, ho⟩
  obtain ⟨W0, hW0⟩ : ∃ W0, W0 = w.alloc (.cells #[.slice aL nL cL, .slice aS nS cS, .slice aO nO cO] 25) := ⟨_, rfl⟩
  have hb0 : Below w.heap.size w W0 := by rw [hW0]; exact bel1 _ _
  have HSZ := hide (szDisk_calls aL nL cL live aS nS cS safe aO nO cO ops 1048576 W0 (h.below hb0) (by decide))
  by_cases hbn : 1048576 < nm.size
  · have hbn2 : (1048576 : Int) < (nm.size : Int) := by omega
    clear hbn
    clear h hl hs ho hb0 hW0 HSZ
    go_enter Try.func4, Try.ntmps4
    go_wp2_with fail
    go_ret
    exact ⟨rfl, bel1 _ _⟩
  by_cases hbd : 1048576 < dt.size
  · have hbn2 : ¬ (1048576 : Int) < (nm.size : Int) := by omega
    have hbd2 : (1048576 : Int) < (dt.size : Int) := by omega
    clear hbn hbd
    clear h hl hs ho hb0 hW0 HSZ
    go_enter Try.func4, Try.ntmps4
    go_wp2_with fail
    go_ret
    exact ⟨rfl, bel1 _ _⟩
  have hbn2 : ¬ (1048576 : Int) < (nm.size : Int) := by omega
  have hbd2 : ¬ (1048576 : Int) < (dt.size : Int) := by omega
  have hs0 : W0.heap.size = w.heap.size + 1 := by rw [hW0]; simp
  have c0 : W0.cell? ⟨w.heap.size, 0, none⟩ = some (.slice aL nL cL) := by rw [hW0]; simp [go_sem]
  have c1 : W0.cell? ⟨w.heap.size, 1, none⟩ = some (.slice aS nS cS) := by rw [hW0]; simp [go_sem]
  have c2 : W0.cell? ⟨w.heap.size, 2, none⟩ = some (.slice aO nO cO) := by rw [hW0]; simp [go_sem]
  have HD := hide (fun (W : World) (hW : Below W0.heap.size W0 W) => (h.below hb0).below hW)
  have HC := hide (fun (W : World) (hW : Below W0.heap.size W0 W) => And.intro (bcl hW (show w.heap.size < W0.heap.size by omega) c0) (And.intro (bcl hW (show w.heap.size < W0.heap.size by omega) c1) (bcl hW (show w.heap.size < W0.heap.size by omega) c2)))
  have HFIN := hide (fun (W : World) (hW : Below W0.heap.size W0 W) => belOn hb0 hW)
  have HW0 := hide hW0.symm
  by_cases hbig : 1048576 < totD live safe ops
  · rw [purse_no (show ((1048576 : Nat) : Int) < ((totD live safe ops : Nat) : Int) by omega)] at HSZ
    clear h hl hs ho hb0 hs0 hW0 c0 c1 c2 hbn hbd
    go_enter Try.func4, Try.ntmps4
    go_wp2_with fail
    rw [unhide HW0]
    refine (unhide HSZ).mono ?_
    rintro e w1 ⟨rfl, hb1⟩
    have HB1 := hide (unhide HFIN _ hb1)
    clear hb1
    go_wp2_with fail
    go_ret
    exact ⟨rfl, unhide HB1⟩
  · obtain ⟨r, hr⟩ : ∃ r : Nat, ((1048576 : Nat) : Int) - ((totD live safe ops : Nat) : Int) = (r : Int) := ⟨1048576 - totD live safe ops, by omega⟩
    rw [purse_yes (show ¬ ((1048576 : Nat) : Int) < ((totD live safe ops : Nat) : Int) by omega), hr] at HSZ
    have HSM := hide (dsk_sm h (by omega))
    obtain ⟨fr, hfr⟩ : ∃ fr, nm ++ ⟨#[46, 110, 101, 119]⟩ = fr := ⟨_, rfl⟩
    have HTO := hide (fun (W : World) (hW : Below W0.heap.size W0 W) => toDisk_calls aL nL cL live aS nS cS safe aO nO cO ops W (unhide HD _ hW) (unhide HSM).bl (unhide HSM).bs (unhide HSM).bo)
    have HSP := hide (fun (W : World) (p1 p2 p3 : Nat) (hA : DiskAt W (some ⟨p1, 0, none⟩) nL nL live (some ⟨p2, 0, none⟩) nS nS safe (some ⟨p3, 0, none⟩) nO nO ops) => spec_Replace (some ⟨p1, 0, none⟩) nL nL live (some ⟨p2, 0, none⟩) nS nS safe (some ⟨p3, 0, none⟩) nO nO ops nm dt fr W hA (by omega) (by omega) hfr)
    have HIM := hide (fun (W : World) (p1 p2 p3 : Nat) (hA : DiskAt W (some ⟨p1, 0, none⟩) nL nL live (some ⟨p2, 0, none⟩) nS nS safe (some ⟨p3, 0, none⟩) nO nO ops) => impl_Replace p1 nL nL live p2 nS nS safe p3 nO nO ops nm dt fr W hA (by omega) (by omega) hfr)
    obtain ⟨b1, b2, b3⟩ := rep_bound live safe ops (repX live safe ops fr nm dt) (unhide HSM).ll (unhide HSM).ls (unhide HSM).lo (unhide HSM).bl (unhide HSM).bs (unhide HSM).bo (rep_len live safe ops fr nm dt)
    generalize actC live safe ops (repX live safe ops fr nm dt) = PC at HSP HIM
    generalize actL live safe ops (repX live safe ops fr nm dt) = L1 at HSP HIM b1
    generalize actS live safe ops = S1 at HSP HIM b2
    generalize actO live safe ops (repX live safe ops fr nm dt) = O1 at HSP HIM b3
    obtain ⟨m1, hm1⟩ : ∃ m, L1.length = m := ⟨_, rfl⟩
    obtain ⟨m2, hm2⟩ : ∃ m, S1.length = m := ⟨_, rfl⟩
    obtain ⟨m3, hm3⟩ : ∃ m, O1.length = m := ⟨_, rfl⟩
    unfold SpcQ at HSP
    unfold DskPost at HIM
    rw [hm1] at b1 HSP HIM
    rw [hm2] at b2 HSP HIM
    rw [hm3] at b3 HSP HIM
    have HM1 := hide hm1
    have HM2 := hide hm2
    have HM3 := hide hm3
    have HS0 := hide hs0
    clear h hl hs ho hb0 hs0 hW0 hm1 hm2 hm3 c0 c1 c2 hbig hr hnm hdt hfr hbn hbd
    go_enter Try.func4, Try.ntmps4
    go_wp2_with fail
    rw [unhide HW0]
    refine (unhide HSZ).mono ?_
    rintro e w1 ⟨rfl, hb1⟩
    have HB1 := hide hb1
    obtain ⟨q0, q1, q2⟩ := unhide HC _ hb1
    clear hb1
    go_wp2_with fail
    refine (unhide HTO _ (unhide HB1)).mono ?_
    rintro e w2 ⟨g1, g2, g3, rfl, -, -, o1, o2, o3, hb2⟩
    have HB2 := hide (belOn (unhide HB1) hb2)
    have HA2 := hide (dsk_at (unhide HSM) o1 o2 o3)
    clear hb2 o1 o2 o3 q0 q1 q2
    go_wp2_with fail
    refine (unhide HSP w2 _ _ _ (unhide HA2)).mono ?_
    rintro e s3 ⟨xL, kL, xS, kS, xO, kO, rfl, r1, r2, r3, -, -, -, -, hb3⟩
    obtain ⟨w3, hw3⟩ : ∃ V, V = s3.alloc (.cells #[.slice xL m1 kL, .slice xS m2 kS, .slice xO m3 kO] 31) := ⟨_, rfl⟩
    have HB3 := hide (show Below W0.heap.size W0 w3 from by rw [hw3]; exact belOn (belOn (unhide HB2) hb3) (bel1 _ _))
    have DW := hide (show DC s3.heap.size (.slice xL m1 kL) (.slice xS m2 kS) (.slice xO m3 kO) w3 from by rw [hw3]; exact DC.new _ _ _ _ _ _ _ _ _ _)
    have HX := hide (show RowAt fileE w3 xL L1 ∧ RowAt fileE w3 xS S1 ∧ RowAt dopE w3 xO O1 from by rw [hw3]; exact ⟨r1.below (bel1 _ _), r2.below (bel1 _ _), r3.below (bel1 _ _)⟩)
    obtain ⟨q0, q1, q2⟩ := unhide HC _ (unhide HB3)
    rw [hw3] at q0 q1 q2
    have HW3 := hide hw3.symm
    clear hb3 r1 r2 r3 hw3
    go_wp2_with fail
    rw [unhide HW3]
    clear q0 q1 q2
    refine (unhide HTO _ (unhide HB3)).mono ?_
    rintro e w4 ⟨g4, g5, g6, rfl, d1, d2, o1, o2, o3, hb4⟩
    obtain ⟨W5, hW5⟩ : ∃ W5, W5 = w4.alloc (.cells #[.slice (some ⟨g4, 0, none⟩) nL nL, .slice (some ⟨g5, 0, none⟩) nS nS, .slice (some ⟨g6, 0, none⟩) nO nO] 31) := ⟨_, rfl⟩
    have hb5 : Below w4.heap.size w4 W5 := by rw [hW5]; exact bel1 _ _
    have HT5 := hide (belOn hb4 hb5)
    have hlt5 : w4.heap.size < W5.heap.size := by rw [hW5]; simp
    have DX := hide (show DC w4.heap.size (.slice (some ⟨g4, 0, none⟩) nL nL) (.slice (some ⟨g5, 0, none⟩) nS nS) (.slice (some ⟨g6, 0, none⟩) nO nO) W5 from by rw [hW5]; exact DC.new _ _ _ _ _ _ _ _ _ _)
    have DW5 := hide ((unhide DW).below (belOn hb4 hb5))
    have hz4 := hb4.size
    have hbwl := (unhide DW).lt
    have HA5 := hide ((dsk_at (unhide HSM) o1 o2 o3).below hb5)
    have hg4 := o1.bl g4 ⟨0, rfl⟩
    have hg5 := o2.bl g5 ⟨0, rfl⟩
    have hg6 := o3.bl g6 ⟨0, rfl⟩
    have HAP := hide (show Apart (some ⟨g4, 0, none⟩) (some ⟨g5, 0, none⟩) (some ⟨g6, 0, none⟩) from apart3 (by omega) (by omega))
    have HWN := hide (show ¬ inD (some ⟨g4, 0, none⟩) (some ⟨g5, 0, none⟩) (some ⟨g6, 0, none⟩) s3.heap.size from fun hg => by rcases hg with ⟨o, e⟩ | ⟨o, e⟩ | ⟨o, e⟩ <;> cases e <;> omega)
    have HING := hide (show ∀ g, inD (some ⟨g4, 0, none⟩) (some ⟨g5, 0, none⟩) (some ⟨g6, 0, none⟩) g → w3.heap.size ≤ g ∧ g < W5.heap.size from fun g hg => by rcases hg with ⟨o, e⟩ | ⟨o, e⟩ | ⟨o, e⟩ <;> cases e <;> omega)
    have HB5 := hide (belOn (unhide HB3) (unhide HT5))
    have HW5 := hide hW5.symm
    clear hb4 hb5 o1 o2 o3 hW5 hg4 hg5 hg6 d1 d2
    go_wp2_with fail
    rw [unhide HW5]
    refine (unhide HIM W5 _ _ _ (unhide HA5)).mono ?_
    rintro e s6 ⟨yL, jL, yS, jS, yO, jO, rfl, o1, o2, o3, apy, hb6⟩
    obtain ⟨w6, hw6⟩ : ∃ V, V = s6.alloc (.cells #[.slice yL m1 jL, .slice yS m2 jS, .slice yO m3 jO] 31) := ⟨_, rfl⟩
    have HB6 := hide (show Below W5.heap.size W5 w6 from by rw [hw6]; exact belOn hb6 (bel1 _ _))
    have DG := hide (show DC s6.heap.size (.slice yL m1 jL) (.slice yS m2 jS) (.slice yO m3 jO) w6 from by rw [hw6]; exact DC.new _ _ _ _ _ _ _ _ _ _)
    have OW := own3 o1 o2 o3
    have HY := hide (show RowAt fileE w6 yL L1 ∧ RowAt fileE w6 yS S1 ∧ RowAt dopE w6 yO O1 from by rw [hw6]; exact ⟨o1.at.below (bel1 _ _), o2.at.below (bel1 _ _), o3.at.below (bel1 _ _)⟩)
    have hz66 : w6.heap.size = s6.heap.size + 1 := by rw [hw6]; simp
    have HAY := hide apy
    have HVY := hide (show ∀ g, inD yL yS yO g → W5.heap.size ≤ g ∧ g ≠ s6.heap.size ∧ g < w6.heap.size from fun g hg => by have := OW g hg; refine ⟨by omega, by omega, by omega⟩)
    have hbgW : W5.heap.size ≤ s6.heap.size := hb6.size
    have HZ66 := hide hz66
    have HT6 := hide (belOn (unhide HT5) (unhide HB6))
    have DW6 := hide ((unhide DW5).below (unhide HB6))
    have DX6 := hide ((unhide DX).below (unhide HB6))
    have HA6 := hide ((unhide HA5).below (unhide HB6))
    have hz6 := (unhide HB6).size
    have HNX : Hid (¬ inD (some ⟨g4, 0, none⟩) (some ⟨g5, 0, none⟩) (some ⟨g6, 0, none⟩) s6.heap.size) := hide (fun h => by have := (unhide HING _ h).2; omega)
    obtain ⟨-, f0, f1, f2⟩ := unhide DW6
    rw [hw6] at f0 f1 f2
    have hpc : (PC != PC) = false := by simp
    have HW6 := hide hw6.symm
    clear o1 o2 o3 apy hb6 OW hw6 hz66
    go_wp2_with fail
    rw [unhide HW6]
    clear f0 f1 f2
    refine (eqDisk_calls yL yS yO xL xS xO m1 m2 m3 _ _ _ _ _ _ L1 S1 O1 _ (unhide HM1) (unhide HM2) (unhide HM3) b1 b2 b3 ⟨(unhide HY).1, (unhide HY).2.1, (unhide HY).2.2⟩ ⟨(unhide HX).1.below (unhide HT6), (unhide HX).2.1.below (unhide HT6), (unhide HX).2.2.below (unhide HT6)⟩).mono ?_
    rintro e w7 ⟨rfl, hb7⟩
    have HT7 := hide (belOn (unhide HT6) hb7)
    have DG7 := hide ((unhide DG).below hb7)
    have DX7 := hide ((unhide DX6).below hb7)
    have DW7 := hide ((unhide DW6).below hb7)
    have HA7 := hide ((unhide HA6).below hb7)
    have HY7 := hide (show RowAt fileE w7 yL L1 ∧ RowAt fileE w7 yS S1 ∧ RowAt dopE w7 yO O1 from ⟨(unhide HY).1.below hb7, (unhide HY).2.1.below hb7, (unhide HY).2.2.below hb7⟩)
    have hz7 := hb7.size
    have HB7 := hide (belOn (unhide HB3) (unhide HT7))
    clear hb7
    go_wp2_with fail
    go_cut [59] (fun s59 wx => s59 = .bool false ∧ Hid (Below w7.heap.size w7 wx))
    case first =>
      obtain ⟨q0, q1, q2⟩ := unhide HC _ (unhide HB7)
      obtain ⟨-, p0, p1, p2⟩ := unhide DX7
      have l1 : w.heap.size < w7.heap.size := lt_of_cell q0
      have l2 : w4.heap.size < w7.heap.size := lt_of_cell p0
      have HT8 := hide (unhide HTO w7.drew (belDrew (unhide HB7)))
      go_region_with (first
        | (go_at_call 7; refine (unhide HT8).mono ?_; rintro e w8 ⟨g7, g8, g9, rfl, -, -, o1, o2, o3, hb8⟩; have s0 := bcl (bOfDrew hb8) l1 q0; have s1 := bcl (bOfDrew hb8) l1 q1; have s2 := bcl (bOfDrew hb8) l1 q2; have t0 := bcl (bOfDrew hb8) l2 p0; have t1 := bcl (bOfDrew hb8) l2 p1; have t2 := bcl (bOfDrew hb8) l2 p2)
        | (go_at_call 10; refine (eqDisk_calls _ _ _ _ _ _ nL nS nO _ _ _ _ _ _ live safe ops _ (unhide HSM).ll (unhide HSM).ls (unhide HSM).lo (Nat.le_trans (unhide HSM).bl (by decide)) (Nat.le_trans (unhide HSM).bs (by decide)) (Nat.le_trans (unhide HSM).bo (by decide)) ⟨(unhide HA7).rl.below (bOfDrew hb8), (unhide HA7).rs.below (bOfDrew hb8), (unhide HA7).ro.below (bOfDrew hb8)⟩ ⟨o1.at, o2.at, o3.at⟩).mono ?_; rintro e w9 ⟨rfl, hb9⟩))
      all_goals (try go_wp2_with fail)
      all_goals go_meet
      all_goals exact ⟨rfl, hide (belOn (bOfDrew hb8) hb9)⟩
    case rest =>
    obtain ⟨w9, rfl⟩ : ∃ w9, w9 = wc := ⟨_, rfl⟩
    obtain ⟨rfl, HD9⟩ := hcut
    have HT9 := hide (belOn (unhide HT7) (unhide HD9))
    have DG9 := hide ((unhide DG7).below (unhide HD9))
    have DX9 := hide ((unhide DX7).below (unhide HD9))
    have DW9 := hide ((unhide DW7).below (unhide HD9))
    have HA9 := hide ((unhide HA7).below (unhide HD9))
    have HY9 := hide (show RowAt fileE w9 yL L1 ∧ RowAt fileE w9 yS S1 ∧ RowAt dopE w9 yO O1 from ⟨(unhide HY7).1.below (unhide HD9), (unhide HY7).2.1.below (unhide HD9), (unhide HY7).2.2.below (unhide HD9)⟩)
    have hz9 := (unhide HD9).size
    obtain ⟨-, p0, p1, p2⟩ := unhide DX9
    go_wp2_with fail
    clear p0 p1 p2
    refine (markDisk_calls _ nL nL live _ nS nS safe _ nO nO ops w9 (unhide HSM).ll (unhide HSM).ls (unhide HSM).lo (Nat.le_trans (unhide HSM).bl (by decide)) (Nat.le_trans (unhide HSM).bs (by decide)) (Nat.le_trans (unhide HSM).bo (by decide)) (unhide HA9).rl (unhide HA9).rs (unhide HA9).ro (unhide HAP) (fun g hg => by have := unhide HING g hg; omega)).mono ?_
    rintro e wa ⟨rfl, -, hoa⟩
    have HTa := hide ((unhide HT9).trans (hoa.below (B := w3.heap.size) (fun g hg => (unhide HING g hg).1) (unhide HT9).size))
    have HYa := hide (show RowAt fileE wa yL L1 ∧ RowAt fileE wa yS S1 ∧ RowAt dopE wa yO O1 from ⟨(unhide HY9).1.offP hoa (fun g h h2 => by have := (unhide HVY g (.inl h)).1; have := (unhide HING g h2).2; omega), (unhide HY9).2.1.offP hoa (fun g h h2 => by have := (unhide HVY g (.inr (.inl h))).1; have := (unhide HING g h2).2; omega), (unhide HY9).2.2.offP hoa (fun g h h2 => by have := (unhide HVY g (.inr (.inr h))).1; have := (unhide HING g h2).2; omega)⟩)
    have hza := hoa.size
    obtain ⟨M, hM⟩ : ∃ M, 1 + nL * 2 + nS * 2 + nO * 4 = M := ⟨_, rfl⟩
    rw [hM]
    have DGa := hide ((unhide DG9).offP hoa (unhide HNX))
    have DWa := hide ((unhide DW9).offP hoa (unhide HWN))
    obtain ⟨-, e0, e1, e2⟩ := unhide DGa
    obtain ⟨-, f0, f1, f2⟩ := unhide DWa
    clear hoa hM HT9 HA9 HY9 DG9 DX9 DW9 DG7 DX7 DW7
    go_wp2_with fail
    clear e0 e1 e2 f0 f1 f2
    refine (eqDisk_calls yL yS yO xL xS xO m1 m2 m3 _ _ _ _ _ _ L1 S1 O1 _ (unhide HM1) (unhide HM2) (unhide HM3) b1 b2 b3 ⟨(unhide HYa).1, (unhide HYa).2.1, (unhide HYa).2.2⟩ ⟨(unhide HX).1.below (unhide HTa), (unhide HX).2.1.below (unhide HTa), (unhide HX).2.2.below (unhide HTa)⟩).mono ?_
    rintro e wb ⟨rfl, hbb⟩
    have HTb := hide (belOn (unhide HTa) hbb)
    have HYb := hide (show RowAt fileE wb yL L1 ∧ RowAt fileE wb yS S1 ∧ RowAt dopE wb yO O1 from ⟨(unhide HYa).1.below hbb, (unhide HYa).2.1.below hbb, (unhide HYa).2.2.below hbb⟩)
    have hzb := hbb.size
    have DGb := hide ((unhide DGa).below hbb)
    have DWb := hide ((unhide DWa).below hbb)
    obtain ⟨-, e0, e1, e2⟩ := unhide DGb
    clear hbb HTa HYa DGa DWa
    go_wp2_with fail
    clear e0 e1 e2
    refine (markDisk_calls yL m1 _ L1 yS m2 _ S1 yO m3 _ O1 wb (unhide HM1) (unhide HM2) (unhide HM3) b1 b2 b3 (unhide HYb).1 (unhide HYb).2.1 (unhide HYb).2.2 (unhide HAY) (fun g hg => by have := (unhide HVY g hg).2.2; omega)).mono ?_
    rintro e wz ⟨rfl, hMc, hoc⟩
    have hW53 : w3.heap.size ≤ W5.heap.size := by omega
    have HTc := hide ((unhide HTb).trans (hoc.below (B := w3.heap.size) (fun g hg => by have := (unhide HVY g hg).1; omega) (unhide HTb).size))
    have HKc := hide hMc
    have hzc := hoc.size
    have DGc := hide ((unhide DGb).offP hoc (fun h2 => (unhide HVY _ h2).2.1 rfl))
    have DWc := hide ((unhide DWb).offP hoc (fun h2 => by have := (unhide HVY _ h2).1; omega))
    obtain ⟨-, e0, e1, e2⟩ := unhide DGc
    clear hoc hMc HTb HYb DGb DWb
    obtain ⟨K, hK⟩ : ∃ K, 1 + m1 * 2 + m2 * 2 + m3 * 4 = K := ⟨_, rfl⟩
    rw [hK]
    have HK := hide hK
    clear hK
    go_wp2_with fail
    clear e0 e1 e2
    refine (heldDisk_calls yL m1 _ yS m2 _ yO m3 _ wz b1 b2 b3 (unhide HKc)).mono ?_
    rintro e wd ⟨rfl, hbd⟩
    rw [unhide HK]
    have HTd := hide (belOn (unhide HTc) hbd)
    have HKd := hide ((unhide HKc).below hbd)
    have DGd := hide ((unhide DGc).below hbd)
    have DWd := hide ((unhide DWc).below hbd)
    have HBd := hide (belOn (unhide HB3) (unhide HTd))
    clear hbd HTc HKc DGc DWc
    obtain ⟨q0, q1, q2⟩ := unhide HC _ (unhide HBd)
    go_wp2_with fail
    clear q0 q1 q2
    refine (unhide HTO _ (unhide HBd)).mono ?_
    rintro e wj ⟨g7, g8, g9, rfl, -, -, o1, o2, o3, hbj⟩
    have HBJ := hide hbj
    have HAJ := hide (dsk_at (unhide HSM) o1 o2 o3)
    clear hbj o1 o2 o3
    go_wp2_with fail
    refine (unhide HIM wj _ _ _ (unhide HAJ)).mono ?_
    rintro e sf ⟨uL, iL, uS, iS, uO, iO, rfl, o1, o2, o3, -, hbk⟩
    obtain ⟨wf, hwf⟩ : ∃ V, V = sf.alloc (.cells #[.slice uL m1 iL, .slice uS m2 iS, .slice uO m3 iO] 31) := ⟨_, rfl⟩
    have HBf := hide (show Below wd.heap.size wd wf from by rw [hwf]; exact belOn (belOn (unhide HBJ) hbk) (bel1 _ _))
    have HU := hide (show RowAt fileE wf uL L1 ∧ RowAt fileE wf uS S1 ∧ RowAt dopE wf uO O1 from by rw [hwf]; exact ⟨o1.at.below (bel1 _ _), o2.at.below (bel1 _ _), o3.at.below (bel1 _ _)⟩)
    have HTf := hide (belOn (unhide HTd) (unhide HBf))
    have HKf := hide ((unhide HKd).below (unhide HBf))
    have DGf := hide ((unhide DGd).below (unhide HBf))
    have DWf := hide ((unhide DWd).below (unhide HBf))
    obtain ⟨-, f0, f1, f2⟩ := unhide DWf
    rw [hwf] at f0 f1 f2
    have HWf := hide hwf.symm
    clear o1 o2 o3 hbk hwf
    go_wp2_with fail
    rw [unhide HWf]
    clear f0 f1 f2
    refine (eqDisk_calls uL uS uO xL xS xO m1 m2 m3 _ _ _ _ _ _ L1 S1 O1 _ (unhide HM1) (unhide HM2) (unhide HM3) b1 b2 b3 ⟨(unhide HU).1, (unhide HU).2.1, (unhide HU).2.2⟩ ⟨(unhide HX).1.below (unhide HTf), (unhide HX).2.1.below (unhide HTf), (unhide HX).2.2.below (unhide HTf)⟩).mono ?_
    rintro e wg ⟨rfl, hbg⟩
    have HTg := hide (belOn (unhide HTf) hbg)
    have HKg := hide ((unhide HKf).below hbg)
    have DGg := hide ((unhide DGf).below hbg)
    obtain ⟨-, e0, e1, e2⟩ := unhide DGg
    clear hbg HTf HKf HU DGf DWf
    go_wp2_with fail
    clear e0 e1 e2
    refine (heldDisk_calls yL m1 _ yS m2 _ yO m3 _ wg b1 b2 b3 (unhide HKg)).mono ?_
    rintro e wh ⟨rfl, hbh⟩
    rw [unhide HK]
    have HTh := hide (belOn (unhide HTg) hbh)
    clear hbh HTg HKg
    go_wp2_with fail
    go_ret
    exact ⟨rfl, unhide HFIN _ (belOn (unhide HB3) (unhide HTh))⟩
end Go.Proofs.Ytiligddjilcdhaa.fnExactReplace

