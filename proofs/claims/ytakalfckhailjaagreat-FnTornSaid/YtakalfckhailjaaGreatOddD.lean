/- A disk with a journal that is drawn, and spoilt now and then. -/
import Derived.Test.YtakalfckhailjaaGreatGBH
import Derived.Test.YtakalfckhailjaaGreatGAD
import Derived.Test.YtakalfckhailjaaGreatGAL
import Derived.Test.YtakalfckhailjaaGreatGAG
import Derived.Test.YtakalfckhailjaaGreatGAY
import Derived.Test.YtakalfckhailjaaGreatGAO
import Derived.Deep.RegionLaw
namespace Go.Proofs.YtakalfckhailjaaGreat
open Go.RowKit Plain
set_option linter.unusedVariables false

/-- Files that a machine bears, of any form. -/
def Plain.OdF (live safe : List Fl) : Prop := FitF live ∧ FitF safe ∧ live.length ≤ 1048576 ∧ safe.length ≤ 1048576
/-- A disk that is drawn. -/
def Plain.OddPost (R : Nat) (a : Option Addr) (len cap : Nat) (zs : List Int) (w : World) (e : Ending) (w' : World) : Prop :=
  ∃ aL cL live aS cS safe aO cO, e = .returned (.agg #[.slice aL (live : List Fl).length cL, .slice aS (safe : List Fl).length cS, .slice aO 0 cO]) ∧ (RowAt fileE w' aL live ∧ RowAt fileE w' aS safe) ∧ (AdOk aL cL ∧ AdOk aS cS ∧ AdOk aO cO) ∧ OdF live safe ∧ ((∀ g, inB aL g → w.heap.size ≤ g) ∧ ∀ g, inB aS g → w.heap.size ≤ g) ∧ Rd w' R a len cap zs ∧ OnlyAt ⟨R, 1, none⟩ w w'

/-- What stays. -/
structure Plain.OdB (w : World) (R : Nat) (a : Option Addr) (len cap : Nat) (zs : List Int) (D : Nat) (L S : List Fl) (aL : Option Addr) (cL : Nat) (aS : Option Addr) (cS : Nat) (aO : Option Addr) (cO : Nat) (W : World) : Prop where
  ds : DS w R a len cap zs W
  nw : NwB w.heap.size (.slice none 0 0) (.slice none 0 0) (.slice none 0 0) W
  sv : SvK (w.heap.size + 1) D L S aL cL aS cS aO cO W
section
variable {w W W' : World} {R : Nat} {a : Option Addr} {len cap : Nat} {zs : List Int} {D : Nat} {L S : List Fl} {aL : Option Addr} {cL : Nat} {aS : Option Addr} {cS : Nat} {aO : Option Addr} {cO : Nat}
theorem Plain.OdB.only (h : OdB w R a len cap zs D L S aL cL aS cS aO cO W) (hR : R < w.heap.size) (hD : R < D) (h1 : Rd W' R a len cap zs) (h2 : OnlyAt ⟨R, 1, none⟩ W W') : OdB w R a len cap zs D L S aL cL aS cS aO cO W' :=
  ⟨h.ds.call h1 h2, h.nw.only h2 (by omega), h.sv.only h2 (by omega) hD⟩
theorem Plain.OdB.below (h : OdB w R a len cap zs D L S aL cL aS cS aO cO W) (hb : Below W.heap.size W W') : OdB w R a len cap zs D L S aL cL aS cS aO cO W' :=
  ⟨h.ds.below hb, h.nw.below hb, h.sv.below hb⟩
theorem Plain.OdB.drew (h : OdB w R a len cap zs D L S aL cL aS cS aO cO W) : OdB w R a len cap zs D L S aL cL aS cS aO cO W.drew := h.below (belDrew (Below.refl _ _))
end
theorem set1B {b b' i : Nat} {v0 v1 v2 u : Value} {V : World} (h : NwB b v0 v1 v2 V) (hb : b' ≠ b) : NwB b v0 v1 v2 (V.setCell ⟨b', i, none⟩ u) := by
  obtain ⟨h0, h1, h2, h3, h4, h5, h6⟩ := h
  have hn : ∀ j : Nat, (⟨b', i, none⟩ : Addr) ≠ ⟨b, j, none⟩ := fun j q => by injection q with q _ _; exact hb q
  exact ⟨by simpa using h0, (World.cell?_setCell_other _ _ _ _ (hn 0)).trans h1, (World.cell?_setCell_other _ _ _ _ (hn 1)).trans h2, (World.cell?_setCell_other _ _ _ _ (hn 2)).trans h3, by simp [go_sem, h4], by simp [go_sem, h5], by simp [go_sem, h6]⟩
theorem Plain.SvK.set1 {LO D : Nat} {live safe : List Fl} {aL : Option Addr} {cL : Nat} {aS : Option Addr} {cS : Nat} {aO : Option Addr} {cO : Nat} {W : World} {b i : Nat} {u : Value} (h : SvK LO D live safe aL cL aS cS aO cO W) (hD : b ≠ D) (hl : live = [] ∨ ∀ g, inB aL g → g ≠ b) (hs : safe = [] ∨ ∀ g, inB aS g → g ≠ b) : SvK LO D live safe aL cL aS cS aO cO (W.setCell ⟨b, i, none⟩ u) := by
  have hn : ∀ j : Nat, (⟨b, i, none⟩ : Addr) ≠ ⟨D, j, none⟩ := fun j q => by injection q with q _ _; exact hD q
  have z0 := h.z0
  have z1 := h.z1
  have z2 := h.z2
  exact ⟨(World.cell?_setCell_other _ _ _ _ (hn 0)).trans h.c0, (World.cell?_setCell_other _ _ _ _ (hn 1)).trans h.c1, (World.cell?_setCell_other _ _ _ _ (hn 2)).trans h.c2, by simp [go_sem, z0], by simp [go_sem, z1], by simp [go_sem, z2], h.rl.setO hl, h.rs.setO hs, h.ad, h.fl, h.fs, h.ll, h.ls⟩
theorem row_lowB {W W' : World} {B : Nat} {a : Option Addr} {xs : List Fl} (h : RowAt fileE W a xs) (hb : Below B W W') (hlt : ∀ g, inB a g → g < B) : RowAt fileE W' a xs := fun i hi => by
  obtain ⟨g, e, hl, h1⟩ := h i hi
  have hg := hlt g ⟨0, e⟩
  exact ⟨g, e, Nat.lt_of_lt_of_le hl hb.size, fun j hj => ⟨(hb.cell (p := ⟨g, i * fileE.n + j, none⟩) hg).trans (h1 j hj).1, (hb.frozen (p := ⟨g, i * fileE.n + j, none⟩) hg).trans (h1 j hj).2⟩⟩
theorem od_fit {L : List Fl} {k : Nat} {t : ByteArray} (h : FitF L) (hk : k < L.length) (ht : t.size ≤ 1000000) : FitF (L.set k ((L[k]'hk).1, t)) := fun f hf => by
  rcases List.mem_or_eq_of_mem_set hf with h1 | h1
  · exact h f h1
  · subst h1
    exact ⟨(h _ (List.getElem_mem hk)).1, by show t.size ≤ _; omega⟩
theorem at_range (nm : ByteArray) (L : List Fl) : atV (atF nm L) = -1 ∨ 0 ≤ atV (atF nm L) ∧ atV (atF nm L) < (L.length : Int) := by
  cases h : atF nm L with
  | none => exact .inl rfl
  | some i =>
    obtain ⟨hi, -⟩ := atF_lt nm L i h
    refine .inr ?_
    show (0 : Int) ≤ (i : Int) ∧ (i : Int) < _
    omega
section
variable {w W : World} {R : Nat} {a : Option Addr} {len cap : Nat} {zs : List Int} {D : Nat} {L S : List Fl} {aL : Option Addr} {cL : Nat} {aS : Option Addr} {cS : Nat} {aO : Option Addr} {cO : Nat}
theorem Plain.OdB.set1 {b i : Nat} {u : Value} (h : OdB w R a len cap zs D L S aL cL aS cS aO cO W) (hR : R < w.heap.size) (hb : w.heap.size < b) (hD : b ≠ D) (hl : L = [] ∨ ∀ g, inB aL g → g ≠ b) (hs : S = [] ∨ ∀ g, inB aS g → g ≠ b) : OdB w R a len cap zs D L S aL cL aS cS aO cO (W.setCell ⟨b, i, none⟩ u) :=
  ⟨h.ds.set hR (by omega) _, set1B h.nw (by omega), h.sv.set1 hD hl hs⟩
theorem row_lowO {W W' : World} {B : Nat} {a : Option Addr} {xs : List Fl} (h : RowAt fileE W a xs) (hb : Below B W W') (hlt : xs = [] ∨ ∀ g, inB a g → g < B) : RowAt fileE W' a xs := by
  rcases hlt with rfl | hlt
  · exact fun i hi => absurd hi (by simp)
  · exact row_lowB h hb hlt
theorem Plain.OdB.belowB {B : Nat} {W' : World} (h : OdB w R a len cap zs D L S aL cL aS cS aO cO W) (hb : Below B W W') (hR : R < B) (hw : w.heap.size < B) (hD : D < B) (hl : L = [] ∨ ∀ g, inB aL g → g < B) (hs : S = [] ∨ ∀ g, inB aS g → g < B) : OdB w R a len cap zs D L S aL cL aS cS aO cO W' :=
  ⟨h.ds.belowB hb hR (Nat.le_of_lt hw),
   ⟨Nat.lt_of_lt_of_le h.nw.lt hb.size, bcl hb hw h.nw.c0, bcl hb hw h.nw.c1, bcl hb hw h.nw.c2, (hb.frozen (p := ⟨w.heap.size, 0, none⟩) hw).trans h.nw.z0, (hb.frozen (p := ⟨w.heap.size, 1, none⟩) hw).trans h.nw.z1, (hb.frozen (p := ⟨w.heap.size, 2, none⟩) hw).trans h.nw.z2⟩,
   ⟨bcl hb hD h.sv.c0, bcl hb hD h.sv.c1, bcl hb hD h.sv.c2, (hb.frozen (p := ⟨D, 0, none⟩) hD).trans h.sv.z0, (hb.frozen (p := ⟨D, 1, none⟩) hD).trans h.sv.z1, (hb.frozen (p := ⟨D, 2, none⟩) hD).trans h.sv.z2, row_lowO h.sv.rl hb hl, row_lowO h.sv.rs hb hs, h.sv.ad, h.sv.fl, h.sv.fs, h.sv.ll, h.sv.ls⟩⟩
theorem Plain.OdB.row8 {g k : Nat} {t : ByteArray} (h : OdB w R a len cap zs D L S (some ⟨g, 0, none⟩) cL aS cS aO cO W) (hk : k < L.length) : RowAt fileE (W.setCell ⟨g, k * 2 + 1, none⟩ (.string t)) (some ⟨g, 0, none⟩) (L.set k ((L[k]'hk).1, t)) :=
  h.sv.rl.setJ k hk 1 (by decide) (.string t) ((L[k]'hk).1, t) rfl
theorem Plain.OdB.spoil {g k : Nat} {t : ByteArray} {a9 : Option Addr} {c9 : Nat} {w9 : World} (h : OdB w R a len cap zs D L S (some ⟨g, 0, none⟩) cL aS cS aO cO W) (hR : R < w.heap.size) (hD : w.heap.size < D) (hk : k < L.length)
    (hO9 : OwnR fileE w9 (W.setCell ⟨g, k * 2 + 1, none⟩ (.string t)).heap.size (.slice a9 L.length c9) (L.set k ((L[k]'hk).1, t)))
    (hb9 : Below (W.setCell ⟨g, k * 2 + 1, none⟩ (.string t)).heap.size ((W.setCell ⟨g, k * 2 + 1, none⟩ (.string t)).alloc (.cells #[] 67)) w9) :
    (w9.cell? ⟨D, 1, none⟩ = some (.slice aS S.length cS) ∧ w9.frozen? ⟨D, 1, none⟩ = false) ∧
    OdB w R a len cap zs D (L.set k ((L[k]'hk).1, t)) (L.set k ((L[k]'hk).1, t)) (some ⟨g, 0, none⟩) cL a9 c9 aO cO (w9.setCell ⟨D, 1, none⟩ (.slice a9 L.length c9)) := by
  have hgD : g ≠ D := (h.sv.fl.resolve_left (by rintro rfl; simp at hk)) g ⟨0, rfl⟩
  have hgw : w.heap.size + 1 ≤ g := h.sv.ll g ⟨0, rfl⟩
  obtain ⟨g', eg, hgl, -⟩ := h.sv.rl k hk
  cases eg
  have hDl := lt_of_cell h.sv.c0
  simp only at hDl
  have r8 := h.row8 (t := t) hk
  obtain ⟨W8, hW8⟩ : ∃ W8, W8 = W.setCell ⟨g, k * 2 + 1, none⟩ (.string t) := ⟨_, rfl⟩
  have hz8 : W8.heap.size = W.heap.size := by rw [hW8]; simp
  have hn : ∀ j : Nat, (⟨g, k * 2 + 1, none⟩ : Addr) ≠ ⟨D, j, none⟩ := fun j q => by injection q with q _ _; exact hgD q
  have k0 : W8.cell? ⟨D, 0, none⟩ = some (.slice (some ⟨g, 0, none⟩) L.length cL) := by rw [hW8]; exact (World.cell?_setCell_other _ _ _ _ (hn 0)).trans h.sv.c0
  have k1 : W8.cell? ⟨D, 1, none⟩ = some (.slice aS S.length cS) := by rw [hW8]; exact (World.cell?_setCell_other _ _ _ _ (hn 1)).trans h.sv.c1
  have k2 : W8.cell? ⟨D, 2, none⟩ = some (.slice aO 0 cO) := by rw [hW8]; exact (World.cell?_setCell_other _ _ _ _ (hn 2)).trans h.sv.c2
  have z0' := h.sv.z0
  have z1' := h.sv.z1
  have z2' := h.sv.z2
  have y0 : W8.frozen? ⟨D, 0, none⟩ = false := by rw [hW8]; simp [go_sem, z0']
  have y1 : W8.frozen? ⟨D, 1, none⟩ = false := by rw [hW8]; simp [go_sem, z1']
  have y2 : W8.frozen? ⟨D, 2, none⟩ = false := by rw [hW8]; simp [go_sem, z2']
  have n8 : NwB w.heap.size (.slice none 0 0) (.slice none 0 0) (.slice none 0 0) W8 := by rw [hW8]; exact set1B h.nw (by omega)
  have d8 : DS w R a len cap zs W8 := by rw [hW8]; exact h.ds.set hR (by omega) _
  rw [← hW8] at hO9 hb9 r8
  have hb8 : Below W8.heap.size W8 w9 := (bel1 _ _).trans hb9
  have hD8 : D < W8.heap.size := by omega
  have m0 := bcl hb8 hD8 k0
  have m1 := bcl hb8 hD8 k1
  have m2 := bcl hb8 hD8 k2
  have x0 := (hb8.frozen (p := ⟨D, 0, none⟩) hD8).trans y0
  have x1 := (hb8.frozen (p := ⟨D, 1, none⟩) hD8).trans y1
  have x2 := (hb8.frozen (p := ⟨D, 2, none⟩) hD8).trans y2
  have hbl := hO9.bl
  have hl : (L.set k ((L[k]'hk).1, t)).length = L.length := List.length_set
  have f1 : (L.set k ((L[k]'hk).1, t)) = [] ∨ ∀ q, inB (some (⟨g, 0, none⟩ : Addr)) q → q ≠ D := .inr fun q ⟨o, e⟩ => by cases e; exact hgD
  have f2 : (L.set k ((L[k]'hk).1, t)) = [] ∨ ∀ q, inB a9 q → q ≠ D := .inr fun q hq => by have := hbl q hq; omega
  refine ⟨⟨m1, x1⟩, (d8.below hb8).set hR (by omega) _, set1B (n8.below hb8) (by omega), ?_⟩
  exact ⟨by rw [hl]; simp [go_sem, m0], by rw [hl]; simp [go_sem, m1], by simp [go_sem, m2], by simp [go_sem, x0], by simp [go_sem, x1], by simp [go_sem, x2], (r8.below hb8).setO f1, hO9.at.setO f2, ⟨h.sv.ad.1, hO9.ad, h.sv.ad.2.2⟩, f1, f2, h.sv.ll, fun q hq => by have := hbl q hq; omega⟩
end
theorem two_cell (V : World) (K : Nat) (h : K < 2) : ∃ nm, (V.alloc (.cells #[.string ⟨#[108, 111, 103]⟩, .string ⟨#[118, 111, 116, 101]⟩] 9)).cell? ⟨V.heap.size, K, none⟩ = some (.string nm) := by
  match K, h with
  | 0, _ => exact ⟨_, by simp [go_sem]; rfl⟩
  | 1, _ => exact ⟨_, by simp [go_sem]; rfl⟩

set_option maxRecDepth 10000 in
set_option maxHeartbeats 8000000 in
theorem oddSaved_calls (R : Nat) (a : Option Addr) (len cap : Nat) (zs : List Int) (w : World) (h : Rd w R a len cap zs) :
    Calls Tryz.prog 22 #[.pointer (some ⟨R, 0, none⟩)] w (OddPost R a len cap zs w) := by
  have hR := h.lt
  obtain ⟨W0, hW0⟩ : ∃ W0, W0 = w.alloc (.cells #[.slice none 0 0, .slice none 0 0, .slice none 0 0] 27) := ⟨_, rfl⟩
  have HD0 := hide (show DS w R a len cap zs W0 from by rw [hW0]; exact (DS.start h).alloc _)
  have HN0 := hide (show NwB w.heap.size (.slice none 0 0) (.slice none 0 0) (.slice none 0 0) W0 from by rw [hW0]; exact NwB.new w _ _ _)
  have HW0 := hide hW0.symm
  clear h hW0
  go_enter Tryz.func22, Tryz.ntmps22
  go_wp2_with fail
  rw [unhide HW0]
  refine (saved_calls R a len cap zs _ (unhide HD0).rd).mono ?_
  rintro e w1 ⟨aL, cL, L, aS, cS, S, aO, cO, rfl, ⟨r1, r2⟩, ad, hSF, ⟨n1, n2⟩, hR1, ho1⟩
  have HD1 := hide ((unhide HD0).call hR1 ho1)
  have HN1 := hide ((unhide HN0).only ho1 (by omega))
  have hz0 := (unhide HN0).lt
  have hz1 : w.heap.size < w1.heap.size := (unhide HN1).lt
  obtain ⟨W2, hW2⟩ : ∃ W2, W2 = w1.alloc (.cells #[.slice aL L.length cL, .slice aS S.length cS, .slice aO 0 cO] 27) := ⟨_, rfl⟩
  have HK2 := hide (show SvK (w.heap.size + 1) w1.heap.size L S aL cL aS cS aO cO W2 from by rw [hW2]; exact SvK.new r1 r2 ad (fun g hg => by have := n1 g hg; omega) (fun g hg => by have := n2 g hg; omega))
  have hb2 : Below w1.heap.size w1 W2 := by rw [hW2]; exact bel1 _ _
  have HD2 := hide ((unhide HD1).below hb2)
  have HN2 := hide ((unhide HN1).below hb2)
  have HW2 := hide hW2.symm
  have HSF := hide hSF
  have hRD : R < w1.heap.size := by omega
  clear hR1 ho1 r1 r2 ad n1 n2 hSF hb2 hW2 HD0 HN0 HD1 HN1
  go_wp2_with fail
  rw [unhide HW2]
  have HB2 := hide (show OdB w R a len cap zs w1.heap.size L S aL cL aS cS aO cO W2 from ⟨unhide HD2, unhide HN2, unhide HK2⟩)
  obtain ⟨c0, c1, c2, -, -, -, -, -, -, -, -, -, -⟩ := unhide HK2
  have hz2 : w1.heap.size < W2.heap.size := lt_of_cell c0
  have hLl : L.length ≤ 100000000 := by have := (unhide HSF).2.2.1; omega
  clear HD2 HN2 HK2
  go_cut [4] (fun s4 wx => ∃ x, s4 = .int .i64 x ∧ Hid (x = -1 ∨ 0 ≤ x ∧ x < (L.length : Int)) ∧ Hid (OdB w R a len cap zs w1.heap.size L S aL cL aS cS aO cO wx))
  case first =>
    have HBA := hide ((unhide HB2).drew)
    have HBB := hide (((unhide HB2).below (bel1 W2 (.cells #[.string ⟨#[108, 111, 103]⟩, .string ⟨#[118, 111, 116, 101]⟩] 9))).drew)
    go_region_law (first
      | (go_simp; (with_reducible refine (below_calls R a len cap zs 2 W2.drew (unhide HBA).ds.rd (by omega) (by omega)).mono ?_); rintro e w3 ⟨v3, rfl, hv30, hv31, hR3, ho3⟩; obtain ⟨K, rfl⟩ := Int.eq_ofNat_of_zero_le hv30; have hK : K < 2 := (by omega); have HB3 := hide ((unhide HBA).only hR hRD hR3 ho3); obtain ⟨p0, p1, p2, -, -, -, -, -, -, -, -, -, -⟩ := (unhide HB3).sv; obtain ⟨nm, hcn⟩ := two_cell w3 K hK; obtain ⟨q0, q1, q2, -, -, -, -, -, -, -, -, -, -⟩ := ((unhide HB3).below (bel1 w3 (.cells #[.string ⟨#[108, 111, 103]⟩, .string ⟨#[118, 111, 116, 101]⟩] 9))).sv)
      | (go_simp; (with_reducible refine (below_calls R a len cap zs 2 (W2.alloc (.cells #[.string ⟨#[108, 111, 103]⟩, .string ⟨#[118, 111, 116, 101]⟩] 9)).drew (unhide HBB).ds.rd (by omega) (by omega)).mono ?_); rintro e w3 ⟨v3, rfl, hv30, hv31, hR3, ho3⟩; obtain ⟨K, rfl⟩ := Int.eq_ofNat_of_zero_le hv30; have hK : K < 2 := (by omega); have HB3 := hide ((unhide HBB).only hR hRD hR3 ho3); obtain ⟨p0, p1, p2, -, -, -, -, -, -, -, -, -, -⟩ := (unhide HB3).sv; obtain ⟨nm, hcn⟩ : ∃ nm, w3.cell? ⟨W2.heap.size, K, none⟩ = some (.string nm) := (by obtain ⟨nm, h1⟩ := two_cell W2 K hK; exact ⟨nm, (ho3.cell ⟨W2.heap.size, K, none⟩ (by simp) (by first | (simp; done) | (simp; omega))).trans h1⟩))
      | (go_simp; (with_reducible refine (l4At_calls aL _ cL L nm w3 rfl hLl (unhide HB3).sv.rl).mono ?_); rintro e w4 ⟨rfl, rfl⟩)
      | (go_simp; (with_reducible refine (l4At_calls aL _ cL L nm (w3.alloc (.cells #[.string ⟨#[108, 111, 103]⟩, .string ⟨#[118, 111, 116, 101]⟩] 9)) rfl hLl ((unhide HB3).below (bel1 _ _)).sv.rl).mono ?_); rintro e w4 ⟨rfl, hw4⟩; rw [← hw4]; clear hw4))
    all_goals (try go_wp2_with fail)
    all_goals go_meet
    all_goals first
      | exact ⟨_, rfl, hide (at_range nm L), HB3⟩
      | exact ⟨_, rfl, hide (at_range nm L), hide ((unhide HB3).below (bel1 _ _))⟩
  case rest =>
  obtain ⟨w3, rfl⟩ : ∃ w3, w3 = wc := ⟨_, rfl⟩
  obtain ⟨x, rfl, HX, HB3⟩ := hcut
  go_upto_region 3 with fail
  go_cut [32] (fun s32 wx => ∃ b : Bool, s32 = .bool b ∧ Hid (b = true → 0 ≤ x ∧ ∃ h : x.toNat < L.length, 0 < (L[x.toNat]'h).2.size) ∧ Hid (OdB w R a len cap zs w1.heap.size L S aL cL aS cS aO cO wx))
  case first =>
    have HB4 := hide (unhide HB3)
    obtain ⟨-, -, c0, c1, c2, -, -, -, rl, -, -, -, -, -, -⟩ := unhide HB3
    by_cases hx0 : 0 ≤ x
    · have hx1 : x < (L.length : Int) := by have := unhide HX; omega
      have hxn : ¬ x < 0 := by omega
      obtain ⟨g, hg, hgl, -, hgd⟩ := rl.file x.toNat (by omega)
      subst hg
      by_cases hz : (L[x.toNat]'(by omega)).2.size = 0
      · go_wp2_with fail
        go_meet
        exact ⟨false, rfl, hide (fun h => by cases h), HB4⟩
      · have hzp : 0 < (L[x.toNat]'(by omega)).2.size := by omega
        go_wp2_with fail
        refine (once_calls R a len cap zs 2 _ (unhide HB4).ds.rd (by omega) (by omega)).mono ?_
        rintro e w4 ⟨b, rfl, hR4, ho4⟩
        have HB5 := hide ((unhide HB4).only hR hRD hR4 ho4)
        go_wp2_with fail
        go_meet
        exact ⟨b, rfl, hide (fun h => ⟨hx0, by omega, hzp⟩), HB5⟩
    · go_wp2_with fail
      go_meet
      exact ⟨false, rfl, hide (fun h => by cases h), HB4⟩
  case rest =>
  obtain ⟨w4, rfl⟩ : ∃ w4, w4 = wc := ⟨_, rfl⟩
  obtain ⟨b, rfl, HI, HB4⟩ := hcut
  clear HB3
  go_upto_if 32 with fail
  go_cut [] (fun wx => ∃ (yL : Option Addr) (L' : List Fl) (yS : Option Addr) (S' : List Fl) (dL dS : Nat), Hid (OdF L' S') ∧ Hid (OdB w R a len cap zs w1.heap.size L' S' yL dL yS dS aO cO wx))
  case first =>
    cases b with
    | false =>
      go_wp2_with fail
      go_meet
      exact ⟨aL, L, aS, S, cL, cS, hide ⟨(unhide HSF).1, (unhide HSF).2.1, (unhide HSF).2.2.1, (unhide HSF).2.2.2.1⟩, HB4⟩
    | true =>
      obtain ⟨hx0, hxl, hzp⟩ := unhide HI rfl
      have hsl := (unhide HSF).2.2.1
      have hfd : (L[x.toNat]'hxl).2.size ≤ 200000 := ((files_small (unhide HSF).2.2.2.2).2 _ (List.getElem_mem hxl)).2
      have hx1 : x < (L.length : Int) := by omega
      have hxn : ¬ x < 0 := by omega
      have hfL := row_lt (unhide HB4).sv.rl
      have hfS := row_lt (unhide HB4).sv.rs
      obtain ⟨g, hg, hgl, -, hgd⟩ := (unhide HB4).sv.rl.file x.toNat hxl
      subst hg
      have hgD : ¬ g = w1.heap.size := ((unhide HB4).sv.fl.resolve_left (by rintro rfl; simp at hxl)) g ⟨0, rfl⟩
      have hDg : ¬ w1.heap.size = g := fun q => hgD q.symm
      obtain ⟨dt, hdt⟩ : ∃ dt, (L[x.toNat]'hxl).2 = dt := ⟨_, rfl⟩
      rw [hdt] at hgd hfd hzp
      obtain ⟨cp, w5, hcv, hO5, hb5⟩ := bytes_own dt w4
      have hlen : (bL dt).length = dt.size := bL_length _
      obtain ⟨N, hN⟩ : ∃ N, dt.size = N := ⟨_, rfl⟩
      rw [hN] at hcv hlen hfd hzp
      have HO5 := hide hO5
      have HLN := hide hlen
      have HB5 := hide ((unhide HB4).below hb5)
      have hz4 : w1.heap.size < w4.heap.size := lt_of_cell (unhide HB4).sv.c0
      have hz5 : w4.heap.size ≤ w5.heap.size := hb5.size
      obtain ⟨c0, c1, c2, -, -, -, -, -, -, -, -, -, -⟩ := (unhide HB4).sv
      clear hO5 hlen hb5 hN hdt
      go_wp2_with fail
      refine (belowW_calls R a len cap zs N _ (unhide HB5).ds.rd (by omega) (by omega)).mono ?_
      rintro e w6 ⟨v6, rfl, hv60, hv61, hR6, ho6⟩
      obtain ⟨I, rfl⟩ := Int.eq_ofNat_of_zero_le hv60
      have HO6 := hide ((unhide HO5).keep (ho6.block _ (unhide HO5).2.1 (by simp; omega)) ho6.size)
      have HB6 := hide ((unhide HB5).only hR hRD hR6 ho6)
      clear hR6 ho6 hcv
      go_wp2_with fail
      refine (below_calls R a len cap zs 3 _ (unhide HB6).ds.rd (by omega) (by omega)).mono ?_
      rintro e w7 ⟨u, rfl, hu0, hu1, hR7, ho7⟩
      have HO7 := hide ((unhide HO6).keep (ho7.block _ (unhide HO6).2.1 (by simp; omega)) ho7.size)
      have HB7 := hide ((unhide HB6).only hR hRD hR7 ho7)
      clear hR7 ho7 HB5 HO5 HB6 HO6 c0 c1 c2 hgd
      have hI : I < N := by omega
      have j0 : (0 : Int) ≤ (I : Int) := by omega
      have j1 : (I : Int) < (N : Int) := by omega
      have j2 : (I : Int) ≤ (cp : Int) := by have := (unhide HO7).2.2.1; have := unhide HLN; omega
      by_cases u0 : u = 0
      · subst u0
        go_wp2_with fail
        refine (below_calls R a len cap zs 256 _ (unhide HB7).ds.rd (by omega) (by omega)).mono ?_
        rintro e w8 ⟨y, rfl, hy0, hy1, hR8, ho8⟩
        have hO8 := (unhide HO7).keep (ho8.block _ (unhide HO7).2.1 (by simp; omega)) ho8.size
        have HB8 := hide ((unhide HB7).only hR hRD hR8 ho8)
        have p0' := (unhide HB8).sv.c0
        have hD4 : ¬ w4.heap.size = w1.heap.size := by omega
        obtain ⟨hc, hf⟩ : (∃ z : Int, w8.cell? ⟨w4.heap.size, I, none⟩ = some (.int .u8 z)) ∧ w8.frozen? ⟨w4.heap.size, I, none⟩ = false :=
          ⟨⟨_, hO8.2.2.2.1 I (by rw [unhide HLN]; exact hI)⟩, (hO8.2.2.2.2 I (by have := hO8.2.2.1; have := unhide HLN; omega)).2⟩
        obtain ⟨z8, hc⟩ := hc
        have hOT := hO8.set I (by rw [unhide HLN]; exact hI) y
        have HBT := hide ((unhide HB8).set1 (i := I) (u := .int .u8 y) (b := w4.heap.size) hR (by omega) (by omega) (hfL.imp id fun q k hk => by have := q k hk; omega) (hfS.imp id fun q k hk => by have := q k hk; omega))
        have hcT := conv_pre _ _ _ _ N cp _ hOT (by rw [List.length_set, unhide HLN]; exact Nat.le_refl _)
        clear hR8 ho8 hO8 HB8 HB7 HO7 hOT
        obtain ⟨t, ht⟩ : ∃ t, strOfNums (((bL dt).set I y).take N) = t := ⟨_, rfl⟩
        have htz : t.size ≤ 1000000 := by rw [← ht]; rw [strOfNums_size, List.length_take]; omega
        rw [ht] at hcT
        have HS := hide (fun (a9 : Option Addr) (c9 : Nat) (w9 : World) hO hb => (unhide HBT).spoil (t := t) (a9 := a9) (c9 := c9) (w9 := w9) hR hz1 hxl hO hb)
        have HR9 := hide (((unhide HBT).row8 (t := t) hxl).below (bel1 _ (.cells #[] 67)))
        have hz8 : ((w8.setCell ⟨w4.heap.size, I, none⟩ (.int .u8 y)).setCell ⟨g, x.toNat * 2 + 1, none⟩ (.string t)).heap.size = w8.heap.size := by simp
        have HOE := hide (show OwnR fileE (((w8.setCell ⟨w4.heap.size, I, none⟩ (.int .u8 y)).setCell ⟨g, x.toNat * 2 + 1, none⟩ (.string t)).alloc (.cells #[] 67)) ((w8.setCell ⟨w4.heap.size, I, none⟩ (.int .u8 y)).setCell ⟨g, x.toNat * 2 + 1, none⟩ (.string t)).heap.size (.slice (some ⟨w8.heap.size, 0, none⟩) 0 0) [] from by have q := ownR_empty fileE ((w8.setCell ⟨w4.heap.size, I, none⟩ (.int .u8 y)).setCell ⟨g, x.toNat * 2 + 1, none⟩ (.string t)) _ (Nat.le_refl _); rw [hz8] at q ⊢; exact q)
        clear hz8
        have HAL := hide (unhide HBT).sv.ad.1
        obtain ⟨p0, p1, p2, -, -, -, prl, -, -, -, -, -, -⟩ := (unhide HBT).sv
        have hDT := lt_of_cell p0
        simp at hDT
        have hDn : ¬ w1.heap.size = w8.heap.size := by omega
        obtain ⟨g', hg', pgl, -, pgd⟩ := prl.file x.toNat hxl
        obtain ⟨g2, hg2, -, pff⟩ := prl x.toNat hxl
        cases hg'
        cases hg2
        have pgf : (w8.setCell ⟨w4.heap.size, I, none⟩ (.int .u8 y)).frozen? ⟨g, x.toNat * 2 + 1, none⟩ = false := (pff 1 (by decide)).2
        clear prl pff
        go_wp2_with (at_builtin; refine appG rfl _ _ rfl (unhide HOE) rfl (some ⟨g, 0, none⟩) L.length cL rfl (by rw [List.length_set]) (unhide HR9) (unhide HAL) (by simp; omega) (by simp) ?_; intro v9 w9 hO9 hb9; obtain ⟨a9, c9, hv9⟩ := hO9.form; rw [List.nil_append, List.length_set] at hv9; subst hv9; rw [List.nil_append] at hO9; obtain ⟨⟨s1, s2⟩, hF9⟩ := unhide HS a9 c9 w9 hO9 hb9; have HF9 := hide hF9; clear hO9 hb9 hF9)
        go_meet
        refine ⟨some ⟨g, 0, none⟩, _, a9, _, cL, c9, hide ⟨od_fit (unhide HSF).1 hxl htz, od_fit (unhide HSF).1 hxl htz, by rw [List.length_set]; omega, by rw [List.length_set]; omega⟩, hide ?_⟩
        exact unhide HF9
      · have b0 : (u == 0) = false := by simpa using u0
        by_cases u1 : u = 1
        · subst u1
          have hcT := conv_pre _ _ _ _ I cp _ (unhide HO7) (by rw [unhide HLN]; omega)
          clear HO7
          obtain ⟨t, ht⟩ : ∃ t, strOfNums ((bL dt).take I) = t := ⟨_, rfl⟩
          have htz : t.size ≤ 1000000 := by rw [← ht]; rw [strOfNums_size, List.length_take]; omega
          rw [ht] at hcT
          have HS := hide (fun (a9 : Option Addr) (c9 : Nat) (w9 : World) hO hb => (unhide HB7).spoil (t := t) (a9 := a9) (c9 := c9) (w9 := w9) hR hz1 hxl hO hb)
          have HR9 := hide (((unhide HB7).row8 (t := t) hxl).below (bel1 _ (.cells #[] 67)))
          have hz8 : (w7.setCell ⟨g, x.toNat * 2 + 1, none⟩ (.string t)).heap.size = w7.heap.size := by simp
          have HOE := hide (show OwnR fileE ((w7.setCell ⟨g, x.toNat * 2 + 1, none⟩ (.string t)).alloc (.cells #[] 67)) (w7.setCell ⟨g, x.toNat * 2 + 1, none⟩ (.string t)).heap.size (.slice (some ⟨w7.heap.size, 0, none⟩) 0 0) [] from by have q := ownR_empty fileE (w7.setCell ⟨g, x.toNat * 2 + 1, none⟩ (.string t)) _ (Nat.le_refl _); rw [hz8] at q ⊢; exact q)
          clear hz8
          have HAL := hide (unhide HB7).sv.ad.1
          obtain ⟨p0, p1, p2, -, -, -, prl, -, -, -, -, -, -⟩ := (unhide HB7).sv
          have hDT := lt_of_cell p0
          simp at hDT
          have hDn : ¬ w1.heap.size = w7.heap.size := by omega
          obtain ⟨g', hg', pgl, -, pgd⟩ := prl.file x.toNat hxl
          obtain ⟨g2, hg2, -, pff⟩ := prl x.toNat hxl
          cases hg'
          cases hg2
          have pgf : w7.frozen? ⟨g, x.toNat * 2 + 1, none⟩ = false := (pff 1 (by decide)).2
          clear prl pff
          go_wp2_with (at_builtin; refine appG rfl _ _ rfl (unhide HOE) rfl (some ⟨g, 0, none⟩) L.length cL rfl (by rw [List.length_set]) (unhide HR9) (unhide HAL) (by simp; omega) (by simp) ?_; intro v9 w9 hO9 hb9; obtain ⟨a9, c9, hv9⟩ := hO9.form; rw [List.nil_append, List.length_set] at hv9; subst hv9; rw [List.nil_append] at hO9; obtain ⟨⟨s1, s2⟩, hF9⟩ := unhide HS a9 c9 w9 hO9 hb9; have HF9 := hide hF9; clear hO9 hb9 hF9)
          go_meet
          refine ⟨some ⟨g, 0, none⟩, _, a9, _, cL, c9, hide ⟨od_fit (unhide HSF).1 hxl htz, od_fit (unhide HSF).1 hxl htz, by rw [List.length_set]; omega, by rw [List.length_set]; omega⟩, hide ?_⟩
          exact unhide HF9
        · obtain rfl : u = 2 := by omega
          have hz7 : w4.heap.size ≤ w7.heap.size := Nat.le_of_lt (unhide HO7).2.1
          go_upto_region 13 with (at_builtin; refine appQ2 (w := w7) (B := w4.heap.size) (g := w4.heap.size) (cap := cp) (n := N) (xs := bL dt) (b := 2) (c := 1) rfl _ _ rfl (unhide HO7) (unhide HLN) rfl rfl (by omega) hz7 ?_; intro g8 cp8 w8 hO8 hb8 hk8 hg8; have HO8 := hide hO8; have HB8 := hide ((unhide HB7).belowB hb8 (by omega) (by omega) hz4 hfL hfS); clear hO8 hb8 hk8 hg8)
          have hcT := conv_pre _ _ _ _ (N + 2) cp8 _ (unhide HO8) (by rw [List.length_append, unhide HLN]; exact Nat.le_refl _)
          clear HO8 HO7
          obtain ⟨t, ht⟩ : ∃ t, strOfNums ((bL dt ++ [2, 1]).take (N + 2)) = t := ⟨_, rfl⟩
          have htz : t.size ≤ 1000000 := by rw [← ht]; rw [strOfNums_size, List.length_take]; omega
          rw [ht] at hcT
          have HS := hide (fun (a9 : Option Addr) (c9 : Nat) (w9 : World) hO hb => (unhide HB8).spoil (t := t) (a9 := a9) (c9 := c9) (w9 := w9) hR hz1 hxl hO hb)
          have HR9 := hide (((unhide HB8).row8 (t := t) hxl).below (bel1 _ (.cells #[] 67)))
          have hz8 : (w8.setCell ⟨g, x.toNat * 2 + 1, none⟩ (.string t)).heap.size = w8.heap.size := by simp
          have HOE := hide (show OwnR fileE ((w8.setCell ⟨g, x.toNat * 2 + 1, none⟩ (.string t)).alloc (.cells #[] 67)) (w8.setCell ⟨g, x.toNat * 2 + 1, none⟩ (.string t)).heap.size (.slice (some ⟨w8.heap.size, 0, none⟩) 0 0) [] from by have q := ownR_empty fileE (w8.setCell ⟨g, x.toNat * 2 + 1, none⟩ (.string t)) _ (Nat.le_refl _); rw [hz8] at q ⊢; exact q)
          clear hz8
          have HAL := hide (unhide HB8).sv.ad.1
          obtain ⟨p0, p1, p2, -, -, -, prl, -, -, -, -, -, -⟩ := (unhide HB8).sv
          have hDT := lt_of_cell p0
          simp at hDT
          have hDn : ¬ w1.heap.size = w8.heap.size := by omega
          obtain ⟨g', hg', pgl, -, pgd⟩ := prl.file x.toNat hxl
          obtain ⟨g2, hg2, -, pff⟩ := prl x.toNat hxl
          cases hg'
          cases hg2
          have pgf : w8.frozen? ⟨g, x.toNat * 2 + 1, none⟩ = false := (pff 1 (by decide)).2
          clear prl pff
          go_wp2_with (at_builtin; refine appG rfl _ _ rfl (unhide HOE) rfl (some ⟨g, 0, none⟩) L.length cL rfl (by rw [List.length_set]) (unhide HR9) (unhide HAL) (by simp; omega) (by simp) ?_; intro v9 w9 hO9 hb9; obtain ⟨a9, c9, hv9⟩ := hO9.form; rw [List.nil_append, List.length_set] at hv9; subst hv9; rw [List.nil_append] at hO9; obtain ⟨⟨s1, s2⟩, hF9⟩ := unhide HS a9 c9 w9 hO9 hb9; have HF9 := hide hF9; clear hO9 hb9 hF9)
          go_meet
          refine ⟨some ⟨g, 0, none⟩, _, a9, _, cL, c9, hide ⟨od_fit (unhide HSF).1 hxl htz, od_fit (unhide HSF).1 hxl htz, by rw [List.length_set]; omega, by rw [List.length_set]; omega⟩, hide ?_⟩
          exact unhide HF9
  case rest =>
  obtain ⟨w5, rfl⟩ : ∃ w5, w5 = wc := ⟨_, rfl⟩
  obtain ⟨yL, L', yS, S', dL, dS, HOF, HB5⟩ := hcut
  clear HB4 HI HX
  go_wp2_with fail
  refine (once_calls R a len cap zs 24 _ (unhide HB5).ds.rd (by omega) (by omega)).mono ?_
  rintro e w6 ⟨b6, rfl, hR6, ho6⟩
  have HB6 := hide ((unhide HB5).only hR hRD hR6 ho6)
  clear hR6 ho6 HB5
  obtain ⟨c0, c1, c2, z0, z1, z2, -, -, -, -, -, -, -⟩ := (unhide HB6).sv
  obtain ⟨-, d0, d1, d2, f0, f1, f2⟩ := (unhide HB6).nw
  have hne : ¬ w.heap.size = w1.heap.size := by omega
  cases b6 with
  | false =>
    go_wp2_with fail
    refine bodyPost_ret (v := .agg #[.slice yL L'.length dL, .slice yS S'.length dS, .slice aO 0 cO]) (by simp [results, Tryz.results22, go_sem, d0, d1, d2]) rfl ?_
    have hK := (unhide HB6).sv
    have hb : Below w.heap.size w6 (((w6.setCell ⟨w.heap.size, 0, none⟩ (.slice yL L'.length dL)).setCell ⟨w.heap.size, 1, none⟩ (.slice yS S'.length dS)).setCell ⟨w.heap.size, 2, none⟩ (.slice aO 0 cO)) := (((Below.refl _ _).setCell (p := ⟨w.heap.size, 0, none⟩) (Nat.le_refl _) _).setCell (p := ⟨w.heap.size, 1, none⟩) (Nat.le_refl _) _).setCell (p := ⟨w.heap.size, 2, none⟩) (Nat.le_refl _) _
    exact ⟨yL, dL, L', yS, dS, S', aO, cO, rfl, ⟨hK.rl.set3 (fun k hk => by have := hK.ll k hk; omega), hK.rs.set3 (fun k hk => by have := hK.ls k hk; omega)⟩, hK.ad, unhide HOF, ⟨fun g hg => by have := hK.ll g hg; omega, fun g hg => by have := hK.ls g hg; omega⟩, (unhide HB6).ds.rd.onlyB hb hR, (unhide HB6).ds.only.thenBelow hb (Nat.le_refl _)⟩
  | true =>
    go_wp2_with fail
    refine bodyPost_ret (v := .agg #[.slice yL L'.length dL, .slice none 0 0, .slice aO 0 cO]) (by simp [results, Tryz.results22, go_sem, d0, d1, d2]) rfl ?_
    have hK := (unhide HB6).sv
    have hF := unhide HOF
    have hb : Below w.heap.size w6 ((((w6.setCell ⟨w1.heap.size, 1, none⟩ (.slice none 0 0)).setCell ⟨w.heap.size, 0, none⟩ (.slice yL L'.length dL)).setCell ⟨w.heap.size, 1, none⟩ (.slice none 0 0)).setCell ⟨w.heap.size, 2, none⟩ (.slice aO 0 cO)) := ((((Below.refl _ _).setCell (p := ⟨w1.heap.size, 1, none⟩) (Nat.le_of_lt hz1) _).setCell (p := ⟨w.heap.size, 0, none⟩) (Nat.le_refl _) _).setCell (p := ⟨w.heap.size, 1, none⟩) (Nat.le_refl _) _).setCell (p := ⟨w.heap.size, 2, none⟩) (Nat.le_refl _) _
    exact ⟨yL, dL, L', none, 0, [], aO, cO, rfl, ⟨(hK.rl.setO hK.fl).set3 (fun k hk => by have := hK.ll k hk; omega), fun i hi => absurd hi (by simp)⟩, ⟨hK.ad.1, .inl ⟨rfl, rfl⟩, hK.ad.2.2⟩, ⟨hF.1, fit_nil, hF.2.2.1, Nat.zero_le _⟩, ⟨fun g hg => by have := hK.ll g hg; omega, fun g hg => by obtain ⟨o, e⟩ := hg; cases e⟩, (unhide HB6).ds.rd.onlyB hb hR, (unhide HB6).ds.only.thenBelow hb (Nat.le_refl _)⟩
end Go.Proofs.YtakalfckhailjaaGreat
