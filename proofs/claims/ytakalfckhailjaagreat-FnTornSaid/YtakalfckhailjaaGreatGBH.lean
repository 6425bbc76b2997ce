/- Texts of one kind, put together. -/
import Derived.Test.YtakalfckhailjaaGreatSeT
import Derived.Test.YtakalfckhailjaaGreatSvvS
import Derived.Test.YtakalfckhailjaaGreatGBC
import Derived.Test.YtakalfckhailjaaGreatGBA
import Derived.Test.YtakalfckhailjaaGreatGBF
import Derived.Deep.RegionHeld3
import Derived.Deep.DeepCutAuto

/- A disk with a journal that is drawn: what its variable holds, what saving leaves. -/
namespace Go.Proofs.YtakalfckhailjaaGreat
open Go.RowKit Plain
set_option linter.unusedVariables false

namespace Plain
/-- Files that a machine bears. -/
def SvF (live safe : List Fl) : Prop := FitF live ∧ FitF safe ∧ live.length ≤ 1048576 ∧ safe.length ≤ 1048576 ∧ filesB live = true
theorem fit_nil : FitF [] := fun f hf => by cases hf
theorem syn_fit {live safe : List Fl} {ops : List Dop} (h : FitF live) (hl : live.length ≤ 1048576) : FitF (synL live safe ops) ∧ (synL live safe ops).length ≤ 1048576 := by
  unfold synL
  split
  · exact ⟨h, hl⟩
  · exact ⟨fit_nil, Nat.zero_le _⟩
theorem sv_none (t v : Int) : SvF (svL [] [] [] t v) (svS [] [] [] t v) ∧ svO [] [] [] t v = [] := by
  have hvz := voteB_small t v
  obtain ⟨hx, hxl⟩ := repX_small [] [] [] (fr := voteNew) (nm := voteN) (dt := voteB t v) (by decide) (by decide) (by omega)
  unfold svL svS svO SvF
  by_cases hd : diskB [] [] [] = true
  · simp only [if_pos hd]
    by_cases hb : svB [] [] [] t v = true
    · simp only [if_pos hb]
      obtain ⟨f1, f2, f3, f4, f5, f6⟩ := sv_fit (xs := svX [] [] [] t v) hd (fun o ho => by cases ho) hx hxl
      obtain ⟨s1, s2⟩ := syn_fit (safe := actS [] [] []) (ops := actO [] [] [] (svX [] [] [] t v)) f1 f4
      by_cases hc : actC [] [] [] (svX [] [] [] t v) = 0
      · simp only [if_pos hc]
        exact ⟨⟨s1, s1, s2, s2, by rw [syn_run hd hc]; exact (act_run hd hc).2⟩, trivial⟩
      · simp only [if_neg hc]
        unfold actC at hc
        rw [if_pos hd] at hc
        refine ⟨⟨f1, f2, f4, f5, by unfold actL; rw [if_pos hd, if_neg hc]; decide⟩, ?_⟩
        unfold actO
        rw [if_pos hd, if_neg hc]
    · simp only [if_neg hb]
      exact ⟨⟨fit_nil, fit_nil, Nat.zero_le _, Nat.zero_le _, by decide⟩, trivial⟩
  · simp only [if_neg hd]
    exact ⟨⟨fit_nil, fit_nil, Nat.zero_le _, Nat.zero_le _, by decide⟩, trivial⟩
theorem dn_zero {live safe : List Fl} {ops : List Dop} {fm : Int} {es : List Ent} (hfo : ∀ o ∈ ops, SmO o) (hc : dnC live safe ops (seB live safe ops fm es) 11 (seX live safe ops fm es) = 0) :
    (diskB live safe ops = true ∧ seB live safe ops fm es = true ∧ actC live safe ops (seX live safe ops fm es) = 0) ∧ SvF (dnL live safe ops (seB live safe ops fm es) (seX live safe ops fm es)) (dnS live safe ops (seB live safe ops fm es) (seX live safe ops fm es)) ∧ dnO live safe ops (seB live safe ops fm es) (seX live safe ops fm es) = [] := by
  unfold dnC at hc
  by_cases hd : diskB live safe ops = true
  · rw [if_pos hd] at hc
    by_cases hb : seB live safe ops fm es = true
    · rw [if_pos hb] at hc
      obtain ⟨hx, hxl, -, -⟩ := seX_small hb
      obtain ⟨f1, f2, f3, f4, f5, f6⟩ := dn_fit hd hfo hx hxl
      obtain ⟨s1, s2⟩ := syn_fit (safe := actS live safe ops) (ops := actO live safe ops (seX live safe ops fm es)) f1 f4
      obtain ⟨e1, e2, e3⟩ := fn_zero hc
      unfold dnL dnS dnO SvF
      simp only [if_pos hd, if_pos hb, e1, e2, e3]
      exact ⟨⟨hd, hb, hc⟩, ⟨s1, s1, s2, s2, by rw [syn_run hd hc]; exact (act_run hd hc).2⟩, trivial⟩
    · rw [if_neg hb] at hc; cases hc
  · rw [if_neg hd] at hc; cases hc
theorem dn_zero0 {live safe : List Fl} {fm : Int} {es : List Ent} (hc : dnC live safe [] (seB live safe [] fm es) 11 (seX live safe [] fm es) = 0) :
    SvF (dnL live safe [] (seB live safe [] fm es) (seX live safe [] fm es)) (dnS live safe [] (seB live safe [] fm es) (seX live safe [] fm es)) ∧ dnO live safe [] (seB live safe [] fm es) (seX live safe [] fm es) = [] := (dn_zero (fun o ho => by cases ho) hc).2
/-- The variable's block D, and its rows: there are no ops. -/
structure SvK (LO D : Nat) (live safe : List Fl) (aL : Option Addr) (cL : Nat) (aS : Option Addr) (cS : Nat) (aO : Option Addr) (cO : Nat) (W : World) : Prop where
  c0 : W.cell? ⟨D, 0, none⟩ = some (.slice aL live.length cL)
  c1 : W.cell? ⟨D, 1, none⟩ = some (.slice aS safe.length cS)
  c2 : W.cell? ⟨D, 2, none⟩ = some (.slice aO 0 cO)
  z0 : W.frozen? ⟨D, 0, none⟩ = false
  z1 : W.frozen? ⟨D, 1, none⟩ = false
  z2 : W.frozen? ⟨D, 2, none⟩ = false
  rl : RowAt fileE W aL live
  rs : RowAt fileE W aS safe
  ad : AdOk aL cL ∧ AdOk aS cS ∧ AdOk aO cO
  fl : live = [] ∨ ∀ g, inB aL g → g ≠ D
  fs : safe = [] ∨ ∀ g, inB aS g → g ≠ D
  ll : ∀ g, inB aL g → LO ≤ g
  ls : ∀ g, inB aS g → LO ≤ g
theorem row_onlyS {α : Type} {e : Elem α} {W W' : World} {a : Option Addr} {xs : List α} {R : Nat} (h : RowAt e W a xs) (ho : OnlyAt ⟨R, 1, none⟩ W W') (hR : ∀ g, inB a g → g ≠ R) : RowAt e W' a xs := fun i hi => by
  obtain ⟨g, e1, hl, h1⟩ := h i hi
  have hg : g ≠ R := hR g ⟨0, e1⟩
  exact ⟨g, e1, Nat.lt_of_lt_of_le hl ho.size, fun j hj => ⟨(ho.cell ⟨g, i * e.n + j, none⟩ hl (fun q => by injection q with q _ _; exact hg q)).trans (h1 j hj).1, (ho.frozen ⟨g, i * e.n + j, none⟩ hl).trans (h1 j hj).2⟩⟩
section
variable {LO D : Nat} {live safe : List Fl} {aL aS aO : Option Addr} {cL cS cO : Nat} {W W' : World}
theorem SvK.only {R : Nat} (h : SvK LO D live safe aL cL aS cS aO cO W) (ho : OnlyAt ⟨R, 1, none⟩ W W') (hR : R < LO) (hD : R < D) : SvK LO D live safe aL cL aS cS aO cO W' :=
  ⟨ho.c h.c0 (by omega), ho.c h.c1 (by omega), ho.c h.c2 (by omega), ho.z (lt_of_cell h.c0) h.z0, ho.z (lt_of_cell h.c0) h.z1, ho.z (lt_of_cell h.c0) h.z2,
   row_onlyS h.rl ho (fun g hg => by have := h.ll g hg; omega), row_onlyS h.rs ho (fun g hg => by have := h.ls g hg; omega), h.ad, h.fl, h.fs, h.ll, h.ls⟩
theorem SvK.below (h : SvK LO D live safe aL cL aS cS aO cO W) (hb : Below W.heap.size W W') : SvK LO D live safe aL cL aS cS aO cO W' := by
  have hD := lt_of_cell h.c0
  exact ⟨bcl hb hD h.c0, bcl hb hD h.c1, bcl hb hD h.c2, (hb.frozen (p := ⟨D, 0, none⟩) hD).trans h.z0, (hb.frozen (p := ⟨D, 1, none⟩) hD).trans h.z1, (hb.frozen (p := ⟨D, 2, none⟩) hD).trans h.z2, h.rl.below hb, h.rs.below hb, h.ad, h.fl, h.fs, h.ll, h.ls⟩
theorem SvK.disk (h : SvK LO D live safe aL cL aS cS aO cO W) (hf : SvF live safe) : DiskAt W aL live.length cL live aS safe.length cS safe aO 0 cO [] :=
  ⟨h.rl, h.rs, fun i hi => absurd hi (by simp), rfl, rfl, rfl, h.ad.1, h.ad.2.1, h.ad.2.2, hf.1, hf.2.1, fun o ho => (by cases ho), hf.2.2.1, hf.2.2.2.1, Nat.zero_le _⟩
theorem row_far {W : World} {a : Option Addr} {xs : List Fl} (h : RowAt fileE W a xs) (D : Nat) (hD : W.heap.size ≤ D) : xs = [] ∨ ∀ g, inB a g → g ≠ D := by
  cases xs with
  | nil => exact .inl rfl
  | cons x l =>
    obtain ⟨g, e, hl, _⟩ := h 0 (by simp)
    refine .inr fun g' hg => ?_
    obtain ⟨o, e2⟩ := hg
    rw [e] at e2
    cases e2
    omega
theorem row_lt {W : World} {a : Option Addr} {xs : List Fl} (h : RowAt fileE W a xs) : xs = [] ∨ ∀ g, inB a g → g < W.heap.size := by
  cases xs with
  | nil => exact .inl rfl
  | cons x l =>
    obtain ⟨g, e, hl, _⟩ := h 0 (by simp)
    refine .inr fun g' hg => ?_
    obtain ⟨o, e2⟩ := hg
    rw [e] at e2
    cases e2
    exact hl
theorem SvK.set3 {b : Nat} {v0 v1 v2 : Value} (h : SvK LO D live safe aL cL aS cS aO cO W) (hD : b ≠ D) (hl : live = [] ∨ ∀ g, inB aL g → g ≠ b) (hs : safe = [] ∨ ∀ g, inB aS g → g ≠ b) :
    SvK LO D live safe aL cL aS cS aO cO (((W.setCell ⟨b, 0, none⟩ v0).setCell ⟨b, 1, none⟩ v1).setCell ⟨b, 2, none⟩ v2) := by
  have c0 := h.c0
  have c1 := h.c1
  have c2 := h.c2
  have z0 := h.z0
  have z1 := h.z1
  have z2 := h.z2
  exact ⟨by simp [go_sem, c0], by simp [go_sem, c1], by simp [go_sem, c2], by simp [go_sem, z0], by simp [go_sem, z1], by simp [go_sem, z2],
    ((h.rl.setO hl).setO hl).setO hl, ((h.rs.setO hs).setO hs).setO hs, h.ad, h.fl, h.fs, h.ll, h.ls⟩
theorem SvK.new (rl : RowAt fileE W aL live) (rs : RowAt fileE W aS safe) (ad : AdOk aL cL ∧ AdOk aS cS ∧ AdOk aO cO) (ll : ∀ g, inB aL g → LO ≤ g) (ls : ∀ g, inB aS g → LO ≤ g) :
    SvK LO W.heap.size live safe aL cL aS cS aO cO (W.alloc (.cells #[.slice aL live.length cL, .slice aS safe.length cS, .slice aO 0 cO] 27)) :=
  ⟨by simp [go_sem], by simp [go_sem], by simp [go_sem], by simp [go_sem], by simp [go_sem], by simp [go_sem], rl.below (bel1 _ _), rs.below (bel1 _ _), ad, row_far rl _ (Nat.le_refl _), row_far rs _ (Nat.le_refl _), ll, ls⟩
/-- It is written anew, with what a call left. -/
theorem SvK.put {live' safe' : List Fl} {xL xS xO : Option Addr} {dL dS dO : Nat} (h : SvK LO D live safe aL cL aS cS aO cO W) (rl : RowAt fileE W xL live') (rs : RowAt fileE W xS safe') (ad : AdOk xL dL ∧ AdOk xS dS ∧ AdOk xO dO) (nl : ∀ g, inB xL g → D < g ∧ LO ≤ g) (ns : ∀ g, inB xS g → D < g ∧ LO ≤ g) :
    SvK LO D live' safe' xL dL xS dS xO dO (((W.setCell ⟨D, 0, none⟩ (.slice xL live'.length dL)).setCell ⟨D, 1, none⟩ (.slice xS safe'.length dS)).setCell ⟨D, 2, none⟩ (.slice xO 0 dO)) := by
  have l' : live' = [] ∨ ∀ g, inB xL g → g ≠ D := .inr fun g hg => by have := nl g hg; omega
  have s' : safe' = [] ∨ ∀ g, inB xS g → g ≠ D := .inr fun g hg => by have := ns g hg; omega
  have c0 := h.c0
  have c1 := h.c1
  have c2 := h.c2
  have z0 := h.z0
  have z1 := h.z1
  have z2 := h.z2
  exact ⟨by simp [go_sem, c0], by simp [go_sem, c1], by simp [go_sem, c2], by simp [go_sem, z0], by simp [go_sem, z1], by simp [go_sem, z2],
    ((rl.setO l').setO l').setO l', ((rs.setO s').setO s').setO s', ad, l', s', fun g hg => (nl g hg).2, fun g hg => (ns g hg).2⟩
end
theorem NwB.only {b R : Nat} {v0 v1 v2 : Value} {V V' : World} (h : NwB b v0 v1 v2 V) (ho : OnlyAt ⟨R, 1, none⟩ V V') (hb : R ≠ b) : NwB b v0 v1 v2 V' :=
  ⟨Nat.lt_of_lt_of_le h.lt ho.size, ho.c h.c0 (Ne.symm hb), ho.c h.c1 (Ne.symm hb), ho.c h.c2 (Ne.symm hb), ho.z h.lt h.z0, ho.z h.lt h.z1, ho.z h.lt h.z2⟩
theorem disk_none (W : World) : DiskAt W none 0 0 [] none 0 0 [] none 0 0 [] :=
  ⟨fun i hi => absurd hi (by simp), fun i hi => absurd hi (by simp), fun i hi => absurd hi (by simp), rfl, rfl, rfl, .inl ⟨rfl, rfl⟩, .inl ⟨rfl, rfl⟩, .inl ⟨rfl, rfl⟩, fit_nil, fit_nil, fun o ho => (by cases ho), Nat.zero_le _, Nat.zero_le _, Nat.zero_le _⟩
end Plain
end Go.Proofs.YtakalfckhailjaaGreat


/- A disk with a journal that is drawn. -/
namespace Go.Proofs.YtakalfckhailjaaGreat
open Go.RowKit Plain
set_option linter.unusedVariables false

/-- A disk that is drawn. -/
def Plain.SavPost (R : Nat) (a : Option Addr) (len cap : Nat) (zs : List Int) (w : World) (e : Ending) (w' : World) : Prop :=
  ∃ aL cL live aS cS safe aO cO, e = .returned (.agg #[.slice aL (live : List Fl).length cL, .slice aS (safe : List Fl).length cS, .slice aO 0 cO]) ∧ (RowAt fileE w' aL live ∧ RowAt fileE w' aS safe) ∧ (AdOk aL cL ∧ AdOk aS cS ∧ AdOk aO cO) ∧ SvF live safe ∧ ((∀ g, inB aL g → w.heap.size ≤ g) ∧ ∀ g, inB aS g → w.heap.size ≤ g) ∧ Rd w' R a len cap zs ∧ OnlyAt ⟨R, 1, none⟩ w w'

/-- What stays while the next disk is made. -/
structure Plain.SvB (w : World) (R : Nat) (a : Option Addr) (len cap : Nat) (zs : List Int) (D J : Nat) (T : Int) (L S : List Fl) (aL : Option Addr) (cL : Nat) (aS : Option Addr) (cS : Nat) (aO : Option Addr) (cO : Nat) (W : World) : Prop where
  ds : DS w R a len cap zs W
  nw : NwB w.heap.size (.slice none 0 0) (.slice none 0 0) (.slice none 0 0) W
  sv : SvK (w.heap.size + 1) D L S aL cL aS cS aO cO W
  jc : W.cell? ⟨J, 0, none⟩ = some (.int .i64 T)
theorem set3B {b b' : Nat} {v0 v1 v2 u0 u1 u2 : Value} {V : World} (h : NwB b v0 v1 v2 V) (hb : b' ≠ b) : NwB b v0 v1 v2 (((V.setCell ⟨b', 0, none⟩ u0).setCell ⟨b', 1, none⟩ u1).setCell ⟨b', 2, none⟩ u2) := by
  obtain ⟨h0, h1, h2, h3, h4, h5, h6⟩ := h
  exact ⟨by simpa using h0, by simp [go_sem, h1], by simp [go_sem, h2], by simp [go_sem, h3], by simp [go_sem, h4], by simp [go_sem, h5], by simp [go_sem, h6]⟩
section
variable {w W W' : World} {R : Nat} {a : Option Addr} {len cap : Nat} {zs : List Int} {D J : Nat} {T : Int} {L S : List Fl} {aL : Option Addr} {cL : Nat} {aS : Option Addr} {cS : Nat} {aO : Option Addr} {cO : Nat}
theorem Plain.SvB.only (h : SvB w R a len cap zs D J T L S aL cL aS cS aO cO W) (hR : R < w.heap.size) (hD : R < D) (hJ : R < J) (h1 : Rd W' R a len cap zs) (h2 : OnlyAt ⟨R, 1, none⟩ W W') : SvB w R a len cap zs D J T L S aL cL aS cS aO cO W' :=
  ⟨h.ds.call h1 h2, h.nw.only h2 (by omega), h.sv.only h2 (by omega) hD, h2.c h.jc (by omega)⟩
theorem Plain.SvB.below (h : SvB w R a len cap zs D J T L S aL cL aS cS aO cO W) (hb : Below W.heap.size W W') : SvB w R a len cap zs D J T L S aL cL aS cS aO cO W' :=
  ⟨h.ds.below hb, h.nw.below hb, h.sv.below hb, bcl hb (lt_of_cell h.jc) h.jc⟩
theorem Plain.SvB.drew (h : SvB w R a len cap zs D J T L S aL cL aS cS aO cO W) : SvB w R a len cap zs D J T L S aL cL aS cS aO cO W.drew := h.below (belDrew (Below.refl _ _))
theorem Plain.SvB.set3 {b : Nat} {v0 v1 v2 : Value} (h : SvB w R a len cap zs D J T L S aL cL aS cS aO cO W) (hR : R < w.heap.size) (hb : w.heap.size < b) (hD : b ≠ D) (hJ : b ≠ J) (hl : L = [] ∨ ∀ g, inB aL g → g ≠ b) (hs : S = [] ∨ ∀ g, inB aS g → g ≠ b) :
    SvB w R a len cap zs D J T L S aL cL aS cS aO cO (((W.setCell ⟨b, 0, none⟩ v0).setCell ⟨b, 1, none⟩ v1).setCell ⟨b, 2, none⟩ v2) :=
  ⟨((h.ds.set hR (by omega) _).set hR (by omega) _).set hR (by omega) _, set3B h.nw (by omega), h.sv.set3 hD hl hs, by have := h.jc; simp [go_sem, this]⟩
theorem Plain.NZ.onlyS {b : Nat} (h : NZ b W) (ho : OnlyAt ⟨R, 1, none⟩ W W') (hb : R < b) : NZ b W' :=
  ⟨Nat.lt_of_lt_of_le h.lt ho.size, ho.c h.c0 (by omega), ho.c h.c1 (by omega), ho.c h.c2 (by omega), ho.z h.lt h.z0, ho.z h.lt h.z1, ho.z h.lt h.z2⟩
end

set_option maxRecDepth 10000 in
set_option maxHeartbeats 8000000 in
theorem saved_calls (R : Nat) (a : Option Addr) (len cap : Nat) (zs : List Int) (w : World) (h : Rd w R a len cap zs) :
    Calls Tryz.prog 63 #[.pointer (some ⟨R, 0, none⟩)] w (SavPost R a len cap zs w) := by
  have hR := h.lt
  obtain ⟨W0, hW0⟩ : ∃ W0, W0 = w.alloc (.cells #[.slice none 0 0, .slice none 0 0, .slice none 0 0] 27) := ⟨_, rfl⟩
  have HD0 := hide (show DS w R a len cap zs W0 from by rw [hW0]; exact (DS.start h).alloc _)
  have HN0 := hide (show NwB w.heap.size (.slice none 0 0) (.slice none 0 0) (.slice none 0 0) W0 from by rw [hW0]; exact NwB.new w _ _ _)
  have hz0 : w.heap.size < W0.heap.size := by rw [hW0]; simp
  have HW0 := hide hW0.symm
  clear h hW0
  go_enter Tryz.func63, Tryz.ntmps63
  go_wp2_with fail
  rw [unhide HW0]
  refine (below_calls R a len cap zs 3 _ (unhide HD0).rd (by omega) (by omega)).mono ?_
  rintro e w1 ⟨v1, rfl, hv10, hv11, hR1, ho1⟩
  have HD1 := hide ((unhide HD0).call hR1 ho1)
  have HN1 := hide ((unhide HN0).only ho1 (by omega))
  have hz1 : w.heap.size < w1.heap.size := (unhide HN1).lt
  have hw1 : IntKind.i64.wrap (1 + v1) = 1 + v1 := by rw [IntKind.wrap_i64]; omega
  clear hR1 ho1 HD0 HN0
  go_wp2_with fail
  refine (below_calls R a len cap zs 3 _ (unhide HD1).rd (by omega) (by omega)).mono ?_
  rintro e w2 ⟨v2, rfl, hv20, hv21, hR2, ho2⟩
  have HD2 := hide ((unhide HD1).call hR2 ho2)
  have HN2 := hide ((unhide HN1).only ho2 (by omega))
  have hz2 : w.heap.size < w2.heap.size := (unhide HN2).lt
  obtain ⟨hSF, hSO⟩ := sv_none (1 + v1) v2
  have HSV := hide (spec_SaveVoteQ none 0 0 [] none 0 0 [] none 0 0 [] (1 + v1) v2 w2 (disk_none w2))
  unfold SpcQ at HSV
  rw [hSO] at HSV
  simp only [List.length_nil] at HSV
  generalize svL [] [] [] (1 + v1) v2 = L0 at HSV hSF
  generalize svS [] [] [] (1 + v1) v2 = S0 at HSV hSF
  generalize svC [] [] [] (1 + v1) v2 = C0 at HSV
  have HSF0 := hide hSF
  clear hR2 ho2 HD1 HN1 hSF hSO hz0 hz1
  go_wp2_with fail
  refine (unhide HSV).mono ?_
  rintro e w3 ⟨aL, cL, aS, cS, aO, cO, rfl, r1, r2, -, ad, n1, n2, -, hb3⟩
  have HD3 := hide ((unhide HD2).below hb3)
  have HN3 := hide ((unhide HN2).below hb3)
  obtain ⟨W4, hW4⟩ : ∃ W4, W4 = w3.alloc (.cells #[.slice aL L0.length cL, .slice aS S0.length cS, .slice aO 0 cO] 27) := ⟨_, rfl⟩
  have HK4 := hide (show SvK (w.heap.size + 1) w3.heap.size L0 S0 aL cL aS cS aO cO W4 from by rw [hW4]; exact SvK.new r1 r2 ad (fun g hg => by have := n1 g hg; omega) (fun g hg => by have := n2 g hg; omega))
  have hb4 : Below w3.heap.size w3 W4 := by rw [hW4]; exact bel1 _ _
  have HD4 := hide ((unhide HD3).below hb4)
  have HN4 := hide ((unhide HN3).below hb4)
  have hz3 : w.heap.size < w3.heap.size := (unhide HN3).lt
  have hRD : R < w3.heap.size := by omega
  have HW4 := hide hW4.symm
  have HRC := hide (spec_Recover aL L0.length cL L0 aS S0.length cS S0 aO 0 cO [] W4 ((unhide HK4).disk (unhide HSF0)))
  generalize recT L0 S0 [] = RR at HRC
  obtain ⟨ok, T, V, es⟩ := RR
  simp only [] at HRC
  clear r1 r2 ad n1 n2 hb3 hb4 hW4 HD2 HN2 HD3 HN3 hz2 HSV
  go_wp2_with fail
  rw [unhide HW4]
  refine (unhide HRC).mono ?_
  rintro e w5 ⟨sl, rfl, ho5, hb5⟩
  obtain ⟨aj, cj, rfl⟩ := ho5.form
  obtain ⟨W6, hW6⟩ : ∃ W6, W6 = w5.alloc (.cells #[.int .i64 T, .int .i64 V, .slice aj es.length cj] 34) := ⟨_, rfl⟩
  have hb6 : Below W4.heap.size W4 W6 := by rw [hW6]; exact belOn hb5 (bel1 _ _)
  have HJ6 := hide (show W6.cell? ⟨w5.heap.size, 0, none⟩ = some (.int .i64 T) from by rw [hW6]; simp [go_sem])
  have HD6 := hide ((unhide HD4).below hb6)
  have HN6 := hide ((unhide HN4).below hb6)
  have HK6 := hide ((unhide HK4).below hb6)
  have hJ : w3.heap.size < w5.heap.size := by have := hb5.size; have := lt_of_cell (unhide HK4).c0; simp only at this; omega
  have HW6 := hide hW6.symm
  clear ho5 hb5 hb6 hW6 HRC HD4 HN4 HK4
  go_wp2_with fail
  rw [unhide HW6]
  refine (below_calls R a len cap zs 4 _ (unhide HD6).rd (by omega) (by omega)).mono ?_
  rintro e w7 ⟨v7, rfl, hv70, hv71, hR7, ho7⟩
  obtain ⟨N7, rfl⟩ := Int.eq_ofNat_of_zero_le hv70
  have HD7 := hide ((unhide HD6).call hR7 ho7)
  have HN7 := hide ((unhide HN6).only ho7 (by omega))
  have HK7 := hide ((unhide HK6).only ho7 (by omega) hRD)
  have HJ7 := hide (ho7.c (unhide HJ6) (by omega))
  clear hR7 ho7 HD6 HN6 HK6 HJ6
  go_wp2_with fail
  go_loopw [7] (fun s7 wr => ∃ (j : Nat) (aL : Option Addr) (cL : Nat) (L : List Fl) (aS : Option Addr) (cS : Nat) (S : List Fl) (aO : Option Addr) (cO : Nat), s7 = .int .i64 j ∧ j ≤ 3 ∧ Hid (DS w R a len cap zs wr) ∧ Hid (NwB w.heap.size (.slice none 0 0) (.slice none 0 0) (.slice none 0 0) wr) ∧ Hid (SvK (w.heap.size + 1) w3.heap.size L S aL cL aS cS aO cO wr) ∧ Hid (wr.cell? ⟨w5.heap.size, 0, none⟩ = some (.int .i64 T)) ∧ Hid (SvF L S)) (fun s7 _ => (intOf s7).toNat)
  case atStart => exact ⟨N7, aL, cL, L0, aS, cS, S0, aO, cO, rfl, by omega, HD7, HN7, HK7, HJ7, HSF0⟩
  case round =>
    clear HD7 HN7 HK7 HJ7 HSF0 hv70 hv71
    obtain ⟨j, xL, kL, L, xS, kS, S, xO, kO, rfl, hj, HD, HN, HK, HJ, HSF⟩ := hrel
    by_cases hj0 : 0 < j
    · obtain ⟨j', rfl⟩ : ∃ j', j = j' + 1 := ⟨j - 1, by omega⟩
      have hjp : (0 : Int) < ((j' + 1 : Nat) : Int) := by omega
      have hjm : IntKind.i64.wrap (((j' + 1 : Nat) : Int) - 1) = (j' : Int) := by rw [IntKind.wrap_i64]; omega
      have HB := hide (show SvB w R a len cap zs w3.heap.size w5.heap.size T L S xL kL xS kS xO kO wr from ⟨unhide HD, unhide HN, unhide HK, unhide HJ⟩)
      have hDl := lt_of_cell (unhide HK).c0
      have hJl := lt_of_cell (unhide HJ)
      simp only at hDl hJl
      have hRJ : R < w5.heap.size := by omega
      have hfL := row_lt (unhide HK).rl
      have hfS := row_lt (unhide HK).rs
      have hJD : ¬ w3.heap.size = w5.heap.size := by omega
      obtain ⟨c0, c1, c2, -, -, -, -, -, -, -, -, -, -⟩ := unhide HK
      have cj := unhide HJ
      go_wp2_with fail
      go_cut [8, 9] (fun s8 s9 wx => ∃ (b8 : Nat) (c : Int) (yL : Option Addr) (dL : Nat) (L' : List Fl) (yS : Option Addr) (dS : Nat) (S' : List Fl) (yO : Option Addr) (dO : Nat) (O' : List Dop), s8 = .pointer (some ⟨b8, 0, none⟩) ∧ s9 = .int .i64 c ∧ Hid (DC b8 (.slice yL L'.length dL) (.slice yS S'.length dS) (.slice yO O'.length dO) wx) ∧ Hid (RowAt fileE wx yL L' ∧ RowAt fileE wx yS S') ∧ Hid (AdOk yL dL ∧ AdOk yS dS ∧ AdOk yO dO) ∧ Hid ((∀ g, inB yL g → wr.heap.size ≤ g) ∧ ∀ g, inB yS g → wr.heap.size ≤ g) ∧ Hid (c = 0 → SvF L' S' ∧ O' = []) ∧ Hid (SvB w R a len cap zs w3.heap.size w5.heap.size T L S xL kL xS kS xO kO wx))
      case first =>
        have HB1 := hide ((unhide HB).drew)
        have HB2 := hide (((unhide HB).below (bel1 wr (.cells #[.slice none 0 0, .slice none 0 0, .slice none 0 0] 27))).drew)
        have HSE := hide (fun (W : World) (fm : Int) (ae : Option Addr) (ne ce : Nat) (es : List Ent) (hW : SvB w R a len cap zs w3.heap.size w5.heap.size T L S xL kL xS kS xO kO W) (hr : RowAt entE W ae es) (hn : es.length = ne) (hl : ne ≤ 4) (hb : ∀ x ∈ es, x.body.size ≤ 6) (had : AdG ae ce) => spec_SaveEntriesQ xL L.length kL L xS S.length kS S xO 0 kO [] fm ae ne ce es W (hW.sv.disk (unhide HSF)) hr hn (by omega) (fun x hx => Nat.le_trans (hb x hx) (by decide)) had)
        unfold SpcQ at HSE
        clear HD HN HK HJ
        go_region_held3 (fun w' => (w'.cell? ⟨w3.heap.size, 0, none⟩ = some (.slice xL L.length kL) ∧ w'.cell? ⟨w3.heap.size, 1, none⟩ = some (.slice xS S.length kS) ∧ w'.cell? ⟨w3.heap.size, 2, none⟩ = some (.slice xO 0 kO)) ∧ w'.cell? ⟨w5.heap.size, 0, none⟩ = some (.int .i64 T)) (go_keep) (first
          | (go_at_call 64; (with_reducible refine (below_calls R a len cap zs 4 wr.drew (unhide HB1).ds.rd (by omega) (by omega)).mono ?_); rintro e w8 ⟨v8, rfl, hv80, hv81, hR8, ho8⟩; have HB8 := hide ((unhide HB1).only hR hRD hRJ hR8 ho8); have hz8 : wr.heap.size ≤ w8.heap.size := ho8.size; obtain ⟨p0, p1, p2, -, -, -, -, -, -, -, -, -, -⟩ := (unhide HB8).sv; have pj := (unhide HB8).jc)
          | (go_at_call 64; (with_reducible refine (below_calls R a len cap zs 4 (wr.alloc (.cells #[.slice none 0 0, .slice none 0 0, .slice none 0 0] 27)).drew (unhide HB2).ds.rd (by omega) (by omega)).mono ?_); rintro e w8 ⟨v8, rfl, hv80, hv81, hR8, ho8⟩; have HB8 := hide ((unhide HB2).only hR hRD hRJ hR8 ho8); have NB8 := (NZ.newD wr).onlyS ho8 (by omega); have hz8 : wr.heap.size ≤ w8.heap.size := Nat.le_of_lt NB8.lt; have hb83 : ¬ wr.heap.size = w3.heap.size := (by omega); have hb85 : ¬ wr.heap.size = w5.heap.size := (by omega); obtain ⟨p0, p1, p2, -, -, -, -, -, -, -, -, -, -⟩ := (unhide HB8).sv; have pj := (unhide HB8).jc)
          | (go_at_call 23; (with_reducible refine (entries_calls R a len cap zs T w8 (unhide HB8).ds.rd).mono ?_); rintro e w9 ⟨v9, es, rfl, HO9, HF9, hl9, hR9, ho9⟩; obtain ⟨ae, ce, rfl⟩ := (unhide HO9).form; have HB9 := hide ((unhide HB8).only hR hRD hRJ hR9 ho9); have hz9 : wr.heap.size ≤ w9.heap.size := Nat.le_trans hz8 ho9.size; (try have NB9 := NB8.onlyS ho9 (by omega)); obtain ⟨p0', p1', p2', -, -, -, -, -, -, -, -, -, -⟩ := (unhide HB9).sv; have pj' := (unhide HB9).jc)
          | (go_at_call 23; (with_reducible refine (entries_calls R a len cap zs T (w8.alloc (.cells #[.slice none 0 0, .slice none 0 0, .slice none 0 0] 27)) ((unhide HB8).below (bel1 _ _)).ds.rd).mono ?_); rintro e w9 ⟨v9, es, rfl, HO9, HF9, hl9, hR9, ho9⟩; obtain ⟨ae, ce, rfl⟩ := (unhide HO9).form; have HB9 := hide (((unhide HB8).below (bel1 _ _)).only hR hRD hRJ hR9 ho9); have NB9 := (NZ.new w8).onlyS ho9 (by omega); have hz9 : wr.heap.size ≤ w9.heap.size := Nat.le_trans hz8 (Nat.le_of_lt NB9.lt); have hb83 : ¬ w8.heap.size = w3.heap.size := (by omega); have hb85 : ¬ w8.heap.size = w5.heap.size := (by omega); obtain ⟨p0', p1', p2', -, -, -, -, -, -, -, -, -, -⟩ := (unhide HB9).sv; have pj' := (unhide HB9).jc)
          | (go_at_call 7; (with_reducible refine (unhide HSE w9 _ ae _ ce es (unhide HB9) (unhide HO9).at rfl hl9 (unhide HF9) (unhide HO9).adG).mono ?_); rintro e w10 ⟨yL, dL, yS, dS, yO, dO, rfl, r1, r2, -, ad, n1, n2, -, hb10⟩; have HB10 := hide ((unhide HB9).below hb10); (try (have nbl := NB9.lt; have NB10 := NB9.below hb10; obtain ⟨nlt, m0, m1, m2, y0, y1, y2⟩ := NB10)); have hz10 : wr.heap.size ≤ w10.heap.size := Nat.le_trans hz9 hb10.size; obtain ⟨p0'', p1'', p2'', -, -, -, -, -, -, -, -, -, -⟩ := (unhide HB10).sv; have pj'' := (unhide HB10).jc)
          | (go_at_call 7; (with_reducible refine (unhide HSE (w9.alloc (.cells #[.slice none 0 0, .slice none 0 0, .slice none 0 0] 27)) _ ae _ ce es ((unhide HB9).below (bel1 _ _)) ((unhide HO9).at.below (bel1 _ _)) rfl hl9 (unhide HF9) (unhide HO9).adG).mono ?_); rintro e w10 ⟨yL, dL, yS, dS, yO, dO, rfl, r1, r2, -, ad, n1, n2, -, hb10⟩; have HB10 := hide (((unhide HB9).below (bel1 _ _)).below hb10); have nbl := (NZ.new w9).lt; have NB10 := (NZ.new w9).below hb10; have hz10 : wr.heap.size ≤ w10.heap.size := (by have := NB10.lt; omega); obtain ⟨nlt, m0, m1, m2, y0, y1, y2⟩ := NB10; have hb93 : ¬ w9.heap.size = w3.heap.size := (by omega); have hb95 : ¬ w9.heap.size = w5.heap.size := (by omega); obtain ⟨p0'', p1'', p2'', -, -, -, -, -, -, -, -, -, -⟩ := (unhide HB10).sv; have pj'' := (unhide HB10).jc))
        all_goals (try go_wp2_with fail)
        all_goals go_meet
        all_goals first
          | exact ⟨w10.heap.size, _, yL, dL, _, yS, dS, _, yO, dO, _, rfl, rfl, hide (DC.new _ _ _ _ _ _ _ _ _ _), hide ⟨r1.below (bel1 _ _), r2.below (bel1 _ _)⟩, hide ad, hide ⟨fun k hk => by have := n1 k hk; omega, fun k hk => by have := n2 k hk; omega⟩, hide dn_zero0, hide ((unhide HB10).below (bel1 _ _))⟩
          | exact ⟨_, _, yL, dL, _, yS, dS, _, yO, dO, _, rfl, rfl, hide (DC.set ⟨nlt, m0, m1, m2, y0, y1, y2⟩ _ _ _), hide ⟨r1.set3 (fun k hk => by have := n1 k hk; omega), r2.set3 (fun k hk => by have := n2 k hk; omega)⟩, hide ad, hide ⟨fun k hk => by have := n1 k hk; omega, fun k hk => by have := n2 k hk; omega⟩, hide dn_zero0, hide ((unhide HB10).set3 hR (by omega) (by omega) (by omega) (hfL.imp id fun q g hg => by have := q g hg; omega) (hfS.imp id fun q g hg => by have := q g hg; omega))⟩
      case rest =>
      obtain ⟨w11, rfl⟩ : ∃ w11, w11 = wc := ⟨_, rfl⟩
      obtain ⟨b8, c, yL, dL, L', yS, dS, S', yO, dO, O', rfl, rfl, DW, HRW, HAD, HLO, HZ, HB11⟩ := hcut
      have hbl : w.heap.size + 1 ≤ wr.heap.size := by have := (unhide HB).nw.lt; omega
      by_cases hc : c = 0
      · subst hc
        obtain ⟨hSF', rfl⟩ := unhide HZ rfl
        obtain ⟨-, e0, e1, e2⟩ := unhide DW
        obtain ⟨q0, q1, q2, y0, y1, y2, -, -, -, -, -, -, -⟩ := (unhide HB11).sv
        have HSF' := hide hSF'
        clear hSF' HB HK HN HD HJ HZ
        go_wp2_with fail
        go_roundw
        case rel =>
          have hB := unhide HB11
          exact ⟨j', yL, dL, L', yS, dS, S', yO, dO, by first | rfl | go_num, by omega, hide (((hB.ds.set hR (by omega) _).set hR (by omega) _).set hR (by omega) _), hide (set3B hB.nw (by omega)), hide (hB.sv.put (unhide HRW).1 (unhide HRW).2 (unhide HAD) (fun g hg => by have := (unhide HLO).1 g hg; omega) (fun g hg => by have := (unhide HLO).2 g hg; omega)), hide (by have := hB.jc; simp [go_sem, this]), HSF'⟩
        case measure => first | (simp [intOf]; done) | (simp [intOf]; omega)
      · clear HB HK HN HD HJ HZ
        go_wp2_with fail
        go_roundw
        case rel =>
          have hB := unhide HB11
          exact ⟨j', xL, kL, L, xS, kS, S, xO, kO, by first | rfl | go_num, by omega, hide hB.ds, hide hB.nw, hide hB.sv, hide hB.jc, HSF⟩
        case measure => first | (simp [intOf]; done) | (simp [intOf]; omega)
    · obtain rfl : j = 0 := by omega
      have HK1 := hide (unhide HK)
      obtain ⟨c0, c1, c2, -, -, -, -, -, -, -, -, -, -⟩ := unhide HK
      obtain ⟨-, d0, d1, d2, f0, f1, f2⟩ := unhide HN
      go_wp2_with fail
      refine bodyPost_ret (v := .agg #[.slice xL L.length kL, .slice xS S.length kS, .slice xO 0 kO]) (by simp [results, Tryz.results63, go_sem, d0, d1, d2]) rfl ?_
      have hK := unhide HK1
      have hb : Below w.heap.size wr (((wr.setCell ⟨w.heap.size, 0, none⟩ (.slice xL L.length kL)).setCell ⟨w.heap.size, 1, none⟩ (.slice xS S.length kS)).setCell ⟨w.heap.size, 2, none⟩ (.slice xO 0 kO)) := (((Below.refl _ _).setCell (p := ⟨w.heap.size, 0, none⟩) (Nat.le_refl _) _).setCell (p := ⟨w.heap.size, 1, none⟩) (Nat.le_refl _) _).setCell (p := ⟨w.heap.size, 2, none⟩) (Nat.le_refl _) _
      exact ⟨xL, kL, L, xS, kS, S, xO, kO, rfl, ⟨hK.rl.set3 (fun k hk => by have := hK.ll k hk; omega), hK.rs.set3 (fun k hk => by have := hK.ls k hk; omega)⟩, hK.ad, unhide HSF, ⟨fun g hg => by have := hK.ll g hg; omega, fun g hg => by have := hK.ls g hg; omega⟩, (unhide HD).rd.onlyB hb hR, (unhide HD).only.thenBelow hb (Nat.le_refl _)⟩
end Go.Proofs.YtakalfckhailjaaGreat

