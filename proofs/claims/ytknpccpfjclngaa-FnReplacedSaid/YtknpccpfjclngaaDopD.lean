/- An op that is drawn. -/
import Derived.Test.YtknpccpfjclngaaGAD
import Derived.Test.YtknpccpfjclngaaGAC
import Derived.Test.YtknpccpfjclngaaDskM
namespace Go.Proofs.Ytknpccpfjclngaa
open Go.RowKit Plain
set_option linter.unusedVariables false

namespace Plain
def dnmL : List ByteArray := [⟨#[108, 111, 103]⟩, ⟨#[118, 111, 116, 101]⟩, ⟨#[118, 111, 116, 101, 46, 110, 101, 119]⟩, ⟨#[98]⟩]
def dnmV : Array Value := (dnmL.map Value.string).toArray
theorem dnmV_get (k : Nat) (h : k < 4) : dnmV[k]? = some (.string (dnmL.getD k ByteArray.empty)) := by
  match k, h with
  | 0, _ => rfl
  | 1, _ => rfl
  | 2, _ => rfl
  | 3, _ => rfl
theorem dnm_ok : ∀ k : Fin 4, nmB (dnmL.getD k.val ByteArray.empty) = true := by decide +kernel
def dtoL : List ByteArray := [⟨#[108, 111, 103]⟩, ⟨#[118, 111, 116, 101]⟩, ⟨#[99]⟩]
def dtoV : Array Value := (dtoL.map Value.string).toArray
theorem dtoV_get (k : Nat) (h : k < 3) : dtoV[k]? = some (.string (dtoL.getD k ByteArray.empty)) := by
  match k, h with
  | 0, _ => rfl
  | 1, _ => rfl
  | 2, _ => rfl
theorem dto_ok : ∀ k : Fin 3, nmB (dtoL.getD k.val ByteArray.empty) = true := by decide +kernel
def DopPost (R : Nat) (a : Option Addr) (len cap : Nat) (zs : List Int) (w : World) (e : Ending) (w' : World) : Prop :=
  ∃ o : Dop, e = .returned (.agg #[.int .i64 o.kind, .string o.name, .string o.to, .string o.data]) ∧ formB o = true ∧ o.data.size ≤ 6 ∧ Rd w' R a len cap zs ∧ OnlyAt ⟨R, 1, none⟩ w w'
theorem belowSetD {B : Nat} {w W : World} (h : Below B w W) (o : Nat) (v : Value) : Below B w (W.setCell ⟨B, o, none⟩ v) := h.setCell (Nat.le_refl _) v
theorem DopPost.fin {R : Nat} {a : Option Addr} {len cap : Nat} {zs : List Int} {w w3 : World} (o : Dop) (hf : formB o = true) (hd : o.data.size ≤ 6) (hR : R < w.heap.size) (h3 : Rd w3 R a len cap zs) (ho : OnlyAt ⟨R, 1, none⟩ w w3) (v0 v1 v2 v3 : Value) :
    DopPost R a len cap zs w (.returned (.agg #[.int .i64 o.kind, .string o.name, .string o.to, .string o.data])) ((((w3.setCell ⟨w.heap.size, 0, none⟩ v0).setCell ⟨w.heap.size, 1, none⟩ v1).setCell ⟨w.heap.size, 2, none⟩ v2).setCell ⟨w.heap.size, 3, none⟩ v3) := by
  have hb : Below w.heap.size w3 ((((w3.setCell ⟨w.heap.size, 0, none⟩ v0).setCell ⟨w.heap.size, 1, none⟩ v1).setCell ⟨w.heap.size, 2, none⟩ v2).setCell ⟨w.heap.size, 3, none⟩ v3) := belowSetD (belowSetD (belowSetD (belowSetD (Below.refl _ _) _ _) _ _) _ _) _ _
  exact ⟨o, rfl, hf, hd, h3.onlyB hb hR, ho.thenBelow hb (Nat.le_refl _)⟩
theorem form_ren {n t : ByteArray} (hn : nmB n = true) (ht : nmB t = true) : formB ⟨2, n, t, ⟨#[]⟩⟩ = true := by
  unfold formB
  simp [hn, ht, emp]
theorem form_rem {n : ByteArray} (hn : nmB n = true) : formB ⟨3, n, ⟨#[]⟩, ⟨#[]⟩⟩ = true := by
  unfold formB
  simp [hn, emp]
theorem form_add {n d : ByteArray} (hn : nmB n = true) : formB ⟨1, n, ⟨#[]⟩, d⟩ = true := by
  unfold formB
  simp [hn, emp]
end Plain

set_option maxRecDepth 10000 in
theorem dop_calls (R : Nat) (a : Option Addr) (len cap : Nat) (zs : List Int) (w : World) (h : Rd w R a len cap zs) :
    Calls Try.prog 48 #[.pointer (some ⟨R, 0, none⟩)] w (DopPost R a len cap zs w) := by
  have hlt := h.lt
  obtain ⟨Wa, hWa⟩ : ∃ Wa, Wa = w.alloc (.cells #[.int .i64 0, .string ⟨#[]⟩, .string ⟨#[]⟩, .string ⟨#[]⟩] 50) := ⟨_, rfl⟩
  have hba : Below w.heap.size w Wa := by rw [hWa]; exact (Below.refl _ _).alloc (Nat.le_refl _) _
  have hsa : Wa.heap.size = w.heap.size + 1 := by rw [hWa]; simp
  obtain ⟨W1, hW1⟩ : ∃ W1, W1 = Wa.alloc (.cells dnmV 9) := ⟨_, rfl⟩
  have hb1 : Below w.heap.size w W1 := by rw [hW1]; exact hba.alloc hba.size _
  have H1 := hide (h.below hb1)
  have hs1 : W1.heap.size = w.heap.size + 2 := by rw [hW1]; simp [hsa]
  have hr1 : ∀ K, K < 4 → W1.cell? ⟨w.heap.size + 1, K, none⟩ = some (.string (dnmL.getD K ByteArray.empty)) := fun K hK => by
    rw [hW1, ← hsa]
    exact (cell_of_row _ _ K dnmV _ _ (show (Wa.alloc _).heap[Wa.heap.size]? = _ from (MapKept.heap_alloc Wa _).1)).trans (dnmV_get K hK)
  have hv1 : ∀ i, i < 4 → W1.cell? ⟨w.heap.size, i, none⟩ = some ([.int .i64 0, .string ⟨#[]⟩, .string ⟨#[]⟩, .string ⟨#[]⟩].getD i .nilIface) ∧ W1.frozen? ⟨w.heap.size, i, none⟩ = false := by
    intro i hi
    rw [hW1, hWa]
    rcases i with _ | _ | _ | _ | i
    all_goals first | omega | exact ⟨by simp [go_sem], by simp [go_sem]⟩
  have HO := hide (OnlyAt.of_below (a := ⟨R, 1, none⟩) hb1)
  have HW1 := hide (show (w.alloc (.cells #[.int .i64 0, .string ⟨#[]⟩, .string ⟨#[]⟩, .string ⟨#[]⟩] 50)).alloc (.cells dnmV 9) = W1 from by rw [hW1, hWa])
  clear h hba hb1 hW1 hWa
  go_enter Try.func48, Try.ntmps48
  go_wp2_with fail
  rw [show (w.alloc (.cells #[.int .i64 0, .string ⟨#[]⟩, .string ⟨#[]⟩, .string ⟨#[]⟩] 50)).alloc (.cells #[.string ⟨#[108, 111, 103]⟩, .string ⟨#[118, 111, 116, 101]⟩, .string ⟨#[118, 111, 116, 101, 46, 110, 101, 119]⟩, .string ⟨#[98]⟩] 9) = W1 from unhide HW1]
  refine (below_calls R a len cap zs 4 _ (unhide H1) (by omega) (by omega)).mono ?_
  rintro e w2 ⟨v, rfl, hv0, hv4, hR2, ho2⟩
  obtain ⟨K, rfl⟩ := Int.eq_ofNat_of_zero_le hv0
  have hK : K < 4 := by omega
  have hc : w2.cell? ⟨w.heap.size + 1, K, none⟩ = some (.string (dnmL.getD K ByteArray.empty)) := by
    rw [ho2.cell ⟨w.heap.size + 1, K, none⟩ (show w.heap.size + 1 < W1.heap.size by omega) (fun q => by injection q with q _ _; omega)]
    exact hr1 K hK
  have hv2 : ∀ i, i < 4 → w2.cell? ⟨w.heap.size, i, none⟩ = some ([.int .i64 0, .string ⟨#[]⟩, .string ⟨#[]⟩, .string ⟨#[]⟩].getD i .nilIface) ∧ w2.frozen? ⟨w.heap.size, i, none⟩ = false := fun i hi => ⟨(ho2.cell ⟨w.heap.size, i, none⟩ (show w.heap.size < W1.heap.size by omega) (fun q => by injection q with q _ _; omega)).trans (hv1 i hi).1, ho2.z (show w.heap.size < W1.heap.size by omega) (hv1 i hi).2⟩
  have hnm := dnm_ok ⟨K, hK⟩
  simp only at hnm
  generalize dnmL.getD K ByteArray.empty = nm at hc hnm
  have HR2 := hide hR2
  have HO2 := hide ((unhide HO).trans ho2)
  have HS2 := hide (show w.heap.size + 2 ≤ w2.heap.size by have := ho2.size; omega)
  clear hR2 ho2 H1 HO HW1 hr1 hv1
  go_wp2_with fail
  refine (below_calls R a len cap zs 5 _ (unhide HR2) (by omega) (by omega)).mono ?_
  rintro e w3 ⟨v, rfl, hv0, hv5, hR3, ho3⟩
  have hv3 : ∀ i, i < 4 → w3.cell? ⟨w.heap.size, i, none⟩ = some ([.int .i64 0, .string ⟨#[]⟩, .string ⟨#[]⟩, .string ⟨#[]⟩].getD i .nilIface) ∧ w3.frozen? ⟨w.heap.size, i, none⟩ = false := fun i hi => ⟨(ho3.cell ⟨w.heap.size, i, none⟩ (show w.heap.size < w2.heap.size by have := unhide HS2; omega) (fun q => by injection q with q _ _; omega)).trans (hv2 i hi).1, ho3.z (show w.heap.size < w2.heap.size by have := unhide HS2; omega) (hv2 i hi).2⟩
  have HR3 := hide hR3
  have HO3 := hide ((unhide HO2).trans ho3)
  have HS3 := hide (show w.heap.size + 2 ≤ w3.heap.size by have := ho3.size; have := unhide HS2; omega)
  clear hR3 ho3 HR2 HO2 HS2 hv2 hc
  go_wp2_with fail
  · have hb3 : Below w3.heap.size w3 (w3.alloc (.cells dtoV 9)) := (Below.refl _ _).alloc (Nat.le_refl _) _
    refine (below_calls R a len cap zs 3 (w3.alloc (.cells dtoV 9)) ((unhide HR3).below hb3) (by omega) (by omega)).mono ?_
    rintro e w4 ⟨v', rfl, hv0', hv4', hR4, ho4⟩
    obtain ⟨J, rfl⟩ := Int.eq_ofNat_of_zero_le hv0'
    have hJ : J < 3 := by omega
    have hc4 : w4.cell? ⟨w3.heap.size, J, none⟩ = some (.string (dtoL.getD J ByteArray.empty)) := by
      rw [ho4.cell ⟨w3.heap.size, J, none⟩ (by simp) (fun q => by injection q with q _ _; have := unhide HS3; omega)]
      exact (cell_of_row _ _ J dtoV _ _ (show (w3.alloc _).heap[w3.heap.size]? = _ from (MapKept.heap_alloc w3 _).1)).trans (dtoV_get J hJ)
    have HR4 := hide hR4
    have HO4 := hide (((unhide HO3).trans (OnlyAt.of_below (a := ⟨R, 1, none⟩) hb3)).trans ho4)
    have hs3 := unhide HS3
    have hv4 : ∀ i, i < 4 → w4.cell? ⟨w.heap.size, i, none⟩ = some ([.int .i64 0, .string ⟨#[]⟩, .string ⟨#[]⟩, .string ⟨#[]⟩].getD i .nilIface) ∧ w4.frozen? ⟨w.heap.size, i, none⟩ = false := fun i hi =>
      ⟨(ho4.cell ⟨w.heap.size, i, none⟩ (by simp; omega) (fun q => by injection q with q _ _; omega)).trans ((hb3.cell (p := ⟨w.heap.size, i, none⟩) (show w.heap.size < w3.heap.size by omega)).trans (hv3 i hi).1), ho4.z (by simp; omega) ((hb3.frozen (p := ⟨w.heap.size, i, none⟩) (show w.heap.size < w3.heap.size by omega)).trans (hv3 i hi).2)⟩
    have hto := dto_ok ⟨J, hJ⟩
    simp only at hto
    generalize dtoL.getD J ByteArray.empty = tt at hc4 hto
    clear hR4 ho4 HR3 HO3 hv3 hb3 hs3 HS3
    go_wp2_with fail
    have c0 := (hv4 0 (by omega)).1
    have c1 := (hv4 1 (by omega)).1
    have c2 := (hv4 2 (by omega)).1
    have c3 := (hv4 3 (by omega)).1
    refine bodyPost_ret (v := .agg #[.int .i64 2, .string nm, .string tt, .string ⟨#[]⟩]) (by simp [results, Try.results48, go_sem, c0, c1, c2, c3]) rfl ?_
    exact DopPost.fin ⟨2, nm, tt, ⟨#[]⟩⟩ (form_ren hnm hto) (by show (0 : Nat) ≤ 6; omega) hlt (unhide HR4) (unhide HO4) _ _ _ _
  · clear HS3
    have c0 := (hv3 0 (by omega)).1
    have c1 := (hv3 1 (by omega)).1
    have c2 := (hv3 2 (by omega)).1
    have c3 := (hv3 3 (by omega)).1
    refine bodyPost_ret (v := .agg #[.int .i64 3, .string nm, .string ⟨#[]⟩, .string ⟨#[]⟩]) (by simp [results, Try.results48, go_sem, c0, c1, c2, c3]) rfl ?_
    exact DopPost.fin ⟨3, nm, ⟨#[]⟩, ⟨#[]⟩⟩ (form_rem hnm) (by show (0 : Nat) ≤ 6; omega) hlt (unhide HR3) (unhide HO3) _ _ _ _
  · refine (data_calls R a len cap zs _ (unhide HR3)).mono ?_
    rintro e w4 ⟨d, rfl, hd, hR4, ho4⟩
    have HR4 := hide hR4
    have HO4 := hide ((unhide HO3).trans ho4)
    have hv4 : ∀ i, i < 4 → w4.cell? ⟨w.heap.size, i, none⟩ = some ([.int .i64 0, .string ⟨#[]⟩, .string ⟨#[]⟩, .string ⟨#[]⟩].getD i .nilIface) ∧ w4.frozen? ⟨w.heap.size, i, none⟩ = false := fun i hi => ⟨(ho4.cell ⟨w.heap.size, i, none⟩ (show w.heap.size < w3.heap.size by have := unhide HS3; omega) (fun q => by injection q with q _ _; omega)).trans (hv3 i hi).1, ho4.z (show w.heap.size < w3.heap.size by have := unhide HS3; omega) (hv3 i hi).2⟩
    clear hR4 ho4 HR3 HO3 hv3
    go_wp2_with fail
    have c0 := (hv4 0 (by omega)).1
    have c1 := (hv4 1 (by omega)).1
    have c2 := (hv4 2 (by omega)).1
    have c3 := (hv4 3 (by omega)).1
    refine bodyPost_ret (v := .agg #[.int .i64 1, .string nm, .string ⟨#[]⟩, .string d]) (by simp [results, Try.results48, go_sem, c0, c1, c2, c3]) rfl ?_
    exact DopPost.fin ⟨1, nm, ⟨#[]⟩, d⟩ (form_add hnm) hd hlt (unhide HR4) (unhide HO4) _ _ _ _
end Go.Proofs.Ytknpccpfjclngaa
