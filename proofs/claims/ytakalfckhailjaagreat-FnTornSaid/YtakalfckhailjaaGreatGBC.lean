/- Texts of one kind, put together. -/
import Derived.Test.YtakalfckhailjaaGreatGAM
import Derived.Test.YtakalfckhailjaaGreatGAD
import Derived.Deep.QuietTactic
import Derived.BigQuiet
import Derived.Test.YtakalfckhailjaaGreatGAI
import Derived.Test.YtakalfckhailjaaGreatGAG

/- An entry of a frame, by both programs. -/
namespace Go.Proofs.YtakalfckhailjaaGreat
open Go.RowKit Plain
set_option linter.unusedVariables false

namespace Plain
theorem raw_num (s : ByteArray) (p : Nat) (hp : p ≤ s.size) : ∃ g, numV (tkN s p) = .tuple #[.int .i64 (rawN s p).1, .bool g] ∧ numAt p (tkN s p) = (rawN s p).2 ∧ (rawN s p).2 ≤ s.size ∧ (0 ≤ (rawN s p).1 ∧ (rawN s p).1 ≤ 1000000000000) ∧ (tkN s p).isSome = g := by
  unfold rawN stp
  cases h : tkN s p with
  | none => exact ⟨false, rfl, rfl, hp, by simp, rfl⟩
  | some y =>
    obtain ⟨v, l⟩ := y
    have := tkN_le h
    exact ⟨true, rfl, rfl, by simp; omega, by simp; omega, rfl⟩
theorem raw_fld (s : ByteArray) (p : Nat) (hp : p ≤ s.size) : ∃ g, fldV s p (tkT s p) = .tuple #[.string (rawT s p).1, .bool g] ∧ fldAt p (tkT s p) = (rawT s p).2 ∧ (rawT s p).2 ≤ s.size ∧ (rawT s p).1.size ≤ 20000 ∧ (tkT s p).isSome = g := by
  unfold rawT txp
  cases h : tkT s p with
  | none => exact ⟨false, rfl, rfl, hp, by show (⟨#[]⟩ : ByteArray).size ≤ 20000; decide, rfl⟩
  | some y =>
    obtain ⟨l, v⟩ := y
    have := tkT_le h
    exact ⟨true, rfl, rfl, by simp; omega, by simp; omega, rfl⟩
theorem belDN {B k : Nat} {w X : World} (h : Below B w X) : Below B w (X.drewN k) := ⟨h.os, h.tape, h.output, h.size, h.block⟩
theorem rawE_small (b : ByteArray) (hb : b.size ≤ 1000000000000) : (rawE b).body.size ≤ 20000 := (raw_fld b _ (raw_num b _ (raw_num b 0 (Nat.zero_le _)).choose_spec.2.2.1).choose_spec.2.2.1).choose_spec.2.2.2.1
end Plain

set_option maxRecDepth 10000 in
set_option maxHeartbeats 4000000 in
theorem readEntryX_calls (k : Int) (b : ByteArray) (w : World) (hb : b.size ≤ 1000000000000) :
    Calls Tryz.prog 94 #[.agg #[.int .i64 k, .string b]] w fun e w' => ∃ g, e = .returned (.tuple #[.agg #[.int .i64 (rawE b).term, .int .i64 (rawE b).kind, .string (rawE b).body], .bool g]) ∧ frE (k, b) = (if g = true then some (rawE b) else none) ∧ Below w.heap.size w w' := by
  obtain ⟨W0, hW0⟩ : ∃ W0, W0 = ((w.alloc (.cells #[.int .i64 k, .string b] 95)).alloc (.cells #[.int .i64 0, .int .i64 0, .string ⟨#[]⟩] 45)).alloc (.cells #[.string b, .int .i64 0] 146) := ⟨_, rfl⟩
  have hb0 : Below w.heap.size w W0 := by rw [hW0]; exact belOn (belOn (bel1 _ _) (bel1 _ _)) (bel1 _ _)
  have hz : W0.heap.size = w.heap.size + 3 := by rw [hW0]; simp
  have f0 : W0.cell? ⟨w.heap.size, 0, none⟩ = some (.int .i64 k) := by rw [hW0]; simp [go_sem]
  have r0 : W0.cell? ⟨w.heap.size + 1, 0, none⟩ = some (.int .i64 0) := by rw [hW0]; simp [go_sem]
  have r1 : W0.cell? ⟨w.heap.size + 1, 1, none⟩ = some (.int .i64 0) := by rw [hW0]; simp [go_sem]
  have r2 : W0.cell? ⟨w.heap.size + 1, 2, none⟩ = some (.string ⟨#[]⟩) := by rw [hW0]; simp [go_sem]
  have y0 : W0.frozen? ⟨w.heap.size + 1, 0, none⟩ = false := by rw [hW0]; simp [go_sem]
  have y1 : W0.frozen? ⟨w.heap.size + 1, 1, none⟩ = false := by rw [hW0]; simp [go_sem]
  have y2 : W0.frozen? ⟨w.heap.size + 1, 2, none⟩ = false := by rw [hW0]; simp [go_sem]
  have c0 : W0.cell? ⟨w.heap.size + 2, 0, none⟩ = some (.string b) := by rw [hW0]; simp [go_sem]
  have c1 : W0.cell? ⟨w.heap.size + 2, 0 + 1, none⟩ = some (.int .i64 ((0 : Nat) : Int)) := by rw [hW0]; simp [go_sem]
  have z1 : W0.frozen? ⟨w.heap.size + 2, 0 + 1, none⟩ = false := by rw [hW0]; simp [go_sem]
  have HN := hide (number_ok (w.heap.size + 2) 0 b 0 W0 c0 c1 z1 hb (Nat.zero_le _))
  obtain ⟨g1, e1, e2, hp1, hv1, i1⟩ := raw_num b 0 (Nat.zero_le _)
  have HFE := hide (frE_of k b)
  rw [i1] at HFE
  rw [e1, e2] at HN
  have HC := hide (show W0.cell? ⟨w.heap.size + 2, 0, none⟩ = some (.string b) ∧ W0.frozen? ⟨w.heap.size + 2, 0 + 1, none⟩ = false from ⟨c0, z1⟩)
  have HR := hide (show (W0.cell? ⟨w.heap.size, 0, none⟩ = some (.int .i64 k) ∧ W0.cell? ⟨w.heap.size + 1, 0, none⟩ = some (.int .i64 0) ∧ W0.cell? ⟨w.heap.size + 1, 1, none⟩ = some (.int .i64 0) ∧ W0.cell? ⟨w.heap.size + 1, 2, none⟩ = some (.string ⟨#[]⟩)) ∧ (W0.frozen? ⟨w.heap.size + 1, 0, none⟩ = false ∧ W0.frozen? ⟨w.heap.size + 1, 1, none⟩ = false ∧ W0.frozen? ⟨w.heap.size + 1, 2, none⟩ = false) from ⟨⟨f0, r0, r1, r2⟩, y0, y1, y2⟩)
  have HB0 := hide hb0
  have HW0 := hide hW0.symm
  have HE := hide (show rawE b = ⟨(rawN b 0).1, (rawN b (rawN b 0).2).1, (rawT b (rawN b (rawN b 0).2).2).1⟩ from rfl)
  generalize rawE b = RE at HE HFE ⊢
  generalize rawN b 0 = n1 at HN HE HFE hp1 hv1
  obtain ⟨t1, p1⟩ := n1
  obtain ⟨g2, e3, e4, hp2, hv2, i2⟩ := raw_num b p1 hp1
  have HM := hide (fun (W : World) (h0 : W.cell? ⟨w.heap.size + 2, 0, none⟩ = some (.string b)) (h1 : W.cell? ⟨w.heap.size + 2, 0 + 1, none⟩ = some (.int .i64 p1)) (h2 : W.frozen? ⟨w.heap.size + 2, 0 + 1, none⟩ = false) => number_ok (w.heap.size + 2) 0 b p1 W h0 h1 h2 hb hp1)
  rw [e3, e4] at HM
  simp only [] at HE HFE hv1
  rw [i2] at HFE
  generalize rawN b p1 = n2 at HM HE HFE hp2 hv2
  obtain ⟨t2, p2⟩ := n2
  obtain ⟨g3, e5, e6, hp3, hv3, i3⟩ := raw_fld b p2 hp2
  have HF := hide (fun (W : World) (h0 : W.cell? ⟨w.heap.size + 2, 0, none⟩ = some (.string b)) (h1 : W.cell? ⟨w.heap.size + 2, 0 + 1, none⟩ = some (.int .i64 p2)) (h2 : W.frozen? ⟨w.heap.size + 2, 0 + 1, none⟩ = false) => field_ok (w.heap.size + 2) 0 b p2 W h0 h1 h2 hb hp2)
  rw [e5, e6] at HF
  simp only [] at HE HFE hv2
  rw [i3] at HFE
  generalize rawT b p2 = n3 at HF HE HFE hp3 hv3
  obtain ⟨t3, p3⟩ := n3
  simp only [] at HE HFE hp3 hv3
  have hE := unhide HE
  subst hE
  clear i1 i2 i3 HE e1 e2 e3 e4 e5 e6 c0 c1 z1 f0 r0 r1 r2 y0 y1 y2 hW0 hb0
  go_enter Tryz.func94, Tryz.ntmps94
  go_wp2_with fail
  rw [unhide HW0]
  refine (unhide HN).mono ?_
  rintro e w1 ⟨rfl, ho1, hc1⟩
  obtain ⟨c0, z1⟩ := unhide HC
  have d0 := (ho1.cell ⟨w.heap.size + 2, 0, none⟩ (lt_of_cell c0) (by simp)).trans c0
  have l2 : w.heap.size + 2 < W0.heap.size := by omega
  have l3 : w.heap.size + 2 < w1.heap.size := Nat.lt_of_lt_of_le l2 ho1.size
  have d1 := (ho1.frozen ⟨w.heap.size + 2, 0 + 1, none⟩ l2).trans z1
  have HM1 := hide (unhide HM w1 d0 hc1 d1)
  have HC1 := hide (And.intro d0 d1)
  have HO1 := hide ho1
  clear ho1 hc1 c0 z1 d0 d1 HM HN
  go_wp2_with fail
  refine (unhide HM1).mono ?_
  rintro e w2 ⟨rfl, ho2, hc2⟩
  obtain ⟨c0, z1⟩ := unhide HC1
  have d0 := (ho2.cell ⟨w.heap.size + 2, 0, none⟩ (lt_of_cell c0) (by simp)).trans c0
  have d1 := (ho2.frozen ⟨w.heap.size + 2, 0 + 1, none⟩ l3).trans z1
  have HF1 := hide (unhide HF w2 d0 hc2 d1)
  have HC2 := hide (And.intro d0 d1)
  have HO2 := hide ((unhide HO1).trans ho2)
  clear ho2 hc2 c0 z1 d0 d1 HF HM1 HO1
  go_wp2_with fail
  refine (unhide HF1).mono ?_
  rintro e w3 ⟨rfl, ho3, hc3⟩
  obtain ⟨c0, z1⟩ := unhide HC2
  have d0 := (ho3.cell ⟨w.heap.size + 2, 0, none⟩ (lt_of_cell c0) (by simp)).trans c0
  have ho := (unhide HO2).trans ho3
  have HRE := hide (rest_ok (w.heap.size + 2) 0 b p3 w3 d0 hc3 hb hp3)
  have HB3 := hide ((unhide HB0).trans (ho.below (show w.heap.size ≤ w.heap.size + 2 by omega) (unhide HB0).size))
  obtain ⟨⟨f0, r0, r1, r2⟩, y0, y1, y2⟩ := unhide HR
  have lt0 : w.heap.size < W0.heap.size := by omega
  have lt1 : w.heap.size + 1 < W0.heap.size := by omega
  have f0 := (ho.cell ⟨w.heap.size, 0, none⟩ lt0 (by simp)).trans f0
  have r0 := (ho.cell ⟨w.heap.size + 1, 0, none⟩ lt1 (by simp)).trans r0
  have r1 := (ho.cell ⟨w.heap.size + 1, 1, none⟩ lt1 (by simp)).trans r1
  have r2 := (ho.cell ⟨w.heap.size + 1, 2, none⟩ lt1 (by simp)).trans r2
  have y0 := (ho.frozen ⟨w.heap.size + 1, 0, none⟩ lt1).trans y0
  have y1 := (ho.frozen ⟨w.heap.size + 1, 1, none⟩ lt1).trans y1
  have y2 := (ho.frozen ⟨w.heap.size + 1, 2, none⟩ lt1).trans y2
  clear ho3 hc3 c0 z1 d0 ho HF1 HO2 HC2 HC HR HC1
  have HFIN := hide (fun (X : World) (hX : Below w.heap.size w X) => show Below w.heap.size w (((X.setCell ⟨w.heap.size + 1, 0, none⟩ (.int .i64 t1)).setCell ⟨w.heap.size + 1, 1, none⟩ (.int .i64 t2)).setCell ⟨w.heap.size + 1, 2, none⟩ (.string t3)) from ((hX.setCell (p := ⟨w.heap.size + 1, 0, none⟩) (Nat.le_succ _) _).setCell (p := ⟨w.heap.size + 1, 1, none⟩) (Nat.le_succ _) _).setCell (p := ⟨w.heap.size + 1, 2, none⟩) (Nat.le_succ _) _)
  clear lt0 lt1 l2 l3 hz
  obtain ⟨em, hem⟩ : ∃ em : Bool, (b.extract p3 b.size).toList.isEmpty = em := ⟨_, rfl⟩
  have hq : (p3 = b.size) ↔ em = true := by
    rw [← hem, ByteArray.toList_eq, List.isEmpty_iff_length_eq_zero, Array.length_toList]
    show _ ↔ (b.extract p3 b.size).size = 0
    rw [ByteArray.size_extract]
    omega
  have HFE := hide (show frE (k, b) = if k = 2 ∧ g1 = true ∧ g2 = true ∧ g3 = true ∧ em = true then some ⟨t1, t2, t3⟩ else none from by have h := unhide HFE; simp only [hq] at h; exact h)
  clear hq
  cases g1 <;> cases g2 <;> cases g3 <;> cases em
  all_goals
    go_wp2_with (go_at_call 92; refine (unhide HRE).mono ?_; rintro e w4 ⟨rfl, nq, rfl⟩)
    go_region
    all_goals (try go_wp2_with fail)
    all_goals
      refine bodyPost_ret (v := .tuple #[.agg #[.int .i64 t1, .int .i64 t2, .string t3], .bool _]) (by simp [results, Tryz.results94, go_sem, r0, r1, r2]; rfl) rfl ⟨_, rfl, (by rw [unhide HFE]; simp), ?_⟩
      first
        | exact unhide HFIN _ (unhide HB3)
        | exact belDN (unhide HFIN _ (unhide HB3))
        | exact belDN (unhide HFIN _ (belDN (unhide HB3)))
end Go.Proofs.YtakalfckhailjaaGreat


/- Entries that are drawn. -/
namespace Go.Proofs.YtakalfckhailjaaGreat
open Go.RowKit Plain
set_option linter.unusedVariables false

set_option maxRecDepth 10000 in
set_option maxHeartbeats 1000000 in
theorem entry_calls (R : Nat) (a : Option Addr) (len cap : Nat) (zs : List Int) (t : Int) (w : World) (h : Rd w R a len cap zs) :
    Calls Tryz.prog 65 #[.pointer (some ⟨R, 0, none⟩), .int .i64 t] w fun e w' => ∃ (kd : Int) (bd : ByteArray), e = .returned (.agg #[.int .i64 t, .int .i64 kd, .string bd]) ∧ bd.size ≤ 6 ∧ Rd w' R a len cap zs ∧ OnlyAt ⟨R, 1, none⟩ w w' := by
  have hlt := h.lt
  obtain ⟨W1, hW1⟩ : ∃ W1, W1 = w.alloc (.cells #[.int .i64 0, .int .i64 0, .string ⟨#[]⟩] 45) := ⟨_, rfl⟩
  have hb1 : Below w.heap.size w W1 := by rw [hW1]; exact (Below.refl _ _).alloc (Nat.le_refl _) _
  have hs1 : W1.heap.size = w.heap.size + 1 := by rw [hW1]; simp
  have hv1 : ∀ i, i < 3 → W1.cell? ⟨w.heap.size, i, none⟩ = some ([.int .i64 0, .int .i64 0, .string ⟨#[]⟩].getD i .nilIface) ∧ W1.frozen? ⟨w.heap.size, i, none⟩ = false := by
    intro i hi
    rw [hW1]
    rcases i with _ | _ | _ | i
    all_goals first | omega | exact ⟨by simp [go_sem], by simp [go_sem]⟩
  have H1 := hide (h.below hb1)
  have HO := hide (OnlyAt.of_below (a := ⟨R, 1, none⟩) hb1)
  have HW1 := hide hW1.symm
  clear h hb1 hW1
  go_enter Tryz.func65, Tryz.ntmps65
  go_wp2_with fail
  rw [unhide HW1]
  refine (below_calls R a len cap zs 4 _ (unhide H1) (by omega) (by omega)).mono ?_
  rintro e w2 ⟨v, rfl, hv0, hv4, hR2, ho2⟩
  have hv2 : ∀ i, i < 3 → w2.cell? ⟨w.heap.size, i, none⟩ = some ([.int .i64 0, .int .i64 0, .string ⟨#[]⟩].getD i .nilIface) ∧ w2.frozen? ⟨w.heap.size, i, none⟩ = false := fun i hi => ⟨(ho2.cell ⟨w.heap.size, i, none⟩ (show w.heap.size < W1.heap.size by omega) (fun q => by injection q with q _ _; omega)).trans (hv1 i hi).1, ho2.z (show w.heap.size < W1.heap.size by omega) (hv1 i hi).2⟩
  have HR2 := hide hR2
  have HO2 := hide ((unhide HO).trans ho2)
  have hs2 : w.heap.size < w2.heap.size := by have := ho2.size; omega
  clear hR2 ho2 H1 HO hv1 hs1
  go_wp2_with fail
  refine (data_calls R a len cap zs _ (unhide HR2)).mono ?_
  rintro e w3 ⟨d, rfl, hd, hR3, ho3⟩
  have hv3 : ∀ i, i < 3 → w3.cell? ⟨w.heap.size, i, none⟩ = some ([.int .i64 0, .int .i64 0, .string ⟨#[]⟩].getD i .nilIface) ∧ w3.frozen? ⟨w.heap.size, i, none⟩ = false := fun i hi => ⟨(ho3.cell ⟨w.heap.size, i, none⟩ hs2 (fun q => by injection q with q _ _; omega)).trans (hv2 i hi).1, ho3.z hs2 (hv2 i hi).2⟩
  have c0 := (hv3 0 (by omega)).1
  have c1 := (hv3 1 (by omega)).1
  have c2 := (hv3 2 (by omega)).1
  have f0 := (hv3 0 (by omega)).2
  have f1 := (hv3 1 (by omega)).2
  have f2 := (hv3 2 (by omega)).2
  simp only [List.getD_cons_zero, List.getD_cons_succ] at c0 c1 c2
  have HR3 := hide hR3
  have HO3 := hide ((unhide HO2).trans ho3)
  clear hR3 ho3 HR2 HO2 hv2 hv3 hs2
  go_wp2_with fail
  refine bodyPost_ret (v := .agg #[.int .i64 t, .int .i64 v, .string d]) (by simp [results, Tryz.results65, go_sem, c0, c1, c2]) rfl ?_
  have hb : Below w.heap.size w3 (((w3.setCell ⟨w.heap.size, 0, none⟩ (.int .i64 t)).setCell ⟨w.heap.size, 1, none⟩ (.int .i64 v)).setCell ⟨w.heap.size, 2, none⟩ (.string d)) := (((Below.refl _ _).setCell (p := ⟨w.heap.size, 0, none⟩) (Nat.le_refl _) _).setCell (p := ⟨w.heap.size, 1, none⟩) (Nat.le_refl _) _).setCell (p := ⟨w.heap.size, 2, none⟩) (Nat.le_refl _) _
  exact ⟨v, d, rfl, hd, (unhide HR3).onlyB hb hlt, (unhide HO3).thenBelow hb (Nat.le_refl _)⟩

/-- Short entries that are drawn. -/
def EntsPost (R : Nat) (a : Option Addr) (len cap : Nat) (zs : List Int) (w : World) (e : Ending) (w' : World) : Prop :=
  ∃ v es, e = .returned v ∧ Hid (OwnR entE w' w.heap.size v es) ∧ Hid (∀ x ∈ es, x.body.size ≤ 6) ∧ es.length ≤ 4 ∧ Rd w' R a len cap zs ∧ OnlyAt ⟨R, 1, none⟩ w w'

set_option maxRecDepth 10000 in
set_option maxHeartbeats 4000000 in
theorem entries_calls (R : Nat) (a : Option Addr) (len cap : Nat) (zs : List Int) (tm : Int) (w : World) (h : Rd w R a len cap zs) :
    Calls Tryz.prog 23 #[.pointer (some ⟨R, 0, none⟩), .int .i64 tm] w (EntsPost R a len cap zs w) := by
  have hR := h.lt
  have HO0 := hide (ownR_empty entE w w.heap.size (Nat.le_refl _))
  have HD0 := hide ((DS.start h).alloc (.cells #[] 45))
  clear h
  go_enter Tryz.func23, Tryz.ntmps23
  go_wp2_with fail
  refine (below_calls R a len cap zs 5 _ (unhide HD0).rd (by omega) (by omega)).mono ?_
  rintro e w1 ⟨v, rfl, hv0, hv1, hR1, ho1⟩
  obtain ⟨V, rfl⟩ := Int.eq_ofNat_of_zero_le hv0
  have HD1 := hide ((unhide HD0).call hR1 ho1)
  have HO1 := hide ((unhide HO0).onlN ho1 (by show R < _; omega))
  have hz1 : w.heap.size ≤ w1.heap.size := (unhide HD1).only.size
  clear hR1 ho1 HD0 HO0
  go_wp2_with fail
  go_loopw [5, 6, 7] (fun s5 s6 s7 wr => ∃ (j : Nat) (tt : Int) (es : List Ent), s7 = .int .i64 j ∧ s6 = .int .i64 tt ∧ es.length + j ≤ 4 ∧ 1 ≤ tt ∧ tt ≤ 1 + es.length ∧ w.heap.size ≤ wr.heap.size ∧ Hid (∀ x ∈ es, x.body.size ≤ 6) ∧ Hid (DS w R a len cap zs wr) ∧ Hid (OwnR entE wr w.heap.size s5 es)) (fun _ _ s7 _ => (intOf s7).toNat)
  case atStart => exact ⟨V, 1, [], rfl, rfl, by simp; omega, by omega, by simp, hz1, hide (fun s hs => by cases hs), HD1, HO1⟩
  case round =>
    clear HO1 HD1 hz1 hv0 hv1
    obtain ⟨j, tt, es, rfl, rfl, hj, ht1, ht2, hz, HF, HD, HO⟩ := hrel
    obtain ⟨av, cv, hv⟩ := (unhide HO).form
    obtain ⟨q, hq⟩ : ∃ q, es.length = q := ⟨_, rfl⟩
    have HQ := hide hq
    rw [hq] at hv
    subst hv
    by_cases hj0 : 0 < j
    · obtain ⟨j', rfl⟩ : ∃ j', j = j' + 1 := ⟨j - 1, by omega⟩
      have hjp : (0 : Int) < ((j' + 1 : Nat) : Int) := by omega
      have hjm : IntKind.i64.wrap (((j' + 1 : Nat) : Int) - 1) = (j' : Int) := by rw [IntKind.wrap_i64]; omega
      have hw1 : IntKind.i64.wrap (tt + 1) = tt + 1 := by rw [IntKind.wrap_i64]; omega
      by_cases ht : tt < tm
      · go_wp2_with fail
        refine (once_calls R a len cap zs 2 _ (unhide HD).rd (by omega) (by omega)).mono ?_
        rintro e w2 ⟨b, rfl, hR2, ho2⟩
        have HD2 := hide ((unhide HD).call hR2 ho2)
        have HO2 := hide ((unhide HO).onlN ho2 (by show R < _; omega))
        have hz2 : w.heap.size ≤ w2.heap.size := (unhide HD2).only.size
        clear hR2 ho2
        cases b with
        | true =>
          go_wp2_with fail
          refine (entry_calls R a len cap zs (tt + 1) _ (unhide HD2).rd).mono ?_
          rintro e w3 ⟨kd, bd, rfl, hbd, hR3, ho3⟩
          have HD3 := hide ((unhide HD2).call hR3 ho3)
          have HO3 := hide ((unhide HO2).onlN ho3 (by show R < _; omega))
          have hz3 : w.heap.size ≤ w3.heap.size := (unhide HD3).only.size
          clear hR3 ho3
          go_wp2_with (at_builtin; refine appR rfl _ _ rfl (unhide HO3) rfl (⟨(tt + 1), kd, bd⟩ : Ent) rfl _ rfl rfl (by omega) hz3 ?_; intro v5 w5 hO5 hb5 _; have HO5 := hide hO5; have HD5 := hide (show DS w R a len cap zs w5 from ⟨(unhide HD3).rd.onlyB hb5 hR, (unhide HD3).only.thenBelow hb5 (Nat.le_refl _)⟩); have hz5 : w.heap.size ≤ w5.heap.size := (unhide HD5).only.size; clear hO5 hb5)
          go_roundw
          case rel => exact ⟨j', (tt + 1), es ++ [⟨(tt + 1), kd, bd⟩], by first | rfl | go_num, rfl, by rw [List.length_append, List.length_singleton]; omega, by omega, by rw [List.length_append, List.length_singleton]; omega, hz5, hide (fun x hx => (List.mem_append.1 hx).elim (unhide HF x) (fun q => by rw [List.mem_singleton.1 q]; exact hbd)), HD5, HO5⟩
          case measure => first | (simp [intOf]; done) | (simp [intOf]; omega)
        | false =>
          go_wp2_with fail
          refine (entry_calls R a len cap zs tt _ (unhide HD2).rd).mono ?_
          rintro e w3 ⟨kd, bd, rfl, hbd, hR3, ho3⟩
          have HD3 := hide ((unhide HD2).call hR3 ho3)
          have HO3 := hide ((unhide HO2).onlN ho3 (by show R < _; omega))
          have hz3 : w.heap.size ≤ w3.heap.size := (unhide HD3).only.size
          clear hR3 ho3
          go_wp2_with (at_builtin; refine appR rfl _ _ rfl (unhide HO3) rfl (⟨tt, kd, bd⟩ : Ent) rfl _ rfl rfl (by omega) hz3 ?_; intro v5 w5 hO5 hb5 _; have HO5 := hide hO5; have HD5 := hide (show DS w R a len cap zs w5 from ⟨(unhide HD3).rd.onlyB hb5 hR, (unhide HD3).only.thenBelow hb5 (Nat.le_refl _)⟩); have hz5 : w.heap.size ≤ w5.heap.size := (unhide HD5).only.size; clear hO5 hb5)
          go_roundw
          case rel => exact ⟨j', tt, es ++ [⟨tt, kd, bd⟩], by first | rfl | go_num, rfl, by rw [List.length_append, List.length_singleton]; omega, by omega, by rw [List.length_append, List.length_singleton]; omega, hz5, hide (fun x hx => (List.mem_append.1 hx).elim (unhide HF x) (fun q => by rw [List.mem_singleton.1 q]; exact hbd)), HD5, HO5⟩
          case measure => first | (simp [intOf]; done) | (simp [intOf]; omega)
      · go_wp2_with fail
        refine (entry_calls R a len cap zs tt _ (unhide HD).rd).mono ?_
        rintro e w3 ⟨kd, bd, rfl, hbd, hR3, ho3⟩
        have HD3 := hide ((unhide HD).call hR3 ho3)
        have HO3 := hide ((unhide HO).onlN ho3 (by show R < _; omega))
        have hz3 : w.heap.size ≤ w3.heap.size := (unhide HD3).only.size
        clear hR3 ho3
        go_wp2_with (at_builtin; refine appR rfl _ _ rfl (unhide HO3) rfl (⟨tt, kd, bd⟩ : Ent) rfl _ rfl rfl (by omega) hz3 ?_; intro v5 w5 hO5 hb5 _; have HO5 := hide hO5; have HD5 := hide (show DS w R a len cap zs w5 from ⟨(unhide HD3).rd.onlyB hb5 hR, (unhide HD3).only.thenBelow hb5 (Nat.le_refl _)⟩); have hz5 : w.heap.size ≤ w5.heap.size := (unhide HD5).only.size; clear hO5 hb5)
        go_roundw
        case rel => exact ⟨j', tt, es ++ [⟨tt, kd, bd⟩], by first | rfl | go_num, rfl, by rw [List.length_append, List.length_singleton]; omega, by omega, by rw [List.length_append, List.length_singleton]; omega, hz5, hide (fun x hx => (List.mem_append.1 hx).elim (unhide HF x) (fun q => by rw [List.mem_singleton.1 q]; exact hbd)), HD5, HO5⟩
        case measure => first | (simp [intOf]; done) | (simp [intOf]; omega)
    · obtain rfl : j = 0 := by omega
      have HR9 := hide (unhide HD).rd
      have HO9 := hide (unhide HD).only
      clear HD
      go_wp2_with fail
      go_ret
      exact ⟨_, es, rfl, HO, HF, by omega, unhide HR9, unhide HO9⟩
end Go.Proofs.YtakalfckhailjaaGreat

