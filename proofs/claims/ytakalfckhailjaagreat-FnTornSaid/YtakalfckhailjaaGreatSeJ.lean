/- SaveEntries of the program. -/
import Derived.Test.YtakalfckhailjaaGreatGBB
import Derived.Test.YtakalfckhailjaaGreatGAY
import Derived.Test.YtakalfckhailjaaGreatDoH
import Derived.Test.YtakalfckhailjaaGreatGBE
import Derived.Test.YtakalfckhailjaaGreatGAJ
import Derived.Test.YtakalfckhailjaaGreatRecI
import Derived.Test.YtakalfckhailjaaGreatGAT
import Derived.Deep.RegionHeld3
import Derived.Deep.DeepCutAuto
namespace Go.Proofs.YtakalfckhailjaaGreat
open Go.RowKit Plain
set_option linter.unusedVariables false

theorem Plain.own_cap {α : Type} {e : Elem α} {W : World} {B n c : Nat} {a : Option Addr} {xs : List α} (h : OwnR e W B (.slice a n c) xs) : n ≤ c := by
  rcases h.2 with ⟨q, _⟩ | ⟨g, cap, cur, q, _, _, hc, _⟩
  · cases q; exact Nat.le_refl _
  · cases q; exact hc
theorem RowAt.pre {α : Type} {e : Elem α} {W : World} {a : Option Addr} {xs : List α} (h : RowAt e W a xs) (k : Nat) : RowAt e W a (xs.take k) := fun i hi => by
  rw [List.length_take] at hi
  have h2 := h i (by omega)
  rw [List.getElem_take]
  exact h2
theorem Plain.belAl {w w' : World} {o : Obj} (h : Below w.heap.size w w') : Below w.heap.size w (w'.alloc o) := h.alloc h.size _
theorem Plain.rec_small (live safe : List Fl) (ops : List Dop) : (recT live safe ops).2.2.2.length ≤ 500 ∧ ∀ e ∈ (recT live safe ops).2.2.2, e.body.size ≤ 4000 := by
  unfold recT
  split
  · cases votD live with
    | none => exact ⟨Nat.zero_le _, fun e he => by cases he⟩
    | some x => exact ⟨logE_small _ _ _ (Nat.zero_le _), fun e he => (entB_yes ((log_cat _ _).choose_spec.2 e he)).2.2.2.2⟩
  · exact ⟨Nat.zero_le _, fun e he => by cases he⟩
/-- A journal's variable, fresh. -/
structure Plain.JnZ (b : Nat) (W : World) : Prop where
  lt : b < W.heap.size
  c0 : W.cell? ⟨b, 0, none⟩ = some (.int .i64 0)
  c1 : W.cell? ⟨b, 1, none⟩ = some (.int .i64 0)
  c2 : W.cell? ⟨b, 2, none⟩ = some (.slice none 0 0)
  z0 : W.frozen? ⟨b, 0, none⟩ = false
  z1 : W.frozen? ⟨b, 1, none⟩ = false
  z2 : W.frozen? ⟨b, 2, none⟩ = false
theorem Plain.JnZ.new (V : World) : JnZ V.heap.size (V.alloc (.cells #[.int .i64 0, .int .i64 0, .slice none 0 0] 34)) := ⟨by simp, by simp [go_sem], by simp [go_sem], by simp [go_sem], by simp [go_sem], by simp [go_sem], by simp [go_sem]⟩
theorem Plain.JnZ.below {b : Nat} {V V' : World} (h : JnZ b V) (hb : Below V.heap.size V V') : JnZ b V' :=
  ⟨Nat.lt_of_lt_of_le h.lt hb.size, bcl hb h.lt h.c0, bcl hb h.lt h.c1, bcl hb h.lt h.c2, (hb.frozen (p := ⟨b, 0, none⟩) h.lt).trans h.z0, (hb.frozen (p := ⟨b, 1, none⟩) h.lt).trans h.z1, (hb.frozen (p := ⟨b, 2, none⟩) h.lt).trans h.z2⟩
theorem Plain.jn2 {V V1 : World} {A : Obj} (hb : Below ((V.alloc A).alloc (.cells #[.int .i64 0, .int .i64 0, .slice none 0 0] 34)).drew.heap.size ((V.alloc A).alloc (.cells #[.int .i64 0, .int .i64 0, .slice none 0 0] 34)).drew V1) : JnZ (V.heap.size + 1) V1 := by
  have h := ((JnZ.new (V.alloc A)).below (belDrew (Below.refl _ _))).below hb
  rwa [World.size_alloc] at h
theorem Plain.jn1 {V V1 : World} {A : Obj} (hb : Below ((V.alloc (.cells #[.int .i64 0, .int .i64 0, .slice none 0 0] 34)).alloc A).drew.heap.size ((V.alloc (.cells #[.int .i64 0, .int .i64 0, .slice none 0 0] 34)).alloc A).drew V1) : JnZ V.heap.size V1 :=
  ((JnZ.new V).below (belDrew (bel1 _ _))).below hb
/-- A journal in a variable. -/
structure Plain.JnB (W : World) (b : Nat) (T V : Int) (a : Option Addr) (n c : Nat) : Prop where
  c0 : W.cell? ⟨b, 0, none⟩ = some (.int .i64 T)
  c1 : W.cell? ⟨b, 1, none⟩ = some (.int .i64 V)
  c2 : W.cell? ⟨b, 2, none⟩ = some (.slice a n c)
theorem Plain.JnB.below {W W' : World} {b : Nat} {T V : Int} {a : Option Addr} {n c : Nat} (h : JnB W b T V a n c) (hb : Below W.heap.size W W') : JnB W' b T V a n c := ⟨bcl hb (lt_of_cell h.c0) h.c0, bcl hb (lt_of_cell h.c0) h.c1, bcl hb (lt_of_cell h.c0) h.c2⟩
theorem Plain.JnB.new (V : World) (T v : Int) (a : Option Addr) (n c : Nat) : JnB (V.alloc (.cells #[.int .i64 T, .int .i64 v, .slice a n c] 34)) V.heap.size T v a n c := ⟨by simp [go_sem], by simp [go_sem], by simp [go_sem]⟩
theorem Plain.JnB.set {b : Nat} {V : World} (h : JnZ b V) (T v : Int) (a : Option Addr) (n c : Nat) : JnB (((V.setCell ⟨b, 0, none⟩ (.int .i64 T)).setCell ⟨b, 1, none⟩ (.int .i64 v)).setCell ⟨b, 2, none⟩ (.slice a n c)) b T v a n c := by
  have h0 : (V.setCell ⟨b, 0, none⟩ (.int .i64 T)).cell? ⟨b, 0, none⟩ = some (.int .i64 T) := cell_set h.c0
  have h1 : ((V.setCell ⟨b, 0, none⟩ (.int .i64 T)).setCell ⟨b, 1, none⟩ (.int .i64 v)).cell? ⟨b, 1, none⟩ = some (.int .i64 v) := cell_set ((cell_off (.inr (by decide))).trans h.c1)
  exact ⟨(cell_off (.inr (by decide))).trans ((cell_off (.inr (by decide))).trans h0), (cell_off (.inr (by decide))).trans h1, cell_set ((cell_off (.inr (by decide))).trans ((cell_off (.inr (by decide))).trans h.c2))⟩
theorem Plain.own_set3 {α : Type} {e : Elem α} {W : World} {B g : Nat} {v u0 u1 u2 : Value} {xs : List α} (h : OwnR e W B v xs) (hg : g < B) : OwnR e (((W.setCell ⟨g, 0, none⟩ u0).setCell ⟨g, 1, none⟩ u1).setCell ⟨g, 2, none⟩ u2) B v xs :=
  h.other fun k hk => by
    have := own_from h hk
    rw [heap_set (by omega), heap_set (by omega), heap_set (by omega)]

set_option maxRecDepth 10000 in
set_option maxHeartbeats 8000000 in
theorem impl_SaveNo (q1L : Option Addr) (nL cL : Nat) (live : List Fl) (q2S : Option Addr) (nS cS : Nat) (safe : List Fl) (q3O : Option Addr) (nO cO : Nat) (ops : List Dop) (fm : Int) (a5 : Option Addr) (n5 c5 : Nat) (xs : List Ent) (w : World) (h : DiskAt w q1L nL cL live q2S nS cS safe q3O nO cO ops) (hx : RowAt entE w a5 xs) (hxn : xs.length = n5) (hxb : n5 ≤ 1048576) (hxf : ∀ e ∈ xs, e.body.size ≤ 1000000000) (hxa : AdG a5 c5) (hd : diskB live safe ops = true) (hno : seB live safe ops fm xs = false) :
    Calls Tryz.prog 8 #[.agg #[.slice q1L nL cL, .slice q2S nS cS, .slice q3O nO cO], .int .i64 fm, .slice a5 n5 c5] w (DskPost (fun x => .tuple #[x, .int .i64 11]) live safe ops w) := by
  obtain ⟨W0, hW0⟩ : ∃ W0, W0 = (w.alloc (.cells #[.slice q1L nL cL, .slice q2S nS cS, .slice q3O nO cO] 27)).alloc (.cells #[.slice none 0 0, .slice none 0 0, .slice none 0 0] 27) := ⟨_, rfl⟩
  have hb0 : Below w.heap.size w W0 := by rw [hW0]; exact belOn (bel1 _ _) (bel1 _ _)
  have hz0 : W0.heap.size = w.heap.size + 2 := by rw [hW0]; simp
  have c0 : W0.cell? ⟨w.heap.size, 0, none⟩ = some (.slice q1L nL cL) := by rw [hW0]; simp [go_sem]
  have c1 : W0.cell? ⟨w.heap.size, 1, none⟩ = some (.slice q2S nS cS) := by rw [hW0]; simp [go_sem]
  have c2 : W0.cell? ⟨w.heap.size, 2, none⟩ = some (.slice q3O nO cO) := by rw [hW0]; simp [go_sem]
  have r0 : W0.cell? ⟨w.heap.size + 1, 0, none⟩ = some (.slice none 0 0) := by rw [hW0]; simp [go_sem]
  have r1 : W0.cell? ⟨w.heap.size + 1, 1, none⟩ = some (.slice none 0 0) := by rw [hW0]; simp [go_sem]
  have r2 : W0.cell? ⟨w.heap.size + 1, 2, none⟩ = some (.slice none 0 0) := by rw [hW0]; simp [go_sem]
  have y0 : W0.frozen? ⟨w.heap.size + 1, 0, none⟩ = false := by rw [hW0]; simp [go_sem]
  have y1 : W0.frozen? ⟨w.heap.size + 1, 1, none⟩ = false := by rw [hW0]; simp [go_sem]
  have y2 : W0.frozen? ⟨w.heap.size + 1, 2, none⟩ = false := by rw [hW0]; simp [go_sem]
  have HD := hide (fun (W : World) (hW : Below W0.heap.size W0 W) => (h.below hb0).below hW)
  have HE := hide (fun (W : World) (hW : Below W0.heap.size W0 W) => hx.below (belOn hb0 hW))
  have HC := hide (fun (W : World) (hW : Below W0.heap.size W0 W) => And.intro (bcl hW (by omega) c0) (And.intro (bcl hW (by omega) c1) (bcl hW (by omega) c2)))
  have HR := hide (fun (W : World) (hW : Below W0.heap.size W0 W) => And.intro (And.intro (bcl hW (by omega) r0) (And.intro (bcl hW (by omega) r1) (bcl hW (by omega) r2))) (And.intro ((hW.frozen (p := ⟨w.heap.size + 1, 0, none⟩) (by show w.heap.size + 1 < _; omega)).trans y0) (And.intro ((hW.frozen (p := ⟨w.heap.size + 1, 1, none⟩) (by show w.heap.size + 1 < _; omega)).trans y1) ((hW.frozen (p := ⟨w.heap.size + 1, 2, none⟩) (by show w.heap.size + 1 < _; omega)).trans y2))))
  have HFIN := hide (fun (W : World) (hW : Below W0.heap.size W0 W) => belOn hb0 hW)
  have HZ0 := hide hz0
  have HW0 := hide hW0.symm
  have HLN := hide (And.intro h.ll (And.intro h.ls h.lo))
  have HH := hide h
  have HXN := hide hxn
  have HXF := hide hxf
  have HXA := hide hxa
  clear h hb0 c0 c1 c2 r0 r1 r2 y0 y1 y2 hW0 hz0 hx hxn hxf hxa
  have hz := unhide HZ0
  have HX := hide hd
  have HRC := hide (fun (W : World) (hW : Below W0.heap.size W0 W) => impl_Recover _ nL cL live _ nS cS safe _ nO cO ops W (unhide HD W hW))
  have HCP := hide (fun (W : World) (hW : Below W0.heap.size W0 W) => copyOfDiskA_calls q1L nL cL live q2S nS cS safe q3O nO cO ops W (unhide HD W hW))
  unfold DskPost at HCP
  have hsm := rec_small live safe ops
  unfold seB seE at hno
  generalize recT live safe ops = RR at HRC hno hsm
  obtain ⟨ok, T, V, es⟩ := RR
  simp only [] at HRC hno hsm
  have h4 : ok = false ∨ (ok = true ∧ fm < 0) ∨ (ok = true ∧ 0 ≤ fm ∧ (es.length : Int) < fm) ∨ (ok = true ∧ ∃ k : Nat, fm = (k : Int) ∧ k ≤ es.length ∧ jouB T V (es.take k ++ xs) = false) := by
    cases ok with
    | false => exact .inl rfl
    | true =>
      by_cases h1 : fm < 0
      · exact .inr (.inl ⟨rfl, h1⟩)
      · by_cases h2 : (es.length : Int) < fm
        · exact .inr (.inr (.inl ⟨rfl, by omega, h2⟩))
        · refine .inr (.inr (.inr ⟨rfl, fm.toNat, by omega, by omega, ?_⟩))
          rw [decide_eq_true (by omega), decide_eq_true (by omega)] at hno
          simpa using hno
  clear hno hd
  rcases h4 with rfl | ⟨rfl, h1⟩ | ⟨rfl, h1, h2⟩ | ⟨rfl, k, rfl, hk, h3⟩
  case inl =>
    go_enter Tryz.func8, Tryz.ntmps8
    go_wp2_with fail
    rw [unhide HW0]
    refine (impl_DiskOk _ nL cL live _ nS cS safe _ nO cO ops W0 (unhide HD _ (Below.refl _ _))).mono ?_
    rintro e w1 ⟨rfl, hb1⟩
    rw [unhide HX]
    obtain ⟨q0, q1, q2⟩ := unhide HC _ hb1
    have HB1 := hide hb1
    clear hb1
    go_wp2_with fail
    refine (unhide HRC _ (unhide HB1)).mono ?_
    rintro e w2 ⟨sl, rfl, ho, hb2⟩
    obtain ⟨aj, cj, rfl⟩ := ho.form
    have HB3 := hide (show Below W0.heap.size W0 (w2.alloc (.cells #[.int .i64 T, .int .i64 V, .slice aj es.length cj] 34)) from belOn (belOn (unhide HB1) hb2) (bel1 _ _))
    clear hb2 ho q0 q1 q2
    obtain ⟨q0, q1, q2⟩ := unhide HC _ (unhide HB3)
    go_wp2_with fail
    refine (unhide HCP _ (unhide HB3)).mono ?_
    rintro e s5 ⟨xL, kL, xS, kS, xO, kO, rfl, o1, o2, o3, ap, hb5⟩
    have HB5 := hide (show Below W0.heap.size W0 s5 from belOn (unhide HB3) hb5)
    have HO := hide (show OwnR fileE s5 W0.heap.size (.slice xL live.length kL) live ∧ OwnR fileE s5 W0.heap.size (.slice xS safe.length kS) safe ∧ OwnR dopE s5 W0.heap.size (.slice xO ops.length kO) ops ∧ Apart xL xS xO from ⟨o1.le (unhide HB3).size, o2.le (unhide HB3).size, o3.le (unhide HB3).size, ap⟩)
    obtain ⟨⟨r0, r1, r2⟩, y0, y1, y2⟩ := unhide HR _ (unhide HB5)
    clear o1 o2 o3 ap hb5
    go_wp2_with fail
    refine bodyPost_ret (v := .tuple #[.agg #[.slice xL live.length kL, .slice xS safe.length kS, .slice xO ops.length kO], .int .i64 11]) (by simp [results, Tryz.results8, go_sem, r0, r1, r2]) rfl ?_
    obtain ⟨o1, o2, o3, ap⟩ := unhide HO
    have hsz := unhide HZ0
    exact dskRet o1 o2 o3 ap (Nat.le_succ _) (by omega) (unhide HFIN _ (unhide HB5))
  case inr.inl =>
    go_enter Tryz.func8, Tryz.ntmps8
    go_wp2_with fail
    rw [unhide HW0]
    refine (impl_DiskOk _ nL cL live _ nS cS safe _ nO cO ops W0 (unhide HD _ (Below.refl _ _))).mono ?_
    rintro e w1 ⟨rfl, hb1⟩
    rw [unhide HX]
    obtain ⟨q0, q1, q2⟩ := unhide HC _ hb1
    have HB1 := hide hb1
    clear hb1
    go_wp2_with fail
    refine (unhide HRC _ (unhide HB1)).mono ?_
    rintro e w2 ⟨sl, rfl, ho, hb2⟩
    obtain ⟨aj, cj, rfl⟩ := ho.form
    have HB3 := hide (show Below W0.heap.size W0 (w2.alloc (.cells #[.int .i64 T, .int .i64 V, .slice aj es.length cj] 34)) from belOn (belOn (unhide HB1) hb2) (bel1 _ _))
    clear hb2 ho q0 q1 q2
    obtain ⟨q0, q1, q2⟩ := unhide HC _ (unhide HB3)
    go_wp2_with fail
    refine (unhide HCP _ (unhide HB3)).mono ?_
    rintro e s5 ⟨xL, kL, xS, kS, xO, kO, rfl, o1, o2, o3, ap, hb5⟩
    have HB5 := hide (show Below W0.heap.size W0 s5 from belOn (unhide HB3) hb5)
    have HO := hide (show OwnR fileE s5 W0.heap.size (.slice xL live.length kL) live ∧ OwnR fileE s5 W0.heap.size (.slice xS safe.length kS) safe ∧ OwnR dopE s5 W0.heap.size (.slice xO ops.length kO) ops ∧ Apart xL xS xO from ⟨o1.le (unhide HB3).size, o2.le (unhide HB3).size, o3.le (unhide HB3).size, ap⟩)
    obtain ⟨⟨r0, r1, r2⟩, y0, y1, y2⟩ := unhide HR _ (unhide HB5)
    clear o1 o2 o3 ap hb5
    go_wp2_with fail
    refine bodyPost_ret (v := .tuple #[.agg #[.slice xL live.length kL, .slice xS safe.length kS, .slice xO ops.length kO], .int .i64 11]) (by simp [results, Tryz.results8, go_sem, r0, r1, r2]) rfl ?_
    obtain ⟨o1, o2, o3, ap⟩ := unhide HO
    have hsz := unhide HZ0
    exact dskRet o1 o2 o3 ap (Nat.le_succ _) (by omega) (unhide HFIN _ (unhide HB5))
  case inr.inr.inl =>
    have h0 : ¬ fm < 0 := by omega
    go_enter Tryz.func8, Tryz.ntmps8
    go_wp2_with fail
    rw [unhide HW0]
    refine (impl_DiskOk _ nL cL live _ nS cS safe _ nO cO ops W0 (unhide HD _ (Below.refl _ _))).mono ?_
    rintro e w1 ⟨rfl, hb1⟩
    rw [unhide HX]
    obtain ⟨q0, q1, q2⟩ := unhide HC _ hb1
    have HB1 := hide hb1
    clear hb1
    go_wp2_with fail
    refine (unhide HRC _ (unhide HB1)).mono ?_
    rintro e w2 ⟨sl, rfl, ho, hb2⟩
    obtain ⟨aj, cj, rfl⟩ := ho.form
    have HB3 := hide (show Below W0.heap.size W0 (w2.alloc (.cells #[.int .i64 T, .int .i64 V, .slice aj es.length cj] 34)) from belOn (belOn (unhide HB1) hb2) (bel1 _ _))
    clear hb2 ho q0 q1 q2
    obtain ⟨q0, q1, q2⟩ := unhide HC _ (unhide HB3)
    go_wp2_with fail
    refine (unhide HCP _ (unhide HB3)).mono ?_
    rintro e s5 ⟨xL, kL, xS, kS, xO, kO, rfl, o1, o2, o3, ap, hb5⟩
    have HB5 := hide (show Below W0.heap.size W0 s5 from belOn (unhide HB3) hb5)
    have HO := hide (show OwnR fileE s5 W0.heap.size (.slice xL live.length kL) live ∧ OwnR fileE s5 W0.heap.size (.slice xS safe.length kS) safe ∧ OwnR dopE s5 W0.heap.size (.slice xO ops.length kO) ops ∧ Apart xL xS xO from ⟨o1.le (unhide HB3).size, o2.le (unhide HB3).size, o3.le (unhide HB3).size, ap⟩)
    obtain ⟨⟨r0, r1, r2⟩, y0, y1, y2⟩ := unhide HR _ (unhide HB5)
    clear o1 o2 o3 ap hb5
    go_wp2_with fail
    refine bodyPost_ret (v := .tuple #[.agg #[.slice xL live.length kL, .slice xS safe.length kS, .slice xO ops.length kO], .int .i64 11]) (by simp [results, Tryz.results8, go_sem, r0, r1, r2]) rfl ?_
    obtain ⟨o1, o2, o3, ap⟩ := unhide HO
    have hsz := unhide HZ0
    exact dskRet o1 o2 o3 ap (Nat.le_succ _) (by omega) (unhide HFIN _ (unhide HB5))
  case inr.inr.inr =>
    have h0 : ¬ (k : Int) < 0 := by omega
    have h1 : ¬ (es.length : Int) < (k : Int) := by omega
    obtain ⟨m6, hm6⟩ : ∃ m, (es.take k ++ xs).length = m := ⟨_, rfl⟩
    have HM6 := hide hm6
    have HSM := hide hsm.2
    have hs5 := hsm.1
    clear hm6 hsm
    go_enter Tryz.func8, Tryz.ntmps8
    go_wp2_with fail
    rw [unhide HW0]
    refine (impl_DiskOk _ nL cL live _ nS cS safe _ nO cO ops W0 (unhide HD _ (Below.refl _ _))).mono ?_
    rintro e w1 ⟨rfl, hb1⟩
    rw [unhide HX]
    obtain ⟨q0, q1, q2⟩ := unhide HC _ hb1
    have HB1 := hide hb1
    clear hb1
    go_wp2_with fail
    refine (unhide HRC _ (unhide HB1)).mono ?_
    rintro e w2 ⟨sl, rfl, ho, hb2⟩
    obtain ⟨aj, cj, rfl⟩ := ho.form
    obtain ⟨W3, hW3⟩ : ∃ W3, W3 = w2.alloc (.cells #[.int .i64 T, .int .i64 V, .slice aj es.length cj] 34) := ⟨_, rfl⟩
    have HB3 := hide (show Below W0.heap.size W0 W3 from by rw [hW3]; exact belOn (belOn (unhide HB1) hb2) (bel1 _ _))
    have HK := hide (show ∀ W, Below W3.heap.size W3 W → W.cell? ⟨w2.heap.size, 0, none⟩ = some (.int .i64 T) ∧ W.cell? ⟨w2.heap.size, 1, none⟩ = some (.int .i64 V) from fun W hW => ⟨bcl hW (by rw [hW3]; simp) (by rw [hW3]; simp [go_sem]), bcl hW (by rw [hW3]; simp) (by rw [hW3]; simp [go_sem])⟩)
    have HJ := hide (show ∀ W, Below W3.heap.size W3 W → RowAt entE W aj es from fun W hW => ho.at.below (belOn (by rw [hW3]; exact bel1 _ _) hW))
    have had := ho.adG
    have hcap := own_cap ho
    have HW3 := hide hW3.symm
    clear hb2 ho hW3 q0 q1 q2
    obtain ⟨q0, q1, q2⟩ := unhide HC _ (unhide HB3)
    have HAD := hide had
    have k1 : (k : Int) ≤ (cj : Int) := by omega
    go_wp2_with fail
    rw [unhide HW3]
    clear q0 q1 q2
    go_cut [11] (fun s11 wx => ∃ (b6 : Nat) (a6 : Option Addr) (c6 : Nat), s11 = .pointer (some ⟨b6, 0, none⟩) ∧ W3.heap.size ≤ b6 ∧ Hid (JnB wx b6 T V a6 m6 c6) ∧ Hid (OwnR entE wx W0.heap.size (.slice a6 m6 c6) (es.take k ++ xs)) ∧ Hid (Below W3.heap.size W3 wx))
    case first =>
      have hcn : ∀ (X : World) (gs : Nat), X.cell? ⟨gs, 0, none⟩ = some (.slice aj k cj) → X.cell? ⟨gs, 1, none⟩ = some (.slice a5 n5 c5) → Below W3.heap.size W3 X → Calls Tryz.prog 36 #[.slice (some ⟨gs, 0, none⟩) 2 2] X fun e w' => ∃ a6 c6, e = .returned (.slice a6 m6 c6) ∧ OwnR entE w' X.heap.size (.slice a6 m6 c6) (es.take k ++ xs) ∧ Below X.heap.size X w' := fun X gs k0 k1 hX => (concatE_calls gs aj k cj (es.take k) a5 n5 c5 xs X k0 k1 (fun i hi => (unhide HJ X hX).pre k i hi) (unhide HE X (belOn (unhide HB3) hX)) (by rw [List.length_take]; omega) (unhide HXN) (by omega) (by omega) (unhide HAD) (unhide HXA)).mono (by
        rintro e w' ⟨v, rfl, ho, hb⟩
        obtain ⟨a, c, rfl⟩ := ho.form
        rw [unhide HM6] at ho ⊢
        exact ⟨a, c, rfl, ho, hb⟩)
      have HC1 := hide (hcn (W3.alloc (.cells #[.slice aj k cj, .slice a5 n5 c5] 28)).drew W3.heap.size (by simp [go_sem]) (by simp [go_sem]) (belDrew (belAl (Below.refl _ _))))
      have HC2 := hide (hcn ((W3.alloc (.cells #[.slice aj k cj, .slice a5 n5 c5] 28)).alloc (.cells #[.int .i64 0, .int .i64 0, .slice none 0 0] 34)).drew W3.heap.size (by simp [go_sem]) (by simp [go_sem]) (belDrew (belAl (belAl (Below.refl _ _)))))
      have HC3 := hide (hcn ((W3.alloc (.cells #[.int .i64 0, .int .i64 0, .slice none 0 0] 34)).alloc (.cells #[.slice aj k cj, .slice a5 n5 c5] 28)).drew (W3.heap.size + 1) (by simp [go_sem]) (by simp [go_sem]) (belDrew (belAl (belAl (Below.refl _ _)))))
      have BX1 : Below W3.heap.size W3 (W3.alloc (.cells #[.slice aj k cj, .slice a5 n5 c5] 28)).drew := belDrew (belAl (Below.refl _ _))
      have BX2 : Below W3.heap.size W3 ((W3.alloc (.cells #[.slice aj k cj, .slice a5 n5 c5] 28)).alloc (.cells #[.int .i64 0, .int .i64 0, .slice none 0 0] 34)).drew := belDrew (belAl (belAl (Below.refl _ _)))
      have BX3 : Below W3.heap.size W3 ((W3.alloc (.cells #[.int .i64 0, .int .i64 0, .slice none 0 0] 34)).alloc (.cells #[.slice aj k cj, .slice a5 n5 c5] 28)).drew := belDrew (belAl (belAl (Below.refl _ _)))
      have hl2 : W3.heap.size + 1 < ((W3.alloc (.cells #[.slice aj k cj, .slice a5 n5 c5] 28)).alloc (.cells #[.int .i64 0, .int .i64 0, .slice none 0 0] 34)).drew.heap.size := by show _ < ((W3.alloc _).alloc _).heap.size; simp
      have hl3 : W3.heap.size < ((W3.alloc (.cells #[.int .i64 0, .int .i64 0, .slice none 0 0] 34)).alloc (.cells #[.slice aj k cj, .slice a5 n5 c5] 28)).drew.heap.size := by show _ < ((W3.alloc _).alloc _).heap.size; rw [World.size_alloc, World.size_alloc]; omega
      have HBX := hide (And.intro BX1 (And.intro BX2 (And.intro BX3 (And.intro hl2 hl3))))
      have X0 := fun (W : World) (hW : Below W3.heap.size W3 W) => (unhide HK W hW).1
      have X1 := fun (W : World) (hW : Below W3.heap.size W3 W) => (unhide HK W hW).2
      have HBR := hide (Below.refl W3.heap.size W3)
      have h03 := (unhide HB3).size
      clear hcn BX1 BX2 BX3 hl2 hl3
      go_region_held3 (fun w' => Below W3.heap.size W3 w') (first | with_reducible exact BB1 | with_reducible exact belOn BB1 (bel1 _ _) | with_reducible exact belDrew (unhide HBR) | with_reducible exact (unhide HBX).1 | with_reducible exact (unhide HBX).2.1 | with_reducible exact (unhide HBX).2.2.1 | with_reducible exact belDrew (belAl (unhide HBR)) | with_reducible exact belDrew (belAl (belAl (unhide HBR))) | with_reducible exact ((BB1.setCell hbw _).setCell hbw _).setCell hbw _) (first
        | (go_at_call 36; with_reducible refine (unhide HC1).mono ?_; rintro e V1 ⟨a6, c6, rfl, ho6, hb6⟩; have BB1 : Below W3.heap.size W3 V1 := belOn (unhide HBX).1 hb6; have hle := Nat.le_trans h03 (unhide HBX).1.size)
        | (go_at_call 36; with_reducible refine (unhide HC2).mono ?_; rintro e V1 ⟨a6, c6, rfl, ho6, hb6⟩; have BB1 : Below W3.heap.size W3 V1 := belOn (unhide HBX).2.1 hb6; have hle := Nat.le_trans h03 (unhide HBX).2.1.size; have hlj := (unhide HBX).2.2.2.1; have hbw := Nat.le_succ W3.heap.size; obtain ⟨nlt, n0, n1, n2, y0, y1, y2⟩ := jn2 hb6)
        | (go_at_call 36; with_reducible refine (unhide HC3).mono ?_; rintro e V1 ⟨a6, c6, rfl, ho6, hb6⟩; have BB1 : Below W3.heap.size W3 V1 := belOn (unhide HBX).2.2.1 hb6; have hle := Nat.le_trans h03 (unhide HBX).2.2.1.size; have hlj := (unhide HBX).2.2.2.2; have hbw := Nat.le_refl W3.heap.size; obtain ⟨nlt, n0, n1, n2, y0, y1, y2⟩ := jn1 hb6))
      all_goals (try go_wp2_with fail)
      all_goals go_meet
      all_goals first
        | exact ⟨V1.heap.size, a6, c6, rfl, BB1.size, hide (JnB.new _ _ _ _ _ _), hide ((ho6.le hle).keep (bel1 _ _)), hide (belOn BB1 (bel1 _ _))⟩
        | exact ⟨_, a6, c6, rfl, hbw, hide (JnB.set ⟨nlt, n0, n1, n2, y0, y1, y2⟩ _ _ _ _ _), hide ((own_set3 ho6 hlj).le hle), hide (((BB1.setCell hbw _).setCell hbw _).setCell hbw _)⟩
    case rest =>
    obtain ⟨w6, rfl⟩ : ∃ w6, w6 = wc := ⟨_, rfl⟩
    obtain ⟨b6, a6, c6, rfl, hb36, HJ6, HO6, HB36⟩ := hcut
    have hbn : b6 ≠ w.heap.size + 1 := by have := (unhide HB3).size; have := unhide HZ0; omega
    have hbn2 : w.heap.size + 1 ≠ b6 := Ne.symm hbn
    have HB6 := hide (belOn (unhide HB3) (unhide HB36))
    have HJO := hide (impl_JournalOk T V a6 m6 c6 (es.take k ++ xs) w6 ⟨(unhide HO6).at, unhide HM6, by have := unhide HM6; rw [List.length_append, List.length_take, unhide HXN] at this; omega, fun e he => (List.mem_append.1 he).elim (fun q => Nat.le_trans (unhide HSM _ (List.mem_of_mem_take q)) (by decide)) (fun q => unhide HXF e q)⟩ (own_cap (unhide HO6)))
    obtain ⟨j0, j1, j2⟩ := unhide HJ6
    go_wp2_with fail
    refine (unhide HJO).mono ?_
    rintro e w7 ⟨rfl, hb7⟩
    rw [h3]
    have HJ7 := hide ((unhide HJ6).below hb7)
    have HO7 := hide ((unhide HO6).keep hb7)
    have HB7 := hide (belOn (unhide HB6) hb7)
    have HB37 := hide (belOn (unhide HB36) hb7)
    clear hb7 j0 j1 j2 HJO HJ6 HO6
    obtain ⟨q0, q1, q2⟩ := unhide HC _ (unhide HB7)
    go_wp2_with fail
    refine (unhide HCP _ (unhide HB7)).mono ?_
    rintro e s5 ⟨xL, kL, xS, kS, xO, kO, rfl, o1, o2, o3, ap, hb5⟩
    have HB5 := hide (show Below W0.heap.size W0 s5 from belOn (unhide HB7) hb5)
    have HO := hide (show OwnR fileE s5 W0.heap.size (.slice xL live.length kL) live ∧ OwnR fileE s5 W0.heap.size (.slice xS safe.length kS) safe ∧ OwnR dopE s5 W0.heap.size (.slice xO ops.length kO) ops ∧ Apart xL xS xO from ⟨o1.le (unhide HB7).size, o2.le (unhide HB7).size, o3.le (unhide HB7).size, ap⟩)
    obtain ⟨⟨r0, r1, r2⟩, y0, y1, y2⟩ := unhide HR _ (unhide HB5)
    clear o1 o2 o3 ap hb5
    go_wp2_with fail
    refine bodyPost_ret (v := .tuple #[.agg #[.slice xL live.length kL, .slice xS safe.length kS, .slice xO ops.length kO], .int .i64 11]) (by simp [results, Tryz.results8, go_sem, r0, r1, r2]) rfl ?_
    obtain ⟨o1, o2, o3, ap⟩ := unhide HO
    have hsz := unhide HZ0
    exact dskRet o1 o2 o3 ap (Nat.le_succ _) (by omega) (unhide HFIN _ (unhide HB5))
end Go.Proofs.YtakalfckhailjaaGreat
