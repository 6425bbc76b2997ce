/- Recover of the specification. -/
import Derived.Test.YtakalfckhailjaaGreatGAT
import Derived.Test.YtakalfckhailjaaGreatGAU
import Derived.Deep.RegionHeld3
namespace Go.Proofs.YtakalfckhailjaaGreat
open Go.RowKit Plain
set_option linter.unusedVariables false

namespace Plain
/-- The vote in a frame's body, by its parts as they are read. -/
theorem vot_of {b s1 s2 : ByteArray} {t1 t2 : Int} {g1 g2 : Bool}
    (a1 : g1 = false → tkN b 0 = none) (a2 : g1 = true → ∃ v l : Nat, tkN b 0 = some (v, l) ∧ t1 = v ∧ s1 = b.extract l b.size ∧ l ≤ b.size)
    (b1 : g2 = false → tkN s1 0 = none) (b2 : g2 = true → ∃ v l : Nat, tkN s1 0 = some (v, l) ∧ t2 = v ∧ s2 = s1.extract l s1.size ∧ l ≤ s1.size) :
    (match stp b 0 with
      | none => none
      | some (t, p) => match stp b p with
        | none => none
        | some (v, q) => if q = b.size then some (t, v) else none) = if g1 = true ∧ g2 = true ∧ s2.size = 0 then some (t1, t2) else none := by
  cases g1 with
  | false =>
    rw [if_neg (by simp)]
    simp only [stp, a1 rfl, Option.map_none]
  | true =>
    obtain ⟨v1, l1, e1, rfl, rfl, h1⟩ := a2 rfl
    have s1 : stp b 0 = some ((v1 : Int), l1) := by unfold stp; rw [e1]; simp
    simp only [s1]
    cases g2 with
    | false =>
      have := b1 rfl
      rw [tkN_shift b l1 h1] at this
      rw [if_neg (by simp)]
      simp only [stp, this, Option.map_none]
    | true =>
      obtain ⟨v2, l2, e2, rfl, rfl, h2⟩ := b2 rfl
      rw [tkN_shift b l1 h1] at e2
      have hz : (b.extract l1 b.size).size = b.size - l1 := by rw [ByteArray.size_extract]; omega
      have s2 : stp b l1 = some ((v2 : Int), l1 + l2) := by unfold stp; rw [e2]; rfl
      simp only [s2]
      rw [ext2 b l1 l2 h1]
      have hz2 : (b.extract (l1 + l2) b.size).size = b.size - (l1 + l2) := by rw [ByteArray.size_extract]; omega
      by_cases hc : l1 + l2 = b.size
      · rw [if_pos hc, if_pos ⟨trivial, trivial, by omega⟩]
      · rw [if_neg hc, if_neg (fun q => hc (by have := q.2.2; omega))]
/-- What l5Disk keeps in memory. -/
structure LD (w : World) (aL : Option Addr) (nL cL : Nat) (t v : Int) (X : World) : Prop where
  bel : Below w.heap.size w X
  d0 : X.cell? ⟨w.heap.size, 0, none⟩ = some (.slice aL nL cL)
  r0 : X.cell? ⟨w.heap.size + 1, 0, none⟩ = some (.int .i64 0)
  r1 : X.cell? ⟨w.heap.size + 1, 1, none⟩ = some (.int .i64 0)
  r2 : X.cell? ⟨w.heap.size + 1, 2, none⟩ = some (.slice none 0 0)
  y0 : X.frozen? ⟨w.heap.size + 1, 0, none⟩ = false
  y1 : X.frozen? ⟨w.heap.size + 1, 1, none⟩ = false
  y2 : X.frozen? ⟨w.heap.size + 1, 2, none⟩ = false
  j0 : X.cell? ⟨w.heap.size + 2, 0, none⟩ = some (.int .i64 t)
  j1 : X.cell? ⟨w.heap.size + 2, 1, none⟩ = some (.int .i64 v)
  j2 : X.cell? ⟨w.heap.size + 2, 2, none⟩ = some (.slice none 0 0)
  k0 : X.frozen? ⟨w.heap.size + 2, 0, none⟩ = false
  k1 : X.frozen? ⟨w.heap.size + 2, 1, none⟩ = false
  k2 : X.frozen? ⟨w.heap.size + 2, 2, none⟩ = false
theorem LD.step {w : World} {aL : Option Addr} {nL cL : Nat} {t v : Int} {X X' : World} (h : LD w aL nL cL t v X) (hb : Below X.heap.size X X') : LD w aL nL cL t v X' := by
  have l1 := lt_of_cell h.r0
  have l2 := lt_of_cell h.j0
  exact ⟨belOn h.bel hb, bcl hb (lt_of_cell h.d0) h.d0, bcl hb l1 h.r0, bcl hb l1 h.r1, bcl hb l1 h.r2, (hb.frozen (p := ⟨_, 0, none⟩) l1).trans h.y0, (hb.frozen (p := ⟨_, 1, none⟩) l1).trans h.y1, (hb.frozen (p := ⟨_, 2, none⟩) l1).trans h.y2, bcl hb l2 h.j0, bcl hb l2 h.j1, bcl hb l2 h.j2, (hb.frozen (p := ⟨_, 0, none⟩) l2).trans h.k0, (hb.frozen (p := ⟨_, 1, none⟩) l2).trans h.k1, (hb.frozen (p := ⟨_, 2, none⟩) l2).trans h.k2⟩
theorem LD.put {w : World} {aL : Option Addr} {nL cL : Nat} {t0 v0 : Int} {X : World} (h : LD w aL nL cL t0 v0 X) (t v : Int) : LD w aL nL cL t v ((X.setCell ⟨w.heap.size + 2, 0, none⟩ (.int .i64 t)).setCell ⟨w.heap.size + 2, 1, none⟩ (.int .i64 v)) := by
  have o : ∀ (b i : Nat), b ≠ w.heap.size + 2 → ((X.setCell ⟨w.heap.size + 2, 0, none⟩ (.int .i64 t)).setCell ⟨w.heap.size + 2, 1, none⟩ (.int .i64 v)).cell? ⟨b, i, none⟩ = X.cell? ⟨b, i, none⟩ := fun b i hb => (cell_off (.inl (Ne.symm hb))).trans (cell_off (.inl (Ne.symm hb)))
  refine ⟨(h.bel.setCell (p := ⟨w.heap.size + 2, 0, none⟩) (by show w.heap.size ≤ w.heap.size + 2; omega) _).setCell (p := ⟨w.heap.size + 2, 1, none⟩) (by show w.heap.size ≤ w.heap.size + 2; omega) _, (o _ _ (by omega)).trans h.d0, (o _ _ (by omega)).trans h.r0, (o _ _ (by omega)).trans h.r1, (o _ _ (by omega)).trans h.r2, ?_, ?_, ?_, (cell_off (.inr (by decide))).trans (cell_set h.j0), cell_set ((cell_off (.inr (by decide))).trans h.j1), (cell_off (.inr (by decide))).trans ((cell_off (.inr (by decide))).trans h.j2), ?_, ?_, ?_⟩
  all_goals simp only [World.frozen?_setCell]
  · exact h.y0
  · exact h.y1
  · exact h.y2
  · exact h.k0
  · exact h.k1
  · exact h.k2
/-- The same with less: through the call and the store of the entries. -/
structure LQ (w : World) (aL : Option Addr) (nL cL : Nat) (t : Int) (X : World) : Prop where
  bel : Below w.heap.size w X
  d0 : X.cell? ⟨w.heap.size, 0, none⟩ = some (.slice aL nL cL)
  j0 : X.cell? ⟨w.heap.size + 2, 0, none⟩ = some (.int .i64 t)
theorem LQ.step {w : World} {aL : Option Addr} {nL cL : Nat} {t : Int} {X X' : World} (h : LQ w aL nL cL t X) (hb : Below X.heap.size X X') : LQ w aL nL cL t X' := ⟨belOn h.bel hb, bcl hb (lt_of_cell h.d0) h.d0, bcl hb (lt_of_cell h.j0) h.j0⟩
theorem LQ.set2 {w : World} {aL : Option Addr} {nL cL : Nat} {t : Int} {X : World} (h : LQ w aL nL cL t X) (u : Value) : LQ w aL nL cL t (X.setCell ⟨w.heap.size + 2, 2, none⟩ u) := ⟨h.bel.setCell (p := ⟨w.heap.size + 2, 2, none⟩) (by show w.heap.size ≤ w.heap.size + 2; omega) _, (cell_off (.inl (by omega))).trans h.d0, (cell_off (.inr (by decide))).trans h.j0⟩
theorem LD.q {w : World} {aL : Option Addr} {nL cL : Nat} {t v : Int} {X : World} (h : LD w aL nL cL t v X) : LQ w aL nL cL t X := ⟨h.bel, h.d0, h.j0⟩
end Plain

theorem Plain.below3S {w X : World} {b : Nat} {u0 u1 u2 : Value} (h : Below w.heap.size w X) (hb : w.heap.size ≤ b) : Below w.heap.size w (((X.setCell ⟨b, 0, none⟩ u0).setCell ⟨b, 1, none⟩ u1).setCell ⟨b, 2, none⟩ u2) := ((h.setCell (p := ⟨b, 0, none⟩) hb _).setCell (p := ⟨b, 1, none⟩) hb _).setCell (p := ⟨b, 2, none⟩) hb _

set_option maxRecDepth 10000 in
set_option maxHeartbeats 4000000 in
theorem l5Disk_calls (aL : Option Addr) (nL cL : Nat) (live : List Fl) (aS : Option Addr) (nS cS : Nat) (safe : List Fl) (aO : Option Addr) (nO cO : Nat) (ops : List Dop) (w : World) (h : DiskAt w aL nL cL live aS nS cS safe aO nO cO ops) (hd : diskB live safe ops = true) :
    Calls Tryz.prog 27 #[.agg #[.slice aL nL cL, .slice aS nS cS, .slice aO nO cO]] w fun e w' => ∃ sl, e = .returned (.tuple #[.agg #[.int .i64 (recT live safe ops).2.1, .int .i64 (recT live safe ops).2.2.1, sl], .int .i64 (logZ (recT live safe ops).2.2.2 : Nat), .bool (recT live safe ops).1]) ∧ OwnR entE w' w.heap.size sl (recT live safe ops).2.2.2 ∧ Below w.heap.size w w' := by
  obtain ⟨W0, hW0⟩ : ∃ W0, W0 = ((w.alloc (.cells #[.slice aL nL cL, .slice aS nS cS, .slice aO nO cO] 27)).alloc (.cells #[.int .i64 0, .int .i64 0, .slice none 0 0] 34)).alloc (.cells #[.int .i64 0, .int .i64 0, .slice none 0 0] 34) := ⟨_, rfl⟩
  have hb0 : Below w.heap.size w W0 := by rw [hW0]; exact belOn (belOn (bel1 _ _) (bel1 _ _)) (bel1 _ _)
  have HL0 := hide (show LD w aL nL cL 0 0 W0 from ⟨hb0, by rw [hW0]; simp [go_sem], by rw [hW0]; simp [go_sem], by rw [hW0]; simp [go_sem], by rw [hW0]; simp [go_sem], by rw [hW0]; simp [go_sem], by rw [hW0]; simp [go_sem], by rw [hW0]; simp [go_sem], by rw [hW0]; simp [go_sem], by rw [hW0]; simp [go_sem], by rw [hW0]; simp [go_sem], by rw [hW0]; simp [go_sem], by rw [hW0]; simp [go_sem], by rw [hW0]; simp [go_sem]⟩)
  have HD := hide (fun (X : World) (hX : Below w.heap.size w X) => (h.below hX).rl)
  have HLN := hide h.ll
  have HW0 := hide hW0.symm
  clear hW0 hb0 h
  have hfl := dk_live hd
  have HRI := hide (files_ok hfl).2
  have hln := (files_small hfl).1
  rw [unhide HLN] at hln
  have HSZ := hide (files_small hfl).2
  unfold recT
  rw [if_pos hd]
  clear hd hfl
  unfold votD logD
  have HAV := hide (fun (X : World) (hX : Below w.heap.size w X) => l4At_calls aL nL cL live voteN X (unhide HLN) (by omega) (unhide HD X hX))
  have HAL := hide (fun (X : World) (hX : Below w.heap.size w X) => l4At_calls aL nL cL live logN X (unhide HLN) (by omega) (unhide HD X hX))
  unfold voteN at HAV
  unfold logN at HAL
  cases hav : atF voteN live with
  | none =>
    have htv := tab_at_none (unhide HRI) hav
    rw [show atF ⟨#[118, 111, 116, 101]⟩ live = none from hav] at HAV
    rw [htv]
    simp only []
    clear htv hav
    cases hal : atF logN live with
    | none =>
      have htl := tab_at_none (unhide HRI) hal
      rw [show atF ⟨#[108, 111, 103]⟩ live = none from hal] at HAL
      rw [htl]
      simp only [Option.getD_none, log_empty]
      clear hal htl
      have HA1 := hide (unhide HAV W0 (unhide HL0).bel)
      obtain ⟨X, hX⟩ : ∃ X, X = W0 := ⟨_, rfl⟩
      have HLX := hide (show LD w _ nL cL 0 0 X from by rw [hX]; exact unhide HL0)
      have q0 := (unhide HL0).d0
      go_enter Tryz.func27, Tryz.ntmps27
      go_wp2_with fail
      rw [unhide HW0]
      refine (unhide HA1).mono ?_
      rintro e w1 ⟨rfl, rfl⟩
      rw [← hX]
      clear hX q0 HA1
      obtain ⟨-, d0, r0, r1, r2, y0, y1, y2, j0, j1, j2, -, -, -⟩ := unhide HLX
      go_wp2_with fail
      refine (unhide HAL X (unhide HLX).bel).mono ?_
      rintro e w2 ⟨rfl, rfl⟩
      go_wp2_with fail
      refine bodyPost_ret (v := .tuple #[.agg #[.int .i64 0, .int .i64 0, .slice none 0 0], .int .i64 0, .bool true]) (by simp [results, Tryz.results27, go_sem, r0, r1, r2]) rfl ⟨_, rfl, ownR_nil _ _ _, ?_⟩
      exact below3S (unhide HLX).bel (Nat.le_succ _)
    | some i =>
      obtain ⟨hi, hin⟩ := atF_lt logN live i hal
      have htl := tab_at_some (unhide HRI) hal
      rw [List.getD_eq_getElem?_getD, List.getElem?_eq_getElem hi, Option.getD_some] at htl
      rw [show atF ⟨#[108, 111, 103]⟩ live = some i from hal] at HAL
      have HV : atV (some i) = (i : Int) := rfl
      rw [HV] at HAL
      rw [htl]
      simp only [Option.getD_some]
      have hil : i < nL := by rw [← unhide HLN]; exact hi
      have hsz := (unhide HSZ live[i] (List.getElem_mem hi)).2
      have HCD := hide (fun (W : World) (hW : Below w.heap.size w W) => (unhide HD _ hW).file i hi)
      have i0 : (0 : Int) ≤ (i : Int) := by omega
      have i1 : (i : Int) < (nL : Int) := by omega
      have i2 : ¬ (i : Int) < 0 := by omega
      clear hal hin htl HV
      generalize live[i] = f at HCD hsz ⊢
      obtain ⟨fn, fd⟩ := f
      simp only at HCD hsz ⊢
      obtain ⟨g, ea, lg, -, -⟩ := unhide HCD W0 (unhide HL0).bel
      subst ea
      have HFD := hide (fun (W : World) (hW : Below w.heap.size w W) => show W.cell? ⟨g, i * 2 + 1, none⟩ = some (.string fd) from by obtain ⟨g', ea, _, _, p1⟩ := unhide HCD W hW; cases ea; exact p1)
      have HLG := hide (fun (W : World) => l5Log_calls fd 0 W (Nat.le_trans hsz (by decide)))
      generalize logF fd 0 = es at HLG ⊢
      clear HCD hsz hi
      have HA1 := hide (unhide HAV W0 (unhide HL0).bel)
      obtain ⟨X, hX⟩ : ∃ X, X = W0 := ⟨_, rfl⟩
      have HLX := hide (show LD w _ nL cL 0 0 X from by rw [hX]; exact unhide HL0)
      have q0 := (unhide HL0).d0
      go_enter Tryz.func27, Tryz.ntmps27
      go_wp2_with fail
      rw [unhide HW0]
      refine (unhide HA1).mono ?_
      rintro e w1 ⟨rfl, rfl⟩
      rw [← hX]
      clear hX q0 HA1
      obtain ⟨-, d0, r0, r1, r2, y0, y1, y2, j0, j1, j2, k0, k1, k2⟩ := unhide HLX
      go_wp2_with fail
      refine (unhide HAL X (unhide HLX).bel).mono ?_
      rintro e w2 ⟨rfl, rfl⟩
      clear HAL HSZ HRI HD
      go_wp2_with fail
      go_cut [16] (fun s16 wx => ∃ (a5 : Option Addr) (c5 : Nat), s16 = .int .i64 (logZ es : Nat) ∧ Hid (∃ w5, wx = w5.setCell ⟨w.heap.size + 2, 2, none⟩ (.slice a5 es.length c5) ∧ LD w (some ⟨g, 0, none⟩) nL cL 0 0 w5 ∧ OwnR entE w5 X.heap.size (.slice a5 es.length c5) es))
      case first =>
        have Q0 : ∀ Y : World, LQ w (some ⟨g, 0, none⟩) nL cL 0 Y → Y.cell? ⟨w.heap.size, 0, none⟩ = some (.slice (some ⟨g, 0, none⟩) nL cL) := fun Y hY => hY.d0
        have Q1 : ∀ Y : World, LQ w (some ⟨g, 0, none⟩) nL cL 0 Y → Y.cell? ⟨w.heap.size + 2, 0, none⟩ = some (.int .i64 0) := fun Y hY => hY.j0
        have Q2 : ∀ Y : World, LQ w (some ⟨g, 0, none⟩) nL cL 0 Y → Y.cell? ⟨g, i * 2 + 1, none⟩ = some (.string fd) := fun Y hY => unhide HFD Y hY.bel
        have B0 : LQ w (some ⟨g, 0, none⟩) nL cL 0 X.drew := (unhide HLX).q.step (belDrew (Below.refl _ _))
        go_region_held3 (fun w' => LQ w (some ⟨g, 0, none⟩) nL cL 0 w') (first | with_reducible exact B0 | with_reducible exact B5 | with_reducible exact BS) (first | (go_at_call 73; refine (unhide HLG _).mono ?_; rintro e w5 ⟨v5, rfl, ho5, hb5⟩; obtain ⟨a5, c5, hv5⟩ := ho5.form; subst hv5; have hb6 := bOfDrew hb5; have L5 := (unhide HLX).step hb6; have B5 := L5.q; have BS := B5.set2 (.slice a5 es.length c5); have s2 := L5.j2; have s3 := L5.k2))
        all_goals (try go_wp2_with fail)
        all_goals go_meet
        all_goals exact ⟨a5, c5, rfl, hide ⟨w5, rfl, L5, ho5⟩⟩
      case rest =>
      obtain ⟨a5, c5, rfl, HH⟩ := hcut
      obtain ⟨w5, rfl, L5, ho5⟩ := unhide HH
      obtain ⟨hbl5, d0, r0, r1, r2, y0, y1, y2, j0, j1, j2, k0, k1, k2⟩ := L5
      have HO5 := hide ho5
      have HB5 := hide hbl5
      have hxz := (unhide HLX).bel.size
      have hxj := lt_of_cell (unhide HLX).j0
      clear ho5 hbl5
      simp only at hxj
      go_wp2_with fail
      refine bodyPost_ret (v := .tuple #[.agg #[.int .i64 0, .int .i64 0, .slice a5 es.length c5], .int .i64 (logZ es : Nat), .bool true]) (by simp [results, Tryz.results27, go_sem, r0, r1, r2]) rfl ⟨_, rfl, ?_, ?_⟩
      · refine (OwnR.other (unhide HO5) (fun g' hg' => ?_)).le (by omega)
        have := (World.ownsRow.lt (unhide HO5) g' hg').1
        rw [heap_set (by omega), heap_set (by omega), heap_set (by omega), heap_set (by omega)]
      · exact below3S ((unhide HB5).setCell (p := ⟨w.heap.size + 2, 2, none⟩) (by show w.heap.size ≤ w.heap.size + 2; omega) _) (Nat.le_succ _)
  | some iv =>
    obtain ⟨hiv, hinv⟩ := atF_lt voteN live iv hav
    have htv := tab_at_some (unhide HRI) hav
    rw [List.getD_eq_getElem?_getD, List.getElem?_eq_getElem hiv, Option.getD_some] at htv
    rw [show atF ⟨#[118, 111, 116, 101]⟩ live = some iv from hav] at HAV
    have HVI : atV (some iv) = (iv : Int) := rfl
    rw [HVI] at HAV
    rw [htv]
    simp only []
    have hivl : iv < nL := by rw [← unhide HLN]; exact hiv
    have hsv := (unhide HSZ live[iv] (List.getElem_mem hiv)).2
    have HCV := hide (fun (W : World) (hW : Below w.heap.size w W) => (unhide HD _ hW).file iv hiv)
    have v0 : (0 : Int) ≤ (iv : Int) := by omega
    have v1 : (iv : Int) < (nL : Int) := by omega
    have v2 : ¬ (iv : Int) < 0 := by omega
    clear hav hinv htv HVI
    generalize live[iv] = fv at HCV hsv ⊢
    obtain ⟨fnv, dv⟩ := fv
    simp only at HCV hsv ⊢
    obtain ⟨g, ea, lgv, -, -⟩ := unhide HCV W0 (unhide HL0).bel
    subst ea
    have HFV := hide (show W0.cell? ⟨g, iv * 2 + 1, none⟩ = some (.string dv) from by obtain ⟨g', ea, _, _, p1⟩ := unhide HCV W0 (unhide HL0).bel; cases ea; exact p1)
    have HRD := hide (specRead_calls dv W0 (Nat.le_trans hsv (by decide)))
    have HNOT := hide (vot_not (s := dv))
    have HONE := hide (fun k b => vot_one (s := dv) (k := k) (b := b))
    have HSM := hide (fr_le dv)
    generalize votF dv = V at HNOT HONE ⊢
    generalize readF dv = Q at HRD HNOT HONE HSM
    obtain ⟨F, ps, c⟩ := Q
    simp only [] at HRD HNOT HONE HSM
    clear HCV hiv
    by_cases hbad : c ≠ 0 ∨ F.length ≠ 1
    · have HV : Hid (V = none) := hide (by
        by_cases hl : F.length = 1
        · obtain ⟨f, rfl⟩ : ∃ f, F = [f] := List.length_eq_one_iff.1 hl
          rw [unhide HONE f.1 f.2 rfl, if_neg (fun q => by rcases hbad with h | h; exact h q.1; exact h hl)]
        · exact unhide HNOT hl)
      rw [unhide HV]
      simp only []
      clear HNOT HONE HSM HAL
      have h3 : c ≠ 0 ∨ (c = 0 ∧ ¬ (F.length : Int) = 1) := by
        by_cases h : c = 0
        · refine .inr ⟨h, fun q => ?_⟩
          rcases hbad with h1 | h1
          · exact h1 h
          · omega
        · exact .inl h
      clear hbad
      rcases h3 with h3 | ⟨rfl, h3⟩
      all_goals
        have HA1 := hide (unhide HAV W0 (unhide HL0).bel)
        have q0 := (unhide HL0).d0
        have q1 := unhide HFV
        go_enter Tryz.func27, Tryz.ntmps27
        go_wp2_with fail
        rw [unhide HW0]
        refine (unhide HA1).mono ?_
        rintro e w1 ⟨rfl, rfl⟩
        go_wp2_with fail
        refine (unhide HRD).mono ?_
        rintro e w2 ⟨vf, rfl, hof, hb2⟩
        obtain ⟨fa, fc, rfl⟩ := ownF_form hof
        have HL2 := hide ((unhide HL0).step hb2)
        have HO2 := hide (own_frm hof)
        clear hof hb2 q0 q1 HA1 HRD HFV HAV
        obtain ⟨hbl, d0, r0, r1, r2, y0, y1, y2, j0, j1, j2, k0, k1, k2⟩ := unhide HL2
        clear hbl
        go_wp2_with fail
        refine bodyPost_ret (v := .tuple #[.agg #[.int .i64 0, .int .i64 0, .slice none 0 0], .int .i64 0, .bool false]) (by simp [results, Tryz.results27, go_sem, r0, r1, r2]) rfl ⟨_, rfl, ownR_nil _ _ _, ?_⟩
        first
          | exact below3S (unhide HL2).bel (Nat.le_succ _)
          | exact below3S (belQ (unhide HL2).bel _) (Nat.le_succ _)
          | exact below3S (belQ (belQ (unhide HL2).bel _) _) (Nat.le_succ _)
    · obtain ⟨rfl, hl⟩ : c = 0 ∧ F.length = 1 := by
        constructor
        · exact Classical.byContradiction fun h => hbad (.inl h)
        · exact Classical.byContradiction fun h => hbad (.inr h)
      obtain ⟨f, rfl⟩ : ∃ f, F = [f] := List.length_eq_one_iff.1 hl
      obtain ⟨k, b⟩ := f
      have hv := unhide HONE k b rfl
      have hbz : b.size ≤ 1000000000 := Nat.le_trans (unhide HSM _ List.mem_cons_self) (Nat.le_trans hsv (by decide))
      clear HONE HNOT HSM hl hbad
      obtain ⟨t1, s1, g1, e1, hs1, hv1, a1, a2⟩ := tkV_open b
      obtain ⟨t2, s2, g2, e2, hs2, hv2, b1, b2⟩ := tkV_open s1
      have hvo := vot_of a1 a2 b1 b2
      have HN := hide (fun (W : World) => spec_TakeNumber b W (by omega))
      have HM := hide (fun (W : World) => spec_TakeNumber s1 W (by omega))
      rw [e1] at HN
      rw [e2] at HM
      obtain ⟨em, hem⟩ : ∃ em : Bool, s2.toList.isEmpty = em := ⟨_, rfl⟩
      have hq : s2.size = 0 ↔ em = true := by rw [← hem, ByteArray.toList_eq, List.isEmpty_iff_length_eq_zero, Array.length_toList]; exact Iff.rfl
      have hv3 : V = if g1 = true ∧ g2 = true ∧ em = true ∧ k = 1 then some (t1, t2) else none := by
        rw [hv]
        by_cases hk : k = 1
        · rw [if_pos ⟨rfl, hk⟩]
          exact hvo.trans (by simp only [hq, hk, and_true])
        · rw [if_neg (fun q => hk q.2), if_neg (fun q => hk q.2.2.2)]
      clear hv hvo a1 a2 b1 b2 e1 e2 hq
      by_cases hgood : g1 = true ∧ g2 = true ∧ em = true ∧ k = 1
      · rw [if_pos hgood] at hv3
        obtain ⟨rfl, rfl, rfl, rfl⟩ := hgood
        rw [hv3]
        simp only []
        clear hv3
        cases hal : atF logN live with
        | none =>
          have htl := tab_at_none (unhide HRI) hal
          rw [show atF ⟨#[108, 111, 103]⟩ live = none from hal] at HAL
          rw [htl]
          simp only [Option.getD_none, log_empty]
          clear hal htl
          have HA1 := hide (unhide HAV W0 (unhide HL0).bel)
          have q0 := (unhide HL0).d0
          have q1 := unhide HFV
          go_enter Tryz.func27, Tryz.ntmps27
          go_wp2_with fail
          rw [unhide HW0]
          refine (unhide HA1).mono ?_
          rintro e w1 ⟨rfl, rfl⟩
          go_wp2_with fail
          refine (unhide HRD).mono ?_
          rintro e w2 ⟨vf, rfl, hof, hb2⟩
          obtain ⟨fa, fc, rfl⟩ := ownF_form hof
          have HL2 := hide ((unhide HL0).step hb2)
          have HO2 := hide (own_frm hof)
          clear hof hb2 q0 q1 HA1 HRD HFV HAV
          obtain ⟨gf, ea, l1, p0, p1⟩ := (OwnR.at (unhide HO2)).fm 0 (by simp)
          simp only [List.getElem_cons_zero, Nat.zero_mul, Nat.zero_add] at p0 p1
          subst ea
          go_wp2_with fail
          refine (unhide HN _).mono ?_
          rintro e w3 ⟨rfl, n3, rfl⟩
          go_wp2_with fail
          refine (unhide HM _).mono ?_
          rintro e w4 ⟨rfl, n4, rfl⟩
          obtain ⟨X, hX⟩ : ∃ X, X = ((w2.drewN (n3 + n4)).setCell ⟨w.heap.size + 1 + 1, 0, none⟩ (.int .i64 t1)).setCell ⟨w.heap.size + 1 + 1, 1, none⟩ (.int .i64 t2) := ⟨_, rfl⟩
          have L4 := (unhide HL2).step (belQ (Below.refl _ _) (n3 + n4))
          have HLX := hide (show LD w _ nL cL t1 t2 X from by rw [hX]; exact L4.put t1 t2)
          obtain ⟨-, dd0, -, -, -, -, -, -, jj0, jj1, jj2, kk0, kk1, kk2⟩ := unhide HL2
          have HX5 := hide hX.symm
          clear hX
          obtain ⟨-, d0, r0, r1, r2, y0, y1, y2, j0, j1, j2, -, -, -⟩ := unhide HLX
          go_wp2_with fail
          rw [unhide HX5]
          refine (unhide HAL X (unhide HLX).bel).mono ?_
          rintro e w2 ⟨rfl, rfl⟩
          go_wp2_with fail
          refine bodyPost_ret (v := .tuple #[.agg #[.int .i64 t1, .int .i64 t2, .slice none 0 0], .int .i64 0, .bool true]) (by simp [results, Tryz.results27, go_sem, r0, r1, r2]) rfl ⟨_, rfl, ownR_nil _ _ _, ?_⟩
          exact below3S (unhide HLX).bel (Nat.le_succ _)
        | some i =>
          obtain ⟨hi, hin⟩ := atF_lt logN live i hal
          have htl := tab_at_some (unhide HRI) hal
          rw [List.getD_eq_getElem?_getD, List.getElem?_eq_getElem hi, Option.getD_some] at htl
          rw [show atF ⟨#[108, 111, 103]⟩ live = some i from hal] at HAL
          have HV : atV (some i) = (i : Int) := rfl
          rw [HV] at HAL
          rw [htl]
          simp only [Option.getD_some]
          have hil : i < nL := by rw [← unhide HLN]; exact hi
          have hsz := (unhide HSZ live[i] (List.getElem_mem hi)).2
          have HCD := hide (fun (W : World) (hW : Below w.heap.size w W) => (unhide HD _ hW).file i hi)
          have i0 : (0 : Int) ≤ (i : Int) := by omega
          have i1 : (i : Int) < (nL : Int) := by omega
          have i2 : ¬ (i : Int) < 0 := by omega
          clear hal hin htl HV
          generalize live[i] = f at HCD hsz ⊢
          obtain ⟨fn, fd⟩ := f
          simp only at HCD hsz ⊢
          have HFD := hide (fun (W : World) (hW : Below w.heap.size w W) => show W.cell? ⟨g, i * 2 + 1, none⟩ = some (.string fd) from by obtain ⟨g', ea, _, _, p1⟩ := unhide HCD W hW; cases ea; exact p1)
          have HLG := hide (fun (W : World) => l5Log_calls fd t1 W (Nat.le_trans hsz (by decide)))
          generalize logF fd t1 = es at HLG ⊢
          clear HCD hsz hi
          have HA1 := hide (unhide HAV W0 (unhide HL0).bel)
          have q0 := (unhide HL0).d0
          have q1 := unhide HFV
          go_enter Tryz.func27, Tryz.ntmps27
          go_wp2_with fail
          rw [unhide HW0]
          refine (unhide HA1).mono ?_
          rintro e w1 ⟨rfl, rfl⟩
          go_wp2_with fail
          refine (unhide HRD).mono ?_
          rintro e w2 ⟨vf, rfl, hof, hb2⟩
          obtain ⟨fa, fc, rfl⟩ := ownF_form hof
          have HL2 := hide ((unhide HL0).step hb2)
          have HO2 := hide (own_frm hof)
          clear hof hb2 q0 q1 HA1 HRD HFV HAV
          obtain ⟨gf, ea, l1, p0, p1⟩ := (OwnR.at (unhide HO2)).fm 0 (by simp)
          simp only [List.getElem_cons_zero, Nat.zero_mul, Nat.zero_add] at p0 p1
          subst ea
          go_wp2_with fail
          refine (unhide HN _).mono ?_
          rintro e w3 ⟨rfl, n3, rfl⟩
          go_wp2_with fail
          refine (unhide HM _).mono ?_
          rintro e w4 ⟨rfl, n4, rfl⟩
          obtain ⟨X, hX⟩ : ∃ X, X = ((w2.drewN (n3 + n4)).setCell ⟨w.heap.size + 1 + 1, 0, none⟩ (.int .i64 t1)).setCell ⟨w.heap.size + 1 + 1, 1, none⟩ (.int .i64 t2) := ⟨_, rfl⟩
          have L4 := (unhide HL2).step (belQ (Below.refl _ _) (n3 + n4))
          have HLX := hide (show LD w _ nL cL t1 t2 X from by rw [hX]; exact L4.put t1 t2)
          obtain ⟨-, dd0, -, -, -, -, -, -, jj0, jj1, jj2, kk0, kk1, kk2⟩ := unhide HL2
          have HX5 := hide hX.symm
          clear hX
          obtain ⟨-, d0, r0, r1, r2, y0, y1, y2, j0, j1, j2, k0, k1, k2⟩ := unhide HLX
          go_wp2_with fail
          rw [unhide HX5]
          refine (unhide HAL X (unhide HLX).bel).mono ?_
          rintro e w2 ⟨rfl, rfl⟩
          clear HAL HSZ HRI HD
          go_wp2_with fail
          go_cut [16] (fun s16 wx => ∃ (a5 : Option Addr) (c5 : Nat), s16 = .int .i64 (logZ es : Nat) ∧ Hid (∃ w5, wx = w5.setCell ⟨w.heap.size + 2, 2, none⟩ (.slice a5 es.length c5) ∧ LD w (some ⟨g, 0, none⟩) nL cL t1 t2 w5 ∧ OwnR entE w5 X.heap.size (.slice a5 es.length c5) es))
          case first =>
            have Q0 : ∀ Y : World, LQ w (some ⟨g, 0, none⟩) nL cL t1 Y → Y.cell? ⟨w.heap.size, 0, none⟩ = some (.slice (some ⟨g, 0, none⟩) nL cL) := fun Y hY => hY.d0
            have Q1 : ∀ Y : World, LQ w (some ⟨g, 0, none⟩) nL cL t1 Y → Y.cell? ⟨w.heap.size + 2, 0, none⟩ = some (.int .i64 t1) := fun Y hY => hY.j0
            have Q2 : ∀ Y : World, LQ w (some ⟨g, 0, none⟩) nL cL t1 Y → Y.cell? ⟨g, i * 2 + 1, none⟩ = some (.string fd) := fun Y hY => unhide HFD Y hY.bel
            have B0 : LQ w (some ⟨g, 0, none⟩) nL cL t1 X.drew := (unhide HLX).q.step (belDrew (Below.refl _ _))
            go_region_held3 (fun w' => LQ w (some ⟨g, 0, none⟩) nL cL t1 w') (first | with_reducible exact B0 | with_reducible exact B5 | with_reducible exact BS) (first | (go_at_call 73; refine (unhide HLG _).mono ?_; rintro e w5 ⟨v5, rfl, ho5, hb5⟩; obtain ⟨a5, c5, hv5⟩ := ho5.form; subst hv5; have hb6 := bOfDrew hb5; have L5 := (unhide HLX).step hb6; have B5 := L5.q; have BS := B5.set2 (.slice a5 es.length c5); have s2 := L5.j2; have s3 := L5.k2))
            all_goals (try go_wp2_with fail)
            all_goals go_meet
            all_goals exact ⟨a5, c5, rfl, hide ⟨w5, rfl, L5, ho5⟩⟩
          case rest =>
          obtain ⟨a5, c5, rfl, HH⟩ := hcut
          obtain ⟨w5, rfl, L5, ho5⟩ := unhide HH
          obtain ⟨hbl5, d0, r0, r1, r2, y0, y1, y2, j0, j1, j2, k0, k1, k2⟩ := L5
          have HO5 := hide ho5
          have HB5 := hide hbl5
          have hxz := (unhide HLX).bel.size
          have hxj := lt_of_cell (unhide HLX).j0
          clear ho5 hbl5
          simp only at hxj
          go_wp2_with fail
          refine bodyPost_ret (v := .tuple #[.agg #[.int .i64 t1, .int .i64 t2, .slice a5 es.length c5], .int .i64 (logZ es : Nat), .bool true]) (by simp [results, Tryz.results27, go_sem, r0, r1, r2]) rfl ⟨_, rfl, ?_, ?_⟩
          · refine (OwnR.other (unhide HO5) (fun g' hg' => ?_)).le (by omega)
            have := (World.ownsRow.lt (unhide HO5) g' hg').1
            rw [heap_set (by omega), heap_set (by omega), heap_set (by omega), heap_set (by omega)]
          · exact below3S ((unhide HB5).setCell (p := ⟨w.heap.size + 2, 2, none⟩) (by show w.heap.size ≤ w.heap.size + 2; omega) _) (Nat.le_succ _)
      · rw [if_neg hgood] at hv3
        rw [hv3]
        simp only []
        clear hv3 HAL
        have h3 : (k ≠ 1) ∨ (k = 1 ∧ g1 = false) ∨ (k = 1 ∧ g1 = true ∧ g2 = false) ∨ (k = 1 ∧ g1 = true ∧ g2 = true ∧ em = false) := by
          by_cases hk : k = 1
          · cases g1 <;> cases g2 <;> cases em <;> simp_all
          · exact .inl hk
        clear hgood
        rcases h3 with h3 | ⟨rfl, rfl⟩ | ⟨rfl, rfl, rfl⟩ | ⟨rfl, rfl, rfl, rfl⟩
        all_goals
          have HA1 := hide (unhide HAV W0 (unhide HL0).bel)
          have q0 := (unhide HL0).d0
          have q1 := unhide HFV
          go_enter Tryz.func27, Tryz.ntmps27
          go_wp2_with fail
          rw [unhide HW0]
          refine (unhide HA1).mono ?_
          rintro e w1 ⟨rfl, rfl⟩
          go_wp2_with fail
          refine (unhide HRD).mono ?_
          rintro e w2 ⟨vf, rfl, hof, hb2⟩
          obtain ⟨fa, fc, rfl⟩ := ownF_form hof
          have HL2 := hide ((unhide HL0).step hb2)
          have HO2 := hide (own_frm hof)
          clear hof hb2 q0 q1 HA1 HRD HFV HAV
          obtain ⟨gf, ea, l1, p0, p1⟩ := (OwnR.at (unhide HO2)).fm 0 (by simp)
          simp only [List.getElem_cons_zero, Nat.zero_mul, Nat.zero_add] at p0 p1
          subst ea
          go_wp2_with fail
          refine (unhide HN _).mono ?_
          rintro e w3 ⟨rfl, n3, rfl⟩
          go_wp2_with fail
          refine (unhide HM _).mono ?_
          rintro e w4 ⟨rfl, n4, rfl⟩
          obtain ⟨hbl, d0, r0, r1, r2, y0, y1, y2, j0, j1, j2, k0, k1, k2⟩ := unhide HL2
          clear hbl
          go_wp2_with fail
          refine bodyPost_ret (v := .tuple #[.agg #[.int .i64 0, .int .i64 0, .slice none 0 0], .int .i64 0, .bool false]) (by simp [results, Tryz.results27, go_sem, r0, r1, r2]) rfl ⟨_, rfl, ownR_nil _ _ _, ?_⟩
          first
            | exact below3S (unhide HL2).bel (Nat.le_succ _)
            | exact below3S (belQ (unhide HL2).bel _) (Nat.le_succ _)
            | exact below3S (belQ (belQ (unhide HL2).bel _) _) (Nat.le_succ _)
end Go.Proofs.YtakalfckhailjaaGreat
