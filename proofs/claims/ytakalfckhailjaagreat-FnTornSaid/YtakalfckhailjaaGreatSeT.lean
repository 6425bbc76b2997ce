/- SaveEntries of the specification, where entries are saved. -/
import Derived.Test.YtakalfckhailjaaGreatGBB
import Derived.Test.YtakalfckhailjaaGreatSeS
import Derived.Test.YtakalfckhailjaaGreatGAX
import Derived.Test.YtakalfckhailjaaGreatRecS
import Derived.Test.YtakalfckhailjaaGreatRplS
import Derived.Test.YtakalfckhailjaaGreatGBE
import Derived.Deep.RegionHeld3
import Derived.Deep.DeepCutAuto
namespace Go.Proofs.YtakalfckhailjaaGreat
open Go.RowKit Plain
set_option linter.unusedVariables false

set_option maxRecDepth 10000 in
set_option maxHeartbeats 8000000 in
theorem spec_SaveYes (aL : Option Addr) (nL cL : Nat) (live : List Fl) (aS : Option Addr) (nS cS : Nat) (safe : List Fl) (aO : Option Addr) (nO cO : Nat) (ops : List Dop) (fm : Int) (a5 : Option Addr) (n5 c5 : Nat) (xs : List Ent) (w : World) (h : DiskAt w aL nL cL live aS nS cS safe aO nO cO ops) (hx : RowAt entE w a5 xs) (hxn : xs.length = n5) (hxb : n5 ≤ 1048576) (hxf : ∀ e ∈ xs, e.body.size ≤ 1000000000) (hxa : AdG a5 c5) (hd : diskB live safe ops = true) (hyes : seB live safe ops fm xs = true) :
    Calls Tryz.prog 7 #[.agg #[.slice aL nL cL, .slice aS nS cS, .slice aO nO cO], .int .i64 fm, .slice a5 n5 c5] w (SpcQ (fun x => .tuple #[x, .int .i64 (actC live safe ops (seX live safe ops fm xs))]) (fnL live safe ops (seX live safe ops fm xs)) (fnS live safe ops (seX live safe ops fm xs)) (fnO live safe ops (seX live safe ops fm xs)) w) := by
  obtain ⟨W0, hW0⟩ : ∃ W0, W0 = (w.alloc (.cells #[.slice aL nL cL, .slice aS nS cS, .slice aO nO cO] 27)).alloc (.cells #[.slice none 0 0, .slice none 0 0, .slice none 0 0] 27) := ⟨_, rfl⟩
  have hb0 : Below w.heap.size w W0 := by rw [hW0]; exact belOn (bel1 _ _) (bel1 _ _)
  have hz0 : W0.heap.size = w.heap.size + 2 := by rw [hW0]; simp
  have c0 : W0.cell? ⟨w.heap.size, 0, none⟩ = some (.slice aL nL cL) := by rw [hW0]; simp [go_sem]
  have c1 : W0.cell? ⟨w.heap.size, 1, none⟩ = some (.slice aS nS cS) := by rw [hW0]; simp [go_sem]
  have c2 : W0.cell? ⟨w.heap.size, 2, none⟩ = some (.slice aO nO cO) := by rw [hW0]; simp [go_sem]
  have r0 : W0.cell? ⟨w.heap.size + 1, 0, none⟩ = some (.slice none 0 0) := by rw [hW0]; simp [go_sem]
  have r1 : W0.cell? ⟨w.heap.size + 1, 1, none⟩ = some (.slice none 0 0) := by rw [hW0]; simp [go_sem]
  have r2 : W0.cell? ⟨w.heap.size + 1, 2, none⟩ = some (.slice none 0 0) := by rw [hW0]; simp [go_sem]
  have y0 : W0.frozen? ⟨w.heap.size + 1, 0, none⟩ = false := by rw [hW0]; simp [go_sem]
  have y1 : W0.frozen? ⟨w.heap.size + 1, 1, none⟩ = false := by rw [hW0]; simp [go_sem]
  have y2 : W0.frozen? ⟨w.heap.size + 1, 2, none⟩ = false := by rw [hW0]; simp [go_sem]
  have HD := hide (fun (W : World) (hW : Below W0.heap.size W0 W) => (h.below hb0).below hW)
  have HE := hide (fun (W : World) (hW : Below W0.heap.size W0 W) => hx.below (belOn hb0 hW))
  have HC := hide (fun (W : World) (hW : Below W0.heap.size W0 W) => And.intro (bcl hW (by omega) c0) (And.intro (bcl hW (by omega) c1) (bcl hW (by omega) c2)))
  have HR := hide (fun (W : World) (hW : Below W0.heap.size W0 W) => And.intro (And.intro (bcl hW (by omega) r0) (And.intro (bcl hW (by omega) r1) (bcl hW (by omega) r2))) (And.intro ((hW.frozen (p := ⟨w.heap.size + 1, 0, none⟩) (by show w.heap.size + 1 < _; omega)).trans y0) (And.intro ((hW.frozen (p := ⟨w.heap.size + 1, 1, none⟩) (by show w.heap.size + 1 < _; omega)).trans y1) ((hW.frozen (p := ⟨w.heap.size + 1, 2, none⟩) (by show w.heap.size + 1 < _; omega)).trans y2))))
  have HFIN := hide (fun (W : World) (hW : Below W0.heap.size W0 W) => belOn hb0 hW)
  have HZ0 := hide hz0
  have HW0 := hide hW0.symm
  have HLN := hide (And.intro h.ll (And.intro h.ls h.lo))
  have HH := hide h
  have HXN := hide hxn
  have HXF := hide hxf
  have HXA := hide hxa
  clear h hb0 c0 c1 c2 r0 r1 r2 y0 y1 y2 hW0 hz0 hx hxn hxf hxa
  have HX := hide hd
  have HRC := hide (fun (W : World) (hW : Below W0.heap.size W0 W) => l5Disk_calls _ nL cL live _ nS cS safe _ nO cO ops W (unhide HD W hW) hd)
  have HCP := hide (fun (W : World) (hW : Below W0.heap.size W0 W) => l4Copy_calls _ nL cL live _ nS cS safe _ nO cO ops W (unhide HD W hW))
  unfold CpPost at HCP
  have hsm0 := (unhide HH).fo
  have HFO := hide hsm0
  have HFS := hide (unhide HH).fs
  obtain ⟨hxm, hxl, hx5, hcz⟩ := seX_small hyes
  have hfit := dn_fit hd hsm0 hxm hxl
  have hfl := dk_live hd
  have HSL := hide (files_small (dk_safe hd)).1
  have hln := (files_small hfl).1
  rw [(unhide HLN).1] at hln
  have hbo : nO ≤ 200 := by
    have h := hd
    unfold diskB at h
    simp only [Bool.and_eq_true] at h
    have := of_decide_eq_true h.2.2.1
    rw [(unhide HLN).2.2] at this
    exact this
  have hat := log_at hfl
  have HAT := hide (fun (W : World) (hW : Below W0.heap.size W0 W) => l4At_calls aL nL cL live logN W (unhide HLN).1 (by omega) (unhide HD W hW).rl)
  unfold logN at HAT
  change Hid (∀ (W : World) (hW : Below W0.heap.size W0 W), Calls Tryz.prog 30 #[.slice aL nL cL, .string ⟨#[108, 111, 103]⟩] W fun e w' => e = .returned (.int .i64 (atV (atF logN live))) ∧ W = w') at HAT
  obtain ⟨av, hav⟩ : ∃ x, atV (atF logN live) = x := ⟨_, rfl⟩
  have HLF : Hid ((av = -1 ∧ seD live = ⟨#[]⟩) ∨ ∃ i g : Nat, av = (i : Int) ∧ i < nL ∧ aL = some ⟨g, 0, none⟩ ∧ ∀ W, Below W0.heap.size W0 W → W.cell? ⟨g, i * 2 + 1, none⟩ = some (.string (seD live))) := hide (by
    rcases hat with ⟨ha, hs⟩ | ⟨i, ha, hi, hs⟩
    · exact .inl ⟨by rw [← hav, ha]; rfl, hs⟩
    · obtain ⟨g, eg, _, _, _⟩ := (unhide HD W0 (Below.refl _ _)).rl.file i hi
      refine .inr ⟨i, g, by rw [← hav, ha]; rfl, by rw [← (unhide HLN).1]; exact hi, eg, fun W hW => ?_⟩
      obtain ⟨g', eg', _, _, hc⟩ := (unhide HD W hW).rl.file i hi
      rw [eg] at eg'
      cases eg'
      rw [hc, hs])
  rw [hav] at HAT
  have hX1 : seA live safe ops fm = true → seX live safe ops fm xs = xs.map entO := fun h => by unfold seX; rw [if_pos h]
  have hX2 : seA live safe ops fm = false → seX live safe ops fm xs = repX live safe ops logNew logN (catQ (seE live safe ops fm xs)) := fun h => by unfold seX; rw [h, if_neg (by simp)]
  have hST : seA live safe ops fm = (decide (fm = ((recT live safe ops).2.2.2.length : Int)) && decide (logZ (recT live safe ops).2.2.2 = (seD live).size)) := rfl
  obtain ⟨SA, hSA⟩ : ∃ SA, seA live safe ops fm = SA := ⟨_, rfl⟩
  rw [hSA] at hX1 hX2 hST
  have HF0 : Hid (actC live safe ops (seX live safe ops fm xs) = 0 → fnL live safe ops (seX live safe ops fm xs) = synL (actL live safe ops (seX live safe ops fm xs)) (actS live safe ops) (actO live safe ops (seX live safe ops fm xs)) ∧ fnS live safe ops (seX live safe ops fm xs) = synL (actL live safe ops (seX live safe ops fm xs)) (actS live safe ops) (actO live safe ops (seX live safe ops fm xs)) ∧ fnO live safe ops (seX live safe ops fm xs) = []) := hide fn_zero
  have HF1 : Hid (actC live safe ops (seX live safe ops fm xs) ≠ 0 → live = fnL live safe ops (seX live safe ops fm xs) ∧ safe = fnS live safe ops (seX live safe ops fm xs) ∧ ops = fnO live safe ops (seX live safe ops fm xs)) := hide (fun h => by
    obtain ⟨e1, e2, e3⟩ := fn_not h
    unfold actC at h
    rw [if_pos hd] at h
    rw [e1, e2, e3]
    unfold actL actS actO
    simp only [if_pos hd, if_neg h, and_self])
  have HAX : Hid (SA = true → actC live safe ops (seX live safe ops fm xs) = (goA live nO (xs.map entO)).1 ∧ ((goA live nO (xs.map entO)).1 = 0 → actL live safe ops (seX live safe ops fm xs) = (goA live nO (xs.map entO)).2 ∧ actS live safe ops = safe ∧ actO live safe ops (seX live safe ops fm xs) = ops ++ xs.map entO)) := hide (fun hs => by
    rw [hX1 hs]
    unfold actC actL actS actO
    simp only [if_pos hd, (unhide HLN).2.2]
    first
      | exact ⟨rfl, fun h => by simp only [if_pos h, and_self]⟩
      | exact ⟨trivial, fun h => by simp only [if_pos h, and_self]⟩)
  have HRP : Hid (SA = false → ∀ (W : World) (hW : Below W0.heap.size W0 W), Calls Tryz.prog 32 #[.agg #[.slice aL nL cL, .slice aS nS cS, .slice aO nO cO], .string ⟨#[108, 111, 103]⟩, .string (catQ (seE live safe ops fm xs))] W (SpcQ (fun v => .tuple #[v, .int .i64 (actC live safe ops (seX live safe ops fm xs))]) (actL live safe ops (seX live safe ops fm xs)) (actS live safe ops) (actO live safe ops (seX live safe ops fm xs)) W)) := hide (fun hs W hW => by
    rw [hX2 hs]
    exact spec_Replace aL nL cL live aS nS cS safe aO nO cO ops logN (catQ (seE live safe ops fm xs)) logNew W (unhide HD W hW) (by decide) hcz log_new)
  obtain ⟨f1, f2, f3, f4, f5, f6⟩ := hfit
  have HSY := hide (fun (W : World) (yL : Option Addr) (kL : Nat) (yS : Option Addr) (kS : Nat) (yO : Option Addr) (kO : Nat) (o : RowAt fileE W yL (actL live safe ops (seX live safe ops fm xs)) ∧ RowAt fileE W yS (actS live safe ops) ∧ RowAt dopE W yO (actO live safe ops (seX live safe ops fm xs))) (ad : AdOk yL kL ∧ AdOk yS kS ∧ AdOk yO kO) => spec_SyncA yL _ kL _ yS _ kS _ yO _ kO _ W ⟨o.1, o.2.1, o.2.2.toO, rfl, rfl, rfl, ad.1, ad.2.1, f1, f2, f3, f4, f5, f6⟩)
  unfold SpcQ at HRP HSY
  obtain ⟨RA, hRA⟩ : ∃ R, goA live nO (xs.map entO) = R := ⟨_, rfl⟩
  rw [hRA] at HAX
  have HRA := hide hRA
  clear f1 f2 f3 f4 f5 f6
  generalize fnL live safe ops (seX live safe ops fm xs) = L2 at HF0 HF1 ⊢
  generalize fnS live safe ops (seX live safe ops fm xs) = S2 at HF0 HF1 ⊢
  generalize fnO live safe ops (seX live safe ops fm xs) = O2 at HF0 HF1 ⊢
  generalize actC live safe ops (seX live safe ops fm xs) = PC at HF0 HF1 HAX HRP ⊢
  generalize actL live safe ops (seX live safe ops fm xs) = L1 at HF0 HAX HRP HSY
  generalize actS live safe ops = S1 at HF0 HAX HRP HSY
  generalize actO live safe ops (seX live safe ops fm xs) = O1 at HF0 HAX HRP HSY
  have hsm := rec_small live safe ops
  unfold seB seE at hyes
  unfold seE at HRP
  generalize recT live safe ops = RR at HRC hyes hsm HRP hST
  generalize seD live = dl at HLF hST
  obtain ⟨ok, T, V, es⟩ := RR
  simp only [] at HRC hyes hsm HRP hST
  simp only [Bool.and_eq_true, decide_eq_true_eq] at hyes
  obtain ⟨rfl, ⟨h0, h1'⟩, h3⟩ := hyes
  obtain ⟨k, rfl⟩ := Int.eq_ofNat_of_zero_le h0
  rw [Int.toNat_natCast] at h3 HRP
  have hk : k ≤ es.length := by omega
  have h1 : (decide (0 ≤ (k : Int)) && decide ((k : Int) ≤ (es.length : Int))) = true := by simp; omega
  have h5n : n5 ≤ 500 := by rw [← unhide HXN]; exact hx5
  have h5 : decide ((500 : Int) < (n5 : Int)) = false := by simp; omega
  have k0 : (0 : Int) ≤ (k : Int) := by omega
  obtain ⟨m6, hm6⟩ : ∃ m, (es.take k ++ xs).length = m := ⟨_, rfl⟩
  have hm6l : m6 ≤ 1000 := by rw [← hm6, List.length_append, List.length_take]; omega
  have HM6 := hide hm6
  have HSM := hide hsm.2
  have hs5 := hsm.1
  have HST : Hid (SA = true → ((k : Int) == (es.length : Int)) = true ∧ (((logZ es : Nat) : Int) == (dl.size : Int)) = true) := hide (fun hs => by
    rw [hs] at hST
    have h := hST.symm
    simp only [Bool.and_eq_true, decide_eq_true_eq] at h
    exact ⟨beq_iff_eq.2 h.1, beq_iff_eq.2 (by rw [h.2])⟩)
  have HSF : Hid (SA = false → ((k : Int) == (es.length : Int)) = false ∨ (((k : Int) == (es.length : Int)) = true ∧ (((logZ es : Nat) : Int) == (dl.size : Int)) = false)) := hide (fun hs => by
    rw [hs] at hST
    by_cases q : (k : Int) = (es.length : Int)
    · refine .inr ⟨beq_iff_eq.2 q, beq_eq_false_iff_ne.2 (fun q2 => ?_)⟩
      rw [decide_eq_true q, decide_eq_true (by omega)] at hST
      cases hST
    · exact .inl (beq_eq_false_iff_ne.2 q))
  clear hm6 hsm hSA hX1 hX2 hxm hxl hcz hfl hsm0 hd hat hav hST hRA h0 h1' hx5
  go_enter Tryz.func7, Tryz.ntmps7
  go_wp2_with fail
  rw [unhide HW0]
  refine (spec_DiskOk _ nL cL live _ nS cS safe _ nO cO ops W0 (unhide HD _ (Below.refl _ _))).mono ?_
  rintro e w1 ⟨rfl, hb1⟩
  rw [unhide HX]
  obtain ⟨q0, q1, q2⟩ := unhide HC _ hb1
  have HB1 := hide hb1
  clear hb1
  go_wp2_with fail
  refine (unhide HRC _ (unhide HB1)).mono ?_
  rintro e w2 ⟨sl, rfl, ho, hb2⟩
  obtain ⟨aj, cj, rfl⟩ := ho.form
  obtain ⟨W3, hW3⟩ : ∃ W3, W3 = w2.alloc (.cells #[.int .i64 T, .int .i64 V, .slice aj es.length cj] 34) := ⟨_, rfl⟩
  have HB3 := hide (show Below W0.heap.size W0 W3 from by rw [hW3]; exact belOn (belOn (unhide HB1) hb2) (bel1 _ _))
  have HK := hide (show ∀ W, Below W3.heap.size W3 W → W.cell? ⟨w2.heap.size, 0, none⟩ = some (.int .i64 T) ∧ W.cell? ⟨w2.heap.size, 1, none⟩ = some (.int .i64 V) ∧ W.cell? ⟨w2.heap.size, 2, none⟩ = some (.slice aj es.length cj) from fun W hW => ⟨bcl hW (by rw [hW3]; simp) (by rw [hW3]; simp [go_sem]), bcl hW (by rw [hW3]; simp) (by rw [hW3]; simp [go_sem]), bcl hW (by rw [hW3]; simp) (by rw [hW3]; simp [go_sem])⟩)
  have HJ := hide (show ∀ W, Below W3.heap.size W3 W → RowAt entE W aj es from fun W hW => ho.at.below (belOn (by rw [hW3]; exact bel1 _ _) hW))
  have had := ho.adG
  have hcap := own_cap ho
  have hne3 : ¬ w2.heap.size = W3.heap.size := by rw [hW3]; simp
  have HW3 := hide hW3.symm
  clear hb2 ho hW3 q0 q1 q2
  obtain ⟨q0, q1, q2⟩ := unhide HC _ (unhide HB3)
  obtain ⟨j0, j1, j2⟩ := unhide HK _ (Below.refl _ _)
  have HAD := hide had
  have j2x := (unhide HK _ (bel1 W3 (.cells #[] 45))).2.2
  have k1 : (k : Int) ≤ (cj : Int) := by omega
  have HO0 := hide (ownR_empty entE W3 W3.heap.size (Nat.le_refl _))
  have HR1 := hide (show RowAt entE (W3.alloc (.cells #[] 45)) aj (es.take k) from fun i hi => (unhide HJ _ (bel1 _ _)).pre k i hi)
  go_wp2_with fail
  rw [unhide HW3]
  go_upto_if 68 with (first
    | (go_at_call 28; refine (l1In_calls (k : Int) 0 (es.length : Int) _).mono ?_; rintro e w4 ⟨rfl, hw4⟩; rw [← hw4]; clear hw4; rw [h1])
    | (at_builtin; refine appGG rfl _ _ rfl (unhide HO0) rfl aj k cj rfl (by rw [List.length_take]; omega) (unhide HR1) (unhide HAD) (by simp; omega) (Nat.le_of_lt (by simp)) ?_; intro v5 w5 hO5 hb5; have HO5 := hide hO5; have HB35 := hide (show Below W3.heap.size W3 w5 from (bel1 W3 _).trans hb5); clear hO5 hb5)
    | (at_builtin; refine appGG rfl _ _ rfl (unhide HO5) rfl a5 n5 c5 rfl (unhide HXN) (unhide HE w5 (belOn (unhide HB3) (unhide HB35))) (unhide HXA) (by rw [List.nil_append, List.length_take]; omega) (unhide HB35).size ?_; intro v6 w6 hO6 hb6; have HB36 := hide (show Below W3.heap.size W3 w6 from (unhide HB35).trans hb6); obtain ⟨a6, c6, hv6⟩ := hO6.form; rw [List.nil_append] at hO6 hv6; rw [unhide HM6] at hv6; subst hv6; have HO6 := hide hO6; obtain ⟨j0, j1, j2⟩ := unhide HK _ (unhide HB36); clear hO6 hb6)
    | (go_at_call 16; refine (spec_JournalOk T V a6 m6 c6 (es.take k ++ xs) w6 ⟨(unhide HO6).at, unhide HM6, by have := unhide HM6; rw [List.length_append, List.length_take, unhide HXN] at this; omega, fun e he => (List.mem_append.1 he).elim (fun q => Nat.le_trans (unhide HSM _ (List.mem_of_mem_take q)) (by decide)) (fun q => unhide HXF e q)⟩ (own_cap (unhide HO6))).mono ?_; rintro e w7 ⟨rfl, hb7⟩; rw [h3]; have HB37 := hide (belOn (unhide HB36) hb7); have HB7 := hide (belOn (unhide HB3) (unhide HB37)); have HO7 := hide ((unhide HO6).keep hb7); obtain ⟨q0, q1, q2⟩ := unhide HC _ (unhide HB7); obtain ⟨j0, j1, j2⟩ := unhide HK _ (unhide HB37); clear hb7)
    | (go_at_call 30; refine (unhide HAT w7 (unhide HB7)).mono ?_; rintro e w8 ⟨rfl, hw8⟩; rw [← hw8]; clear hw8))
  go_cut [12] (fun s12 wx => s12 = .string dl ∧ wx = w7)
  case first =>
    rcases unhide HLF with ⟨rfl, rfl⟩ | ⟨i, g, rfl, hi, rfl, hfd⟩
    · go_wp2_with fail
      go_meet
      exact ⟨by trivial, by trivial⟩
    · have v0 : (0 : Int) ≤ (i : Int) := by omega
      have v1 : (i : Int) < (nL : Int) := by omega
      have v2 : ¬ (i : Int) < 0 := by omega
      have hf7 := hfd w7 (unhide HB7)
      clear hfd
      go_wp2_with fail
      go_meet
      exact ⟨by trivial, by trivial⟩
  case rest =>
  obtain ⟨rfl, hwc⟩ := hcut
  rw [hwc]
  clear hwc
  obtain ⟨w8, hw8⟩ : ∃ w8, w8 = w7.alloc (.cells #[.slice aL nL cL, .slice aS nS cS, .slice aO nO cO] 27) := ⟨_, rfl⟩
  have hb78 : Below w7.heap.size w7 w8 := by rw [hw8]; exact bel1 _ _
  have HB8 := hide (belOn (unhide HB7) hb78)
  have HO8 := hide ((unhide HO7).keep hb78)
  have HD8 := unhide HD w8 (unhide HB8)
  have hNB : NwB w7.heap.size (.slice aL nL cL) (.slice aS nS cS) (.slice aO nO cO) w8 := by rw [hw8]; exact NwB.new w7 _ _ _
  have hnbW : W0.heap.size ≤ w7.heap.size := (unhide HB7).size
  have HLA : Hid (LpA w7.heap.size nO safe ops xs RA 0 w8) := hide (⟨aL, cL, aS, cS, aO, cO, live, by rw [(unhide HLN).1, (unhide HLN).2.1]; exact hNB, ⟨HD8.rl, HD8.rs, by rw [List.take_zero, List.map_nil, List.append_nil]; exact HD8.ro⟩, ⟨HD8.adl, HD8.ads, HD8.ado⟩, unhide HRA, dk_live (unhide HX), hbo⟩)
  have HNB := hide hNB
  have j2y := (unhide HK w8 (belOn (unhide HB37) hb78)).2.2
  rw [hw8] at j2y
  have HW8 := hide hw8.symm
  clear hw8 hb78 HD8 hNB
  cases SA with
  | true =>
    obtain ⟨hk1, hz1⟩ := unhide HST rfl
    have HAX1 := hide (unhide HAX rfl)
    clear HAX
    go_wp2_with fail
    rw [unhide HW8]
    go_loopw [15, 16] (fun s15 s16 wr => ∃ (c : Int) (i : Nat), s15 = .int .i64 c ∧ s16 = .int .i64 i ∧ i ≤ n5 ∧ Hid (c ≠ 0 → RA.1 = c) ∧ Hid (c = 0 → LpA w7.heap.size nO safe ops xs RA i wr) ∧ Hid (Below W0.heap.size W0 wr)) (fun _ s16 _ => n5 - (intOf s16).toNat)
    case atStart => exact ⟨0, 0, rfl, rfl, by omega, hide (fun h => absurd rfl h), hide (fun _ => unhide HLA), HB8⟩
    case round =>
      obtain ⟨c, i, rfl, rfl, hi, HCN, HCZ, HB⟩ := hrel
      clear HLA
      by_cases hc : c = 0
      · subst hc
        by_cases hin : i < n5
        · obtain ⟨xL, kL, xS, kS, xO, kO, F, hNW, ⟨t1, t2, t3⟩, ⟨d1, d2, d3⟩, hga, hFB, h200⟩ := unhide HCZ rfl
          have hil : i < xs.length := by rw [unhide HXN]; exact hin
          obtain ⟨g5, e5, l5, p0, p1, p2⟩ := (unhide HE wr (unhide HB)).ex i hil
          subst e5
          have hbd := unhide HXF xs[i] (List.getElem_mem _)
          have hdr : (xs.drop i).map entO = entO xs[i] :: (xs.drop (i + 1)).map entO := by rw [List.drop_eq_getElem_cons hil]; rfl
          have htk : (xs.take (i + 1)).map entO = (xs.take i).map entO ++ [entO xs[i]] := by rw [List.take_succ_eq_append_getElem hil, List.map_append]; rfl
          have hol : (ops ++ (xs.take i).map entO).length = nO + i := by rw [List.length_append, List.length_map, List.length_take, (unhide HLN).2.2]; omega
          rw [hdr] at hga
          generalize xs[i] = x at p0 p1 p2 hbd hdr htk hga
          obtain ⟨tm, kd, bd⟩ := x
          simp only at p0 p1 p2 hbd
          rw [show entO ⟨tm, kd, bd⟩ = ⟨1, logN, ⟨#[]⟩, entT tm kd bd⟩ from rfl] at htk hga
          have hTz := entT_le tm kd bd
          have HET := hide (fun W => spec_EntryText tm kd bd W (Nat.le_trans hbd (by decide)))
          generalize entT tm kd bd = T1 at htk hga hTz HET
          have hsmo : SmO ⟨1, logN, ⟨#[]⟩, T1⟩ := ⟨by show logN.size ≤ 1000000000; decide, Nat.zero_le _, by show _ ≤ 1000000000; simp only []; omega⟩
          have hso : ∀ o ∈ ops ++ (xs.take i).map entO, SmO o := fun o ho => (List.mem_append.1 ho).elim (fun q => unhide HFO o q) (fun q => entO_sm _ o q)
          have hFs := files_small hFB
          have HAC := hide (fun (W : World) (hW : Below wr.heap.size wr W) => l4Act_calls xL F.length kL F xS safe.length kS safe xO (nO + i) kO (ops ++ (xs.take i).map entO) 1 logN ⟨#[]⟩ T1 W ⟨t1.below hW, t2.below hW, t3.below hW, rfl, rfl, hol, d1, d2, d3, small_fit hFB, unhide HFS, hso, by have := hFs.1; omega, by have := unhide HSL; omega, by omega⟩ hFB h200 hsmo)
          have HY := hide (fun (h : (goA F (nO + i) [⟨1, logN, ⟨#[]⟩, T1⟩]).1 = 0) => goA_one_yes (l := (xs.drop (i + 1)).map entO) h)
          have HN := hide (fun (h : (goA F (nO + i) [⟨1, logN, ⟨#[]⟩, T1⟩]).1 ≠ 0) => goA_one_no (l := (xs.drop (i + 1)).map entO) h)
          rw [hga] at HY HN
          generalize goA F (nO + i) [⟨1, logN, ⟨#[]⟩, T1⟩] = R1 at HAC HY HN
          obtain ⟨c1, F1⟩ := R1
          simp only [] at HAC HY HN
          unfold SpcQ at HAC
          obtain ⟨Ln, hLn⟩ : ∃ L, (if c1 = 0 then F1 else F) = L := ⟨_, rfl⟩
          obtain ⟨On, hOn⟩ : ∃ L, (if c1 = 0 then (ops ++ (xs.take i).map entO) ++ [⟨1, logN, ⟨#[]⟩, T1⟩] else ops ++ (xs.take i).map entO) = L := ⟨_, rfl⟩
          rw [hLn, hOn] at HAC
          have HLO := hide (And.intro hLn hOn)
          have HTK := hide htk
          have HNW := hide hNW
          have HOL := hide hol
          obtain ⟨-, n0, n1, n2, z0, z1, z2⟩ := hNW
          have i0 : (0 : Int) ≤ (i : Int) := by omega
          have i1 : (i : Int) < (n5 : Int) := by omega
          unfold logN at HAC
          clear hdr htk hga t1 t2 t3 d1 d2 d3 hsmo hso hFs hLn hOn hbd hTz hil hFB h200 hol q0 q1 q2 j0 j1 j2
          go_wp2_with fail
          go_region_with (first
            | (go_at_call 20; refine (unhide HET _).mono ?_; rintro e w11 ⟨rfl, hb11⟩; have BB1 : Below wr.heap.size wr w11 := bOfDrew hb11; obtain ⟨-, n0', n1', n2', z0', z1', z2'⟩ := (unhide HNW).below BB1; have p0' := bcl BB1 l5 p0; have p1' := bcl BB1 l5 p1; have p2' := bcl BB1 l5 p2)
            | (go_at_call 31; refine (unhide HAC w11 BB1).mono ?_; rintro e w12 ⟨uL, iL, uS, iS, uO, iO, rfl, u1', u2', u3', ua, m1', m2', m3', hb12⟩; have BB2 : Below wr.heap.size wr w12 := belOn BB1 hb12; obtain ⟨-, n0x, n1x, n2x, z0x, z1x, z2x⟩ := (unhide HNW).below BB2; have p0x := bcl BB2 l5 p0; have p1x := bcl BB2 l5 p1; have p2x := bcl BB2 l5 p2))
          all_goals (try go_wp2_with fail)
          all_goals
            refine ⟨⟨c1, i + 1, rfl, by go_num, by omega, ?_, ?_, ?_⟩, by simp [intOf]; omega⟩
            · exact hide (fun h => unhide HN h)
            · refine hide (fun h => ?_)
              obtain ⟨e1, e2, e3⟩ := unhide HY h
              obtain ⟨hLn, hOn⟩ := unhide HLO
              rw [if_pos h] at hLn hOn
              subst hLn
              have hnb := (unhide HNW).lt
              have hz11 := BB1.size
              have hOl : On.length = nO + (i + 1) := by rw [← hOn, List.length_append, unhide HOL]; rfl
              have hOe : On = ops ++ (xs.take (i + 1)).map entO := by rw [unhide HTK, ← List.append_assoc]; exact hOn.symm
              have e4 : goA F1 (nO + (i + 1)) ((xs.drop (i + 1)).map entO) = RA := by rw [← Nat.add_assoc]; exact e1.symm
              have e5 : nO + (i + 1) ≤ 200 := by omega
              have NB7 := (unhide HNW).below BB2
              have e6 := LpA.next (uL := uL) (uS := uS) (uO := uO) (iL := iL) (iS := iS) (iO := iO) NB7 (Nat.lt_of_lt_of_le hnb hz11) u1' u2' u3' ua m1' m2' m3' hOe hOl e4 e2 e5
              with_reducible exact e6
            · have hwn := (unhide HB).size
              exact hide ((((belOn (unhide HB) BB2).setCell (p := ⟨w7.heap.size, 0, none⟩) hnbW _).setCell (p := ⟨w7.heap.size, 1, none⟩) hnbW _).setCell (p := ⟨w7.heap.size, 2, none⟩) hnbW _)
        · obtain rfl : i = n5 := by omega
          obtain ⟨xL, kL, xS, kS, xO, kO, F, hNW, hrw, had2, hga, hFB, h200⟩ := unhide HCZ rfl
          rw [List.drop_of_length_le (by rw [unhide HXN]; exact Nat.le_refl _)] at hga
          rw [List.take_of_length_le (by rw [unhide HXN]; exact Nat.le_refl _)] at hrw
          have hR0 : RA.1 = 0 := by rw [← hga]; rfl
          have hR2 : RA.2 = F := by rw [← hga]; rfl
          obtain ⟨ea1, ea2⟩ := unhide HAX1
          obtain ⟨ee1, ee2, ee3⟩ := ea2 hR0
          rw [hR2] at ee1
          have hpc : PC = 0 := by rw [ea1]; exact hR0
          obtain ⟨eL, eS, rfl⟩ := unhide HF0 hpc
          subst hpc
          have hzO : O1.length = nO + i := by rw [ee3, List.length_append, List.length_map, (unhide HLN).2.2, unhide HXN]
          rw [← ee1, ← ee2, ← hzO] at hNW
          rw [← ee1, ← ee2, ← ee3] at hrw
          obtain ⟨-, e0, e1, e2, -, -, -⟩ := hNW
          have HRW := hide hrw
          have HADD := hide had2
          clear hzO hrw had2 hga hFB h200 hR0 hR2 ea1 ea2 ee1 ee2 ee3 q0 q1 q2 j0 j1 j2
          rw [← eS] at HSY
          have eLS := eL.trans eS.symm
          clear eL eS HF0 HF1
          subst eLS
          obtain ⟨m4, hm4⟩ : ∃ m, L2.length = m := ⟨_, rfl⟩
          rw [hm4] at HSY
          have HM4 := hide hm4
          clear hm4
          go_wp2_with fail
          refine (unhide HSY wr _ _ _ _ _ _ (unhide HRW) (unhide HADD)).mono ?_
          rintro e s7 ⟨yL, iL, yS, iS, yO, iO, rfl, p1, p2, p3, adq, n1', n2', n3', hb7⟩
          have hz4 := (unhide HB).size
          have hz := unhide HZ0
          have HBF := hide (belOn (unhide HB) hb7)
          obtain ⟨⟨r0, r1, r2⟩, y0, y1, y2⟩ := unhide HR _ (unhide HBF)
          have HP := hide (show RowAt fileE s7 yL L2 ∧ RowAt fileE s7 yS L2 ∧ RowAt dopE s7 yO [] ∧ (∀ k, inB yL k → w.heap.size ≤ k ∧ k ≠ w.heap.size + 1) ∧ (∀ k, inB yS k → w.heap.size ≤ k ∧ k ≠ w.heap.size + 1) ∧ (∀ k, inB yO k → w.heap.size ≤ k ∧ k ≠ w.heap.size + 1) from ⟨p1, p2, p3, fun k hk => by have := n1' k hk; omega, fun k hk => by have := n2' k hk; omega, fun k hk => by have := n3' k hk; omega⟩)
          have HADQ := hide adq
          clear p1 p2 p3 n1' n2' n3' hb7 hz hz4
          go_wp2_with fail
          refine bodyPost_ret (v := .tuple #[.agg #[.slice yL m4 iL, .slice yS m4 iS, .slice yO 0 iO], .int .i64 0]) (by simp [results, Tryz.results7, go_sem, r0, r1, r2]) rfl ?_
          obtain ⟨o1, o2, o3, n1, n2, n3⟩ := unhide HP
          have hm4 := unhide HM4
          subst hm4
          exact spcRetQ o1 o2 o3 (unhide HADQ) n1 n2 n3 (Nat.le_succ _) (unhide HFIN _ (unhide HBF))
      · have hcb : ((c : Int) == 0) = false := beq_eq_false_iff_ne.2 hc
        have hcn : ((c : Int) != 0) = true := by simp [bne, hcb]
        have hpe : PC = c := by rw [(unhide HAX1).1]; exact unhide HCN hc
        subst hpe
        clear HCZ q0 q1 q2 j0 j1 j2
        by_cases hin : i < n5
        · have i1 : (i : Int) < (n5 : Int) := by omega
          obtain ⟨q0, q1, q2⟩ := unhide HC _ (unhide HB)
          have hF1 := unhide HF1 hc
          obtain ⟨rfl, rfl, rfl⟩ := hF1
          go_wp2_with fail
          refine (unhide HCP _ (unhide HB)).mono ?_
          rintro e s5 ⟨xL, kL, xS, kS, xO, kO, B3, rfl, r1', r2', r3', ad', -, -, -, -, q1', q2', q3', hb5⟩
          have HB5 := hide (belOn (unhide HB) hb5)
          have hz3 := (unhide HB).size
          have hz := unhide HZ0
          have HO := hide (show RowAt fileE s5 xL live ∧ RowAt fileE s5 xS safe ∧ RowAt dopE s5 xO ops ∧ (∀ k, inB xL k → w.heap.size ≤ k ∧ k ≠ w.heap.size + 1) ∧ (∀ k, inB xS k → w.heap.size ≤ k ∧ k ≠ w.heap.size + 1) ∧ (∀ k, inB xO k → w.heap.size ≤ k ∧ k ≠ w.heap.size + 1) from ⟨r1', r2', r3', fun k hk => by have := q1' k hk; omega, fun k hk => by have := q2' k hk; omega, fun k hk => by have := q3' k hk; omega⟩)
          have HADQ := hide ad'
          obtain ⟨⟨r0, r1, r2⟩, y0, y1, y2⟩ := unhide HR _ (unhide HB5)
          clear r1' r2' r3' q1' q2' q3' hb5 hz hz3
          go_wp2_with fail
          refine bodyPost_ret (v := .tuple #[.agg #[.slice xL live.length kL, .slice xS safe.length kS, .slice xO ops.length kO], .int .i64 PC]) (by simp [results, Tryz.results7, go_sem, r0, r1, r2]) rfl ?_
          obtain ⟨o1, o2, o3, n1, n2, n3⟩ := unhide HO
          exact spcRetQ o1 o2 o3 (unhide HADQ) n1 n2 n3 (Nat.le_succ _) (unhide HFIN _ (unhide HB5))
        · obtain rfl : i = n5 := by omega
          obtain ⟨q0, q1, q2⟩ := unhide HC _ (unhide HB)
          have hF1 := unhide HF1 hc
          obtain ⟨rfl, rfl, rfl⟩ := hF1
          go_wp2_with fail
          refine (unhide HCP _ (unhide HB)).mono ?_
          rintro e s5 ⟨xL, kL, xS, kS, xO, kO, B3, rfl, r1', r2', r3', ad', -, -, -, -, q1', q2', q3', hb5⟩
          have HB5 := hide (belOn (unhide HB) hb5)
          have hz3 := (unhide HB).size
          have hz := unhide HZ0
          have HO := hide (show RowAt fileE s5 xL live ∧ RowAt fileE s5 xS safe ∧ RowAt dopE s5 xO ops ∧ (∀ k, inB xL k → w.heap.size ≤ k ∧ k ≠ w.heap.size + 1) ∧ (∀ k, inB xS k → w.heap.size ≤ k ∧ k ≠ w.heap.size + 1) ∧ (∀ k, inB xO k → w.heap.size ≤ k ∧ k ≠ w.heap.size + 1) from ⟨r1', r2', r3', fun k hk => by have := q1' k hk; omega, fun k hk => by have := q2' k hk; omega, fun k hk => by have := q3' k hk; omega⟩)
          have HADQ := hide ad'
          obtain ⟨⟨r0, r1, r2⟩, y0, y1, y2⟩ := unhide HR _ (unhide HB5)
          clear r1' r2' r3' q1' q2' q3' hb5 hz hz3
          go_wp2_with fail
          refine bodyPost_ret (v := .tuple #[.agg #[.slice xL live.length kL, .slice xS safe.length kS, .slice xO ops.length kO], .int .i64 PC]) (by simp [results, Tryz.results7, go_sem, r0, r1, r2]) rfl ?_
          obtain ⟨o1, o2, o3, n1, n2, n3⟩ := unhide HO
          exact spcRetQ o1 o2 o3 (unhide HADQ) n1 n2 n3 (Nat.le_succ _) (unhide HFIN _ (unhide HB5))
  | false =>
    have hsf := unhide HSF rfl
    have HRP1 := hide (unhide HRP rfl)
    clear HRP HAX HLA
    have HALL := hide (show (es.take k ++ xs).take m6 = es.take k ++ xs from List.take_of_length_le (by rw [unhide HM6]; exact Nat.le_refl _))
    rcases hsf with hk1 | ⟨hk1, hz1⟩
    all_goals
      go_wp2_with fail
      rw [unhide HW8]
      go_loopw [17, 18] (fun s17 s18 wr => ∃ i : Nat, s18 = .int .i64 i ∧ i ≤ m6 ∧ s17 = .string (catQ ((es.take k ++ xs).take i)) ∧ Hid (Below w8.heap.size w8 wr)) (fun _ s18 _ => m6 - (intOf s18).toNat)
      case atStart => exact ⟨0, rfl, by omega, by rw [List.take_zero]; rfl, hide (Below.refl _ _)⟩
      case round =>
        obtain ⟨i, rfl, hi, rfl, HB⟩ := hrel
        by_cases hin : i < m6
        · have hil : i < (es.take k ++ xs).length := by rw [unhide HM6]; exact hin
          obtain ⟨g5, e5, l5, p0, p1, p2⟩ := ((unhide HO8).at.below (unhide HB)).ex i hil
          subst e5
          have hbd : (es.take k ++ xs)[i].body.size ≤ 1000000000 := (List.mem_append.1 (List.getElem_mem hil)).elim (fun q => Nat.le_trans (unhide HSM _ (List.mem_of_mem_take q)) (by decide)) (fun q => unhide HXF _ q)
          have hst : catQ ((es.take k ++ xs).take (i + 1)) = catQ ((es.take k ++ xs).take i) ++ entT (es.take k ++ xs)[i].term (es.take k ++ xs)[i].kind (es.take k ++ xs)[i].body := by rw [List.take_succ_eq_append_getElem hil, catQ_app, catQ, catQ, app_none]
          have hjs : (catQ ((es.take k ++ xs).take i)).size ≤ 20009 * 1000 := by
            rw [catQ_size]
            have := logZ_max ((es.take k ++ xs).take i)
            rw [List.length_take] at this
            omega
          generalize (es.take k ++ xs)[i] = x at p0 p1 p2 hbd hst
          obtain ⟨tm, kd, bd⟩ := x
          simp only at p0 p1 p2 hbd hst
          have hle := entT_le tm kd bd
          have HET := hide (fun W => spec_EntryText tm kd bd W (Nat.le_trans hbd (by decide)))
          generalize entT tm kd bd = T1 at HET hst hle
          have e1 := fun W => str_add (a := catQ ((es.take k ++ xs).take i)) (b := T1) W (by omega)
          have HST1 := hide hst
          generalize catQ ((es.take k ++ xs).take i) = CI at e1 HST1
          have i0 : (0 : Int) ≤ (i : Int) := by omega
          have i1 : (i : Int) < (m6 : Int) := by omega
          clear hst hjs hle hil hbd q0 q1 q2 j0 j1 j2
          go_wp2_with fail
          refine (unhide HET _).mono ?_
          rintro e w11 ⟨rfl, hb11⟩
          have HB11 := hide (belOn (unhide HB) hb11)
          clear hb11 p0 p1 p2
          go_wp2_with fail
          go_roundw
          case rel => exact ⟨i + 1, by go_num, by omega, by rw [unhide HST1], HB11⟩
          case measure => simp [intOf]; omega
        · obtain rfl : i = m6 := by omega
          rw [unhide HALL]
          have HBW := hide (belOn (unhide HB8) (unhide HB))
          obtain ⟨q0, q1, q2⟩ := unhide HC _ (unhide HBW)
          clear j0 j1 j2
          go_wp2_with fail
          refine (unhide HRP1 wr (unhide HBW)).mono ?_
          rintro e w12 ⟨xL, kL, xS, kS, xO, kO, rfl, u1, u2, u3, ua, m1', m2', m3', hb12⟩
          have hb8w : Below w8.heap.size w8 w12 := belOn (unhide HB) hb12
          have NB2 := (unhide HNB).below hb8w
          have hlt8 := (unhide HNB).lt
          have hzr := (unhide HB).size
          have HB12 := hide (show Below W0.heap.size W0 (((w12.setCell ⟨w7.heap.size, 0, none⟩ (.slice xL L1.length kL)).setCell ⟨w7.heap.size, 1, none⟩ (.slice xS S1.length kS)).setCell ⟨w7.heap.size, 2, none⟩ (.slice xO O1.length kO)) from (((belOn (unhide HBW) hb12).setCell (p := ⟨w7.heap.size, 0, none⟩) hnbW _).setCell (p := ⟨w7.heap.size, 1, none⟩) hnbW _).setCell (p := ⟨w7.heap.size, 2, none⟩) hnbW _)
          have HRW := hide (show RowAt fileE (((w12.setCell ⟨w7.heap.size, 0, none⟩ (.slice xL L1.length kL)).setCell ⟨w7.heap.size, 1, none⟩ (.slice xS S1.length kS)).setCell ⟨w7.heap.size, 2, none⟩ (.slice xO O1.length kO)) xL L1 ∧ RowAt fileE (((w12.setCell ⟨w7.heap.size, 0, none⟩ (.slice xL L1.length kL)).setCell ⟨w7.heap.size, 1, none⟩ (.slice xS S1.length kS)).setCell ⟨w7.heap.size, 2, none⟩ (.slice xO O1.length kO)) xS S1 ∧ RowAt dopE (((w12.setCell ⟨w7.heap.size, 0, none⟩ (.slice xL L1.length kL)).setCell ⟨w7.heap.size, 1, none⟩ (.slice xS S1.length kS)).setCell ⟨w7.heap.size, 2, none⟩ (.slice xO O1.length kO)) xO O1 from ⟨u1.set3 (fun k hk => by have := m1' k hk; omega), u2.set3 (fun k hk => by have := m2' k hk; omega), u3.set3 (fun k hk => by have := m3' k hk; omega)⟩)
          have HADD := hide ua
          have NB3 := NB2.set (.slice xL L1.length kL) (.slice xS S1.length kS) (.slice xO O1.length kO)
          have NB2c := NB2
          obtain ⟨-, f0, f1, f2, z0, z1, z2⟩ := NB2c
          obtain ⟨w13, hw13⟩ : ∃ w13, w13 = (((w12.setCell ⟨w7.heap.size, 0, none⟩ (.slice xL L1.length kL)).setCell ⟨w7.heap.size, 1, none⟩ (.slice xS S1.length kS)).setCell ⟨w7.heap.size, 2, none⟩ (.slice xO O1.length kO)) := ⟨_, rfl⟩
          rw [← hw13] at HB12 HRW NB3
          have HW13 := hide hw13.symm
          obtain ⟨-, e0, e1, e2, -, -, -⟩ := NB3
          clear hw13 u1 u2 u3 ua m1' m2' m3' hb12 hb8w q0 q1 q2
          by_cases hpc : PC = 0
          · obtain ⟨eL, eS, rfl⟩ := unhide HF0 hpc
            subst hpc
            rw [← eS] at HSY
            have eLS := eL.trans eS.symm
            clear eL eS HF0 HF1
            subst eLS
            obtain ⟨m4, hm4⟩ : ∃ m, L2.length = m := ⟨_, rfl⟩
            rw [hm4] at HSY
            have HM4 := hide hm4
            clear hm4
            go_upto_if 128 with fail
            rw [unhide HW13]
            go_wp2_with fail
            refine (unhide HSY w13 _ _ _ _ _ _ (unhide HRW) (unhide HADD)).mono ?_
            rintro e s7 ⟨yL, iL, yS, iS, yO, iO, rfl, p1, p2, p3, adq, n1', n2', n3', hb7⟩
            have hz4 := (unhide HB12).size
            have hz := unhide HZ0
            have HBF := hide (belOn (unhide HB12) hb7)
            obtain ⟨⟨r0, r1, r2⟩, y0, y1, y2⟩ := unhide HR _ (unhide HBF)
            have HP := hide (show RowAt fileE s7 yL L2 ∧ RowAt fileE s7 yS L2 ∧ RowAt dopE s7 yO [] ∧ (∀ k, inB yL k → w.heap.size ≤ k ∧ k ≠ w.heap.size + 1) ∧ (∀ k, inB yS k → w.heap.size ≤ k ∧ k ≠ w.heap.size + 1) ∧ (∀ k, inB yO k → w.heap.size ≤ k ∧ k ≠ w.heap.size + 1) from ⟨p1, p2, p3, fun k hk => by have := n1' k hk; omega, fun k hk => by have := n2' k hk; omega, fun k hk => by have := n3' k hk; omega⟩)
            have HADQ := hide adq
            clear p1 p2 p3 n1' n2' n3' hb7 hz hz4
            go_wp2_with fail
            refine bodyPost_ret (v := .tuple #[.agg #[.slice yL m4 iL, .slice yS m4 iS, .slice yO 0 iO], .int .i64 0]) (by simp [results, Tryz.results7, go_sem, r0, r1, r2]) rfl ?_
            obtain ⟨o1, o2, o3, n1, n2, n3⟩ := unhide HP
            have hm4 := unhide HM4
            subst hm4
            exact spcRetQ o1 o2 o3 (unhide HADQ) n1 n2 n3 (Nat.le_succ _) (unhide HFIN _ (unhide HBF))
          · have hcb : ((PC : Int) == 0) = false := beq_eq_false_iff_ne.2 hpc
            have hcn : ((PC : Int) != 0) = true := by simp [bne, hcb]
            go_upto_if 128 with fail
            rw [unhide HW13]
            obtain ⟨q0, q1, q2⟩ := unhide HC _ (unhide HB12)
            have hF1 := unhide HF1 hpc
            obtain ⟨rfl, rfl, rfl⟩ := hF1
            go_wp2_with fail
            refine (unhide HCP _ (unhide HB12)).mono ?_
            rintro e s5 ⟨xL, kL, xS, kS, xO, kO, B3, rfl, r1', r2', r3', ad', -, -, -, -, q1', q2', q3', hb5⟩
            have HB5 := hide (belOn (unhide HB12) hb5)
            have hz3 := (unhide HB12).size
            have hz := unhide HZ0
            have HO := hide (show RowAt fileE s5 xL live ∧ RowAt fileE s5 xS safe ∧ RowAt dopE s5 xO ops ∧ (∀ k, inB xL k → w.heap.size ≤ k ∧ k ≠ w.heap.size + 1) ∧ (∀ k, inB xS k → w.heap.size ≤ k ∧ k ≠ w.heap.size + 1) ∧ (∀ k, inB xO k → w.heap.size ≤ k ∧ k ≠ w.heap.size + 1) from ⟨r1', r2', r3', fun k hk => by have := q1' k hk; omega, fun k hk => by have := q2' k hk; omega, fun k hk => by have := q3' k hk; omega⟩)
            have HADQ := hide ad'
            obtain ⟨⟨r0, r1, r2⟩, y0, y1, y2⟩ := unhide HR _ (unhide HB5)
            clear r1' r2' r3' q1' q2' q3' hb5 hz hz3
            go_wp2_with fail
            refine bodyPost_ret (v := .tuple #[.agg #[.slice xL live.length kL, .slice xS safe.length kS, .slice xO ops.length kO], .int .i64 PC]) (by simp [results, Tryz.results7, go_sem, r0, r1, r2]) rfl ?_
            obtain ⟨o1, o2, o3, n1, n2, n3⟩ := unhide HO
            exact spcRetQ o1 o2 o3 (unhide HADQ) n1 n2 n3 (Nat.le_succ _) (unhide HFIN _ (unhide HB5))

theorem spec_SaveEntriesQ (aL : Option Addr) (nL cL : Nat) (live : List Fl) (aS : Option Addr) (nS cS : Nat) (safe : List Fl) (aO : Option Addr) (nO cO : Nat) (ops : List Dop) (fm : Int) (a5 : Option Addr) (n5 c5 : Nat) (xs : List Ent) (w : World) (h : DiskAt w aL nL cL live aS nS cS safe aO nO cO ops) (hx : RowAt entE w a5 xs) (hxn : xs.length = n5) (hxb : n5 ≤ 1048576) (hxf : ∀ e ∈ xs, e.body.size ≤ 1000000000) (hxa : AdG a5 c5) :
    Calls Tryz.prog 7 #[.agg #[.slice aL nL cL, .slice aS nS cS, .slice aO nO cO], .int .i64 fm, .slice a5 n5 c5] w (SpcQ (fun x => .tuple #[x, .int .i64 (dnC live safe ops (seB live safe ops fm xs) 11 (seX live safe ops fm xs))]) (dnL live safe ops (seB live safe ops fm xs) (seX live safe ops fm xs)) (dnS live safe ops (seB live safe ops fm xs) (seX live safe ops fm xs)) (dnO live safe ops (seB live safe ops fm xs) (seX live safe ops fm xs)) w) := by
  cases hd : diskB live safe ops with
  | false =>
    have h2 := spec_SaveBad aL nL cL live aS nS cS safe aO nO cO ops fm a5 n5 c5 xs w h hx hxn hxb hxf hxa hd
    unfold dnC dnL dnS dnO
    simp only [hd, Bool.false_eq_true, if_false]
    exact h2
  | true =>
    cases hb : seB live safe ops fm xs with
    | false =>
      have h2 := spec_SaveNo aL nL cL live aS nS cS safe aO nO cO ops fm a5 n5 c5 xs w h hx hxn hxb hxf hxa hd hb
      unfold dnC dnL dnS dnO
      simp only [hd, Bool.false_eq_true, if_false, if_true]
      exact h2
    | true =>
      have h2 := spec_SaveYes aL nL cL live aS nS cS safe aO nO cO ops fm a5 n5 c5 xs w h hx hxn hxb hxf hxa hd hb
      unfold dnC dnL dnS dnO
      simp only [hd, if_true]
      exact h2
end Go.Proofs.YtakalfckhailjaaGreat
