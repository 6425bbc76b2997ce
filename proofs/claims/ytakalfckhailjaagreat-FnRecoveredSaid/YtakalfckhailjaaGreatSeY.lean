/- SaveEntries of the program, where entries are saved. -/
import Derived.Test.YtakalfckhailjaaGreatSeJ
import Derived.Test.YtakalfckhailjaaGreatGAT
import Derived.Deep.RegionHeld3
import Derived.Deep.DeepCutAuto
namespace Go.Proofs.YtakalfckhailjaaGreat
open Go.RowKit Plain
set_option linter.unusedVariables false

set_option maxRecDepth 10000 in
set_option maxHeartbeats 8000000 in
theorem impl_SaveYes (q1L : Option Addr) (nL cL : Nat) (live : List Fl) (q2S : Option Addr) (nS cS : Nat) (safe : List Fl) (q3O : Option Addr) (nO cO : Nat) (ops : List Dop) (fm : Int) (a5 : Option Addr) (n5 c5 : Nat) (xs : List Ent) (w : World) (h : DiskAt w q1L nL cL live q2S nS cS safe q3O nO cO ops) (hx : RowAt entE w a5 xs) (hxn : xs.length = n5) (hxb : n5 ≤ 1048576) (hxf : ∀ e ∈ xs, e.body.size ≤ 1000000000) (hxa : AdG a5 c5) (hd : diskB live safe ops = true) (hyes : seB live safe ops fm xs = true) :
    Calls Tryz.prog 8 #[.agg #[.slice q1L nL cL, .slice q2S nS cS, .slice q3O nO cO], .int .i64 fm, .slice a5 n5 c5] w (DskPost (fun x => .tuple #[x, .int .i64 (actC live safe ops (seX live safe ops fm xs))]) (fnL live safe ops (seX live safe ops fm xs)) (fnS live safe ops (seX live safe ops fm xs)) (fnO live safe ops (seX live safe ops fm xs)) w) := by
  obtain ⟨W0, hW0⟩ : ∃ W0, W0 = (w.alloc (.cells #[.slice q1L nL cL, .slice q2S nS cS, .slice q3O nO cO] 27)).alloc (.cells #[.slice none 0 0, .slice none 0 0, .slice none 0 0] 27) := ⟨_, rfl⟩
  have hb0 : Below w.heap.size w W0 := by rw [hW0]; exact belOn (bel1 _ _) (bel1 _ _)
  have hz0 : W0.heap.size = w.heap.size + 2 := by rw [hW0]; simp
  have c0 : W0.cell? ⟨w.heap.size, 0, none⟩ = some (.slice q1L nL cL) := by rw [hW0]; simp [go_sem]
  have c1 : W0.cell? ⟨w.heap.size, 1, none⟩ = some (.slice q2S nS cS) := by rw [hW0]; simp [go_sem]
  have c2 : W0.cell? ⟨w.heap.size, 2, none⟩ = some (.slice q3O nO cO) := by rw [hW0]; simp [go_sem]
  have r0 : W0.cell? ⟨w.heap.size + 1, 0, none⟩ = some (.slice none 0 0) := by rw [hW0]; simp [go_sem]
  have r1 : W0.cell? ⟨w.heap.size + 1, 1, none⟩ = some (.slice none 0 0) := by rw [hW0]; simp [go_sem]
  have r2 : W0.cell? ⟨w.heap.size + 1, 2, none⟩ = some (.slice none 0 0) := by rw [hW0]; simp [go_sem]
  have y0 : W0.frozen? ⟨w.heap.size + 1, 0, none⟩ = false := by rw [hW0]; simp [go_sem]
  have y1 : W0.frozen? ⟨w.heap.size + 1, 1, none⟩ = false := by rw [hW0]; simp [go_sem]
  have y2 : W0.frozen? ⟨w.heap.size + 1, 2, none⟩ = false := by rw [hW0]; simp [go_sem]
  have HD := hide (fun (W : World) (hW : Below W0.heap.size W0 W) => (h.below hb0).below hW)
  have HE := hide (fun (W : World) (hW : Below W0.heap.size W0 W) => hx.below (belOn hb0 hW))
  have HC := hide (fun (W : World) (hW : Below W0.heap.size W0 W) => And.intro (bcl hW (by omega) c0) (And.intro (bcl hW (by omega) c1) (bcl hW (by omega) c2)))
  have HR := hide (fun (W : World) (hW : Below W0.heap.size W0 W) => And.intro (And.intro (bcl hW (by omega) r0) (And.intro (bcl hW (by omega) r1) (bcl hW (by omega) r2))) (And.intro ((hW.frozen (p := ⟨w.heap.size + 1, 0, none⟩) (by show w.heap.size + 1 < _; omega)).trans y0) (And.intro ((hW.frozen (p := ⟨w.heap.size + 1, 1, none⟩) (by show w.heap.size + 1 < _; omega)).trans y1) ((hW.frozen (p := ⟨w.heap.size + 1, 2, none⟩) (by show w.heap.size + 1 < _; omega)).trans y2))))
  have HFIN := hide (fun (W : World) (hW : Below W0.heap.size W0 W) => belOn hb0 hW)
  have HZ0 := hide hz0
  have HW0 := hide hW0.symm
  have HLN := hide (And.intro h.ll (And.intro h.ls h.lo))
  have HH := hide h
  have HXN := hide hxn
  have HXF := hide hxf
  have HXA := hide hxa
  clear h hb0 c0 c1 c2 r0 r1 r2 y0 y1 y2 hW0 hz0 hx hxn hxf hxa
  have hz := unhide HZ0
  have HX := hide hd
  have hsm0 := (unhide HH).fo
  have HRC := hide (fun (W : World) (hW : Below W0.heap.size W0 W) => impl_Recover _ nL cL live _ nS cS safe _ nO cO ops W (unhide HD W hW))
  have hsame := list_beq _ _ _ (se_same hyes)
  obtain ⟨hxm, hxl, hx5, hcz⟩ := seX_small hyes
  have hfit := dn_fit hd hsm0 hxm hxl
  have hfl := dk_live hd
  have HFL := hide (small_fit hfl)
  have hln := (files_small hfl).1
  rw [(unhide HLN).1] at hln
  have HLL := hide (fun (W : World) (b m : Nat) (hT : Tab W b m (tabF live)) => hT.look (nm := logN) (by decide))
  obtain ⟨n', hfa⟩ := fileAt_any (tabF live) logN
  rw [hfa] at HLL
  have hsm := rec_small live safe ops
  have HSY := hide (fun (W : World) (B : Nat) (yL : Option Addr) (kL : Nat) (yS : Option Addr) (kS : Nat) (yO : Option Addr) (kO : Nat) (o1 : OwnR fileE W B (.slice yL (actL live safe ops (seX live safe ops fm xs)).length kL) (actL live safe ops (seX live safe ops fm xs))) (o2 : OwnR fileE W B (.slice yS (actS live safe ops).length kS) (actS live safe ops)) (o3 : OwnR dopE W B (.slice yO (actO live safe ops (seX live safe ops fm xs)).length kO) (actO live safe ops (seX live safe ops fm xs))) (ap : Apart yL yS yO) (hB : B ≤ W.heap.size) => synced_calls yL kL _ yS kS _ yO kO _ B (actC live safe ops (seX live safe ops fm xs)) _ _ _ W o1 o2 o3 ap hB hfit fn_zero fn_not)
  have hX1 : seA live safe ops fm = true → seX live safe ops fm xs = xs.map entO := fun h => by unfold seX; rw [if_pos h]
  have hX2 : seA live safe ops fm = false → seX live safe ops fm xs = repX live safe ops logNew logN (catQ (seE live safe ops fm xs)) := fun h => by unfold seX; rw [h, if_neg (by simp)]
  obtain ⟨SA, hSA⟩ : ∃ SA, seA live safe ops fm = SA := ⟨_, rfl⟩
  rw [hSA] at hsame hX1 hX2
  have HAO : Hid (SA = true → ∀ (W : World) (hW : Below W0.heap.size W0 W), Calls Tryz.prog 42 #[.slice a5 n5 c5] W fun e w' => ∃ a9 c9, e = .returned (.slice a9 n5 c9) ∧ OwnR dopE w' W.heap.size (.slice a9 n5 c9) (seX live safe ops fm xs) ∧ Below W.heap.size W w') := hide (fun hs W hW => (appendsOf_calls a5 n5 c5 xs W (unhide HE W hW) (unhide HXN) (by have := unhide HXN; omega) (fun e he => Nat.le_trans (unhide HXF e he) (by decide))).mono (by
    rintro e w' ⟨v, rfl, ho, hb⟩
    obtain ⟨a, c, rfl⟩ := ho.form
    rw [hX1 hs]
    rw [List.length_map, unhide HXN] at ho ⊢
    exact ⟨a, c, rfl, ho, hb⟩))
  have HDA : Hid (SA = true → ∀ (W : World) (a9 : Option Addr) (c9 : Nat) (hW : Below W0.heap.size W0 W) (hr : RowAt dopE W a9 (seX live safe ops fm xs)), Calls Tryz.prog 41 #[.agg #[.slice q1L nL cL, .slice q2S nS cS, .slice q3O nO cO], .slice a9 n5 c9] W (DskPost (fun v => .tuple #[v, .int .i64 (actC live safe ops (seX live safe ops fm xs))]) (actL live safe ops (seX live safe ops fm xs)) (actS live safe ops) (actO live safe ops (seX live safe ops fm xs)) W)) := hide (fun hs W a9 c9 hW hr => impl_doAllA q1L nL cL live q2S nS cS safe q3O nO cO ops a9 n5 c9 (seX live safe ops fm xs) W (unhide HD W hW) hr (by rw [hX1 hs, List.length_map]; exact unhide HXN) (by have := unhide HXN; omega) hxm)
  have HRP : Hid (SA = false → ∀ (W : World) (hW : Below W0.heap.size W0 W), Calls Tryz.prog 43 #[.agg #[.slice q1L nL cL, .slice q2S nS cS, .slice q3O nO cO], .string logN, .string (catQ (seE live safe ops fm xs))] W (DskPost (fun v => .tuple #[v, .int .i64 (actC live safe ops (seX live safe ops fm xs))]) (actL live safe ops (seX live safe ops fm xs)) (actS live safe ops) (actO live safe ops (seX live safe ops fm xs)) W)) := hide (fun hs W hW => by
    rw [hX2 hs]
    exact impl_ReplaceA q1L nL cL live q2S nS cS safe q3O nO cO ops logN (catQ (seE live safe ops fm xs)) logNew W (unhide HD W hW) (by decide) hcz log_new)
  unfold DskPost at HDA HRP
  unfold DskFrom at HSY
  generalize fnL live safe ops (seX live safe ops fm xs) = L2 at HSY ⊢
  generalize fnS live safe ops (seX live safe ops fm xs) = S2 at HSY ⊢
  generalize fnO live safe ops (seX live safe ops fm xs) = O2 at HSY ⊢
  generalize actC live safe ops (seX live safe ops fm xs) = PC at HSY HDA HRP ⊢
  generalize actL live safe ops (seX live safe ops fm xs) = L1 at HSY HDA HRP
  generalize actS live safe ops = S1 at HSY HDA HRP
  generalize actO live safe ops (seX live safe ops fm xs) = O1 at HSY HDA HRP
  generalize seX live safe ops fm xs = X at HDA HAO
  unfold seD at hsame
  unfold seB seE at hyes
  unfold seE at HRP
  generalize recT live safe ops = RR at HRC hyes hsm hsame HRP
  obtain ⟨ok, T, V, es⟩ := RR
  simp only [] at HRC hyes hsm hsame HRP
  simp only [Bool.and_eq_true, decide_eq_true_eq] at hyes
  obtain ⟨rfl, ⟨h0, h1⟩, h3⟩ := hyes
  obtain ⟨k, rfl⟩ := Int.eq_ofNat_of_zero_le h0
  rw [Int.toNat_natCast] at hsame h3 HRP
  have hk : k ≤ es.length := by omega
  have h0 : ¬ (k : Int) < 0 := by omega
  have h1 : ¬ (es.length : Int) < (k : Int) := by omega
  obtain ⟨m6, hm6⟩ : ∃ m, (es.take k ++ xs).length = m := ⟨_, rfl⟩
  have hm6l : m6 ≤ 1000 := by rw [← hm6, List.length_append, List.length_take]; omega
  have HM6 := hide hm6
  have HSM := hide hsm.2
  have hs5 := hsm.1
  have HLK := hide (fun (a : Option Addr) (c : Nat) (W : World) (hr : RowAt entE W a (es.take k)) => logText_calls a k c (es.take k) W hr (by rw [List.length_take]; omega) (by omega) (fun e he => Nat.le_trans (unhide HSM e (List.mem_of_mem_take he)) (by decide)))
  have HLA := hide (fun (a : Option Addr) (c : Nat) (W : World) (hr : RowAt entE W a (es.take k ++ xs)) => logText_calls a m6 c (es.take k ++ xs) W hr (unhide HM6) hm6l (fun e he => (List.mem_append.1 he).elim (fun q => Nat.le_trans (unhide HSM _ (List.mem_of_mem_take q)) (by decide)) (fun q => Nat.le_trans (unhide HXF e q) (by decide))))
  generalize catQ (es.take k) = CQ at HLK hsame
  generalize catQ (es.take k ++ xs) = TX at HLA HRP
  generalize (tabF live logN).getD ⟨#[]⟩ = dl at HLL hsame
  clear hm6 hsm hSA hX1 hX2 hfit hxm hxl hx5 hcz hfl hfa hsm0 hd
  go_enter Tryz.func8, Tryz.ntmps8
  go_wp2_with fail
  rw [unhide HW0]
  refine (impl_DiskOk _ nL cL live _ nS cS safe _ nO cO ops W0 (unhide HD _ (Below.refl _ _))).mono ?_
  rintro e w1 ⟨rfl, hb1⟩
  rw [unhide HX]
  obtain ⟨q0, q1, q2⟩ := unhide HC _ hb1
  have HB1 := hide hb1
  clear hb1
  go_wp2_with fail
  refine (unhide HRC _ (unhide HB1)).mono ?_
  rintro e w2 ⟨sl, rfl, ho, hb2⟩
  obtain ⟨aj, cj, rfl⟩ := ho.form
  obtain ⟨W3, hW3⟩ : ∃ W3, W3 = w2.alloc (.cells #[.int .i64 T, .int .i64 V, .slice aj es.length cj] 34) := ⟨_, rfl⟩
  have HB3 := hide (show Below W0.heap.size W0 W3 from by rw [hW3]; exact belOn (belOn (unhide HB1) hb2) (bel1 _ _))
  have HK := hide (show ∀ W, Below W3.heap.size W3 W → W.cell? ⟨w2.heap.size, 0, none⟩ = some (.int .i64 T) ∧ W.cell? ⟨w2.heap.size, 1, none⟩ = some (.int .i64 V) from fun W hW => ⟨bcl hW (by rw [hW3]; simp) (by rw [hW3]; simp [go_sem]), bcl hW (by rw [hW3]; simp) (by rw [hW3]; simp [go_sem])⟩)
  have HJ := hide (show ∀ W, Below W3.heap.size W3 W → RowAt entE W aj es from fun W hW => ho.at.below (belOn (by rw [hW3]; exact bel1 _ _) hW))
  have had := ho.adG
  have hcap := own_cap ho
  have HW3 := hide hW3.symm
  clear hb2 ho hW3 q0 q1 q2
  obtain ⟨q0, q1, q2⟩ := unhide HC _ (unhide HB3)
  have HAD := hide had
  have k1 : (k : Int) ≤ (cj : Int) := by omega
  go_wp2_with fail
  rw [unhide HW3]
  clear q0 q1 q2
  go_cut [11] (fun s11 wx => ∃ (b6 : Nat) (a6 : Option Addr) (c6 : Nat), s11 = .pointer (some ⟨b6, 0, none⟩) ∧ W3.heap.size ≤ b6 ∧ Hid (JnB wx b6 T V a6 m6 c6) ∧ Hid (OwnR entE wx W0.heap.size (.slice a6 m6 c6) (es.take k ++ xs)) ∧ Hid (Below W3.heap.size W3 wx))
  case first =>
    have hcn : ∀ (X : World) (gs : Nat), X.cell? ⟨gs, 0, none⟩ = some (.slice aj k cj) → X.cell? ⟨gs, 1, none⟩ = some (.slice a5 n5 c5) → Below W3.heap.size W3 X → Calls Tryz.prog 36 #[.slice (some ⟨gs, 0, none⟩) 2 2] X fun e w' => ∃ a6 c6, e = .returned (.slice a6 m6 c6) ∧ OwnR entE w' X.heap.size (.slice a6 m6 c6) (es.take k ++ xs) ∧ Below X.heap.size X w' := fun X gs k0 k1 hX => (concatE_calls gs aj k cj (es.take k) a5 n5 c5 xs X k0 k1 (fun i hi => (unhide HJ X hX).pre k i hi) (unhide HE X (belOn (unhide HB3) hX)) (by rw [List.length_take]; omega) (unhide HXN) (by omega) (by omega) (unhide HAD) (unhide HXA)).mono (by
      rintro e w' ⟨v, rfl, ho, hb⟩
      obtain ⟨a, c, rfl⟩ := ho.form
      rw [unhide HM6] at ho ⊢
      exact ⟨a, c, rfl, ho, hb⟩)
    have HC1 := hide (hcn (W3.alloc (.cells #[.slice aj k cj, .slice a5 n5 c5] 28)).drew W3.heap.size (by simp [go_sem]) (by simp [go_sem]) (belDrew (belAl (Below.refl _ _))))
    have HC2 := hide (hcn ((W3.alloc (.cells #[.slice aj k cj, .slice a5 n5 c5] 28)).alloc (.cells #[.int .i64 0, .int .i64 0, .slice none 0 0] 34)).drew W3.heap.size (by simp [go_sem]) (by simp [go_sem]) (belDrew (belAl (belAl (Below.refl _ _)))))
    have HC3 := hide (hcn ((W3.alloc (.cells #[.int .i64 0, .int .i64 0, .slice none 0 0] 34)).alloc (.cells #[.slice aj k cj, .slice a5 n5 c5] 28)).drew (W3.heap.size + 1) (by simp [go_sem]) (by simp [go_sem]) (belDrew (belAl (belAl (Below.refl _ _)))))
    have BX1 : Below W3.heap.size W3 (W3.alloc (.cells #[.slice aj k cj, .slice a5 n5 c5] 28)).drew := belDrew (belAl (Below.refl _ _))
    have BX2 : Below W3.heap.size W3 ((W3.alloc (.cells #[.slice aj k cj, .slice a5 n5 c5] 28)).alloc (.cells #[.int .i64 0, .int .i64 0, .slice none 0 0] 34)).drew := belDrew (belAl (belAl (Below.refl _ _)))
    have BX3 : Below W3.heap.size W3 ((W3.alloc (.cells #[.int .i64 0, .int .i64 0, .slice none 0 0] 34)).alloc (.cells #[.slice aj k cj, .slice a5 n5 c5] 28)).drew := belDrew (belAl (belAl (Below.refl _ _)))
    have hl2 : W3.heap.size + 1 < ((W3.alloc (.cells #[.slice aj k cj, .slice a5 n5 c5] 28)).alloc (.cells #[.int .i64 0, .int .i64 0, .slice none 0 0] 34)).drew.heap.size := by show _ < ((W3.alloc _).alloc _).heap.size; simp
    have hl3 : W3.heap.size < ((W3.alloc (.cells #[.int .i64 0, .int .i64 0, .slice none 0 0] 34)).alloc (.cells #[.slice aj k cj, .slice a5 n5 c5] 28)).drew.heap.size := by show _ < ((W3.alloc _).alloc _).heap.size; rw [World.size_alloc, World.size_alloc]; omega
    have HBX := hide (And.intro BX1 (And.intro BX2 (And.intro BX3 (And.intro hl2 hl3))))
    have X0 := fun (W : World) (hW : Below W3.heap.size W3 W) => (unhide HK W hW).1
    have X1 := fun (W : World) (hW : Below W3.heap.size W3 W) => (unhide HK W hW).2
    have HBR := hide (Below.refl W3.heap.size W3)
    have h03 := (unhide HB3).size
    clear hcn BX1 BX2 BX3 hl2 hl3
    go_region_held3 (fun w' => Below W3.heap.size W3 w') (first | with_reducible exact BB1 | with_reducible exact belOn BB1 (bel1 _ _) | with_reducible exact belDrew (unhide HBR) | with_reducible exact (unhide HBX).1 | with_reducible exact (unhide HBX).2.1 | with_reducible exact (unhide HBX).2.2.1 | with_reducible exact belDrew (belAl (unhide HBR)) | with_reducible exact belDrew (belAl (belAl (unhide HBR))) | with_reducible exact ((BB1.setCell hbw _).setCell hbw _).setCell hbw _) (first
      | (go_at_call 36; with_reducible refine (unhide HC1).mono ?_; rintro e V1 ⟨a6, c6, rfl, ho6, hb6⟩; have BB1 : Below W3.heap.size W3 V1 := belOn (unhide HBX).1 hb6; have hle := Nat.le_trans h03 (unhide HBX).1.size)
      | (go_at_call 36; with_reducible refine (unhide HC2).mono ?_; rintro e V1 ⟨a6, c6, rfl, ho6, hb6⟩; have BB1 : Below W3.heap.size W3 V1 := belOn (unhide HBX).2.1 hb6; have hle := Nat.le_trans h03 (unhide HBX).2.1.size; have hlj := (unhide HBX).2.2.2.1; have hbw := Nat.le_succ W3.heap.size; obtain ⟨nlt, n0, n1, n2, y0, y1, y2⟩ := jn2 hb6)
      | (go_at_call 36; with_reducible refine (unhide HC3).mono ?_; rintro e V1 ⟨a6, c6, rfl, ho6, hb6⟩; have BB1 : Below W3.heap.size W3 V1 := belOn (unhide HBX).2.2.1 hb6; have hle := Nat.le_trans h03 (unhide HBX).2.2.1.size; have hlj := (unhide HBX).2.2.2.2; have hbw := Nat.le_refl W3.heap.size; obtain ⟨nlt, n0, n1, n2, y0, y1, y2⟩ := jn1 hb6))
    all_goals (try go_wp2_with fail)
    all_goals go_meet
    all_goals first
      | exact ⟨V1.heap.size, a6, c6, rfl, BB1.size, hide (JnB.new _ _ _ _ _ _), hide ((ho6.le hle).keep (bel1 _ _)), hide (belOn BB1 (bel1 _ _))⟩
      | exact ⟨_, a6, c6, rfl, hbw, hide (JnB.set ⟨nlt, n0, n1, n2, y0, y1, y2⟩ _ _ _ _ _), hide ((own_set3 ho6 hlj).le hle), hide (((BB1.setCell hbw _).setCell hbw _).setCell hbw _)⟩
  case rest =>
  obtain ⟨w6, rfl⟩ : ∃ w6, w6 = wc := ⟨_, rfl⟩
  obtain ⟨b6, a6, c6, rfl, hb36, HJ6, HO6, HB36⟩ := hcut
  have hbn : b6 ≠ w.heap.size + 1 := by have := (unhide HB3).size; have := unhide HZ0; omega
  have hbn2 : w.heap.size + 1 ≠ b6 := Ne.symm hbn
  have HB6 := hide (belOn (unhide HB3) (unhide HB36))
  have HJO := hide (impl_JournalOk T V a6 m6 c6 (es.take k ++ xs) w6 ⟨(unhide HO6).at, unhide HM6, by have := unhide HM6; rw [List.length_append, List.length_take, unhide HXN] at this; omega, fun e he => (List.mem_append.1 he).elim (fun q => Nat.le_trans (unhide HSM _ (List.mem_of_mem_take q)) (by decide)) (fun q => unhide HXF e q)⟩ (own_cap (unhide HO6)))
  obtain ⟨j0, j1, j2⟩ := unhide HJ6
  go_wp2_with fail
  refine (unhide HJO).mono ?_
  rintro e w7 ⟨rfl, hb7⟩
  rw [h3]
  have HJ7 := hide ((unhide HJ6).below hb7)
  have HO7 := hide ((unhide HO6).keep hb7)
  have HB7 := hide (belOn (unhide HB6) hb7)
  have HB37 := hide (belOn (unhide HB36) hb7)
  clear hb7 j0 j1 j2 HJO HJ6 HO6
  obtain ⟨q0, q1, q2⟩ := unhide HC _ (unhide HB7)
  go_wp2_with fail
  have X0 := fun (W : World) (hW : Below w7.heap.size w7 W) => (unhide HC W (belOn (unhide HB7) hW)).1
  have HTB := hide (fun (W : World) (hW : Below w7.heap.size w7 W) => tableOf_calls q1L nL cL live W (unhide HLN).1 (by omega) (unhide HFL) (unhide HD _ (belOn (unhide HB7) hW)).rl)
  have hlt : ∀ (W : World), Below w7.heap.size w7 W → Calls Tryz.prog 39 #[.slice aj k cj] W fun e w' => e = .returned (.string CQ) ∧ Below W.heap.size W w' := fun W hW => unhide HLK aj cj W (fun i hi => (unhide HJ W (belOn (unhide HB37) hW)).pre k i hi)
  have HLT := hide hlt
  have HBR := hide (Below.refl w7.heap.size w7)
  have hfd := fun W => field_fl n' dl W
  clear hlt q0 q1 q2
  go_cut [61] (fun s61 wx => s61 = .bool SA ∧ Hid (Below w7.heap.size w7 wx))
  case first =>
    go_region_held3 (fun w' => Below w7.heap.size w7 w') (first | with_reducible exact BB2 | with_reducible exact BB1 | with_reducible exact belDrew (unhide HBR)) (first
      | (go_at_call 38; with_reducible refine (unhide HTB _ BB1).mono ?_; rintro e V2 ⟨b, m, rfl, hbb, hm, HT, hb2⟩; have BB2 : Below w7.heap.size w7 V2 := belOn BB1 hb2; have hlk2 := unhide HLL _ _ _ (unhide HT); unfold logN at hlk2)
      | (go_at_call 38; with_reducible refine (unhide HTB _ (belDrew (Below.refl _ _))).mono ?_; rintro e V1 ⟨b, m, rfl, hbb, hm, HT, hb1⟩; have BB1 : Below w7.heap.size w7 V1 := bOfDrew hb1; have hlk1 := unhide HLL _ _ _ (unhide HT); unfold logN at hlk1)
      | (go_at_call 39; with_reducible refine (unhide HLT _ BB1).mono ?_; rintro e V2 ⟨rfl, hb2⟩; have BB2 : Below w7.heap.size w7 V2 := belOn BB1 hb2; have hlk2 := unhide HLL _ _ _ ((unhide HT).blk (X := V2) (hb2.block b (unhide HT).lt)); unfold logN at hlk2)
      | (go_at_call 39; with_reducible refine (unhide HLT _ (belDrew (Below.refl _ _))).mono ?_; rintro e V1 ⟨rfl, hb1⟩; have BB1 : Below w7.heap.size w7 V1 := bOfDrew hb1))
    all_goals (try go_wp2_with fail)
    all_goals go_meet
    all_goals exact ⟨rfl, hide BB2⟩
  case rest =>
  obtain ⟨w8, rfl⟩ : ∃ w8, w8 = wc := ⟨_, rfl⟩
  obtain ⟨rfl, HB78⟩ := hcut
  have HB8 := hide (belOn (unhide HB7) (unhide HB78))
  have HJ8 := hide ((unhide HJ7).below (unhide HB78))
  have HO8 := hide ((unhide HO7).keep (unhide HB78))
  obtain ⟨q0, q1, q2⟩ := unhide HC _ (unhide HB8)
  obtain ⟨j0, j1, j2⟩ := unhide HJ8
  cases SA with
  | true =>
    have HAO1 := hide (unhide HAO rfl)
    have HDA1 := hide (unhide HDA rfl)
    clear HAO HDA HRP
    go_wp2_with fail
    go_region_held3 (fun w' => w'.cell? ⟨w.heap.size, 0, none⟩ = some (.slice q1L nL cL) ∧ w'.cell? ⟨w.heap.size, 1, none⟩ = some (.slice q2S nS cS) ∧ w'.cell? ⟨w.heap.size, 2, none⟩ = some (.slice q3O nO cO)) (go_keep) (first
      | (go_at_call 42; refine (unhide HAO1 w8.drew (belDrew (unhide HB8))).mono ?_; rintro e w9 ⟨a9, c9, rfl, o9, hb9⟩; have HB9 := hide (belOn (unhide HB8) (bOfDrew hb9)); obtain ⟨s0, s1, s2⟩ := unhide HC _ (unhide HB9))
      | (go_at_call 41; refine (unhide HDA1 w9 _ _ (unhide HB9) o9.at).mono ?_; rintro e w10 ⟨xL, kL, xS, kS, xO, kO, rfl, o1, o2, o3, ap, hb10⟩; have HB10 := hide (belOn (unhide HB9) hb10); obtain ⟨t0, t1, t2⟩ := unhide HC _ (unhide HB10))
      | (go_at_call 40; refine (unhide HSY w10 _ _ _ _ _ _ _ o1 o2 o3 ap hb10.size).mono ?_; rintro e w11 ⟨yL, iL, yS, iS, yO, iO, rfl, p1, p2, p3, ap7, hb11⟩; have HB11 := hide (belOn (unhide HB10) hb11); obtain ⟨u0, u1, u2⟩ := unhide HC _ (unhide HB11); obtain ⟨⟨r0, r1, r2⟩, y0, y1, y2⟩ := unhide HR _ (unhide HB11)))
    all_goals (try go_wp2_with fail)
    all_goals
      refine bodyPost_ret (v := .tuple #[.agg #[.slice yL L2.length iL, .slice yS S2.length iS, .slice yO O2.length iO], .int .i64 PC]) (by simp [results, Tryz.results8, go_sem, r0, r1, r2]) rfl ?_
      have hz9 := (unhide HB9).size
      exact dskRet (B := w9.heap.size) p1 p2 p3 ap7 (Nat.le_succ _) (by omega) (unhide HFIN _ (unhide HB11))
  | false =>
    have HRP1 := hide (unhide HRP rfl)
    clear HAO HDA HRP
    go_wp2_with fail
    go_region_held3 (fun w' => (w'.cell? ⟨w.heap.size, 0, none⟩ = some (.slice q1L nL cL) ∧ w'.cell? ⟨w.heap.size, 1, none⟩ = some (.slice q2S nS cS) ∧ w'.cell? ⟨w.heap.size, 2, none⟩ = some (.slice q3O nO cO)) ∧ w'.cell? ⟨b6, 2, none⟩ = some (.slice a6 m6 c6)) (go_keep) (first
      | (go_at_call 39; refine (unhide HLA a6 c6 w8.drew (unhide HO8).at).mono ?_; rintro e w9 ⟨rfl, hb9⟩; have HB9 := hide (belOn (unhide HB8) (bOfDrew hb9)); obtain ⟨s0, s1, s2⟩ := unhide HC _ (unhide HB9); have s3 := ((unhide HJ8).below (bOfDrew hb9)).c2)
      | (go_at_call 43; refine (unhide HRP1 w9 (unhide HB9)).mono ?_; rintro e w10 ⟨xL, kL, xS, kS, xO, kO, rfl, o1, o2, o3, ap, hb10⟩; have HB10 := hide (belOn (unhide HB9) hb10); obtain ⟨t0, t1, t2⟩ := unhide HC _ (unhide HB10); have t3 := (((unhide HJ8).below (bOfDrew hb9)).below hb10).c2)
      | (go_at_call 40; refine (unhide HSY w10 _ _ _ _ _ _ _ o1 o2 o3 ap hb10.size).mono ?_; rintro e w11 ⟨yL, iL, yS, iS, yO, iO, rfl, p1, p2, p3, ap7, hb11⟩; have HB11 := hide (belOn (unhide HB10) hb11); obtain ⟨u0, u1, u2⟩ := unhide HC _ (unhide HB11); have u3 := ((((unhide HJ8).below (bOfDrew hb9)).below hb10).below hb11).c2; obtain ⟨⟨r0, r1, r2⟩, y0, y1, y2⟩ := unhide HR _ (unhide HB11)))
    all_goals (try go_wp2_with fail)
    all_goals
      refine bodyPost_ret (v := .tuple #[.agg #[.slice yL L2.length iL, .slice yS S2.length iS, .slice yO O2.length iO], .int .i64 PC]) (by simp [results, Tryz.results8, go_sem, r0, r1, r2]) rfl ?_
      have hz9 := (unhide HB9).size
      exact dskRet (B := w9.heap.size) p1 p2 p3 ap7 (Nat.le_succ _) (by omega) (unhide HFIN _ (unhide HB11))

set_option maxRecDepth 10000 in
set_option maxHeartbeats 8000000 in
theorem impl_SaveBad (q1L : Option Addr) (nL cL : Nat) (live : List Fl) (q2S : Option Addr) (nS cS : Nat) (safe : List Fl) (q3O : Option Addr) (nO cO : Nat) (ops : List Dop) (fm : Int) (a5 : Option Addr) (n5 c5 : Nat) (xs : List Ent) (w : World) (h : DiskAt w q1L nL cL live q2S nS cS safe q3O nO cO ops) (hx : RowAt entE w a5 xs) (hxn : xs.length = n5) (hxb : n5 ≤ 1048576) (hxf : ∀ e ∈ xs, e.body.size ≤ 1000000000) (hxa : AdG a5 c5) (hd : diskB live safe ops = false) :
    Calls Tryz.prog 8 #[.agg #[.slice q1L nL cL, .slice q2S nS cS, .slice q3O nO cO], .int .i64 fm, .slice a5 n5 c5] w (DskPost (fun x => .tuple #[x, .int .i64 1]) [] [] [] w) := by
  obtain ⟨W0, hW0⟩ : ∃ W0, W0 = (w.alloc (.cells #[.slice q1L nL cL, .slice q2S nS cS, .slice q3O nO cO] 27)).alloc (.cells #[.slice none 0 0, .slice none 0 0, .slice none 0 0] 27) := ⟨_, rfl⟩
  have hb0 : Below w.heap.size w W0 := by rw [hW0]; exact belOn (bel1 _ _) (bel1 _ _)
  have hz0 : W0.heap.size = w.heap.size + 2 := by rw [hW0]; simp
  have c0 : W0.cell? ⟨w.heap.size, 0, none⟩ = some (.slice q1L nL cL) := by rw [hW0]; simp [go_sem]
  have c1 : W0.cell? ⟨w.heap.size, 1, none⟩ = some (.slice q2S nS cS) := by rw [hW0]; simp [go_sem]
  have c2 : W0.cell? ⟨w.heap.size, 2, none⟩ = some (.slice q3O nO cO) := by rw [hW0]; simp [go_sem]
  have r0 : W0.cell? ⟨w.heap.size + 1, 0, none⟩ = some (.slice none 0 0) := by rw [hW0]; simp [go_sem]
  have r1 : W0.cell? ⟨w.heap.size + 1, 1, none⟩ = some (.slice none 0 0) := by rw [hW0]; simp [go_sem]
  have r2 : W0.cell? ⟨w.heap.size + 1, 2, none⟩ = some (.slice none 0 0) := by rw [hW0]; simp [go_sem]
  have y0 : W0.frozen? ⟨w.heap.size + 1, 0, none⟩ = false := by rw [hW0]; simp [go_sem]
  have y1 : W0.frozen? ⟨w.heap.size + 1, 1, none⟩ = false := by rw [hW0]; simp [go_sem]
  have y2 : W0.frozen? ⟨w.heap.size + 1, 2, none⟩ = false := by rw [hW0]; simp [go_sem]
  have HD := hide (fun (W : World) (hW : Below W0.heap.size W0 W) => (h.below hb0).below hW)
  have HE := hide (fun (W : World) (hW : Below W0.heap.size W0 W) => hx.below (belOn hb0 hW))
  have HC := hide (fun (W : World) (hW : Below W0.heap.size W0 W) => And.intro (bcl hW (by omega) c0) (And.intro (bcl hW (by omega) c1) (bcl hW (by omega) c2)))
  have HR := hide (fun (W : World) (hW : Below W0.heap.size W0 W) => And.intro (And.intro (bcl hW (by omega) r0) (And.intro (bcl hW (by omega) r1) (bcl hW (by omega) r2))) (And.intro ((hW.frozen (p := ⟨w.heap.size + 1, 0, none⟩) (by show w.heap.size + 1 < _; omega)).trans y0) (And.intro ((hW.frozen (p := ⟨w.heap.size + 1, 1, none⟩) (by show w.heap.size + 1 < _; omega)).trans y1) ((hW.frozen (p := ⟨w.heap.size + 1, 2, none⟩) (by show w.heap.size + 1 < _; omega)).trans y2))))
  have HFIN := hide (fun (W : World) (hW : Below W0.heap.size W0 W) => belOn hb0 hW)
  have HZ0 := hide hz0
  have HW0 := hide hW0.symm
  have HLN := hide (And.intro h.ll (And.intro h.ls h.lo))
  have HH := hide h
  have HXN := hide hxn
  have HXF := hide hxf
  have HXA := hide hxa
  clear h hb0 c0 c1 c2 r0 r1 r2 y0 y1 y2 hW0 hz0 hx hxn hxf hxa
  have hz := unhide HZ0
  have HX := hide hd
  go_enter Tryz.func8, Tryz.ntmps8
  go_wp2_with fail
  rw [unhide HW0]
  refine (impl_DiskOk _ nL cL live _ nS cS safe _ nO cO ops W0 (unhide HD _ (Below.refl _ _))).mono ?_
  rintro e w1 ⟨rfl, hb1⟩
  rw [unhide HX]
  have HB1 := hide (unhide HFIN _ hb1)
  obtain ⟨⟨r0, r1, r2⟩, y0, y1, y2⟩ := unhide HR _ hb1
  clear hb1
  go_wp2_with fail
  refine bodyPost_ret (v := .tuple #[.agg #[.slice none 0 0, .slice none 0 0, .slice none 0 0], .int .i64 1]) (by simp [results, Tryz.results8, go_sem, r0, r1, r2]) rfl ?_
  exact ⟨none, 0, none, 0, none, 0, rfl, ownR_nil _ _ _, ownR_nil _ _ _, ownR_nil _ _ _, apartNil, below3 (unhide HB1) (Nat.le_succ _)⟩

theorem impl_SaveEntries (q1L : Option Addr) (nL cL : Nat) (live : List Fl) (q2S : Option Addr) (nS cS : Nat) (safe : List Fl) (q3O : Option Addr) (nO cO : Nat) (ops : List Dop) (fm : Int) (a5 : Option Addr) (n5 c5 : Nat) (xs : List Ent) (w : World) (h : DiskAt w q1L nL cL live q2S nS cS safe q3O nO cO ops) (hx : RowAt entE w a5 xs) (hxn : xs.length = n5) (hxb : n5 ≤ 1048576) (hxf : ∀ e ∈ xs, e.body.size ≤ 1000000000) (hxa : AdG a5 c5) :
    Calls Tryz.prog 8 #[.agg #[.slice q1L nL cL, .slice q2S nS cS, .slice q3O nO cO], .int .i64 fm, .slice a5 n5 c5] w (DskPost (fun x => .tuple #[x, .int .i64 (dnC live safe ops (seB live safe ops fm xs) 11 (seX live safe ops fm xs))]) (dnL live safe ops (seB live safe ops fm xs) (seX live safe ops fm xs)) (dnS live safe ops (seB live safe ops fm xs) (seX live safe ops fm xs)) (dnO live safe ops (seB live safe ops fm xs) (seX live safe ops fm xs)) w) := by
  cases hd : diskB live safe ops with
  | false =>
    have h2 := impl_SaveBad q1L nL cL live q2S nS cS safe q3O nO cO ops fm a5 n5 c5 xs w h hx hxn hxb hxf hxa hd
    unfold dnC dnL dnS dnO
    simp only [hd, Bool.false_eq_true, if_false]
    exact h2
  | true =>
    cases hb : seB live safe ops fm xs with
    | false =>
      have h2 := impl_SaveNo q1L nL cL live q2S nS cS safe q3O nO cO ops fm a5 n5 c5 xs w h hx hxn hxb hxf hxa hd hb
      unfold dnC dnL dnS dnO
      simp only [hd, Bool.false_eq_true, if_false, if_true]
      exact h2
    | true =>
      have h2 := impl_SaveYes q1L nL cL live q2S nS cS safe q3O nO cO ops fm a5 n5 c5 xs w h hx hxn hxb hxf hxa hd hb
      unfold dnC dnL dnS dnO
      simp only [hd, if_true]
      exact h2
end Go.Proofs.YtakalfckhailjaaGreat
