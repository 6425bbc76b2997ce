/- Texts of one kind, put together. -/
import Derived.Test.YtknpccpfjclngaaGAI
import Derived.Test.YtknpccpfjclngaaDskF
import Derived.Test.YtknpccpfjclngaaGAJ
import Derived.Test.YtknpccpfjclngaaCrsE
import Derived.Test.YtknpccpfjclngaaGAF
import Derived.Test.YtknpccpfjclngaaAppO

/- A file replaced, by the program. -/
namespace Go.Proofs.Ytknpccpfjclngaa
open Go.RowKit Plain
set_option linter.unusedVariables false

namespace Plain
/-- The ops that replace a file. -/
noncomputable def repX (live safe : List Fl) (ops : List Dop) (fr nm dt : ByteArray) : List Dop := if (fileF live safe ops fr).isSome then [⟨3, fr, ⟨#[]⟩, ⟨#[]⟩⟩, ⟨1, fr, ⟨#[]⟩, dt⟩, ⟨2, fr, nm, ⟨#[]⟩⟩] else [⟨1, fr, ⟨#[]⟩, dt⟩, ⟨2, fr, nm, ⟨#[]⟩⟩]
end Plain

end Go.Proofs.Ytknpccpfjclngaa


/- What a loss of power leaves when all ops are kept, when none is, and behind a file's replacing: the mathematics of the drawn laws. -/
namespace Go.Proofs.Ytknpccpfjclngaa
open Go.RowKit Go.Maps Plain
set_option linter.unusedVariables false

namespace Plain
theorem none_ok (n : Int) : PlOk n [] := fun k hk => absurd hk (by simp)
theorem kcs_none (ops : List Dop) (t : Int) : kcs ops [] t = [] := by simp [kcs, kc0]
theorem disk_run {live safe : List Fl} {ops : List Dop} (h : diskB live safe ops = true) : filesB live = true ∧ runF safe ops = some live := by
  unfold diskB at h
  simp only [Bool.and_eq_true, decide_eq_true_eq] at h
  obtain ⟨h1, h2, h3, h4⟩ := h
  refine ⟨h1, ?_⟩
  split at h4
  · cases h4
  · rename_i now hr
    rw [hr, (sameF_iff now live).1 h4]
theorem same_self (fs : List Fl) : sameF fs fs = true := (sameF_iff fs fs).2 rfl
theorem disk_synced {fs : List Fl} (h : filesB fs = true) : diskB fs fs [] = true := by
  unfold diskB
  rw [h, runF]
  show (true && (true && (true && sameF fs fs))) = true
  rw [same_self]
  rfl
end Plain
end Go.Proofs.Ytknpccpfjclngaa


/- Disks that ops are done on stay disks: the mathematics of drawn disks. -/
namespace Go.Proofs.Ytknpccpfjclngaa
open Go.RowKit Go.Maps Plain
set_option linter.unusedVariables false

namespace Plain
end Plain
end Go.Proofs.Ytknpccpfjclngaa


/- Ops that are done leave a disk: the little of it that the drawn disks want. -/
namespace Go.Proofs.Ytknpccpfjclngaa
open Go.RowKit Plain
set_option linter.unusedVariables false

namespace Plain
theorem goA_fitR : ∀ (xs : List Dop) (fs : List Fl) (n : Nat), filesB fs = true → (goA fs n xs).1 = 0 → filesB (goA fs n xs).2 = true
  | [], fs, n, h, _ => h
  | o :: l, fs, n, h, hc => by
    rw [goA] at hc ⊢
    split at hc
    · split at hc
      · split at hc
        · rename_i h1 h2 h3
          rw [if_pos h1, if_pos h2, if_pos h3]
          rw [Bool.and_eq_true] at h3
          exact goA_fitR l _ _ h3.2 hc
        · cases hc
      · cases hc
    · cases hc
theorem goA_zeroR : ∀ (xs : List Dop) (fs : List Fl) (n : Nat), n ≤ 200 → (goA fs n xs).1 = 0 → runF fs xs = some (goA fs n xs).2 ∧ n + xs.length ≤ 200 := by
  intro xs
  induction xs with
  | nil => intro fs n hn _; exact ⟨rfl, by simpa using hn⟩
  | cons o l ih =>
    intro fs n hn h
    rw [goA] at h ⊢
    by_cases f1 : formB o = true
    · rw [if_pos f1] at h ⊢
      by_cases b1 : (doF fs o).2 = true
      · rw [if_pos b1] at h ⊢
        by_cases k1 : (decide (n < 200) && filesB (doF fs o).1) = true
        · rw [if_pos k1] at h ⊢
          rw [Bool.and_eq_true, decide_eq_true_eq] at k1
          obtain ⟨h1, h2⟩ := ih (doF fs o).1 (n + 1) (by omega) h
          rw [runF, b1, f1, k1.2]
          exact ⟨h1, by rw [List.length_cons]; omega⟩
        · rw [if_neg k1] at h; exact absurd h (by decide)
      · rw [if_neg b1] at h; exact absurd h (by decide)
    · rw [if_neg f1] at h; exact absurd h (by decide)
theorem runF_catR (xs : List Dop) : ∀ (ops : List Dop) (fs r : List Fl), runF fs ops = some r → runF fs (ops ++ xs) = runF r xs := by
  intro ops
  induction ops with
  | nil => intro fs r h; rw [runF] at h; cases h; rfl
  | cons a t ih =>
    intro fs r h
    rw [List.cons_append, runF]
    rw [runF] at h
    split at h
    · rename_i hc
      rw [if_pos hc]
      exact ih _ _ h
    · cases h
/-- Ops that are done on a disk leave a disk. -/
theorem act_runR {live safe : List Fl} {ops xs : List Dop} (h : diskB live safe ops = true) (hc : actC live safe ops xs = 0) : diskB (actL live safe ops xs) (actS live safe ops) (actO live safe ops xs) = true ∧ filesB (actL live safe ops xs) = true := by
  unfold actC at hc
  rw [h, if_pos rfl] at hc
  obtain ⟨hf, hr⟩ := disk_run h
  obtain ⟨hf2, hn, -⟩ := disk_parts h
  obtain ⟨e1, hl⟩ := goA_zeroR xs live ops.length hn hc
  have hg := goA_fitR xs live ops.length hf hc
  unfold actL actS actO
  rw [h, if_pos rfl, if_pos rfl, if_pos rfl, if_pos hc, if_pos hc]
  refine ⟨?_, hg⟩
  unfold diskB
  rw [hg, hf2, runF_catR xs ops safe live hr, e1, List.length_append]
  show (true && (true && (decide (ops.length + xs.length ≤ 200) && sameF (goA live ops.length xs).2 (goA live ops.length xs).2))) = true
  rw [same_self, decide_eq_true (by omega)]
  rfl
end Plain
end Go.Proofs.Ytknpccpfjclngaa


/- Disks copied, by the program, wherever their slices lie. -/
namespace Go.Proofs.Ytknpccpfjclngaa
open Go.RowKit Plain
set_option linter.unusedVariables false

set_option maxRecDepth 10000 in
theorem nil_dop0 (W : World) : Sem.run Try.prog (binOp BinOp.eql 25 (Value.slice none 0 0) (Value.slice none 0 0)) W = .ok (.bool true) W := by
  first | rfl | (unfold binOp; simp [go_sem, Try.underlying25]) | (simp [binOp, go_sem])

set_option maxRecDepth 10000 in
theorem cloneDOp0_calls (w : World) : Calls Try.prog 66 #[.slice none 0 0] w fun e w' => e = .returned (.slice none 0 0) ∧ w = w' := by
  have hnil := nil_dop0
  go_enter Try.func66, Try.ntmps66
  go_wp2_with fail
  go_ret
  exact ⟨rfl, rfl⟩

set_option maxRecDepth 10000 in
theorem nil_dopN (g b n c : Nat) (W : World) : Sem.run Try.prog (binOp BinOp.eql 25 (Value.slice (some ⟨g, b, none⟩) n c) (Value.slice none 0 0)) W = .ok (.bool false) W := by
  first | rfl | (unfold binOp; simp [go_sem, Try.underlying25]) | (simp [binOp, go_sem])

set_option maxRecDepth 10000 in
set_option maxHeartbeats 1000000 in
theorem cloneDOpF_calls (g b n c : Nat) (fs : List Dop) (w : World) (hn : fs.length = n) (hn2 : n ≤ 1048576) (h : RowO dopE w (some ⟨g, b, none⟩) fs) :
    Calls Try.prog 66 #[.slice (some ⟨g, b, none⟩) n c] w fun e w' => ∃ a' c', e = .returned (.slice a' n c') ∧ OwnR dopE w' w.heap.size (.slice a' n c') fs ∧ Below w.heap.size w w' := by
  have HO := hide (ownR_empty dopE w w.heap.size (Nat.le_refl _))
  have HR1 := hide (h.below (bel1 w (.cells #[] 50)))
  have HB1 := hide (bel1 w (.cells #[] 50))
  have HN := hide hn
  have hnil := nil_dopN g b n c
  clear h hn
  go_enter Try.func66, Try.ntmps66
  go_wp2_with (at_builtin; go_must (refine appGO (e := dopE) rfl _ _ rfl (unhide HO) rfl (some ⟨g, b, none⟩) n c rfl (unhide HN) (unhide HR1) (.inr ⟨g, b, rfl⟩) (by simp; omega) (by simp) ?_); intro v' w6 hown6 hb6)
  obtain ⟨a', c', rfl⟩ := hown6.form
  go_ret
  refine ⟨a', c', ?_, ?_, (unhide HB1).trans hb6⟩
  · rw [List.nil_append, unhide HN]; rfl
  · rw [List.nil_append, unhide HN] at hown6; exact hown6

theorem cloneDOpN_calls (a : Option Addr) (n c : Nat) (fs : List Dop) (w : World) (hn : fs.length = n) (hn2 : n ≤ 1048576) (h : RowO dopE w a fs) (had : AdN a c) :
    Calls Try.prog 66 #[.slice a n c] w fun e w' => ∃ a' c', e = .returned (.slice a' n c') ∧ OwnR dopE w' w.heap.size (.slice a' n c') fs ∧ Below w.heap.size w w' := by
  rcases had with ⟨rfl, rfl⟩ | ⟨g, b, rfl⟩
  · have h0 : fs = [] := by
      cases fs with
      | nil => rfl
      | cons f t => obtain ⟨g, b, e, _⟩ := h 0 (by simp); cases e
    subst h0
    subst hn
    refine (cloneDOp0_calls w).mono ?_
    rintro e w' ⟨rfl, rfl⟩
    exact ⟨none, 0, rfl, ownR_nil _ _ _, Below.refl _ _⟩
  · exact cloneDOpF_calls g b n c fs w hn hn2 h

set_option maxRecDepth 10000 in
set_option maxHeartbeats 4000000 in
theorem copyOfDiskN_calls (q1L : Option Addr) (nL cL : Nat) (live : List Fl) (q2S : Option Addr) (nS cS : Nat) (safe : List Fl) (q3O : Option Addr) (nO cO : Nat) (ops : List Dop) (w : World) (h : DiskN w q1L nL cL live q2S nS cS safe q3O nO cO ops) :
    Calls Try.prog 60 #[.agg #[.slice q1L nL cL, .slice q2S nS cS, .slice q3O nO cO]] w (DskPost (fun v => v) live safe ops w) := by
  obtain ⟨Wa, hWa⟩ : ∃ Wa, Wa = w.alloc (.cells #[.slice q1L nL cL, .slice q2S nS cS, .slice q3O nO cO] 27) := ⟨_, rfl⟩
  obtain ⟨W0, hW0⟩ : ∃ W0, W0 = Wa.alloc (.cells #[.slice none 0 0, .slice none 0 0, .slice none 0 0] 27) := ⟨_, rfl⟩
  have hba : Below w.heap.size w Wa := by rw [hWa]; exact bel1 _ _
  have hsa : Wa.heap.size = w.heap.size + 1 := by rw [hWa]; simp
  have hs0 : W0.heap.size = w.heap.size + 2 := by rw [hW0]; simp [hsa]
  have hb0 : Below Wa.heap.size Wa W0 := by rw [hW0]; exact bel1 _ _
  have c0 : W0.cell? ⟨w.heap.size, 0, none⟩ = some (.slice q1L nL cL) := bcl hb0 (by omega) (by rw [hWa]; simp [go_sem])
  have c1 : W0.cell? ⟨w.heap.size, 1, none⟩ = some (.slice q2S nS cS) := bcl hb0 (by omega) (by rw [hWa]; simp [go_sem])
  have c2 : W0.cell? ⟨w.heap.size, 2, none⟩ = some (.slice q3O nO cO) := bcl hb0 (by omega) (by rw [hWa]; simp [go_sem])
  have hr : ∀ i, i < 3 → W0.cell? ⟨w.heap.size + 1, i, none⟩ = some (.slice none 0 0) ∧ W0.frozen? ⟨w.heap.size + 1, i, none⟩ = false := by
    intro i hi
    rw [hW0, ← hsa]
    rcases i with _ | _ | _ | i
    all_goals first | omega | simp [go_sem]
  have HC := hide (fun (W : World) (hW : Below W0.heap.size W0 W) => And.intro (bcl hW (show w.heap.size < W0.heap.size by omega) c0) (And.intro (bcl hW (show w.heap.size < W0.heap.size by omega) c1) (bcl hW (show w.heap.size < W0.heap.size by omega) c2)))
  have HR := hide (fun (W : World) (hW : Below W0.heap.size W0 W) (i : Nat) (hi : i < 3) => And.intro (bcl hW (show w.heap.size + 1 < W0.heap.size by omega) (hr i hi).1) ((hW.frozen (p := ⟨w.heap.size + 1, i, none⟩) (show w.heap.size + 1 < W0.heap.size by omega)).trans (hr i hi).2))
  have HFIN := hide (fun (W : World) (hW : Below W0.heap.size W0 W) => belOn (belOn hba hb0) hW)
  have HD := hide (fun (W : World) (hW : Below W0.heap.size W0 W) => (h.below (belOn hba hb0)).below hW)
  have HW0 := hide (show (w.alloc (.cells #[.slice q1L nL cL, .slice q2S nS cS, .slice q3O nO cO] 27)).alloc (.cells #[.slice none 0 0, .slice none 0 0, .slice none 0 0] 27) = W0 from by rw [hW0, hWa])
  have HAD := hide (And.intro h.adl (And.intro h.ads h.ado))
  have HLL := hide h.ll
  have HLS := hide h.ls
  have HLO := hide h.lo
  have hbl := h.bl
  have hbs := h.bs
  have hbo := h.bo
  have HS0 := hide hs0
  have l0 : w.heap.size < W0.heap.size := by omega
  have l1 : w.heap.size + 1 < W0.heap.size := by omega
  obtain ⟨r0, z0⟩ := hr 0 (by decide)
  obtain ⟨r1, z1⟩ := hr 1 (by decide)
  obtain ⟨r2, z2⟩ := hr 2 (by decide)
  have HC1 := hide (fun (W : World) (hW : Below W0.heap.size W0 W) => cloneFileO_calls q1L nL cL live W (unhide HLL) hbl (unhide HD _ hW).rl (unhide HAD).1)
  have HC2 := hide (fun (W : World) (hW : Below W0.heap.size W0 W) => cloneFileO_calls q2S nS cS safe W (unhide HLS) hbs (unhide HD _ hW).rs (unhide HAD).2.1)
  have HC3 := hide (fun (W : World) (hW : Below W0.heap.size W0 W) => cloneDOpN_calls q3O nO cO ops W (unhide HLO) hbo (unhide HD _ hW).ro (unhide HAD).2.2)
  clear hba hb0 hWa hW0 hr h hsa hs0 HC HR
  go_enter Try.func60, Try.ntmps60
  go_wp2_with fail
  rw [unhide HW0]
  go_region_held3 (fun w' => w'.cell? ⟨w.heap.size, 0, none⟩ = some (.slice q1L nL cL) ∧ w'.cell? ⟨w.heap.size, 1, none⟩ = some (.slice q2S nS cS) ∧ w'.cell? ⟨w.heap.size, 2, none⟩ = some (.slice q3O nO cO)) (go_keep) (first
    | (go_at_call 66; refine (unhide HC3 _ B3).mono ?_; rintro e w4 ⟨y3, k3, rfl, o3, hb4⟩; have B4 := belOn B3 hb4; have d0 := bcl B4 l0 c0; have d1 := bcl B4 l0 c1; have d2 := bcl B4 l0 c2; have t0 := bcl B4 l1 r0; have t1 := bcl B4 l1 r1; have t2 := bcl B4 l1 r2; have v0 := (B4.frozen (p := ⟨w.heap.size + 1, 0, none⟩) l1).trans z0; have v1 := (B4.frozen (p := ⟨w.heap.size + 1, 1, none⟩) l1).trans z1; have v2 := (B4.frozen (p := ⟨w.heap.size + 1, 2, none⟩) l1).trans z2)
    | (go_at_call 33; refine (unhide HC2 _ B2).mono ?_; rintro e w3 ⟨y2, k2, rfl, o2, hb3⟩; have B3 := belOn B2 hb3; have s0 := bcl B3 l0 c0; have s1 := bcl B3 l0 c1; have s2 := bcl B3 l0 c2)
    | (go_at_call 33; refine (unhide HC1 _ (belDrew (Below.refl _ _))).mono ?_; rintro e w2 ⟨y1, k1, rfl, o1, hb2⟩; have B2 := bOfDrew hb2; have q0 := bcl B2 l0 c0; have q1 := bcl B2 l0 c1; have q2 := bcl B2 l0 c2))
  all_goals (have HO1 := hide (o1.keep (belOn hb3 hb4)))
  all_goals (have HO2 := hide (o2.keep hb4))
  all_goals (have HO3 := hide o3)
  all_goals (have HY1 := hide o1.bl)
  all_goals (have HY2 := hide o2.bl)
  all_goals (have HB4 := hide B4)
  all_goals (have m2 := B2.size)
  all_goals (have m3 := hb3.size)
  all_goals clear o1 o2 o3 hb2 B2 B3 B4 hb3 hb4 s0 s1 s2 q0 q1 q2 d0 d1 d2 r0 r1 r2 z0 z1 z2 c0 c1 c2
  all_goals (try go_wp2_with fail)
  all_goals refine bodyPost_ret (v := .agg #[.slice y1 nL k1, .slice y2 nS k2, .slice y3 nO k3]) (by simp [results, Try.results60, go_sem, t0, t1, t2]) rfl ?_
  all_goals (have hn1 := unhide HLL)
  all_goals (have hn2 := unhide HLS)
  all_goals (have hn3 := unhide HLO)
  all_goals (subst hn1 hn2 hn3)
  all_goals (have hs0 := unhide HS0)
  all_goals (have hzd : W0.drew.heap.size = W0.heap.size := rfl)
  all_goals refine ⟨y1, k1, y2, k2, y3, k3, rfl, ((unhide HO1).other ?_).le (show w.heap.size ≤ W0.heap.size by omega), ((unhide HO2).other ?_).le (show w.heap.size ≤ w2.heap.size by omega), ((unhide HO3).other ?_).le (show w.heap.size ≤ w3.heap.size by omega), ⟨fun g h1 h2 => by have := (unhide HY1 g h1).2; have := ((unhide HO2).bl g h2).1; omega, fun g h1 h2 => by have := (unhide HY1 g h1).2; have := ((unhide HO3).bl g h2).1; omega, fun g h1 h2 => by have := (unhide HY2 g h1).2; have := ((unhide HO3).bl g h2).1; omega⟩, (((unhide HFIN _ (unhide HB4)).setCell (show w.heap.size ≤ w.heap.size + 1 by omega) _).setCell (show w.heap.size ≤ w.heap.size + 1 by omega) _).setCell (show w.heap.size ≤ w.heap.size + 1 by omega) _⟩
  all_goals intro g hg
  · have hgl := World.ownsRow.lt (unhide HO1) g hg
    have hg2 : w.heap.size + 1 ≠ g := by have := hgl.1; omega
    rw [heap_set hg2, heap_set hg2, heap_set hg2]
  · have hgl := World.ownsRow.lt (unhide HO2) g hg
    have hg2 : w.heap.size + 1 ≠ g := by have := hgl.1; omega
    rw [heap_set hg2, heap_set hg2, heap_set hg2]
  · have hgl := World.ownsRow.lt (unhide HO3) g hg
    have hg2 : w.heap.size + 1 ≠ g := by have := hgl.1; omega
    rw [heap_set hg2, heap_set hg2, heap_set hg2]
end Go.Proofs.Ytknpccpfjclngaa

