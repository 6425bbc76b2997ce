/- Texts of one kind, put together. -/
import Derived.Test.YtliklijcdcfomaaGreatOzA
import Derived.Deep.RegionHeld3
import Derived.Deep.AppendLies
import Derived.Test.YtliklijcdcfomaaGreatTzE

/- Rows of files and of ops cloned, by the program. -/
namespace Go.Proofs.YtliklijcdcfomaaGreat
open Go.RowKit Plain
set_option linter.unusedVariables false

set_option maxRecDepth 10000 in
theorem nil_file (g n c : Nat) (W : World) : Sem.run Tryz.prog (binOp BinOp.eql 27 (Value.slice (some ⟨g, 0, none⟩) n c) (Value.slice none 0 0)) W = .ok (.bool false) W := by
  first | rfl | (unfold binOp; simp [go_sem, Tryz.underlying27]) | (simp [binOp, go_sem])
set_option maxRecDepth 10000 in
theorem nil_dop (g n c : Nat) (W : World) : Sem.run Tryz.prog (binOp BinOp.eql 28 (Value.slice (some ⟨g, 0, none⟩) n c) (Value.slice none 0 0)) W = .ok (.bool false) W := by
  first | rfl | (unfold binOp; simp [go_sem, Tryz.underlying28]) | (simp [binOp, go_sem])

set_option maxRecDepth 10000 in
set_option maxHeartbeats 1000000 in
theorem cloneFile_calls (g n c : Nat) (fs : List Fl) (w : World) (hn : fs.length = n) (hn2 : n ≤ 1048576) (h : RowAt fileE w (some ⟨g, 0, none⟩) fs) :
    Calls Tryz.prog 78 #[.slice (some ⟨g, 0, none⟩) n c] w fun e w' => ∃ a' c', e = .returned (.slice a' n c') ∧ OwnR fileE w' w.heap.size (.slice a' n c') fs ∧ Below w.heap.size w w' := by
  have HO := hide (ownR_empty fileE w w.heap.size (Nat.le_refl _))
  have HR1 := hide (h.below (bel1 w (.cells #[] 73)))
  have HB1 := hide (bel1 w (.cells #[] 73))
  have HN := hide hn
  have hnil := nil_file g n c
  clear h hn
  go_enter Tryz.func78, Tryz.ntmps78
  go_wp2_with (at_builtin; go_must (refine appG (e := fileE) rfl _ _ rfl (unhide HO) rfl (some ⟨g, 0, none⟩) n c rfl (unhide HN) (unhide HR1) (.inr ⟨g, rfl⟩) (by simp; omega) (by simp) ?_); intro v' w6 hown6 hb6)
  obtain ⟨a', c', rfl⟩ := hown6.form
  go_ret
  refine ⟨a', c', ?_, ?_, (unhide HB1).trans hb6⟩
  · rw [List.nil_append, unhide HN]; rfl
  · rw [List.nil_append, unhide HN] at hown6; exact hown6

set_option maxRecDepth 10000 in
set_option maxHeartbeats 1000000 in
theorem cloneDOp_calls (g n c : Nat) (fs : List Dop) (w : World) (hn : fs.length = n) (hn2 : n ≤ 1048576) (h : RowAt dopE w (some ⟨g, 0, none⟩) fs) :
    Calls Tryz.prog 79 #[.slice (some ⟨g, 0, none⟩) n c] w fun e w' => ∃ a' c', e = .returned (.slice a' n c') ∧ OwnR dopE w' w.heap.size (.slice a' n c') fs ∧ Below w.heap.size w w' := by
  have HO := hide (ownR_empty dopE w w.heap.size (Nat.le_refl _))
  have HR1 := hide (h.below (bel1 w (.cells #[] 78)))
  have HB1 := hide (bel1 w (.cells #[] 78))
  have HN := hide hn
  have hnil := nil_dop g n c
  clear h hn
  go_enter Tryz.func79, Tryz.ntmps79
  go_wp2_with (at_builtin; go_must (refine appG (e := dopE) rfl _ _ rfl (unhide HO) rfl (some ⟨g, 0, none⟩) n c rfl (unhide HN) (unhide HR1) (.inr ⟨g, rfl⟩) (by simp; omega) (by simp) ?_); intro v' w6 hown6 hb6)
  obtain ⟨a', c', rfl⟩ := hown6.form
  go_ret
  refine ⟨a', c', ?_, ?_, (unhide HB1).trans hb6⟩
  · rw [List.nil_append, unhide HN]; rfl
  · rw [List.nil_append, unhide HN] at hown6; exact hown6

set_option maxRecDepth 10000 in
theorem nil_file0 (W : World) : Sem.run Tryz.prog (binOp BinOp.eql 27 (Value.slice none 0 0) (Value.slice none 0 0)) W = .ok (.bool true) W := by
  first | rfl | (unfold binOp; simp [go_sem, Tryz.underlying27]) | (simp [binOp, go_sem])

set_option maxRecDepth 10000 in
theorem cloneFile0_calls (w : World) : Calls Tryz.prog 78 #[.slice none 0 0] w fun e w' => e = .returned (.slice none 0 0) ∧ w = w' := by
  have hnil := nil_file0
  go_enter Tryz.func78, Tryz.ntmps78
  go_wp2_with fail
  go_ret
  exact ⟨rfl, rfl⟩

theorem cloneFileO_calls (a : Option Addr) (n c : Nat) (fs : List Fl) (w : World) (hn : fs.length = n) (hn2 : n ≤ 1048576) (h : RowAt fileE w a fs) (had : AdOk a c) :
    Calls Tryz.prog 78 #[.slice a n c] w fun e w' => ∃ a' c', e = .returned (.slice a' n c') ∧ OwnR fileE w' w.heap.size (.slice a' n c') fs ∧ Below w.heap.size w w' := by
  rcases had with ⟨rfl, rfl⟩ | ⟨g, rfl⟩
  · have h0 : fs = [] := by
      cases fs with
      | nil => rfl
      | cons f t => obtain ⟨g, e, _⟩ := h 0 (by simp); cases e
    subst h0
    subst hn
    refine (cloneFile0_calls w).mono ?_
    rintro e w' ⟨rfl, rfl⟩
    exact ⟨none, 0, rfl, ownR_nil _ _ _, Below.refl _ _⟩
  · exact cloneFile_calls g n c fs w hn hn2 h

end Go.Proofs.YtliklijcdcfomaaGreat


/- Disks copied, by the program. -/
namespace Go.Proofs.YtliklijcdcfomaaGreat
open Go.RowKit Plain
set_option linter.unusedVariables false

set_option maxRecDepth 10000 in
set_option maxHeartbeats 4000000 in
theorem copyOfDisk_calls (g1 nL cL : Nat) (live : List Fl) (g2 nS cS : Nat) (safe : List Fl) (g3 nO cO : Nat) (ops : List Dop) (w : World) (h : DiskAt w (some ⟨g1, 0, none⟩) nL cL live (some ⟨g2, 0, none⟩) nS cS safe (some ⟨g3, 0, none⟩) nO cO ops) :
    Calls Tryz.prog 33 #[.agg #[.slice (some ⟨g1, 0, none⟩) nL cL, .slice (some ⟨g2, 0, none⟩) nS cS, .slice (some ⟨g3, 0, none⟩) nO cO]] w (DskPost (fun v => v) live safe ops w) := by
  obtain ⟨Wa, hWa⟩ : ∃ Wa, Wa = w.alloc (.cells #[.slice (some ⟨g1, 0, none⟩) nL cL, .slice (some ⟨g2, 0, none⟩) nS cS, .slice (some ⟨g3, 0, none⟩) nO cO] 30) := ⟨_, rfl⟩
  obtain ⟨W0, hW0⟩ : ∃ W0, W0 = Wa.alloc (.cells #[.slice none 0 0, .slice none 0 0, .slice none 0 0] 30) := ⟨_, rfl⟩
  have hba : Below w.heap.size w Wa := by rw [hWa]; exact bel1 _ _
  have hsa : Wa.heap.size = w.heap.size + 1 := by rw [hWa]; simp
  have hs0 : W0.heap.size = w.heap.size + 2 := by rw [hW0]; simp [hsa]
  have hb0 : Below Wa.heap.size Wa W0 := by rw [hW0]; exact bel1 _ _
  have c0 : W0.cell? ⟨w.heap.size, 0, none⟩ = some (.slice (some ⟨g1, 0, none⟩) nL cL) := bcl hb0 (by omega) (by rw [hWa]; simp [go_sem])
  have c1 : W0.cell? ⟨w.heap.size, 1, none⟩ = some (.slice (some ⟨g2, 0, none⟩) nS cS) := bcl hb0 (by omega) (by rw [hWa]; simp [go_sem])
  have c2 : W0.cell? ⟨w.heap.size, 2, none⟩ = some (.slice (some ⟨g3, 0, none⟩) nO cO) := bcl hb0 (by omega) (by rw [hWa]; simp [go_sem])
  have hr : ∀ i, i < 3 → W0.cell? ⟨w.heap.size + 1, i, none⟩ = some (.slice none 0 0) ∧ W0.frozen? ⟨w.heap.size + 1, i, none⟩ = false := by
    intro i hi
    rw [hW0, ← hsa]
    rcases i with _ | _ | _ | i
    all_goals first | omega | simp [go_sem]
  have HC := hide (fun (W : World) (hW : Below W0.heap.size W0 W) => And.intro (bcl hW (show w.heap.size < W0.heap.size by omega) c0) (And.intro (bcl hW (show w.heap.size < W0.heap.size by omega) c1) (bcl hW (show w.heap.size < W0.heap.size by omega) c2)))
  have HR := hide (fun (W : World) (hW : Below W0.heap.size W0 W) (i : Nat) (hi : i < 3) => And.intro (bcl hW (show w.heap.size + 1 < W0.heap.size by omega) (hr i hi).1) ((hW.frozen (p := ⟨w.heap.size + 1, i, none⟩) (show w.heap.size + 1 < W0.heap.size by omega)).trans (hr i hi).2))
  have HFIN := hide (fun (W : World) (hW : Below W0.heap.size W0 W) => belOn (belOn hba hb0) hW)
  have HD := hide (fun (W : World) (hW : Below W0.heap.size W0 W) => (h.below (belOn hba hb0)).below hW)
  have HW0 := hide (show (w.alloc (.cells #[.slice (some ⟨g1, 0, none⟩) nL cL, .slice (some ⟨g2, 0, none⟩) nS cS, .slice (some ⟨g3, 0, none⟩) nO cO] 30)).alloc (.cells #[.slice none 0 0, .slice none 0 0, .slice none 0 0] 30) = W0 from by rw [hW0, hWa])
  have HLL := hide h.ll
  have HLS := hide h.ls
  have HLO := hide h.lo
  have hbl := h.bl
  have hbs := h.bs
  have hbo := h.bo
  have HS0 := hide hs0
  have l0 : w.heap.size < W0.heap.size := by omega
  have l1 : w.heap.size + 1 < W0.heap.size := by omega
  obtain ⟨r0, z0⟩ := hr 0 (by decide)
  obtain ⟨r1, z1⟩ := hr 1 (by decide)
  obtain ⟨r2, z2⟩ := hr 2 (by decide)
  have HC1 := hide (fun (W : World) (hW : Below W0.heap.size W0 W) => cloneFile_calls g1 nL cL live W (unhide HLL) hbl (unhide HD _ hW).rl)
  have HC2 := hide (fun (W : World) (hW : Below W0.heap.size W0 W) => cloneFile_calls g2 nS cS safe W (unhide HLS) hbs (unhide HD _ hW).rs)
  have HC3 := hide (fun (W : World) (hW : Below W0.heap.size W0 W) => cloneDOp_calls g3 nO cO ops W (unhide HLO) hbo (unhide HD _ hW).ro)
  clear hba hb0 hWa hW0 hr h hsa hs0 HC HR
  go_enter Tryz.func33, Tryz.ntmps33
  go_wp2_with fail
  rw [unhide HW0]
  go_region_held3 (fun w' => w'.cell? ⟨w.heap.size, 0, none⟩ = some (.slice (some ⟨g1, 0, none⟩) nL cL) ∧ w'.cell? ⟨w.heap.size, 1, none⟩ = some (.slice (some ⟨g2, 0, none⟩) nS cS) ∧ w'.cell? ⟨w.heap.size, 2, none⟩ = some (.slice (some ⟨g3, 0, none⟩) nO cO)) (go_keep) (first
    | (go_at_call 79; refine (unhide HC3 _ B3).mono ?_; rintro e w4 ⟨y3, k3, rfl, o3, hb4⟩; have B4 := belOn B3 hb4; have d0 := bcl B4 l0 c0; have d1 := bcl B4 l0 c1; have d2 := bcl B4 l0 c2; have t0 := bcl B4 l1 r0; have t1 := bcl B4 l1 r1; have t2 := bcl B4 l1 r2; have v0 := (B4.frozen (p := ⟨w.heap.size + 1, 0, none⟩) l1).trans z0; have v1 := (B4.frozen (p := ⟨w.heap.size + 1, 1, none⟩) l1).trans z1; have v2 := (B4.frozen (p := ⟨w.heap.size + 1, 2, none⟩) l1).trans z2)
    | (go_at_call 78; refine (unhide HC2 _ B2).mono ?_; rintro e w3 ⟨y2, k2, rfl, o2, hb3⟩; have B3 := belOn B2 hb3; have s0 := bcl B3 l0 c0; have s1 := bcl B3 l0 c1; have s2 := bcl B3 l0 c2)
    | (go_at_call 78; refine (unhide HC1 _ (belDrew (Below.refl _ _))).mono ?_; rintro e w2 ⟨y1, k1, rfl, o1, hb2⟩; have B2 := bOfDrew hb2; have q0 := bcl B2 l0 c0; have q1 := bcl B2 l0 c1; have q2 := bcl B2 l0 c2))
  all_goals (have HO1 := hide (o1.keep (belOn hb3 hb4)))
  all_goals (have HO2 := hide (o2.keep hb4))
  all_goals (have HO3 := hide o3)
  all_goals (have HY1 := hide o1.bl)
  all_goals (have HY2 := hide o2.bl)
  all_goals (have HB4 := hide B4)
  all_goals (have m2 := B2.size)
  all_goals (have m3 := hb3.size)
  all_goals clear o1 o2 o3 hb2 B2 B3 B4 hb3 hb4 s0 s1 s2 q0 q1 q2 d0 d1 d2 r0 r1 r2 z0 z1 z2 c0 c1 c2
  all_goals (try go_wp2_with fail)
  all_goals refine bodyPost_ret (v := .agg #[.slice y1 nL k1, .slice y2 nS k2, .slice y3 nO k3]) (by simp [results, Tryz.results33, go_sem, t0, t1, t2]) rfl ?_
  all_goals (have hn1 := unhide HLL)
  all_goals (have hn2 := unhide HLS)
  all_goals (have hn3 := unhide HLO)
  all_goals (subst hn1 hn2 hn3)
  all_goals (have hs0 := unhide HS0)
  all_goals (have hzd : W0.drew.heap.size = W0.heap.size := rfl)
  all_goals refine ⟨y1, k1, y2, k2, y3, k3, rfl, ((unhide HO1).other ?_).le (show w.heap.size ≤ W0.heap.size by omega), ((unhide HO2).other ?_).le (show w.heap.size ≤ w2.heap.size by omega), ((unhide HO3).other ?_).le (show w.heap.size ≤ w3.heap.size by omega), ⟨fun g h1 h2 => by have := (unhide HY1 g h1).2; have := ((unhide HO2).bl g h2).1; omega, fun g h1 h2 => by have := (unhide HY1 g h1).2; have := ((unhide HO3).bl g h2).1; omega, fun g h1 h2 => by have := (unhide HY2 g h1).2; have := ((unhide HO3).bl g h2).1; omega⟩, (((unhide HFIN _ (unhide HB4)).setCell (show w.heap.size ≤ w.heap.size + 1 by omega) _).setCell (show w.heap.size ≤ w.heap.size + 1 by omega) _).setCell (show w.heap.size ≤ w.heap.size + 1 by omega) _⟩
  all_goals intro g hg
  · have hgl := World.ownsRow.lt (unhide HO1) g hg
    have hg2 : w.heap.size + 1 ≠ g := by have := hgl.1; omega
    rw [heap_set hg2, heap_set hg2, heap_set hg2]
  · have hgl := World.ownsRow.lt (unhide HO2) g hg
    have hg2 : w.heap.size + 1 ≠ g := by have := hgl.1; omega
    rw [heap_set hg2, heap_set hg2, heap_set hg2]
  · have hgl := World.ownsRow.lt (unhide HO3) g hg
    have hg2 : w.heap.size + 1 ≠ g := by have := hgl.1; omega
    rw [heap_set hg2, heap_set hg2, heap_set hg2]
end Go.Proofs.YtliklijcdcfomaaGreat


/- A row appended to an empty slice that was just made, inside a region that draws its order. -/
namespace Go.Proofs.YtliklijcdcfomaaGreat
open Go.RowKit Plain
set_option linter.unusedVariables false

/-- What an append to an empty slice in block g leaves. -/
structure Plain.AppE {α : Type} (e : Elem α) (g : Nat) (w w' : World) (a : Option Addr) (c : Nat) (ys : List α) : Prop where
  row : RowAt e w' a ys
  own : OwnR e w' g (.slice a ys.length c) ys
  gr : w.grownBy w' (some g)
  lies : ys = [] ∨ ∀ k, inB a k → k = g ∨ k = w.heap.size
theorem Plain.emptyAt {α : Type} {e : Elem α} {w : World} {g : Nat} (h : w.heap[g]? = some (.cells #[] e.E)) : OwnR e w g (.slice (some ⟨g, 0, none⟩) 0 0) [] := ⟨by simp, .inr ⟨g, 0, #[], rfl, Nat.le_refl _, h, by simp⟩⟩
theorem stepE {α : Type} {e : Elem α} {ops : Array Oper} {o : Oper} {a : Act} {K : Act → World → Prop} {Q : Exit → Act → World → Prop} {F : Prop} (hgd : o.guard = none) (s x : Operand)
    (ho : o.op = .call { callee := .builtin .append, args := #[s, x], argTypes := #[e.S, e.S] })
    {w : World} {ys : List α} (g : Nat) (hs : a.eval s = .slice (some ⟨g, 0, none⟩) 0 0) (hg : w.heap[g]? = some (.cells #[] e.E)) (gx m c : Nat) (hx : a.eval x = .slice (some ⟨gx, 0, none⟩) m c) (hy : ys.length = m) (hr : RowAt e w (some ⟨gx, 0, none⟩) ys)
    (hlen : m ≤ 1048576)
    (h : ∀ a' c' w', AppE e g w w' a' c' ys → K (a.put o.dst (.slice a' m c')) w') :
    if Region.wanted o (yielded ops a.tmps) = true then Oper.wp Tryz.prog o a w K Q else F := by
  rw [if_pos (by simp [Region.wanted, hgd])]
  obtain ⟨i0, hi, hz0, hz1, hz2⟩ := info_parts e.hinfo
  subst hy
  have hgl : g < w.heap.size := by
    rcases Nat.lt_or_ge g w.heap.size with h1 | h1
    · exact h1
    · rw [Array.getElem?_eq_none h1] at hg; cases hg
  have hnews : ∀ j u, (ys.flatMap e.enc)[j]? = some u → w.cell? ((⟨gx, 0, none⟩ : Addr).add j) = some u := by
    intro j u hj
    have hjl : j < ys.length * e.n := by
      have := (List.getElem?_eq_some_iff.1 hj).1
      rw [flat_len e.enc e.n e.hlen] at this
      exact this
    have hn := e.hn
    have hq : j / e.n < ys.length := Nat.div_lt_of_lt_mul (by rw [Nat.mul_comm]; exact hjl)
    have hm : j % e.n < e.n := Nat.mod_lt _ hn
    have hd : j / e.n * e.n + j % e.n = j := by rw [Nat.mul_comm]; exact Nat.div_add_mod j e.n
    obtain ⟨g', e1, hl, hc⟩ := hr (j / e.n) hq
    cases e1
    have h1 := (hc (j % e.n) hm).1
    rw [hd] at h1
    have h2 := flat_get e.enc e.n e.hlen ys (j / e.n) (j % e.n) hq hm
    rw [hd] at h2
    rw [show (⟨gx, 0, none⟩ : Addr).add j = ⟨gx, j, none⟩ from by unfold Addr.add; split <;> simp_all, h1, ← h2]
    exact hj
  have hone : ∀ u ∈ ys.flatMap e.enc, u.oneCell' = true := by
    intro u hu
    obtain ⟨y, _, hy⟩ := List.mem_flatMap.1 hu
    exact e.hone y u hy
  have hby := e.hb
  have hbytes : (0 + ys.length) * e.bytes ≤ 140737488355328 := Nat.le_trans (Nat.mul_le_mul_left _ hby) (by omega)
  have hown : OwnR e w g (.slice (some ⟨g, 0, none⟩) 0 0) [] := emptyAt hg
  rcases Nat.eq_zero_or_pos ys.length with h0 | h0
  · refine wp_append_own _ s x e.S ho g e.E i0 e.zero e.n e.bytes e.hund hi hz0 hz1 hz2 e.hz e.hn _ 0 [] hs hown
      ⟨gx, 0, none⟩ ys.length c (ys.flatMap e.enc) hx (flat_len e.enc e.n e.hlen ys) hnews hone (by unfold maxLen; omega) hbytes (by omega) ?_
    intro v' w' h1 h2 _
    have h1' : OwnR e w' g v' ys := by unfold OwnR; rw [Nat.zero_add, List.nil_append] at h1; exact h1
    obtain ⟨a', c', rfl⟩ := h1'.form
    exact h a' c' w' ⟨h1'.at, h1', h2, .inl (List.length_eq_zero_iff.1 h0)⟩
  · refine wp_append_lies _ s x e.S ho g e.E i0 e.zero e.n e.bytes e.hund hi hz0 hz1 hz2 e.hz e.hn _ 0 [] hs hown
      ⟨gx, 0, none⟩ ys.length c (ys.flatMap e.enc) hx (flat_len e.enc e.n e.hlen ys) hnews hone h0 (by unfold maxLen; omega) hbytes (by omega) _ rfl ?_
    intro k cap w' h1 h2 h3 h4
    rw [Nat.zero_add, List.nil_append] at h1
    rw [Nat.zero_add]
    have h1' : OwnR e w' g (.slice (some ⟨k, 0, none⟩) ys.length cap) ys := by unfold OwnR; exact h1
    refine h _ cap w' ⟨h1'.at, h1', h2, .inr ?_⟩
    rintro j ⟨o', e'⟩
    cases e'
    rcases h3 with h3 | h3
    · exact .inl (Option.some.inj h3).symm
    · exact .inr h3
theorem RowAt.grown {α : Type} {e : Elem α} {w w' : World} {a : Option Addr} {g : Nat} {ys : List α} (h : RowAt e w a ys) (hg : w.grownBy w' (some g)) (hne : ys = [] ∨ ∀ k, inB a k → k ≠ g) : RowAt e w' a ys := fun i hi => by
  obtain ⟨k, e1, hl, hc⟩ := h i hi
  have hk : some k ≠ some g := by
    rcases hne with h | h
    · rw [h] at hi; simp at hi
    · exact fun q => h k ⟨0, e1⟩ (Option.some.inj q)
  have hb := hg.block k hl hk
  exact ⟨k, e1, Nat.lt_of_lt_of_le hl hg.size, fun j hj => ⟨(World.cell?_of_block (a := ⟨k, i * e.n + j, none⟩) hb).trans (hc j hj).1, (World.frozen?_of_block (a := ⟨k, i * e.n + j, none⟩) hb).trans (hc j hj).2⟩⟩
theorem Plain.below_gr1 {w w' : World} {g B : Nat} (h : w.grownBy w' (some g)) (hB : B ≤ g) (hw : B ≤ w.heap.size) : Below B w w' := ⟨h.os, h.tape, h.output, h.size, fun k hk => h.block k (by omega) (fun e => by cases e; omega)⟩
theorem Plain.litN (W : World) (x : Obj) : (W.alloc x).heap[W.heap.size]? = some x := by show (W.heap.push x)[W.heap.size]? = some x; rw [Array.getElem?_push, if_pos rfl]
theorem Plain.lit0 (W : World) (x : Obj) : (W.alloc x).drew.heap[W.heap.size]? = some x := litN W x
theorem Plain.lit0a (W : World) (x y : Obj) : ((W.alloc x).alloc y).drew.heap[W.heap.size]? = some x := by
  show ((W.heap.push x).push y)[W.heap.size]? = some x
  rw [Array.getElem?_push, if_neg (by simp), Array.getElem?_push, if_pos rfl]
theorem Plain.lit1a (W : World) (x y : Obj) : ((W.alloc x).alloc y).drew.heap[W.heap.size + 1]? = some y := by
  show ((W.heap.push x).push y)[W.heap.size + 1]? = some y
  rw [Array.getElem?_push, if_pos (by simp)]
theorem Plain.AppE.keep2 {α : Type} {e : Elem α} {g g2 : Nat} {w w2 w3 : World} {a : Option Addr} {c : Nat} {ys : List α} (h : AppE e g w w2 a c ys) (gr : w2.grownBy w3 (some g2)) (h1 : g ≠ g2) (h2 : w.heap.size ≠ g2) : RowAt e w3 a ys :=
  h.row.grown gr (h.lies.imp id fun q k hk => by rcases q k hk with rfl | rfl; exact h1; exact h2)
theorem RowAt.keepNew {α : Type} {e : Elem α} {g2 : Nat} {w2 W W' : World} {a : Option Addr} {ys : List α} (h : RowAt e w2 a ys) (hB : Below w2.heap.size w2 W) (gr : W.grownBy W' (some g2)) (hg : w2.heap.size ≤ g2) : RowAt e W' a ys := fun i hi => by
  obtain ⟨k, e1, hl, hc⟩ := h i hi
  have hb := (gr.block k (Nat.lt_of_lt_of_le hl hB.size) (fun q => by cases q; omega)).trans (hB.block k hl)
  exact ⟨k, e1, Nat.lt_of_lt_of_le hl (Nat.le_trans hB.size gr.size), fun j hj => ⟨(World.cell?_of_block (a := ⟨k, i * e.n + j, none⟩) hb).trans (hc j hj).1, (World.frozen?_of_block (a := ⟨k, i * e.n + j, none⟩) hb).trans (hc j hj).2⟩⟩
theorem RowAt.setO {α : Type} {e : Elem α} {W : World} {a : Option Addr} {ys : List α} {b i : Nat} {u : Value} (h : RowAt e W a ys) (hne : ys = [] ∨ ∀ k, inB a k → k ≠ b) : RowAt e (W.setCell ⟨b, i, none⟩ u) a ys := by
  rcases hne with rfl | hne
  · exact fun i hi => by simp at hi
  · exact h.offR (b := some ⟨b, 0, none⟩) (OnlyRow.set i u) (fun g hg ⟨o, e⟩ => by cases e; exact hne _ hg rfl)
theorem Plain.AppE.far {α : Type} {e : Elem α} {g B : Nat} {w w' : World} {a : Option Addr} {c : Nat} {ys : List α} (h : AppE e g w w' a c ys) (h1 : B < g) (h2 : B < w.heap.size) : ys = [] ∨ ∀ k, inB a k → k ≠ B :=
  h.lies.imp id fun q k hk => by rcases q k hk with rfl | rfl <;> omega
theorem Plain.lit0n (W : World) (x y : Obj) : ((W.alloc x).alloc y).heap[W.heap.size]? = some x := lit0a W x y
theorem Plain.lit1n (W : World) (x y : Obj) : ((W.alloc x).alloc y).heap[W.heap.size + 1]? = some y := lit1a W x y
theorem Plain.lit0b (W : World) (x y z : Obj) : (((W.alloc x).alloc y).alloc z).drew.heap[W.heap.size]? = some x := by
  show (((W.heap.push x).push y).push z)[W.heap.size]? = some x
  rw [Array.getElem?_push, if_neg (by simp; omega), Array.getElem?_push, if_neg (by simp), Array.getElem?_push, if_pos rfl]
theorem Plain.lit1b (W : World) (x y z : Obj) : (((W.alloc x).alloc y).alloc z).drew.heap[W.heap.size + 1]? = some y := by
  show (((W.heap.push x).push y).push z)[W.heap.size + 1]? = some y
  rw [Array.getElem?_push, if_neg (by simp), Array.getElem?_push, if_pos (by simp)]
theorem Plain.lit2b (W : World) (x y z : Obj) : (((W.alloc x).alloc y).alloc z).drew.heap[W.heap.size + 1 + 1]? = some z := by
  show (((W.heap.push x).push y).push z)[W.heap.size + 1 + 1]? = some z
  rw [Array.getElem?_push, if_pos (by simp)]
theorem Plain.AppE.ne {α : Type} {e : Elem α} {g g2 : Nat} {w w' : World} {a : Option Addr} {c : Nat} {ys : List α} (h : AppE e g w w' a c ys) (h1 : g ≠ g2) (h2 : g2 < w.heap.size ∨ w'.heap.size ≤ g2) : ys = [] ∨ ∀ k, inB a k → k ≠ g2 := by
  rcases h.lies with q | q
  · exact .inl q
  · refine .inr fun k hk => ?_
    have hl := (h.own.bl k hk).2
    rcases q k hk with rfl | rfl
    · exact h1
    · omega
theorem Plain.drew_heap (X : World) : X.drew.heap = X.heap := rfl
theorem Plain.hp_old (X : World) (o : Obj) (k : Nat) (h : k < X.heap.size) : (X.alloc o).heap[k]? = X.heap[k]? := Below.heap_alloc X o k h
theorem Plain.hp_new (X : World) (o : Obj) (k : Nat) (h : k = X.heap.size) : (X.alloc o).heap[k]? = some o := by subst h; exact litN X o
end Go.Proofs.YtliklijcdcfomaaGreat


/- Ops done one behind the other on a disk, as plain mathematics; the disk that is being made. -/
namespace Go.Proofs.YtliklijcdcfomaaGreat
open Go.RowKit Go.Maps Plain
set_option linter.unusedVariables false

namespace Plain
/-- Ops done on files, n of them before: the code, and the files where it is nought. -/
def goA (fs : List Fl) (n : Nat) : List Dop → Int × List Fl
  | [] => (0, fs)
  | o :: l => if formB o then (if (doF fs o).2 then (if decide (n < 200) && filesB (doF fs o).1 then goA (doF fs o).1 (n + 1) l else (4, [])) else (3, [])) else (2, [])
def actC (live safe : List Fl) (ops xs : List Dop) : Int := if diskB live safe ops then (goA live ops.length xs).1 else 1
def actL (live safe : List Fl) (ops xs : List Dop) : List Fl := if diskB live safe ops then (if (goA live ops.length xs).1 = 0 then (goA live ops.length xs).2 else live) else []
def actS (live safe : List Fl) (ops : List Dop) : List Fl := if diskB live safe ops then safe else []
def actO (live safe : List Fl) (ops xs : List Dop) : List Dop := if diskB live safe ops then (if (goA live ops.length xs).1 = 0 then ops ++ xs else ops) else []
theorem goA_step (fs : List Fl) (n : Nat) (xs : List Dop) (k : Nat) (h : k < xs.length) : goA fs n (xs.drop k) = if formB xs[k] then (if (doF fs xs[k]).2 then (if decide (n < 200) && filesB (doF fs xs[k]).1 then goA (doF fs xs[k]).1 (n + 1) (xs.drop (k + 1)) else (4, [])) else (3, [])) else (2, []) := by
  rw [List.drop_eq_getElem_cons h, goA]
theorem OnlyRow.gr {g : Nat} {w w' : World} (h : OnlyRow (some ⟨g, 0, none⟩) w w') : w.grownBy w' (some g) := ⟨h.os, h.tape, h.output, h.size, fun k hk hne => h.block k hk (fun o e => hne (by cases e; rfl))⟩
end Plain
theorem Tab.off {w w' : World} {b m g : Nat} {f : ByteArray → Option ByteArray} (h : Tab w b m f) (hg : w.grownBy w' (some g)) (hne : b ≠ g) : Tab w' b m f := by
  obtain ⟨D, h1, h2⟩ := h
  exact ⟨D, h1.kept hg (fun q => hne (Option.some.inj q)), h2⟩
theorem OwnR.inb {α : Type} {e : Elem α} {W : World} {B n c g : Nat} {a : Option Addr} {xs : List α} (h : OwnR e W B (.slice a n c) xs) (hg : (Value.slice a n c).ownBlock = some g) : inB a g := by
  rcases h.ad with ⟨rfl, -⟩ | ⟨g', rfl⟩
  · cases hg
  · cases hg; exact ⟨0, rfl⟩
theorem OwnR.off {α : Type} {e : Elem α} {W W' : World} {B n c x : Nat} {a : Option Addr} {xs : List α} (h : OwnR e W B (.slice a n c) xs) (hg : W.grownBy W' (some x)) (hne : ¬ inB a x) : OwnR e W' B (.slice a n c) xs :=
  h.other fun g q => hg.block g (h.lt g q) fun r => hne (by cases r; exact h.inb q)
theorem Plain.grCell {W W' : World} {x b i : Nat} {v : Value} (hg : W.grownBy W' (some x)) (hne : b ≠ x) (h : W.cell? ⟨b, i, none⟩ = some v) : W'.cell? ⟨b, i, none⟩ = some v := (hg.cell_far ⟨b, i, none⟩ (lt_of_cell h) (fun q => hne (Option.some.inj q))).trans h
theorem Plain.grFroz {W W' : World} {x b i : Nat} (hg : W.grownBy W' (some x)) (hne : b ≠ x) (hl : b < W.heap.size) (h : W.frozen? ⟨b, i, none⟩ = false) : W'.frozen? ⟨b, i, none⟩ = false := (hg.frozen_far ⟨b, i, none⟩ hl (fun q => hne (Option.some.inj q))).trans h
theorem dopLit (w : World) (o : Dop) : OwnR dopE (w.alloc (.cells #[.int .i64 o.kind, .string o.name, .string o.to, .string o.data] 78)) w.heap.size (.slice (some ⟨w.heap.size, 0, none⟩) 1 1) [o] := World.ownsRow_lit w #[.int .i64 o.kind, .string o.name, .string o.to, .string o.data] 1 (Nat.le_refl _) (by unfold maxLen; omega) rfl

/-- The disk that is being made: a table of its files, its synced files and its ops. -/
structure Plain.NxAt (W : World) (B b m nb : Nat) (now : List Fl) (vL : Value) (yS : Option Addr) (kS : Nat) (yO : Option Addr) (kO : Nat) (safe : List Fl) (os : List Dop) : Prop where
  tab : Tab W b m (tabF now)
  ok : filesB now = true
  bB : B ≤ b
  nB : B ≤ nb
  bn : b ≠ nb
  s : OwnR fileE W B (.slice yS safe.length kS) safe
  o : OwnR dopE W B (.slice yO os.length kO) os
  so : ∀ g, inB yS g → ¬ inB yO g
  sb : ¬ inB yS b
  ob : ¬ inB yO b
  sn : ¬ inB yS nb
  on : ¬ inB yO nb
  c0 : W.cell? ⟨nb, 0, none⟩ = some vL
  c1 : W.cell? ⟨nb, 1, none⟩ = some (.slice yS safe.length kS)
  c2 : W.cell? ⟨nb, 2, none⟩ = some (.slice yO os.length kO)
  z0 : W.frozen? ⟨nb, 0, none⟩ = false
  z2 : W.frozen? ⟨nb, 2, none⟩ = false
theorem Plain.NxAt.below {W W' : World} {B b m nb : Nat} {now : List Fl} {vL : Value} {yS : Option Addr} {kS : Nat} {yO : Option Addr} {kO : Nat} {safe : List Fl} {os : List Dop} (h : NxAt W B b m nb now vL yS kS yO kO safe os) (hb : Below W.heap.size W W') : NxAt W' B b m nb now vL yS kS yO kO safe os := by
  have hl := lt_of_cell h.c0
  exact ⟨h.tab.below hb h.tab.lt, h.ok, h.bB, h.nB, h.bn, h.s.keep hb, h.o.keep hb, h.so, h.sb, h.ob, h.sn, h.on, bcl hb hl h.c0, bcl hb hl h.c1, bcl hb hl h.c2, (hb.frozen (p := ⟨nb, 0, none⟩) hl).trans h.z0, (hb.frozen (p := ⟨nb, 2, none⟩) hl).trans h.z2⟩
theorem Plain.NxAt.applied {W W' : World} {B b m m' nb : Nat} {now nx : List Fl} {vL : Value} {yS : Option Addr} {kS : Nat} {yO : Option Addr} {kO : Nat} {safe : List Fl} {os : List Dop} (h : NxAt W B b m nb now vL yS kS yO kO safe os) (ho : OnlyRow (some ⟨b, 0, none⟩) W W') (hT : Tab W' b m' (tabF nx)) (hok : filesB nx = true) : NxAt W' B b m' nb nx vL yS kS yO kO safe os := by
  have hl := lt_of_cell h.c0
  have hg := ho.gr
  have hn := Ne.symm h.bn
  exact ⟨hT, hok, h.bB, h.nB, h.bn, h.s.off hg h.sb, h.o.off hg h.ob, h.so, h.sb, h.ob, h.sn, h.on, grCell hg hn h.c0, grCell hg hn h.c1, grCell hg hn h.c2, grFroz hg hn hl h.z0, grFroz hg hn hl h.z2⟩
theorem Plain.NxAt.added {W W1 W2 : World} {B b m nb g' k' : Nat} {now : List Fl} {vL : Value} {yS : Option Addr} {kS : Nat} {yO : Option Addr} {kO : Nat} {safe : List Fl} {os : List Dop} {x : Dop} (h0 : NxAt W B b m nb now vL yS kS yO kO safe os) (hb : Below W.heap.size W W1) (hx : W.heap.size < W1.heap.size)
    (gr : W1.grownBy W2 (Value.slice yO os.length kO).ownBlock) (ow : OwnR dopE W2 B (.slice (some ⟨g', 0, none⟩) (os.length + 1) k') (os ++ [x])) (li : (Value.slice yO os.length kO).ownBlock = some g' ∨ g' = W1.heap.size) :
    NxAt (W2.setCell ⟨nb, 2, none⟩ (.slice (some ⟨g', 0, none⟩) (os.length + 1) k')) B b m nb now vL yS kS (some ⟨g', 0, none⟩) k' safe (os ++ [x]) := by
  have h := h0.below hb
  have hl : nb < W1.heap.size := lt_of_cell h.c0
  have hlb := h.tab.lt
  have hls := h.s.bl
  have e0 : (os ++ [x]).length = os.length + 1 := by simp
  -- what the append leaves alone
  have key : ∀ k, k < W1.heap.size → ¬ inB yO k → W2.heap[k]? = W1.heap[k]? := fun k hk hn => gr.block k hk fun q => by
    rw [eq_comm] at q
    exact hn (h.o.inb q)
  have t2 : Tab W2 b m (tabF now) := by
    obtain ⟨D, h1, h2⟩ := h.tab
    refine ⟨D, h1.kept gr (fun q => ?_), h2⟩
    rw [eq_comm] at q
    exact h.ob (h.o.inb q)
  have s2 : OwnR fileE W2 B (.slice yS safe.length kS) safe := h.s.other fun g q => key g (h.s.lt g q) (h.so g (h.s.inb q))
  have hbn := key nb hl h.on
  have d0 := (World.cell?_of_block (a := ⟨nb, 0, none⟩) hbn).trans h.c0
  have d1 := (World.cell?_of_block (a := ⟨nb, 1, none⟩) hbn).trans h.c1
  have d2 := (World.cell?_of_block (a := ⟨nb, 2, none⟩) hbn).trans h.c2
  have f0 := (World.frozen?_of_block (a := ⟨nb, 0, none⟩) hbn).trans h.z0
  have f2 := (World.frozen?_of_block (a := ⟨nb, 2, none⟩) hbn).trans h.z2
  have hg2 : ¬ inB (some ⟨g', 0, none⟩) nb := by
    rintro ⟨o, e⟩
    cases e
    rcases li with q | q
    · exact h.on (h.o.inb q)
    · omega
  have hgb : ¬ inB (some ⟨g', 0, none⟩) b := by
    rintro ⟨o, e⟩
    cases e
    rcases li with q | q
    · exact h.ob (h.o.inb q)
    · omega
  have hgs : ∀ g, inB yS g → ¬ inB (some ⟨g', 0, none⟩) g := by
    rintro g hs ⟨o, e⟩
    cases e
    rcases li with q | q
    · exact h.so _ hs (h.o.inb q)
    · have := (hls _ hs).2; omega
  have st : W2.grownBy (W2.setCell ⟨nb, 2, none⟩ (.slice (some ⟨g', 0, none⟩) (os.length + 1) k')) (some nb) := (OnlyRow.set (g := nb) (o := 0) 2 _).gr
  refine ⟨Tab.off t2 st h.bn, h.ok, h.bB, h.nB, h.bn, s2.off st h.sn, ?_, hgs, h.sb, hgb, h.sn, hg2, (cell_off (.inr (by decide))).trans d0, (cell_off (.inr (by decide))).trans d1, ?_, by rw [World.frozen?_setCell]; exact f0, by rw [World.frozen?_setCell]; exact f2⟩
  · rw [e0]; exact ow.off st hg2
  · rw [e0]; exact cell_set d2
end Go.Proofs.YtliklijcdcfomaaGreat

