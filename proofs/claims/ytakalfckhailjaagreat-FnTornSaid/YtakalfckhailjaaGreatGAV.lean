/- Texts of one kind, put together. -/
import Derived.Test.YtakalfckhailjaaGreatGAU
import Derived.Deep.RegionHeld3
import Derived.Deep.AppendLies
import Derived.Test.YtakalfckhailjaaGreatGAM

/- Disks copied, by the program. -/
namespace Go.Proofs.YtakalfckhailjaaGreat
open Go.RowKit Plain
set_option linter.unusedVariables false

end Go.Proofs.YtakalfckhailjaaGreat


/- A row appended to an empty slice that was just made, inside a region that draws its order. -/
namespace Go.Proofs.YtakalfckhailjaaGreat
open Go.RowKit Plain
set_option linter.unusedVariables false

/-- What an append to an empty slice in block g leaves. -/
structure Plain.AppE {α : Type} (e : Elem α) (g : Nat) (w w' : World) (a : Option Addr) (c : Nat) (ys : List α) : Prop where
  row : RowAt e w' a ys
  own : OwnR e w' g (.slice a ys.length c) ys
  gr : w.grownBy w' (some g)
  lies : ys = [] ∨ ∀ k, inB a k → k = g ∨ k = w.heap.size
theorem RowAt.grown {α : Type} {e : Elem α} {w w' : World} {a : Option Addr} {g : Nat} {ys : List α} (h : RowAt e w a ys) (hg : w.grownBy w' (some g)) (hne : ys = [] ∨ ∀ k, inB a k → k ≠ g) : RowAt e w' a ys := fun i hi => by
  obtain ⟨k, e1, hl, hc⟩ := h i hi
  have hk : some k ≠ some g := by
    rcases hne with h | h
    · rw [h] at hi; simp at hi
    · exact fun q => h k ⟨0, e1⟩ (Option.some.inj q)
  have hb := hg.block k hl hk
  exact ⟨k, e1, Nat.lt_of_lt_of_le hl hg.size, fun j hj => ⟨(World.cell?_of_block (a := ⟨k, i * e.n + j, none⟩) hb).trans (hc j hj).1, (World.frozen?_of_block (a := ⟨k, i * e.n + j, none⟩) hb).trans (hc j hj).2⟩⟩
theorem Plain.litN (W : World) (x : Obj) : (W.alloc x).heap[W.heap.size]? = some x := by show (W.heap.push x)[W.heap.size]? = some x; rw [Array.getElem?_push, if_pos rfl]
theorem Plain.lit0 (W : World) (x : Obj) : (W.alloc x).drew.heap[W.heap.size]? = some x := litN W x
theorem RowAt.setO {α : Type} {e : Elem α} {W : World} {a : Option Addr} {ys : List α} {b i : Nat} {u : Value} (h : RowAt e W a ys) (hne : ys = [] ∨ ∀ k, inB a k → k ≠ b) : RowAt e (W.setCell ⟨b, i, none⟩ u) a ys := by
  rcases hne with rfl | hne
  · exact fun i hi => by simp at hi
  · exact h.offR (b := some ⟨b, 0, none⟩) (OnlyRow.set i u) (fun g hg ⟨o, e⟩ => by cases e; exact hne _ hg rfl)
theorem Plain.AppE.far {α : Type} {e : Elem α} {g B : Nat} {w w' : World} {a : Option Addr} {c : Nat} {ys : List α} (h : AppE e g w w' a c ys) (h1 : B < g) (h2 : B < w.heap.size) : ys = [] ∨ ∀ k, inB a k → k ≠ B :=
  h.lies.imp id fun q k hk => by rcases q k hk with rfl | rfl <;> omega
theorem Plain.AppE.ne {α : Type} {e : Elem α} {g g2 : Nat} {w w' : World} {a : Option Addr} {c : Nat} {ys : List α} (h : AppE e g w w' a c ys) (h1 : g ≠ g2) (h2 : g2 < w.heap.size ∨ w'.heap.size ≤ g2) : ys = [] ∨ ∀ k, inB a k → k ≠ g2 := by
  rcases h.lies with q | q
  · exact .inl q
  · refine .inr fun k hk => ?_
    have hl := (h.own.bl k hk).2
    rcases q k hk with rfl | rfl
    · exact h1
    · omega
end Go.Proofs.YtakalfckhailjaaGreat


/- Disks that lie in a block of their own. -/
namespace Go.Proofs.YtakalfckhailjaaGreat
open Go.RowKit Plain
set_option linter.unusedVariables false

/-- A disk's three slices in a block of their own. -/
structure Plain.DC (b : Nat) (vL vS vO : Value) (W : World) : Prop where
  lt : b < W.heap.size
  c0 : W.cell? ⟨b, 0, none⟩ = some vL
  c1 : W.cell? ⟨b, 1, none⟩ = some vS
  c2 : W.cell? ⟨b, 2, none⟩ = some vO
theorem Plain.DC.below {b : Nat} {vL vS vO : Value} {W W' : World} (h : DC b vL vS vO W) (hb : Below W.heap.size W W') : DC b vL vS vO W' := ⟨Nat.lt_of_lt_of_le h.lt hb.size, bcl hb h.lt h.c0, bcl hb h.lt h.c1, bcl hb h.lt h.c2⟩
theorem Plain.DC.offP {b : Nat} {vL vS vO : Value} {W W' : World} {p : Nat → Prop} (h : DC b vL vS vO W) (ho : OnlyP p W W') (hp : ¬ p b) : DC b vL vS vO W' := by
  have hb := ho.block b h.lt hp
  exact ⟨Nat.lt_of_lt_of_le h.lt ho.size, (World.cell?_of_block (a := ⟨b, 0, none⟩) hb).trans h.c0, (World.cell?_of_block (a := ⟨b, 1, none⟩) hb).trans h.c1, (World.cell?_of_block (a := ⟨b, 2, none⟩) hb).trans h.c2⟩
theorem Plain.DC.new (W : World) (a b c : Option Addr) (n m k i j l : Nat) : DC W.heap.size (.slice a n i) (.slice b m j) (.slice c k l) (W.alloc (.cells #[.slice a n i, .slice b m j, .slice c k l] 27)) := ⟨by simp, by simp [go_sem], by simp [go_sem], by simp [go_sem]⟩
end Go.Proofs.YtakalfckhailjaaGreat


/- Disks copied, by the program, wherever their slices lie. -/
namespace Go.Proofs.YtakalfckhailjaaGreat
open Go.RowKit Plain
set_option linter.unusedVariables false

set_option maxRecDepth 10000 in
theorem nil_dop0 (W : World) : Sem.run Tryz.prog (binOp BinOp.eql 25 (Value.slice none 0 0) (Value.slice none 0 0)) W = .ok (.bool true) W := by
  first | rfl | (unfold binOp; simp [go_sem, Tryz.underlying25]) | (simp [binOp, go_sem])

set_option maxRecDepth 10000 in
theorem cloneDOp0_calls (w : World) : Calls Tryz.prog 79 #[.slice none 0 0] w fun e w' => e = .returned (.slice none 0 0) ∧ w = w' := by
  have hnil := nil_dop0
  go_enter Tryz.func79, Tryz.ntmps79
  go_wp2_with fail
  go_ret
  exact ⟨rfl, rfl⟩

theorem cloneDOpO_calls (a : Option Addr) (n c : Nat) (fs : List Dop) (w : World) (hn : fs.length = n) (hn2 : n ≤ 1048576) (h : RowAt dopE w a fs) (had : AdOk a c) :
    Calls Tryz.prog 79 #[.slice a n c] w fun e w' => ∃ a' c', e = .returned (.slice a' n c') ∧ OwnR dopE w' w.heap.size (.slice a' n c') fs ∧ Below w.heap.size w w' := by
  rcases had with ⟨rfl, rfl⟩ | ⟨g, rfl⟩
  · have h0 : fs = [] := by
      cases fs with
      | nil => rfl
      | cons f t => obtain ⟨g, e, _⟩ := h 0 (by simp); cases e
    subst h0
    subst hn
    refine (cloneDOp0_calls w).mono ?_
    rintro e w' ⟨rfl, rfl⟩
    exact ⟨none, 0, rfl, ownR_nil _ _ _, Below.refl _ _⟩
  · exact cloneDOp_calls g n c fs w hn hn2 h

set_option maxRecDepth 10000 in
set_option maxHeartbeats 4000000 in
theorem copyOfDiskA_calls (q1L : Option Addr) (nL cL : Nat) (live : List Fl) (q2S : Option Addr) (nS cS : Nat) (safe : List Fl) (q3O : Option Addr) (nO cO : Nat) (ops : List Dop) (w : World) (h : DiskAt w q1L nL cL live q2S nS cS safe q3O nO cO ops) :
    Calls Tryz.prog 35 #[.agg #[.slice q1L nL cL, .slice q2S nS cS, .slice q3O nO cO]] w (DskPost (fun v => v) live safe ops w) := by
  obtain ⟨Wa, hWa⟩ : ∃ Wa, Wa = w.alloc (.cells #[.slice q1L nL cL, .slice q2S nS cS, .slice q3O nO cO] 27) := ⟨_, rfl⟩
  obtain ⟨W0, hW0⟩ : ∃ W0, W0 = Wa.alloc (.cells #[.slice none 0 0, .slice none 0 0, .slice none 0 0] 27) := ⟨_, rfl⟩
  have hba : Below w.heap.size w Wa := by rw [hWa]; exact bel1 _ _
  have hsa : Wa.heap.size = w.heap.size + 1 := by rw [hWa]; simp
  have hs0 : W0.heap.size = w.heap.size + 2 := by rw [hW0]; simp [hsa]
  have hb0 : Below Wa.heap.size Wa W0 := by rw [hW0]; exact bel1 _ _
  have c0 : W0.cell? ⟨w.heap.size, 0, none⟩ = some (.slice q1L nL cL) := bcl hb0 (by omega) (by rw [hWa]; simp [go_sem])
  have c1 : W0.cell? ⟨w.heap.size, 1, none⟩ = some (.slice q2S nS cS) := bcl hb0 (by omega) (by rw [hWa]; simp [go_sem])
  have c2 : W0.cell? ⟨w.heap.size, 2, none⟩ = some (.slice q3O nO cO) := bcl hb0 (by omega) (by rw [hWa]; simp [go_sem])
  have hr : ∀ i, i < 3 → W0.cell? ⟨w.heap.size + 1, i, none⟩ = some (.slice none 0 0) ∧ W0.frozen? ⟨w.heap.size + 1, i, none⟩ = false := by
    intro i hi
    rw [hW0, ← hsa]
    rcases i with _ | _ | _ | i
    all_goals first | omega | simp [go_sem]
  have HC := hide (fun (W : World) (hW : Below W0.heap.size W0 W) => And.intro (bcl hW (show w.heap.size < W0.heap.size by omega) c0) (And.intro (bcl hW (show w.heap.size < W0.heap.size by omega) c1) (bcl hW (show w.heap.size < W0.heap.size by omega) c2)))
  have HR := hide (fun (W : World) (hW : Below W0.heap.size W0 W) (i : Nat) (hi : i < 3) => And.intro (bcl hW (show w.heap.size + 1 < W0.heap.size by omega) (hr i hi).1) ((hW.frozen (p := ⟨w.heap.size + 1, i, none⟩) (show w.heap.size + 1 < W0.heap.size by omega)).trans (hr i hi).2))
  have HFIN := hide (fun (W : World) (hW : Below W0.heap.size W0 W) => belOn (belOn hba hb0) hW)
  have HD := hide (fun (W : World) (hW : Below W0.heap.size W0 W) => (h.below (belOn hba hb0)).below hW)
  have HW0 := hide (show (w.alloc (.cells #[.slice q1L nL cL, .slice q2S nS cS, .slice q3O nO cO] 27)).alloc (.cells #[.slice none 0 0, .slice none 0 0, .slice none 0 0] 27) = W0 from by rw [hW0, hWa])
  have HAD := hide (And.intro h.adl (And.intro h.ads h.ado))
  have HLL := hide h.ll
  have HLS := hide h.ls
  have HLO := hide h.lo
  have hbl := h.bl
  have hbs := h.bs
  have hbo := h.bo
  have HS0 := hide hs0
  have l0 : w.heap.size < W0.heap.size := by omega
  have l1 : w.heap.size + 1 < W0.heap.size := by omega
  obtain ⟨r0, z0⟩ := hr 0 (by decide)
  obtain ⟨r1, z1⟩ := hr 1 (by decide)
  obtain ⟨r2, z2⟩ := hr 2 (by decide)
  have HC1 := hide (fun (W : World) (hW : Below W0.heap.size W0 W) => cloneFileO_calls q1L nL cL live W (unhide HLL) hbl (unhide HD _ hW).rl (unhide HAD).1)
  have HC2 := hide (fun (W : World) (hW : Below W0.heap.size W0 W) => cloneFileO_calls q2S nS cS safe W (unhide HLS) hbs (unhide HD _ hW).rs (unhide HAD).2.1)
  have HC3 := hide (fun (W : World) (hW : Below W0.heap.size W0 W) => cloneDOpO_calls q3O nO cO ops W (unhide HLO) hbo (unhide HD _ hW).ro (unhide HAD).2.2)
  clear hba hb0 hWa hW0 hr h hsa hs0 HC HR
  go_enter Tryz.func35, Tryz.ntmps35
  go_wp2_with fail
  rw [unhide HW0]
  go_region_held3 (fun w' => w'.cell? ⟨w.heap.size, 0, none⟩ = some (.slice q1L nL cL) ∧ w'.cell? ⟨w.heap.size, 1, none⟩ = some (.slice q2S nS cS) ∧ w'.cell? ⟨w.heap.size, 2, none⟩ = some (.slice q3O nO cO)) (go_keep) (first
    | (go_at_call 79; refine (unhide HC3 _ B3).mono ?_; rintro e w4 ⟨y3, k3, rfl, o3, hb4⟩; have B4 := belOn B3 hb4; have d0 := bcl B4 l0 c0; have d1 := bcl B4 l0 c1; have d2 := bcl B4 l0 c2; have t0 := bcl B4 l1 r0; have t1 := bcl B4 l1 r1; have t2 := bcl B4 l1 r2; have v0 := (B4.frozen (p := ⟨w.heap.size + 1, 0, none⟩) l1).trans z0; have v1 := (B4.frozen (p := ⟨w.heap.size + 1, 1, none⟩) l1).trans z1; have v2 := (B4.frozen (p := ⟨w.heap.size + 1, 2, none⟩) l1).trans z2)
    | (go_at_call 78; refine (unhide HC2 _ B2).mono ?_; rintro e w3 ⟨y2, k2, rfl, o2, hb3⟩; have B3 := belOn B2 hb3; have s0 := bcl B3 l0 c0; have s1 := bcl B3 l0 c1; have s2 := bcl B3 l0 c2)
    | (go_at_call 78; refine (unhide HC1 _ (belDrew (Below.refl _ _))).mono ?_; rintro e w2 ⟨y1, k1, rfl, o1, hb2⟩; have B2 := bOfDrew hb2; have q0 := bcl B2 l0 c0; have q1 := bcl B2 l0 c1; have q2 := bcl B2 l0 c2))
  all_goals (have HO1 := hide (o1.keep (belOn hb3 hb4)))
  all_goals (have HO2 := hide (o2.keep hb4))
  all_goals (have HO3 := hide o3)
  all_goals (have HY1 := hide o1.bl)
  all_goals (have HY2 := hide o2.bl)
  all_goals (have HB4 := hide B4)
  all_goals (have m2 := B2.size)
  all_goals (have m3 := hb3.size)
  all_goals clear o1 o2 o3 hb2 B2 B3 B4 hb3 hb4 s0 s1 s2 q0 q1 q2 d0 d1 d2 r0 r1 r2 z0 z1 z2 c0 c1 c2
  all_goals (try go_wp2_with fail)
  all_goals refine bodyPost_ret (v := .agg #[.slice y1 nL k1, .slice y2 nS k2, .slice y3 nO k3]) (by simp [results, Tryz.results35, go_sem, t0, t1, t2]) rfl ?_
  all_goals (have hn1 := unhide HLL)
  all_goals (have hn2 := unhide HLS)
  all_goals (have hn3 := unhide HLO)
  all_goals (subst hn1 hn2 hn3)
  all_goals (have hs0 := unhide HS0)
  all_goals (have hzd : W0.drew.heap.size = W0.heap.size := rfl)
  all_goals refine ⟨y1, k1, y2, k2, y3, k3, rfl, ((unhide HO1).other ?_).le (show w.heap.size ≤ W0.heap.size by omega), ((unhide HO2).other ?_).le (show w.heap.size ≤ w2.heap.size by omega), ((unhide HO3).other ?_).le (show w.heap.size ≤ w3.heap.size by omega), ⟨fun g h1 h2 => by have := (unhide HY1 g h1).2; have := ((unhide HO2).bl g h2).1; omega, fun g h1 h2 => by have := (unhide HY1 g h1).2; have := ((unhide HO3).bl g h2).1; omega, fun g h1 h2 => by have := (unhide HY2 g h1).2; have := ((unhide HO3).bl g h2).1; omega⟩, (((unhide HFIN _ (unhide HB4)).setCell (show w.heap.size ≤ w.heap.size + 1 by omega) _).setCell (show w.heap.size ≤ w.heap.size + 1 by omega) _).setCell (show w.heap.size ≤ w.heap.size + 1 by omega) _⟩
  all_goals intro g hg
  · have hgl := World.ownsRow.lt (unhide HO1) g hg
    have hg2 : w.heap.size + 1 ≠ g := by have := hgl.1; omega
    rw [heap_set hg2, heap_set hg2, heap_set hg2]
  · have hgl := World.ownsRow.lt (unhide HO2) g hg
    have hg2 : w.heap.size + 1 ≠ g := by have := hgl.1; omega
    rw [heap_set hg2, heap_set hg2, heap_set hg2]
  · have hgl := World.ownsRow.lt (unhide HO3) g hg
    have hg2 : w.heap.size + 1 ≠ g := by have := hgl.1; omega
    rw [heap_set hg2, heap_set hg2, heap_set hg2]
end Go.Proofs.YtakalfckhailjaaGreat


/- ReadFrames of the specification. -/
namespace Go.Proofs.YtakalfckhailjaaGreat
open Go.RowKit Plain
set_option linter.unusedVariables false

set_option maxRecDepth 10000 in
set_option maxHeartbeats 2000000 in
theorem specRead_calls (s : ByteArray) (w : World) (hs : s.size ≤ 1000000000) :
    Calls Tryz.prog 71 #[.string s] w fun e w' => ∃ v, e = .returned (.tuple #[v, .int .i64 ((readF s).2.1 : Nat), .int .i64 (readF s).2.2]) ∧ OwnF w' w.heap.size v (readF s).1 ∧ Below w.heap.size w w' := by
  go_enter Tryz.func71, Tryz.ntmps71
  go_wp2_with fail
  go_loopw [5, 6, 7, 8, 9] (fun v i _ _ _ wr => ∃ (F : List (Int × ByteArray)) (p : Nat), i = .int .i64 p ∧ Hid (Mid s F p) ∧ Hid (OwnF wr w.heap.size v F) ∧ Hid (Below w.heap.size w wr)) (fun _ i _ _ _ _ => s.size - (intOf i).toNat)
  case atStart => exact ⟨[], 0, rfl, Mid.start s, ownF_empty w _ (Nat.le_refl _), (Below.refl _ _).alloc (Nat.le_refl _) _⟩
  case round =>
    obtain ⟨F, p, rfl, HM, HO, HB⟩ := hrel
    obtain ⟨hm1, hm2, -⟩ := unhide HM
    obtain ⟨fa, fc, rfl⟩ := ownF_form (unhide HO)
    have hzr := (unhide HB).size
    by_cases hp : s.size ≤ p
    · have HE := hide ((unhide HM).ends hp)
      go_wp2_with fail
      go_ret3
      exact ⟨_, by rw [unhide HE]; rfl, by rw [unhide HE]; exact unhide HO, unhide HB⟩
    · by_cases hF : F.length = 2000
      · have HE := hide ((unhide HM).many hp hF)
        go_wp2_with fail
        go_ret3
        exact ⟨_, by rw [unhide HE]; rfl, by rw [unhide HE]; exact unhide HO, unhide HB⟩
      · have hF2 : F.length < 2000 := by omega
        have hnx := (unhide HM).next hp hF
        have hcd := (unhide HM).code hp hF
        have hrs := rest_size s p
        obtain ⟨r, hr⟩ : ∃ r, s.extract p s.size = r := ⟨_, rfl⟩
        rw [hr] at hnx hcd hrs
        have HNX := hide hnx
        have HCD := hide hcd
        clear hnx hcd
        go_wp2_with fail
        refine (l2Frame_calls r _ (by omega) (by omega)).mono ?_
        rintro e w4 ⟨rfl, hb4⟩
        have hz4 := hb4.size
        have HO4 := hide (ownF_below (unhide HO) hb4)
        have HB4 := hide ((unhide HB).trans (hb4.mono hzr))
        have hz5 := (unhide HB4).size
        clear hb4 HO HB
        by_cases hc : frC r = 0
        · have hfv : spV r = .tuple #[.agg #[.int .i64 (bAt r 0 : Nat), .string (frB r)], .int .i64 (frN r : Nat), .int .i64 0] := by unfold spV; rw [if_pos hc]
          have HN := hide (unhide HNX hc)
          obtain ⟨hpos, hpz, hpm, -, -⟩ := szI_ok (frC_ok hc)
          have hfn : frN r = (szI r).2 := rfl
          rw [← hfn] at hpos hpz hpm
          rw [hfv]
          have hfm : frm r = ((bAt r 0 : Int), frB r) := rfl
          rw [hfm] at HN
          clear hfv HNX HCD hc hfm hfn
          generalize (bAt r 0 : Int) = kd at HN
          generalize frB r = bd at HN
          generalize frN r = nn at HN hpos hpz hpm
          have hX : Below w4.heap.size w4 (w4.alloc (.cells #[.int .i64 kd, .string bd] 95)) := (Below.refl _ _).alloc (Nat.le_refl _) _
          have HOX := hide (ownF_below (unhide HO4) hX)
          have hzX := hX.size
          clear hX
          have j1 : (p : Int) + (nn : Int) ≤ 1000000000 := by omega
          go_wp2_with (at_builtin; go_must (refine appF rfl _ _ rfl (unhide HOX) rfl _ rfl (by simp) (by omega) (Nat.le_trans hz5 hzX) ?_); intro v' w6 hown6 hb6)
          go_roundw
          case rel =>
            have hball : Below w.heap.size w4 w6 := ((Below.refl w.heap.size w4).alloc hz5 _).trans hb6
            exact ⟨F ++ [(kd, bd)], p + nn, by go_num, HN, hide hown6, hide ((unhide HB4).trans hball)⟩
          case measure => simp [intOf]; omega
        · have hfv := spV_bad (r := r) rfl hc
          have HN := hide (unhide HCD hc)
          rw [hfv]
          clear hfv HNX HCD
          generalize frC r = cd at HN hc
          have hX : Below w4.heap.size w4 (w4.alloc (.cells #[.int .i64 0, .string ⟨#[]⟩] 95)) := (Below.refl _ _).alloc (Nat.le_refl _) _
          have HX := hide hX
          have HOX := hide (ownF_below (unhide HO4) hX)
          clear hX
          go_wp2_with fail
          go_ret3
          exact ⟨_, by rw [unhide HN]; rfl, by rw [unhide HN]; exact unhide HOX, (unhide HB4).trans ((unhide HX).mono hz5)⟩
end Go.Proofs.YtakalfckhailjaaGreat

