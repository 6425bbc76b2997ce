/- Texts of one kind, put together. -/
import Derived.Test.YtakalfckhailjaaGreatGAS
import Derived.Test.YtakalfckhailjaaGreatGAU
import Derived.Deep.RegionHeld3

/- Ops done on a disk, all or none, by the program. -/
namespace Go.Proofs.YtakalfckhailjaaGreat
open Go.RowKit Go.Maps Plain
set_option linter.unusedVariables false

theorem Plain.apartNil2 : Apart none none none := by refine ⟨?_, ?_, ?_⟩ <;> (rintro g ⟨o, e⟩; cases e)
theorem disk_liv2 {live safe : List Fl} {ops : List Dop} (h : diskB live safe ops = true) : filesB live = true := by
  unfold diskB at h
  rw [Bool.and_eq_true] at h
  exact h.1
/-- A disk that is told, out of the block of the answer. -/
theorem dskRet {f : Value → Value} {w w7 : World} {B rb : Nat} {y1 y2 y3 : Option Addr} {k1 k2 k3 : Nat} {live safe : List Fl} {ops : List Dop} (h1 : OwnR fileE w7 B (.slice y1 live.length k1) live) (h2 : OwnR fileE w7 B (.slice y2 safe.length k2) safe) (h3 : OwnR dopE w7 B (.slice y3 ops.length k3) ops) (ap : Apart y1 y2 y3)
    (hrb : w.heap.size ≤ rb) (hB : rb < B) (hb : Below w.heap.size w w7) : DskPost f live safe ops w (.returned (f (.agg #[.slice y1 live.length k1, .slice y2 safe.length k2, .slice y3 ops.length k3]))) (((w7.setCell ⟨rb, 0, none⟩ (.slice y1 live.length k1)).setCell ⟨rb, 1, none⟩ (.slice y2 safe.length k2)).setCell ⟨rb, 2, none⟩ (.slice y3 ops.length k3)) := by
  refine ⟨y1, k1, y2, k2, y3, k3, rfl, (h1.other ?_).le (by omega), (h2.other ?_).le (by omega), (h3.other ?_).le (by omega), ap, ((hb.setCell hrb _).setCell hrb _).setCell hrb _⟩
  · intro g hg
    have hg2 : rb ≠ g := by have := (World.ownsRow.lt h1 g hg).1; omega
    rw [heap_set hg2, heap_set hg2, heap_set hg2]
  · intro g hg
    have hg2 : rb ≠ g := by have := (World.ownsRow.lt h2 g hg).1; omega
    rw [heap_set hg2, heap_set hg2, heap_set hg2]
  · intro g hg
    have hg2 : rb ≠ g := by have := (World.ownsRow.lt h3 g hg).1; omega
    rw [heap_set hg2, heap_set hg2, heap_set hg2]

theorem appLd {α : Type} {e : Elem α} {ops : Array Oper} {rest : List Oper} {o : Oper} {a : Act} {Q : Exit → Act → World → Prop} (hgd : o.guard = none) (s x : Operand)
    (ho : o.op = .call { callee := .builtin .append, args := #[s, x], argTypes := #[e.S, e.S] })
    {w : World} {B : Nat} {v : Value} {xs ys : List α} (hown : OwnR e w B v xs) (hs : a.eval s = v) (g m c : Nat) (hx : a.eval x = .slice (some ⟨g, 0, none⟩) m c) (hy : ys.length = m) (hr : RowAt e w (some ⟨g, 0, none⟩) ys) (hm : 0 < m)
    (hlen : xs.length + m < 100000000) (hB : B ≤ w.heap.size)
    (h : ∀ g' c' w', OwnR e w' B (.slice (some ⟨g', 0, none⟩) (xs.length + m) c') (xs ++ ys) → w.grownBy w' v.ownBlock → (v.ownBlock = some g' ∨ g' = w.heap.size) → wpList Tryz.prog ops Q rest (a.put o.dst (.slice (some ⟨g', 0, none⟩) (xs.length + m) c')) w') :
    wpList Tryz.prog ops Q (o :: rest) a w := by
  obtain ⟨i0, hi, hz0, hz1, hz2⟩ := info_parts e.hinfo
  subst hy
  have hby := e.hb
  refine wpList_append_lies _ hgd s x e.S ho B e.E i0 e.zero e.n e.bytes e.hund hi hz0 hz1 hz2 e.hz e.hn v xs.length (xs.flatMap e.enc) hs hown
    ⟨g, 0, none⟩ ys.length c (ys.flatMap e.enc) hx (flat_len e.enc e.n e.hlen ys) ?_ ?_ hm (by unfold maxLen; omega) ?_ hB _ rfl ?_
  · intro j u hj
    have hjl : j < ys.length * e.n := by
      have := (List.getElem?_eq_some_iff.1 hj).1
      rw [flat_len e.enc e.n e.hlen] at this
      exact this
    have hn := e.hn
    have hq : j / e.n < ys.length := Nat.div_lt_of_lt_mul (by rw [Nat.mul_comm]; exact hjl)
    have hm : j % e.n < e.n := Nat.mod_lt _ hn
    have hd : j / e.n * e.n + j % e.n = j := by rw [Nat.mul_comm]; exact Nat.div_add_mod j e.n
    obtain ⟨g', e1, hl, hc⟩ := hr (j / e.n) hq
    cases e1
    have h1 := (hc (j % e.n) hm).1
    rw [hd] at h1
    have h2 := flat_get e.enc e.n e.hlen ys (j / e.n) (j % e.n) hq hm
    rw [hd] at h2
    rw [show (⟨g, 0, none⟩ : Addr).add j = ⟨g, j, none⟩ from by unfold Addr.add; split <;> simp_all, h1, ← h2]
    exact hj
  · intro u hu
    obtain ⟨y, _, hy⟩ := List.mem_flatMap.1 hu
    exact e.hone y u hy
  · exact Nat.le_trans (Nat.mul_le_mul_left _ hby) (by omega)
  · intro g' c' w' h1 h2 h3 h4
    refine h g' c' w' ?_ h2 h3
    unfold OwnR
    rw [List.flatMap_append, List.length_append]
    exact h1

theorem Plain.NxAt.mk1 {W : World} {B b m nb : Nat} {now : List Fl} {aL : Option Addr} {lL kL : Nat} {yS : Option Addr} {kS : Nat} {yO : Option Addr} {kO : Nat} {safe : List Fl} {os : List Dop} {v0 v1 v2 : Value} (tab : Tab W b m (tabF now)) (ok : filesB now = true) (bB : B ≤ b) (nB : B ≤ nb) (bn : b ≠ nb)
    (s : OwnR fileE W B (.slice yS safe.length kS) safe) (o : OwnR dopE W B (.slice yO os.length kO) os) (so : ∀ g, inB yS g → ¬ inB yO g) (sb : ¬ inB yS b) (ob : ¬ inB yO b) (sn : ¬ inB yS nb) (on : ¬ inB yO nb)
    (u0 : W.cell? ⟨nb, 0, none⟩ = some v0) (u1 : W.cell? ⟨nb, 1, none⟩ = some v1) (u2 : W.cell? ⟨nb, 2, none⟩ = some v2) (j0 : W.frozen? ⟨nb, 0, none⟩ = false) (j2 : W.frozen? ⟨nb, 2, none⟩ = false) :
    NxAt (((W.setCell ⟨nb, 0, none⟩ (.slice aL lL kL)).setCell ⟨nb, 1, none⟩ (.slice yS safe.length kS)).setCell ⟨nb, 2, none⟩ (.slice yO os.length kO)) B b m nb now (.slice aL lL kL) yS kS yO kO safe os := by
  have st : ∀ (X : World) (i : Nat) (v : Value), X.grownBy (X.setCell ⟨nb, i, none⟩ v) (some nb) := fun X i v => (OnlyRow.set (g := nb) (o := 0) i v).gr
  refine ⟨Tab.off (Tab.off (Tab.off tab (st _ _ _) bn) (st _ _ _) bn) (st _ _ _) bn, ok, bB, nB, bn, ((s.off (st _ _ _) sn).off (st _ _ _) sn).off (st _ _ _) sn, ((o.off (st _ _ _) on).off (st _ _ _) on).off (st _ _ _) on, so, sb, ob, sn, on, ?_, ?_, ?_, ?_, ?_⟩
  · exact (cell_off (.inr (by decide))).trans ((cell_off (.inr (by decide))).trans (cell_set u0))
  · exact (cell_off (.inr (by decide))).trans (cell_set ((cell_off (.inr (by decide))).trans u1))
  · exact cell_set ((cell_off (.inr (by decide))).trans ((cell_off (.inr (by decide))).trans u2))
  · rw [World.frozen?_setCell, World.frozen?_setCell, World.frozen?_setCell]; exact j0
  · rw [World.frozen?_setCell, World.frozen?_setCell, World.frozen?_setCell]; exact j2
theorem Plain.NxAt.mk2 {W : World} {B b m : Nat} {now : List Fl} {aL : Option Addr} {lL kL : Nat} {yS : Option Addr} {kS : Nat} {yO : Option Addr} {kO : Nat} {safe : List Fl} {os : List Dop} (tab : Tab W b m (tabF now)) (ok : filesB now = true) (bB : B ≤ b) (nB : B ≤ W.heap.size)
    (s : OwnR fileE W B (.slice yS safe.length kS) safe) (o : OwnR dopE W B (.slice yO os.length kO) os) (so : ∀ g, inB yS g → ¬ inB yO g) (sb : ¬ inB yS b) (ob : ¬ inB yO b) :
    NxAt (W.alloc (.cells #[.slice aL lL kL, .slice yS safe.length kS, .slice yO os.length kO] 27)) B b m W.heap.size now (.slice aL lL kL) yS kS yO kO safe os := by
  have hlt := tab.lt
  have hb := bel1 W (.cells #[.slice aL lL kL, .slice yS safe.length kS, .slice yO os.length kO] 27)
  exact ⟨tab.below hb hlt, ok, bB, nB, by omega, s.keep hb, o.keep hb, so, sb, ob, fun h => by have := (s.bl _ h).2; omega, fun h => by have := (o.bl _ h).2; omega, by simp [go_sem], by simp [go_sem], by simp [go_sem], by simp [go_sem], by simp [go_sem]⟩

end Go.Proofs.YtakalfckhailjaaGreat


/- Disks that are synced, by the program: rows cloned. -/
namespace Go.Proofs.YtakalfckhailjaaGreat
open Go.RowKit Plain
set_option linter.unusedVariables false

namespace Plain
/-- The files behind a sync. -/
def synL (live safe : List Fl) (ops : List Dop) : List Fl := if diskB live safe ops then live else []
theorem syn_bound (live safe : List Fl) (ops : List Dop) : (synL live safe ops).length ≤ live.length := by unfold synL; split <;> simp
theorem apartNil : Apart none none none := by refine ⟨?_, ?_, ?_⟩ <;> (rintro g ⟨o, e⟩; cases e)
theorem apart2 {a b : Option Addr} (h : ∀ g, inB a g → inB b g → False) : Apart a b none := by
  refine ⟨fun g h1 h2 => h g h1 h2, ?_, ?_⟩ <;> (rintro g - ⟨o, e⟩; cases e)
end Plain

set_option maxRecDepth 10000 in
set_option maxHeartbeats 4000000 in
theorem impl_SyncO (aL : Option Addr) (nL cL : Nat) (live : List Fl) (aS : Option Addr) (nS cS : Nat) (safe : List Fl) (aO : Option Addr) (nO cO : Nat) (ops : List Dop) (w : World) (h : DiskO w aL nL cL live aS nS cS safe aO nO cO ops) :
    Calls Tryz.prog 84 #[.agg #[.slice aL nL cL, .slice aS nS cS, .slice aO nO cO]] w (DskPost (fun v => v) (synL live safe ops) (synL live safe ops) [] w) := by
  obtain ⟨Wa, hWa⟩ : ∃ Wa, Wa = w.alloc (.cells #[.slice aL nL cL, .slice aS nS cS, .slice aO nO cO] 27) := ⟨_, rfl⟩
  obtain ⟨W0, hW0⟩ : ∃ W0, W0 = Wa.alloc (.cells #[.slice none 0 0, .slice none 0 0, .slice none 0 0] 27) := ⟨_, rfl⟩
  have hba : Below w.heap.size w Wa := by rw [hWa]; exact bel1 _ _
  have hsa : Wa.heap.size = w.heap.size + 1 := by rw [hWa]; simp
  have hs0 : W0.heap.size = w.heap.size + 2 := by rw [hW0]; simp [hsa]
  have hb0 : Below Wa.heap.size Wa W0 := by rw [hW0]; exact bel1 _ _
  have c0 : W0.cell? ⟨w.heap.size, 0, none⟩ = some (.slice aL nL cL) := bcl hb0 (by omega) (by rw [hWa]; simp [go_sem])
  have c1 : W0.cell? ⟨w.heap.size, 1, none⟩ = some (.slice aS nS cS) := bcl hb0 (by omega) (by rw [hWa]; simp [go_sem])
  have c2 : W0.cell? ⟨w.heap.size, 2, none⟩ = some (.slice aO nO cO) := bcl hb0 (by omega) (by rw [hWa]; simp [go_sem])
  have hr : ∀ i, i < 3 → W0.cell? ⟨w.heap.size + 1, i, none⟩ = some (.slice none 0 0) ∧ W0.frozen? ⟨w.heap.size + 1, i, none⟩ = false := by
    intro i hi
    rw [hW0, ← hsa]
    rcases i with _ | _ | _ | i
    all_goals first | omega | simp [go_sem]
  have HC := hide (fun (W : World) (hW : Below W0.heap.size W0 W) => And.intro (bcl hW (show w.heap.size < W0.heap.size by omega) c0) (And.intro (bcl hW (show w.heap.size < W0.heap.size by omega) c1) (bcl hW (show w.heap.size < W0.heap.size by omega) c2)))
  have HR := hide (fun (W : World) (hW : Below W0.heap.size W0 W) (i : Nat) (hi : i < 3) => And.intro (bcl hW (show w.heap.size + 1 < W0.heap.size by omega) (hr i hi).1) ((hW.frozen (p := ⟨w.heap.size + 1, i, none⟩) (show w.heap.size + 1 < W0.heap.size by omega)).trans (hr i hi).2))
  have HFIN := hide (fun (W : World) (hW : Below W0.heap.size W0 W) => belOn (belOn hba hb0) hW)
  have HD := hide (fun (W : World) (hW : Below W0.heap.size W0 W) => (h.below (belOn hba hb0)).below hW)
  have HW0 := hide (show (w.alloc (.cells #[.slice aL nL cL, .slice aS nS cS, .slice aO nO cO] 27)).alloc (.cells #[.slice none 0 0, .slice none 0 0, .slice none 0 0] 27) = W0 from by rw [hW0, hWa])
  have HLL := hide h.ll
  have hbl := h.bl
  have HOK := hide (impl_DiskOkO aL nL cL live aS nS cS safe aO nO cO ops W0 (unhide HD _ (Below.refl _ _)))
  have HS0 := hide hs0
  clear hba hb0 hWa hW0 hr h hsa hs0
  obtain ⟨L, hL⟩ : ∃ L, synL live safe ops = L := ⟨_, rfl⟩
  rw [hL]
  unfold synL at hL
  cases hd : diskB live safe ops with
  | false =>
    rw [hd] at HOK hL
    have HL := hide hL
    clear hd hL
    go_enter Tryz.func84, Tryz.ntmps84
    go_wp2_with fail
    rw [unhide HW0]
    refine (unhide HOK).mono ?_
    rintro e w1 ⟨rfl, hb1⟩
    have HB1 := hide hb1
    obtain ⟨r0, z0⟩ := unhide HR _ hb1 0 (by decide)
    obtain ⟨r1, z1⟩ := unhide HR _ hb1 1 (by decide)
    obtain ⟨r2, z2⟩ := unhide HR _ hb1 2 (by decide)
    clear hb1 c0 c1 c2
    go_wp2_with fail
    refine bodyPost_ret (v := .agg #[.slice none 0 0, .slice none 0 0, .slice none 0 0]) (by simp [results, Tryz.results84, go_sem, r0, r1, r2]) rfl ?_
    have hL : L = [] := by rw [← unhide HL]; rfl
    subst hL
    exact ⟨none, 0, none, 0, none, 0, rfl, ownR_nil _ _ _, ownR_nil _ _ _, ownR_nil _ _ _, apartNil, (((unhide HFIN _ (unhide HB1)).setCell (show w.heap.size ≤ w.heap.size + 1 by omega) _).setCell (show w.heap.size ≤ w.heap.size + 1 by omega) _).setCell (show w.heap.size ≤ w.heap.size + 1 by omega) _⟩
  | true =>
    rw [hd] at HOK hL
    have HL := hide hL
    clear hd hL
    go_enter Tryz.func84, Tryz.ntmps84
    go_wp2_with fail
    rw [unhide HW0]
    refine (unhide HOK).mono ?_
    rintro e w1 ⟨rfl, hb1⟩
    have HB1 := hide hb1
    obtain ⟨q0, q1, q2⟩ := unhide HC _ hb1
    obtain ⟨r0, z0⟩ := unhide HR _ hb1 0 (by decide)
    obtain ⟨r1, z1⟩ := unhide HR _ hb1 1 (by decide)
    obtain ⟨r2, z2⟩ := unhide HR _ hb1 2 (by decide)
    have l0 : w.heap.size < w1.heap.size := lt_of_cell q0
    have l1 : w.heap.size + 1 < w1.heap.size := lt_of_cell r0
    have HCL := hide (fun (W : World) (hW : Below w1.heap.size w1 W) => cloneFileO_calls aL nL cL live W (unhide HLL) hbl (unhide HD _ (belOn (unhide HB1) hW)).rl (unhide HD _ (belOn (unhide HB1) hW)).adl)
    clear hb1 c0 c1 c2
    go_wp2_with fail
    go_region_with (first
      | (go_at_call 78; refine (unhide HCL _ HB2).mono ?_; rintro e w3 ⟨y2, k2, rfl, o2, hb3⟩; have t0 := bcl (belOn HB2 hb3) l1 r0; have t1 := bcl (belOn HB2 hb3) l1 r1; have t2 := bcl (belOn HB2 hb3) l1 r2; have v0 := ((belOn HB2 hb3).frozen (p := ⟨w.heap.size + 1, 0, none⟩) l1).trans z0; have v1 := ((belOn HB2 hb3).frozen (p := ⟨w.heap.size + 1, 1, none⟩) l1).trans z1; have v2 := ((belOn HB2 hb3).frozen (p := ⟨w.heap.size + 1, 2, none⟩) l1).trans z2)
      | (go_at_call 78; refine (unhide HCL _ (belDrew (Below.refl _ _))).mono ?_; rintro e w2 ⟨y1, k1, rfl, o1, hb2⟩; have HB2 := bOfDrew hb2; have s0 := bcl HB2 l0 q0))
    all_goals (have HO1 := hide (o1.keep hb3))
    all_goals (have HO2 := hide o2)
    all_goals (have HY1 := hide o1.bl)
    all_goals (have HB3 := hide (belOn HB2 hb3))
    all_goals (have m2 := HB2.size)
    all_goals clear o1 o2 hb2 HB2 hb3 s0 r0 r1 r2 z0 z1 z2 q0 q1 q2
    all_goals (try go_wp2_with fail)
    all_goals refine bodyPost_ret (v := .agg #[.slice y1 nL k1, .slice y2 nL k2, .slice none 0 0]) (by simp [results, Tryz.results84, go_sem, t0, t1, t2]) rfl ?_
    all_goals (have hL : L = live := by rw [← unhide HL]; rfl)
    all_goals (subst hL)
    all_goals (have hn := unhide HLL)
    all_goals (subst hn)
    all_goals (have hs0 := unhide HS0)
    all_goals (have hz1 := (unhide HB1).size)
    all_goals refine ⟨y1, k1, y2, k2, none, 0, rfl, ((unhide HO1).other ?_).le (show w.heap.size ≤ w1.heap.size by omega), ((unhide HO2).other ?_).le (show w.heap.size ≤ w2.heap.size by omega), ownR_nil _ _ _, apart2 (fun g h1 h2 => by have := (unhide HY1 g h1).2; have := ((unhide HO2).bl g h2).1; omega), (((belOn (unhide HFIN _ (unhide HB1)) (unhide HB3)).setCell (show w.heap.size ≤ w.heap.size + 1 by omega) _).setCell (show w.heap.size ≤ w.heap.size + 1 by omega) _).setCell (show w.heap.size ≤ w.heap.size + 1 by omega) _⟩
    all_goals intro g hg
    all_goals (have hgl := World.ownsRow.lt (by first | exact unhide HO1 | exact unhide HO2) g hg)
    all_goals (have hzd : w1.drew.heap.size = w1.heap.size := rfl)
    all_goals (have hg2 : w.heap.size + 1 ≠ g := by have := hgl.1; omega)
    all_goals rw [heap_set hg2, heap_set hg2, heap_set hg2]

end Go.Proofs.YtakalfckhailjaaGreat

