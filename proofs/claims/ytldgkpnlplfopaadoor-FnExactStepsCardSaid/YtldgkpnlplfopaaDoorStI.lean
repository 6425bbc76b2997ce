/- What a set has and another has not, as texts; how that agrees with the specification. -/
import Derived.Test.YtldgkpnlplfopaaDoorAskI
import Derived.Test.YtldgkpnlplfopaaDoorUAny
import Derived.Test.YtldgkpnlplfopaaDoorDelK
namespace Go.Proofs.YtldgkpnlplfopaaDoor
open Go.RowKit Go.Maps Plain
set_option linter.unusedVariables false

namespace Plain
theorem stB_good (d : Nat × Nat → Bool) : ∀ i, ∀ q ∈ (stB d i).1, gdB q
  | 0 => fun q hq => by simp [stB] at hq; subst hq; exact ⟨by simp, by simp⟩
  | i + 1 => by
    have ih := stB_good d i
    cases hq : (stB d i).1[i]? with
    | none =>
      have e : stB d (i + 1) = stB d i := by rw [stB, hq]
      rw [e]
      exact ih
    | some q =>
      obtain ⟨h1, h2⟩ := List.getElem?_eq_some_iff.1 hq
      have hg : gdB q := ih q (by rw [← h2]; exact List.getElem_mem _)
      cases hd : d q with
      | false => rw [stB_same d i q hq hd]; exact ih
      | true =>
        by_cases h2 : q.1 = 2
        · rw [stB_leaf d i q hq hd h2]; exact ih
        · rw [stB_more d i q hq hd h2]
          intro x hx
          rcases List.mem_append.1 hx with e | e
          · exact ih x e
          · exact (gdB_next hg (by have := hg.1; omega) x e).1
theorem stB_like {d d' : Nat × Nat → Bool} (h : ∀ q, gdB q → d q = d' q) : ∀ i, stB d i = stB d' i
  | 0 => rfl
  | i + 1 => by
    have ih := stB_like h i
    cases hq : (stB d i).1[i]? with
    | none => rw [stB, hq, stB, ← ih, hq]
    | some q =>
      obtain ⟨h1, h2⟩ := List.getElem?_eq_some_iff.1 hq
      have hg : gdB q := stB_good d i q (by rw [← h2]; exact List.getElem_mem _)
      rw [stB, hq, stB, ← ih, hq]
      simp only [h q hg]
theorem askB_like {d d' : Nat × Nat → Bool} (h : ∀ q, gdB q → d q = d' q) : askB d = askB d' := by unfold askB; rw [stB_like h]
theorem unlB_like {d d' : Nat × Nat → Bool} (h : ∀ q, gdB q → d q = d' q) : unlB d = unlB d' := by unfold unlB; rw [stB_like h]
theorem exist_end (d : Nat × Nat → Bool) : ∃ i, (stB d i).1.length = i ∧ stB d i = (askB d, unlB d) := by
  have hlen : ∀ i, i ≤ (stB d i).1.length ∨ ∃ j, (stB d j).1.length = j := by
    intro i
    induction i with
    | zero => exact .inl (Nat.zero_le _)
    | succ i ih =>
      rcases ih with h | h
      · by_cases e : (stB d i).1.length = i
        · exact .inr ⟨i, e⟩
        · left
          have h1 : i < (stB d i).1.length := by omega
          have hq : (stB d i).1[i]? = some (stB d i).1[i] := List.getElem?_eq_getElem h1
          generalize (stB d i).1[i] = q at hq
          cases hd : d q with
          | false => rw [stB_same d i q hq hd]; omega
          | true =>
            by_cases h2 : q.1 = 2
            · rw [stB_leaf d i q hq hd h2]; simp only; omega
            · rw [stB_more d i q hq hd h2]; simp only [List.length_append]; omega
      · exact .inr h
  have hex : ∃ j, (stB d j).1.length = j := by
    rcases hlen 274 with h | h
    · have := (stB_inv d 274 h).len h
      omega
    · exact h
  obtain ⟨j, hj⟩ := hex
  exact ⟨j, hj, stB_fin d j hj⟩
theorem ask_facts (d : Nat × Nat → Bool) : (askB d).length ≤ 273 ∧ (∀ q ∈ askB d, gdB q) ∧ (unlB d).length ≤ 273 ∧ ∀ q ∈ unlB d, gdB q := by
  obtain ⟨i, h1, h2⟩ := exist_end d
  have hv := stB_inv d i (by omega)
  have hl := hv.len (by omega)
  have hf := hv.few
  have hg := hv.good
  have hu := hv.unl
  rw [h2] at hl hf hg hu h1
  simp only at hl hf hg hu h1
  exact ⟨hl, hg, by omega, fun q hq => (hu q hq).1⟩
/-- What one set has and the other has not. -/
def exB (A B : List ByteArray) : List ByteArray := A.filter fun x => !anyB B x
theorem exB_set {A B : List ByteArray} (h : setB A = true) : (exB A B).length ≤ 200 ∧ (∀ s ∈ exB A B, digB s = true) ∧ Strict (exB A B) := by
  obtain ⟨s1, s2, s3⟩ := setB_all h
  exact ⟨Nat.le_trans (List.length_filter_le _ _) s1, fun s hs => s2 s (List.mem_filter.1 hs).1, List.Pairwise.filter _ s3⟩
theorem exB_mem {A B : List ByteArray} (x : ByteArray) : x ∈ exB A B ↔ x ∈ A ∧ x ∉ B := by
  unfold exB
  rw [List.mem_filter]
  constructor
  · rintro ⟨h1, h2⟩
    refine ⟨h1, fun q => ?_⟩
    rw [(anyB_mem B x).2 q] at h2
    simp at h2
  · rintro ⟨h1, h2⟩
    refine ⟨h1, ?_⟩
    have : anyB B x = false := by
      rw [Bool.eq_false_iff]
      exact fun q => h2 ((anyB_mem B x).1 q)
    rw [this]
    rfl
theorem ut_ls {A B : List ByteArray} (hA : setB A = true) {q : Nat × Nat} (hq : gdB q) : utB ((exB A B).map kyL) q = lsB A B q := by
  obtain ⟨s1, s2, s3⟩ := exB_set (B := B) hA
  unfold utB
  have hf := filt_map (p := prT q) (ls := exB A B) (prT_ok hq) s2
  rw [prT_size hq, prT_br hq] at hf
  rw [hf, map_back fun s hs => s2 s (List.mem_filter.1 hs).1]
  unfold exB lsB
  rw [List.filter_filter, List.filter_filter]
  apply List.filter_congr
  intro x _
  cases hp : preB (prT q) x with
  | false => simp
  | true =>
    have : anyB (B.filter (preB (prT q))) x = anyB B x := by
      rw [Bool.eq_iff_iff, anyB_mem, anyB_mem, List.mem_filter]
      exact ⟨fun h => h.1, fun h => ⟨h, hp⟩⟩
    simp [this]
theorem flat_ls {A B : List ByteArray} (hA : setB A = true) : ∀ (u : List (Nat × Nat)), (∀ q ∈ u, gdB q) → u.flatMap (utB ((exB A B).map kyL)) = u.flatMap (lsB A B)
  | [], _ => rfl
  | q :: u, h => by
    rw [List.flatMap_cons, List.flatMap_cons, ut_ls hA (h q (by simp)), flat_ls hA u fun x hx => h x (List.mem_cons_of_mem _ hx)]
theorem grF_root {ks : List (List UInt8)} {q : Nat × Nat} (hq : gdB q) {f : Nat → Nat → Option (List UInt8)} : grF ks 0 0 f q.1 q.2 = some (tN ks q.1 q.2) := by
  unfold grF
  rw [if_pos ⟨Nat.zero_le _, by rw [Nat.sub_zero]; exact Nat.div_eq_of_lt hq.2⟩]
theorem df_like {A B : List ByteArray} (hA : setB A = true) (hB : setB B = true) : ∀ q, gdB q → (!(tN (A.map kyL) q.1 q.2 == tN (B.map kyL) q.1 q.2)) = dfB A B q := by
  intro q hq
  rw [tN_nd (setB_all hA).2.1 hq, tN_nd (setB_all hB).2.1 hq]
  unfold dfB
  by_cases h : ndB A q = ndB B q
  · simp [h]
  · have h2 : kyL (ndB A q) ≠ kyL (ndB B q) := fun e => h (kyL_inj (nodeU_dig _ _ _) (nodeU_dig _ _ _) e)
    simp [h, h2]
end Plain

theorem has_delF {D : DataW Unit} (hD : IsMap D) (pd : Lit → Bool) (k : Lit) : Maps.has (Lib.deleteFuncD (fun kl _ => pd kl) D) k = (Maps.has D k && !pd k) := by
  cases D with
  | map es =>
    show (es.filter fun p => !pd p.1).any (fun p => p.1.sameKey k) = (es.any (fun p => p.1.sameKey k) && !pd k)
    rw [Bool.eq_iff_iff, Bool.and_eq_true, List.any_eq_true, List.any_eq_true]
    constructor
    · rintro ⟨p, hp, hs⟩
      have hm := List.mem_filter.1 hp
      have e := WideAt.sameKey_eq hs
      exact ⟨⟨p, hm.1, hs⟩, by rw [← e]; exact hm.2⟩
    · rintro ⟨⟨p, hp, hs⟩, hn⟩
      have e := WideAt.sameKey_eq hs
      exact ⟨p, List.mem_filter.2 ⟨hp, by rw [e]; exact hn⟩, hs⟩
  | _ => exact absurd hD (by simp [IsMap])
theorem size_delF {D : DataW Unit} (pd : Lit → DataW Unit → Bool) : Maps.size (Lib.deleteFuncD pd D) ≤ Maps.size D := by
  cases D with
  | map es => exact List.length_filter_le _ _
  | _ => exact Nat.le_refl _

set_option maxRecDepth 100000 in
set_option maxHeartbeats 2000000 in
theorem without_calls (bs ns bo no : Nat) (A B : List ByteArray) (hA : setB A = true) (hB : setB B = true) (w : World) (h : KSet w bs ns (A.map kyL)) (h' : KSet w bo no (B.map kyL)) :
    Calls Tryd.prog 28 #[.map (some bs), .map (some bo)] w fun e w' => ∃ b, e = .returned (.map (some b)) ∧ KLe w' b ns ((exB A B).map kyL) ∧ Below w.heap.size w w' := by
  obtain ⟨D, hD, hs, hk⟩ := h
  obtain ⟨Do, hDo, hso, hko⟩ := h'
  obtain ⟨W0, hW0⟩ : ∃ W0, w.alloc (.cells #[.map (some bo)] 35) = W0 := ⟨_, rfl⟩
  have hb0 : Below w.heap.size w W0 := by rw [← hW0]; exact (Below.refl _ _).alloc (Nat.le_refl _) _
  have hl0 : w.heap.size < W0.heap.size := by rw [← hW0]; simp
  have hc0 : W0.cell? ⟨w.heap.size, 0, none⟩ = some (.map (some bo)) := by rw [← hW0, cell_of_row _ _ 0 _ _ _ (heap_alloc_new _ _)]; rfl
  have hD0 : W0.ownsMap Tryd.prog 43 anyR bs ns D := by rw [← hW0]; exact hD.alloc _
  have hO0 : W0.ownsMap Tryd.prog 43 anyR bo no Do := by rw [← hW0]; exact hDo.alloc _
  have hbol := hO0.lt
  have HCL := hide (cloneK bs ns D W0 hD0)
  have HDE := hide (fun (W : World) (hW : Below W0.heap.size W0 W) (hown : W.ownsMap Tryd.prog 43 anyR W0.heap.size ns D) => delK W0.heap.size ns D w.heap.size bo no Do W hown ((hW.cell (p := ⟨w.heap.size, 0, none⟩) hl0).trans hc0) (hO0.kept (gbB hW none) (by simp)) (by omega) (by omega))
  have HEND := hide (fun (W : World) (q : W.ownsMap Tryd.prog 43 anyR W0.heap.size ns (Lib.deleteFuncD (fun kl _ => Maps.has Do kl) D)) => (show KLe W W0.heap.size ns ((exB A B).map kyL) from ⟨_, q, by
    have h1 := size_delF (D := D) (fun kl _ => Maps.has Do kl)
    have h2 := (setB_all hA).1
    rw [hs, List.length_map] at h1
    omega, fun x hx => by
    rw [has_delF hD.isMap, Bool.and_eq_true, hk x hx]
    constructor
    · rintro ⟨h1, h2⟩
      obtain ⟨s, hs1, rfl⟩ := List.mem_map.1 h1
      refine List.mem_map.2 ⟨s, (exB_mem s).2 ⟨hs1, fun hb => ?_⟩, rfl⟩
      rw [(hko _ (kyL_len s)).2 (List.mem_map.2 ⟨s, hb, rfl⟩)] at h2
      simp at h2
    · intro h1
      obtain ⟨s, hs1, rfl⟩ := List.mem_map.1 h1
      obtain ⟨m1, m2⟩ := (exB_mem s).1 hs1
      refine ⟨List.mem_map.2 ⟨s, m1, rfl⟩, ?_⟩
      have : Maps.has Do (keyLK (kyL s)) = false := by
        rw [Bool.eq_false_iff]
        intro q
        exact m2 ((mem_kyL (setB_all hB).2.1 ((setB_all hA).2.1 s m1)).1 ((hko _ (kyL_len s)).1 q))
      rw [this]
      rfl⟩))
  have HB0 := hide hb0
  have HW := hide hW0
  clear hD hs hk hDo hso hko hb0 hW0 hc0 hD0 hO0
  go_enter Tryd.func28, Tryd.ntmps28
  go_wp2_with fail
  rw [unhide HW]
  refine (unhide HCL).mono ?_
  rintro e w1 ⟨rfl, ho1, hb1⟩
  have HB1 := hide ((unhide HB0).trans (hb1.mono (Nat.le_of_lt hl0)))
  have HD1 := hide (unhide HDE w1 hb1 ho1)
  have hz1 := hb1.size
  clear ho1 hb1 HCL HDE HW HB0
  go_wp2_with fail
  refine (unhide HD1).mono ?_
  rintro e w2 ⟨rfl, ho2, hg2⟩
  have HX := hide (unhide HEND w2 ho2)
  have HB2 := hide ((unhide HB1).grown hg2 (unhide HB1).size (fun k e => by cases e; omega))
  clear ho2 hg2 HEND
  go_wp2_with fail
  go_ret
  exact ⟨_, rfl, unhide HX, unhide HB2⟩
end Go.Proofs.YtldgkpnlplfopaaDoor
