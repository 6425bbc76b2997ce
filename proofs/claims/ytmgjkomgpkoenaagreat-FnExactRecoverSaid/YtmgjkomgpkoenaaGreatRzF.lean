/- Texts of one kind, put together. -/
import Derived.Test.YtmgjkomgpkoenaaGreatEzA
import Derived.Test.YtmgjkomgpkoenaaGreatRzD
import Derived.Test.YtmgjkomgpkoenaaGreatRzE
import Derived.Deep.QuietTactic
import Derived.BigQuiet
import Derived.Test.YtmgjkomgpkoenaaGreatDskR
import Derived.Deep.RegionHeld3

/- A log, as the specification reads it. -/
namespace Go.Proofs.YtmgjkomgpkoenaaGreat
open Go.RowKit Plain
set_option linter.unusedVariables false

namespace Plain
theorem entT_small (t k : Int) (b : ByteArray) : (entT t k b).size ≤ 2000000 := by
  unfold entT
  cases h : entB t k b with
  | false => exact Nat.zero_le _
  | true =>
    rw [if_pos rfl]
    have := entB_sizes h
    unfold frameB
    split
    · rw [ByteArray.size_append, seal_size, four_size]; omega
    · exact Nat.zero_le _
theorem logZ_le : ∀ es : List Ent, logZ es ≤ es.length * 2000000
  | [] => Nat.zero_le _
  | e :: l => by
    have h1 := logZ_le l
    have h2 := entT_small e.term e.kind e.body
    have h3 : logZ (e :: l) = (entT e.term e.kind e.body).size + logZ l := by simp [logZ]
    rw [h3, List.length_cons]
    omega
/-- Rows of unlike elements lie apart. -/
theorem rows_apart {α β : Type} {e : Elem α} {e' : Elem β} {W : World} {B B' : Nat} {v v' : Value} {xs : List α} {ys : List β} (h : OwnR e W B v xs) (h' : OwnR e' W B' v' ys) (hne : e.E ≠ e'.E) : ∀ g, v.ownBlock = some g → v'.ownBlock = some g → False := by
  intro g h1 h2
  rcases h.2 with ⟨q, _⟩ | ⟨g1, cap, cur, q, c, d, r⟩
  · rw [q] at h1; cases h1
  · rcases h'.2 with ⟨q', _⟩ | ⟨g2, cap', cur', q', c', d', r'⟩
    · rw [q'] at h2; cases h2
    · rw [q] at h1; rw [q'] at h2
      obtain rfl : g1 = g := Option.some.inj h1
      obtain rfl : g2 = g1 := Option.some.inj h2
      rw [d] at d'
      simp at d'
      exact hne d'.2
theorem own_beside {α β : Type} {e : Elem α} {e' : Elem β} {W W' : World} {B B' : Nat} {v v' : Value} {xs : List α} {ys : List β} {o : Obj} (h : OwnR e W B v xs) (h' : OwnR e' W B' v' ys) (hne : e.E ≠ e'.E) (hg : (W.alloc o).grownBy W' v'.ownBlock) : OwnR e W' B v xs := by
  refine ⟨h.1, ?_⟩
  rcases h.2 with ⟨q, c⟩ | ⟨g, cap, cur, q, c, d, r⟩
  · exact .inl ⟨q, c⟩
  · have hl := (Array.getElem?_eq_some_iff.1 d).1
    refine .inr ⟨g, cap, cur, q, c, (hg.block g (by simp; omega) (fun e1 => rows_apart h h' hne g (by rw [q]; rfl) e1.symm)).trans (((Below.refl W.heap.size W).alloc (Nat.le_refl _) _).block g hl |>.trans d), r⟩
theorem own_below' {α : Type} {e : Elem α} {W W' : World} {B : Nat} {v : Value} {xs : List α} (h : OwnR e W B v xs) (hb : Below W.heap.size W W') : OwnR e W' B v xs := h.keep hb
theorem acc_five {term : Int} {acc : List Ent} {f : Int × ByteArray} (h5 : acc.length < 500) : accE term acc f = (fiveE f).filter fun e => decide (e.term ≤ term) && decide (prevT acc acc.length ≤ e.term) := by unfold accE; rw [if_pos h5]
theorem five_ok {f : Int × ByteArray} {e : Ent} (h : fiveE f = some e) : 1 ≤ e.term := by
  unfold fiveE at h
  split at h
  · cases h
  · split at h
    · cases h
    · split at h
      · cases h
      · split at h
        · rename_i hc
          cases h
          exact (entB_yes hc.2.2).1
        · cases h
theorem log_full {term : Int} {acc : List Ent} {l : List (Int × ByteArray)} (h : acc.length = 500) : logE term acc l = acc := by
  cases l with
  | nil => rfl
  | cons f l =>
    have : accE term acc f = none := by unfold accE; rw [if_neg (by omega)]
    rw [logE, this]
end Plain

set_option maxRecDepth 10000 in
set_option maxHeartbeats 4000000 in
theorem l5Log_calls (s : ByteArray) (term : Int) (w : World) (hs : s.size ≤ 1000000000) :
    Calls Tryz.prog 73 #[.string s, .int .i64 term] w fun e w' => ∃ v, e = .returned (.tuple #[v, .int .i64 (logZ (logF s term) : Nat)]) ∧ OwnR entE w' w.heap.size v (logF s term) ∧ Below w.heap.size w w' := by
  obtain ⟨LF, hLF⟩ : ∃ LF, logF s term = LF := ⟨_, rfl⟩
  have hst : logE term [] (readF s).1 = LF := hLF
  rw [hLF]
  clear hLF
  obtain ⟨W0, hW0⟩ : ∃ W0, W0 = w.alloc (.cells #[] 86) := ⟨_, rfl⟩
  have ho0 : OwnR entE W0 w.heap.size (.slice (some ⟨w.heap.size, 0, none⟩) 0 0) [] := by rw [hW0]; exact ownR_empty entE w _ (Nat.le_refl _)
  have hb0 : Below w.heap.size w W0 := by rw [hW0]; exact bel1 _ _
  have HRD := hide (specRead_calls s W0 hs)
  have HSM := hide (fr_le s)
  have HW0 := hide hW0.symm
  have HO0 := hide ho0
  have HB0 := hide hb0
  clear ho0 hb0 hW0
  generalize readF s = Q at HRD HSM hst
  obtain ⟨F, ps, cc⟩ := Q
  simp only [] at HRD HSM hst
  have HST := hide hst
  clear hst
  go_enter Tryz.func73, Tryz.ntmps73
  go_wp2_with fail
  rw [unhide HW0]
  refine (unhide HRD).mono ?_
  rintro e w1 ⟨vf, rfl, hof, hb1⟩
  obtain ⟨fa, fc, rfl⟩ := ownF_form hof
  have HO1 := hide (own_below' (unhide HO0) hb1)
  have HF1 := hide (own_frm hof)
  have HB1 := hide (belOn (unhide HB0) hb1)
  obtain ⟨nF, hnF⟩ : ∃ nF, F.length = nF := ⟨_, rfl⟩
  rw [hnF] at HF1
  have HNF := hide hnF
  clear hof hb1 HRD HO0 HB0 HW0
  rw [hnF]
  clear hnF
  go_wp2_with fail
  go_loopw [6, 7, 11, 12, 13] (fun v z i _ _ wr => ∃ acc : List Ent, i = .int .i64 acc.length ∧ z = .int .i64 (logZ acc : Nat) ∧ acc.length ≤ nF ∧ acc.length ≤ 500 ∧ Hid (logE term acc (F.drop acc.length) = LF) ∧ Hid (OwnR entE wr w.heap.size v acc) ∧ Hid (OwnR frmE wr W0.heap.size (.slice fa nF fc) F) ∧ Hid (Below w.heap.size w wr)) (fun _ _ i _ _ _ => nF - (intOf i).toNat)
  case atStart =>
    exact ⟨[], rfl, rfl, Nat.zero_le _, by decide, HST, HO1, HF1, HB1⟩
  case round =>
    obtain ⟨acc, rfl, rfl, ha1, ha5, HS, HO, HF, HB⟩ := hrel
    obtain ⟨va, vc, rfl⟩ := (unhide HO).form
    have hzl := logZ_le acc
    by_cases h1 : acc.length < nF
    · have g1 : (acc.length : Int) < (nF : Int) := by omega
      by_cases h5 : acc.length < 500
      · have g5 : (acc.length : Int) < 500 := by omega
        have hfl : acc.length < F.length := by rw [unhide HNF]; exact h1
        obtain ⟨g, e1, l1, p0, p1⟩ := (OwnR.at (unhide HF)).fm acc.length hfl
        have hsm := unhide HSM F[acc.length] (List.getElem_mem hfl)
        have hstp := unhide HS
        rw [List.drop_eq_getElem_cons hfl, logE, acc_five h5] at hstp
        have HRE := hide (fun (W : World) => l5Read_calls F[acc.length].1 F[acc.length].2 W (Nat.le_trans hsm hs))
        generalize F[acc.length] = f at p0 p1 hsm hstp HRE
        obtain ⟨k, b⟩ := f
        simp only at p0 p1 hsm hstp HRE
        subst e1
        have HST2 := hide hstp
        clear hstp hfl
        have i0 : (0 : Int) ≤ (acc.length : Int) := by omega
        go_wp2_with fail
        refine (unhide HRE _).mono ?_
        rintro e w3 ⟨t1, t2, t3, ok, rfl, h3, h5r, hb3⟩
        cases ok with
        | false =>
          rw [if_neg (by simp)] at h5r
          have HL := hide (show acc = LF from by have h := unhide HST2; rw [h5r] at h; exact h)
          have HB3 := hide (belOn (unhide HB) hb3)
          have HO3 := hide (own_below' (unhide HO) hb3)
          clear hb3
          go_wp2_with fail
          go_quiet (fail)
          all_goals (try go_wp2_with fail)
          go_ret2
          have hll := unhide HL
          subst hll
          exact ⟨_, rfl, own_below' (unhide HO3) (belQ (bel1 _ _) _), belQ (belOn (unhide HB3) (bel1 _ _)) _⟩
        | true =>
          rw [if_pos rfl] at h5r
          have ht1 : 1 ≤ t1 := five_ok h5r
          have hst3 := unhide HST2
          rw [h5r] at hst3
          simp only [Option.filter] at hst3
          have HST3 := hide hst3
          clear hst3 HST2
          obtain ⟨W4, hW4⟩ : ∃ W4, W4 = w3.alloc (.cells #[.int .i64 t1, .int .i64 t2, .string t3] 86) := ⟨_, rfl⟩
          have hb4 : Below w3.heap.size w3 W4 := by rw [hW4]; exact bel1 _ _
          have d0 : W4.cell? ⟨w3.heap.size, 0, none⟩ = some (.int .i64 t1) := by rw [hW4]; simp [go_sem]
          have d1 : W4.cell? ⟨w3.heap.size, 1, none⟩ = some (.int .i64 t2) := by rw [hW4]; simp [go_sem]
          have d2 : W4.cell? ⟨w3.heap.size, 2, none⟩ = some (.string t3) := by rw [hW4]; simp [go_sem]
          have hbr := belOn hb3 hb4
          have HO4 := hide (own_below' (unhide HO) hbr)
          have HF4 := hide (own_below' (unhide HF) hbr)
          have HB4 := hide (belOn (unhide HB) hbr)
          have HDD := hide (fun (W : World) (hW : W.heap[w3.heap.size]? = W4.heap[w3.heap.size]?) => And.intro ((World.cell?_of_block (a := ⟨w3.heap.size, 0, none⟩) hW).trans d0) (And.intro ((World.cell?_of_block (a := ⟨w3.heap.size, 1, none⟩) hW).trans d1) ((World.cell?_of_block (a := ⟨w3.heap.size, 2, none⟩) hW).trans d2)))
          have hz3 := hb3.size
          have hlt4 : w3.heap.size < W4.heap.size := by rw [hW4]; simp
          have HW4 := hide hW4.symm
          clear hb4 hbr hW4 hb3
          by_cases hg : term < t1
          · have hd1 : (decide (t1 ≤ term) && decide (prevT acc acc.length ≤ t1)) = false := by rw [decide_eq_false (by omega)]; rfl
            have HL := hide (show acc = LF from by have h := unhide HST3; simp only [hd1, Bool.false_eq_true, if_false] at h; exact h)
            have hdg : decide (term < t1) = true := decide_eq_true hg
            clear hd1
            go_wp2_with fail
            rw [unhide HW4]
            go_quiet (fail)
            all_goals (try go_wp2_with fail)
            go_ret2
            rw [← unhide HL]
            exact ⟨_, rfl, unhide HO4, belQ (unhide HB4) _⟩
          · have hdg : decide (term < t1) = false := decide_eq_false hg
            have hlen : acc.length < 100000000 := by omega
            have hz1 := (unhide HB).size
            have hzw : w.heap.size ≤ W4.heap.size := by omega
            have hes := entT_small t1 t2 t3
            have hzn : logZ (acc ++ [⟨t1, t2, t3⟩]) = logZ acc + (entT t1 t2 t3).size := logZ_snoc acc ⟨t1, t2, t3⟩
            rcases Nat.eq_zero_or_pos acc.length with h0 | h0
            · have hd1 : (decide (t1 ≤ term) && decide (prevT acc acc.length ≤ t1)) = true := by
                rw [h0, decide_eq_true (show t1 ≤ term by omega), Bool.true_and]
                exact decide_eq_true (by show (0 : Int) ≤ t1; omega)
              have HST4 := hide (show logE term (acc ++ [⟨t1, t2, t3⟩]) (F.drop (acc.length + 1)) = LF from by have h := unhide HST3; simp only [hd1, if_true] at h; exact h)
              have hz0 : decide (0 < acc.length) = false := by rw [h0]; rfl
              have hz0i : decide ((0 : Int) < (acc.length : Int)) = false := by rw [h0]; rfl
              have H0 := hide h0
              clear hd1 h0 hz0i
              generalize hZ : logZ acc = Z at *
              go_wp2_with fail
              rw [unhide HW4]
              go_quiet (fail)
              all_goals (try go_wp2_with (first | (at_builtin; refine appR (e := entE) rfl _ _ rfl (OwnR.drewN (unhide HO4) _) rfl ⟨t1, t2, t3⟩ rfl _ rfl rfl hlen hzw ?_; intro v6 w6 hown6 hb6 hg6; obtain ⟨a6, c6, hv6⟩ := hown6.form; subst hv6; have hgb := hg6.block; have hd6 := unhide HDD w6 ((hg6.block w3.heap.size (by simp; omega) (fun e => by have := (World.ownsRow.lt (unhide HO) _ e.symm).2; omega)).trans (((Below.refl W4.heap.size W4).alloc (Nat.le_refl _) _).block w3.heap.size hlt4)); obtain ⟨x0, x1, x2⟩ := hd6) | (go_at_call 56; refine (spec_EntryText t1 t2 t3 w6 (by omega)).mono ?_; rintro e w7 ⟨rfl, hb7⟩)))
              have hz4 : (acc ++ [(⟨t1, t2, t3⟩ : Ent)]).length = acc.length + 1 := by simp
              rw [hz4] at hown6
              have hbb6 : Below w.heap.size w w6 := (belQ (unhide HB4) nq).trans hb6
              have hF6 := own_beside (OwnR.drewN (unhide HF4) nq) (OwnR.drewN (unhide HO4) nq) (show frmE.E ≠ entE.E from by decide) hg6
              refine ⟨⟨acc ++ [⟨t1, t2, t3⟩], by rw [hz4]; rfl, ?_, by omega, by omega, ?_, hide (own_below' hown6 hb7), hide (own_below' hF6 hb7), hide (belOn hbb6 hb7)⟩, by simp [intOf]; omega⟩
              · rw [hzn]
                first
                  | rfl
                  | (congr 1; unfold wrap64; omega)
              · rw [hz4]
                exact HST4
            · obtain ⟨j, hj⟩ : ∃ j, acc.length = j + 1 := ⟨acc.length - 1, by omega⟩
              have hjl : j < acc.length := by omega
              have hpv : prevT acc acc.length = acc[j].term := by rw [hj, prevT, List.getElem?_eq_getElem hjl]; rfl
              obtain ⟨g2, e2, l2, u0, u1, u2⟩ := (OwnR.at (unhide HO4)).ex j hjl
              rw [hpv] at HST3
              generalize acc[j].term = pt at u0 HST3
              clear u1 u2 hpv
              subst e2
              have j0 : (0 : Int) ≤ (j : Int) := by omega
              have j1 : (j : Int) < (acc.length : Int) := by omega
              have jw : IntKind.i64.wrap ((acc.length : Int) - 1) = (j : Int) := by rw [IntKind.wrap_i64]; omega
              have hz0 : decide (0 < acc.length) = true := decide_eq_true (by omega)
              by_cases hp : t1 < pt
              · have hd1 : (decide (t1 ≤ term) && decide (pt ≤ t1)) = false := by rw [decide_eq_false (show ¬ pt ≤ t1 by omega), Bool.and_false]
                have HL := hide (show acc = LF from by have h := unhide HST3; simp only [hd1, Bool.false_eq_true, if_false] at h; exact h)
                have hdp : decide (t1 < pt) = true := decide_eq_true hp
                have HJ := hide hj
                clear hd1 hj
                go_wp2_with fail
                rw [unhide HW4]
                go_quiet (fail)
                all_goals (try go_wp2_with fail)
                go_ret2
                rw [← unhide HL]
                exact ⟨_, rfl, unhide HO4, belQ (unhide HB4) _⟩
              · have hd1 : (decide (t1 ≤ term) && decide (pt ≤ t1)) = true := by rw [decide_eq_true (show t1 ≤ term by omega), Bool.true_and]; exact decide_eq_true (by omega)
                have HST4 := hide (show logE term (acc ++ [⟨t1, t2, t3⟩]) (F.drop (acc.length + 1)) = LF from by have h := unhide HST3; simp only [hd1, if_true] at h; exact h)
                have hdp : decide (t1 < pt) = false := decide_eq_false hp
                have HJ := hide hj
                clear hd1 hj
                generalize hZ : logZ acc = Z at *
                go_wp2_with fail
                rw [unhide HW4]
                go_quiet (fail)
                all_goals (try go_wp2_with (first | (at_builtin; refine appR (e := entE) rfl _ _ rfl (OwnR.drewN (unhide HO4) _) rfl ⟨t1, t2, t3⟩ rfl _ rfl rfl hlen hzw ?_; intro v6 w6 hown6 hb6 hg6; obtain ⟨a6, c6, hv6⟩ := hown6.form; subst hv6; have hgb := hg6.block; have hd6 := unhide HDD w6 ((hg6.block w3.heap.size (by simp; omega) (fun e => by have := (World.ownsRow.lt (unhide HO) _ e.symm).2; omega)).trans (((Below.refl W4.heap.size W4).alloc (Nat.le_refl _) _).block w3.heap.size hlt4)); obtain ⟨x0, x1, x2⟩ := hd6) | (go_at_call 56; refine (spec_EntryText t1 t2 t3 w6 (by omega)).mono ?_; rintro e w7 ⟨rfl, hb7⟩)))
                have hz4 : (acc ++ [(⟨t1, t2, t3⟩ : Ent)]).length = acc.length + 1 := by simp
                rw [hz4] at hown6
                have hbb6 : Below w.heap.size w w6 := (belQ (unhide HB4) nq).trans hb6
                have hF6 := own_beside (OwnR.drewN (unhide HF4) nq) (OwnR.drewN (unhide HO4) nq) (show frmE.E ≠ entE.E from by decide) hg6
                refine ⟨⟨acc ++ [⟨t1, t2, t3⟩], by rw [hz4]; rfl, ?_, by omega, by omega, ?_, hide (own_below' hown6 hb7), hide (own_below' hF6 hb7), hide (belOn hbb6 hb7)⟩, by simp [intOf]; omega⟩
                · rw [hzn]
                  first
                    | rfl
                    | (congr 1; unfold wrap64; omega)
                · rw [hz4]
                  exact HST4
      · have hl5 : acc.length = 500 := by omega
        have HL := hide ((log_full (term := term) (l := F.drop acc.length) hl5).symm.trans (unhide HS))
        clear hl5
        have g5 : ¬ (acc.length : Int) < 500 := by omega
        go_wp2_with fail
        go_ret2
        have hll := unhide HL
        subst hll
        exact ⟨.slice va acc.length vc, rfl, unhide HO, unhide HB⟩
    · have HL := hide (show acc = LF from by rw [← unhide HS, List.drop_of_length_le (by rw [unhide HNF]; omega)]; rfl)
      have g1 : ¬ (acc.length : Int) < (nF : Int) := by omega
      go_wp2_with fail
      go_ret2
      have hll := unhide HL
      subst hll
      exact ⟨.slice va acc.length vc, rfl, unhide HO, unhide HB⟩
end Go.Proofs.YtmgjkomgpkoenaaGreat


/- Recover of the specification. -/
namespace Go.Proofs.YtmgjkomgpkoenaaGreat
open Go.RowKit Plain
set_option linter.unusedVariables false

namespace Plain
/-- The vote in a frame's body, by its parts as they are read. -/
theorem vot_of {b s1 s2 : ByteArray} {t1 t2 : Int} {g1 g2 : Bool}
    (a1 : g1 = false → tkN b 0 = none) (a2 : g1 = true → ∃ v l : Nat, tkN b 0 = some (v, l) ∧ t1 = v ∧ s1 = b.extract l b.size ∧ l ≤ b.size)
    (b1 : g2 = false → tkN s1 0 = none) (b2 : g2 = true → ∃ v l : Nat, tkN s1 0 = some (v, l) ∧ t2 = v ∧ s2 = s1.extract l s1.size ∧ l ≤ s1.size) :
    (match stp b 0 with
      | none => none
      | some (t, p) => match stp b p with
        | none => none
        | some (v, q) => if q = b.size then some (t, v) else none) = if g1 = true ∧ g2 = true ∧ s2.size = 0 then some (t1, t2) else none := by
  cases g1 with
  | false =>
    rw [if_neg (by simp)]
    simp only [stp, a1 rfl, Option.map_none]
  | true =>
    obtain ⟨v1, l1, e1, rfl, rfl, h1⟩ := a2 rfl
    have s1 : stp b 0 = some ((v1 : Int), l1) := by unfold stp; rw [e1]; simp
    simp only [s1]
    cases g2 with
    | false =>
      have := b1 rfl
      rw [tkN_shift b l1 h1] at this
      rw [if_neg (by simp)]
      simp only [stp, this, Option.map_none]
    | true =>
      obtain ⟨v2, l2, e2, rfl, rfl, h2⟩ := b2 rfl
      rw [tkN_shift b l1 h1] at e2
      have hz : (b.extract l1 b.size).size = b.size - l1 := by rw [ByteArray.size_extract]; omega
      have s2 : stp b l1 = some ((v2 : Int), l1 + l2) := by unfold stp; rw [e2]; rfl
      simp only [s2]
      rw [ext2 b l1 l2 h1]
      have hz2 : (b.extract (l1 + l2) b.size).size = b.size - (l1 + l2) := by rw [ByteArray.size_extract]; omega
      by_cases hc : l1 + l2 = b.size
      · rw [if_pos hc, if_pos ⟨trivial, trivial, by omega⟩]
      · rw [if_neg hc, if_neg (fun q => hc (by have := q.2.2; omega))]
/-- What l5Disk keeps in memory. -/
structure LD (w : World) (aL : Option Addr) (nL cL : Nat) (t v : Int) (X : World) : Prop where
  bel : Below w.heap.size w X
  d0 : X.cell? ⟨w.heap.size, 0, none⟩ = some (.slice aL nL cL)
  r0 : X.cell? ⟨w.heap.size + 1, 0, none⟩ = some (.int .i64 0)
  r1 : X.cell? ⟨w.heap.size + 1, 1, none⟩ = some (.int .i64 0)
  r2 : X.cell? ⟨w.heap.size + 1, 2, none⟩ = some (.slice none 0 0)
  y0 : X.frozen? ⟨w.heap.size + 1, 0, none⟩ = false
  y1 : X.frozen? ⟨w.heap.size + 1, 1, none⟩ = false
  y2 : X.frozen? ⟨w.heap.size + 1, 2, none⟩ = false
  j0 : X.cell? ⟨w.heap.size + 2, 0, none⟩ = some (.int .i64 t)
  j1 : X.cell? ⟨w.heap.size + 2, 1, none⟩ = some (.int .i64 v)
  j2 : X.cell? ⟨w.heap.size + 2, 2, none⟩ = some (.slice none 0 0)
  k0 : X.frozen? ⟨w.heap.size + 2, 0, none⟩ = false
  k1 : X.frozen? ⟨w.heap.size + 2, 1, none⟩ = false
  k2 : X.frozen? ⟨w.heap.size + 2, 2, none⟩ = false
theorem LD.step {w : World} {aL : Option Addr} {nL cL : Nat} {t v : Int} {X X' : World} (h : LD w aL nL cL t v X) (hb : Below X.heap.size X X') : LD w aL nL cL t v X' := by
  have l1 := lt_of_cell h.r0
  have l2 := lt_of_cell h.j0
  exact ⟨belOn h.bel hb, bcl hb (lt_of_cell h.d0) h.d0, bcl hb l1 h.r0, bcl hb l1 h.r1, bcl hb l1 h.r2, (hb.frozen (p := ⟨_, 0, none⟩) l1).trans h.y0, (hb.frozen (p := ⟨_, 1, none⟩) l1).trans h.y1, (hb.frozen (p := ⟨_, 2, none⟩) l1).trans h.y2, bcl hb l2 h.j0, bcl hb l2 h.j1, bcl hb l2 h.j2, (hb.frozen (p := ⟨_, 0, none⟩) l2).trans h.k0, (hb.frozen (p := ⟨_, 1, none⟩) l2).trans h.k1, (hb.frozen (p := ⟨_, 2, none⟩) l2).trans h.k2⟩
theorem LD.put {w : World} {aL : Option Addr} {nL cL : Nat} {t0 v0 : Int} {X : World} (h : LD w aL nL cL t0 v0 X) (t v : Int) : LD w aL nL cL t v ((X.setCell ⟨w.heap.size + 2, 0, none⟩ (.int .i64 t)).setCell ⟨w.heap.size + 2, 1, none⟩ (.int .i64 v)) := by
  have o : ∀ (b i : Nat), b ≠ w.heap.size + 2 → ((X.setCell ⟨w.heap.size + 2, 0, none⟩ (.int .i64 t)).setCell ⟨w.heap.size + 2, 1, none⟩ (.int .i64 v)).cell? ⟨b, i, none⟩ = X.cell? ⟨b, i, none⟩ := fun b i hb => (cell_off (.inl (Ne.symm hb))).trans (cell_off (.inl (Ne.symm hb)))
  refine ⟨(h.bel.setCell (p := ⟨w.heap.size + 2, 0, none⟩) (by show w.heap.size ≤ w.heap.size + 2; omega) _).setCell (p := ⟨w.heap.size + 2, 1, none⟩) (by show w.heap.size ≤ w.heap.size + 2; omega) _, (o _ _ (by omega)).trans h.d0, (o _ _ (by omega)).trans h.r0, (o _ _ (by omega)).trans h.r1, (o _ _ (by omega)).trans h.r2, ?_, ?_, ?_, (cell_off (.inr (by decide))).trans (cell_set h.j0), cell_set ((cell_off (.inr (by decide))).trans h.j1), (cell_off (.inr (by decide))).trans ((cell_off (.inr (by decide))).trans h.j2), ?_, ?_, ?_⟩
  all_goals simp only [World.frozen?_setCell]
  · exact h.y0
  · exact h.y1
  · exact h.y2
  · exact h.k0
  · exact h.k1
  · exact h.k2
/-- The same with less: through the call and the store of the entries. -/
structure LQ (w : World) (aL : Option Addr) (nL cL : Nat) (t : Int) (X : World) : Prop where
  bel : Below w.heap.size w X
  d0 : X.cell? ⟨w.heap.size, 0, none⟩ = some (.slice aL nL cL)
  j0 : X.cell? ⟨w.heap.size + 2, 0, none⟩ = some (.int .i64 t)
theorem LQ.step {w : World} {aL : Option Addr} {nL cL : Nat} {t : Int} {X X' : World} (h : LQ w aL nL cL t X) (hb : Below X.heap.size X X') : LQ w aL nL cL t X' := ⟨belOn h.bel hb, bcl hb (lt_of_cell h.d0) h.d0, bcl hb (lt_of_cell h.j0) h.j0⟩
theorem LQ.set2 {w : World} {aL : Option Addr} {nL cL : Nat} {t : Int} {X : World} (h : LQ w aL nL cL t X) (u : Value) : LQ w aL nL cL t (X.setCell ⟨w.heap.size + 2, 2, none⟩ u) := ⟨h.bel.setCell (p := ⟨w.heap.size + 2, 2, none⟩) (by show w.heap.size ≤ w.heap.size + 2; omega) _, (cell_off (.inl (by omega))).trans h.d0, (cell_off (.inr (by decide))).trans h.j0⟩
theorem LD.q {w : World} {aL : Option Addr} {nL cL : Nat} {t v : Int} {X : World} (h : LD w aL nL cL t v X) : LQ w aL nL cL t X := ⟨h.bel, h.d0, h.j0⟩
end Plain

theorem Plain.below3S {w X : World} {b : Nat} {u0 u1 u2 : Value} (h : Below w.heap.size w X) (hb : w.heap.size ≤ b) : Below w.heap.size w (((X.setCell ⟨b, 0, none⟩ u0).setCell ⟨b, 1, none⟩ u1).setCell ⟨b, 2, none⟩ u2) := ((h.setCell (p := ⟨b, 0, none⟩) hb _).setCell (p := ⟨b, 1, none⟩) hb _).setCell (p := ⟨b, 2, none⟩) hb _

set_option maxRecDepth 10000 in
set_option maxHeartbeats 4000000 in
theorem l5Disk_calls (aL : Option Addr) (nL cL : Nat) (live : List Fl) (aS : Option Addr) (nS cS : Nat) (safe : List Fl) (aO : Option Addr) (nO cO : Nat) (ops : List Dop) (w : World) (h : DiskAt w aL nL cL live aS nS cS safe aO nO cO ops) (hd : diskB live safe ops = true) :
    Calls Tryz.prog 27 #[.agg #[.slice aL nL cL, .slice aS nS cS, .slice aO nO cO]] w fun e w' => ∃ sl, e = .returned (.tuple #[.agg #[.int .i64 (recT live safe ops).2.1, .int .i64 (recT live safe ops).2.2.1, sl], .int .i64 (logZ (recT live safe ops).2.2.2 : Nat), .bool (recT live safe ops).1]) ∧ OwnR entE w' w.heap.size sl (recT live safe ops).2.2.2 ∧ Below w.heap.size w w' := by
  obtain ⟨W0, hW0⟩ : ∃ W0, W0 = ((w.alloc (.cells #[.slice aL nL cL, .slice aS nS cS, .slice aO nO cO] 35)).alloc (.cells #[.int .i64 0, .int .i64 0, .slice none 0 0] 29)).alloc (.cells #[.int .i64 0, .int .i64 0, .slice none 0 0] 29) := ⟨_, rfl⟩
  have hb0 : Below w.heap.size w W0 := by rw [hW0]; exact belOn (belOn (bel1 _ _) (bel1 _ _)) (bel1 _ _)
  have HL0 := hide (show LD w aL nL cL 0 0 W0 from ⟨hb0, by rw [hW0]; simp [go_sem], by rw [hW0]; simp [go_sem], by rw [hW0]; simp [go_sem], by rw [hW0]; simp [go_sem], by rw [hW0]; simp [go_sem], by rw [hW0]; simp [go_sem], by rw [hW0]; simp [go_sem], by rw [hW0]; simp [go_sem], by rw [hW0]; simp [go_sem], by rw [hW0]; simp [go_sem], by rw [hW0]; simp [go_sem], by rw [hW0]; simp [go_sem], by rw [hW0]; simp [go_sem]⟩)
  have HD := hide (fun (X : World) (hX : Below w.heap.size w X) => (h.below hX).rl)
  have HLN := hide h.ll
  have HW0 := hide hW0.symm
  clear hW0 hb0 h
  have hfl := dk_live hd
  have HRI := hide (files_ok hfl).2
  have hln := (files_small hfl).1
  rw [unhide HLN] at hln
  have HSZ := hide (files_small hfl).2
  unfold recT
  rw [if_pos hd]
  clear hd hfl
  unfold votD logD
  have HAV := hide (fun (X : World) (hX : Below w.heap.size w X) => l4At_calls aL nL cL live voteN X (unhide HLN) (by omega) (unhide HD X hX))
  have HAL := hide (fun (X : World) (hX : Below w.heap.size w X) => l4At_calls aL nL cL live logN X (unhide HLN) (by omega) (unhide HD X hX))
  unfold voteN at HAV
  unfold logN at HAL
  cases hav : atF voteN live with
  | none =>
    have htv := tab_at_none (unhide HRI) hav
    rw [show atF ⟨#[118, 111, 116, 101]⟩ live = none from hav] at HAV
    rw [htv]
    simp only []
    clear htv hav
    cases hal : atF logN live with
    | none =>
      have htl := tab_at_none (unhide HRI) hal
      rw [show atF ⟨#[108, 111, 103]⟩ live = none from hal] at HAL
      rw [htl]
      simp only [Option.getD_none, log_empty]
      clear hal htl
      have HA1 := hide (unhide HAV W0 (unhide HL0).bel)
      obtain ⟨X, hX⟩ : ∃ X, X = W0 := ⟨_, rfl⟩
      have HLX := hide (show LD w _ nL cL 0 0 X from by rw [hX]; exact unhide HL0)
      have q0 := (unhide HL0).d0
      go_enter Tryz.func27, Tryz.ntmps27
      go_wp2_with fail
      rw [unhide HW0]
      refine (unhide HA1).mono ?_
      rintro e w1 ⟨rfl, rfl⟩
      rw [← hX]
      clear hX q0 HA1
      obtain ⟨-, d0, r0, r1, r2, y0, y1, y2, j0, j1, j2, -, -, -⟩ := unhide HLX
      go_wp2_with fail
      refine (unhide HAL X (unhide HLX).bel).mono ?_
      rintro e w2 ⟨rfl, rfl⟩
      go_wp2_with fail
      refine bodyPost_ret (v := .tuple #[.agg #[.int .i64 0, .int .i64 0, .slice none 0 0], .int .i64 0, .bool true]) (by simp [results, Tryz.results27, go_sem, r0, r1, r2]) rfl ⟨_, rfl, ownR_nil _ _ _, ?_⟩
      exact below3S (unhide HLX).bel (Nat.le_succ _)
    | some i =>
      obtain ⟨hi, hin⟩ := atF_lt logN live i hal
      have htl := tab_at_some (unhide HRI) hal
      rw [List.getD_eq_getElem?_getD, List.getElem?_eq_getElem hi, Option.getD_some] at htl
      rw [show atF ⟨#[108, 111, 103]⟩ live = some i from hal] at HAL
      have HV : atV (some i) = (i : Int) := rfl
      rw [HV] at HAL
      rw [htl]
      simp only [Option.getD_some]
      have hil : i < nL := by rw [← unhide HLN]; exact hi
      have hsz := (unhide HSZ live[i] (List.getElem_mem hi)).2
      have HCD := hide (fun (W : World) (hW : Below w.heap.size w W) => (unhide HD _ hW).file i hi)
      have i0 : (0 : Int) ≤ (i : Int) := by omega
      have i1 : (i : Int) < (nL : Int) := by omega
      have i2 : ¬ (i : Int) < 0 := by omega
      clear hal hin htl HV
      generalize live[i] = f at HCD hsz ⊢
      obtain ⟨fn, fd⟩ := f
      simp only at HCD hsz ⊢
      obtain ⟨g, ea, lg, -, -⟩ := unhide HCD W0 (unhide HL0).bel
      subst ea
      have HFD := hide (fun (W : World) (hW : Below w.heap.size w W) => show W.cell? ⟨g, i * 2 + 1, none⟩ = some (.string fd) from by obtain ⟨g', ea, _, _, p1⟩ := unhide HCD W hW; cases ea; exact p1)
      have HLG := hide (fun (W : World) => l5Log_calls fd 0 W (Nat.le_trans hsz (by decide)))
      generalize logF fd 0 = es at HLG ⊢
      clear HCD hsz hi
      have HA1 := hide (unhide HAV W0 (unhide HL0).bel)
      obtain ⟨X, hX⟩ : ∃ X, X = W0 := ⟨_, rfl⟩
      have HLX := hide (show LD w _ nL cL 0 0 X from by rw [hX]; exact unhide HL0)
      have q0 := (unhide HL0).d0
      go_enter Tryz.func27, Tryz.ntmps27
      go_wp2_with fail
      rw [unhide HW0]
      refine (unhide HA1).mono ?_
      rintro e w1 ⟨rfl, rfl⟩
      rw [← hX]
      clear hX q0 HA1
      obtain ⟨-, d0, r0, r1, r2, y0, y1, y2, j0, j1, j2, k0, k1, k2⟩ := unhide HLX
      go_wp2_with fail
      refine (unhide HAL X (unhide HLX).bel).mono ?_
      rintro e w2 ⟨rfl, rfl⟩
      clear HAL HSZ HRI HD
      go_wp2_with fail
      go_cut [16] (fun s16 wx => ∃ (a5 : Option Addr) (c5 : Nat), s16 = .int .i64 (logZ es : Nat) ∧ Hid (∃ w5, wx = w5.setCell ⟨w.heap.size + 2, 2, none⟩ (.slice a5 es.length c5) ∧ LD w (some ⟨g, 0, none⟩) nL cL 0 0 w5 ∧ OwnR entE w5 X.heap.size (.slice a5 es.length c5) es))
      case first =>
        have Q0 : ∀ Y : World, LQ w (some ⟨g, 0, none⟩) nL cL 0 Y → Y.cell? ⟨w.heap.size, 0, none⟩ = some (.slice (some ⟨g, 0, none⟩) nL cL) := fun Y hY => hY.d0
        have Q1 : ∀ Y : World, LQ w (some ⟨g, 0, none⟩) nL cL 0 Y → Y.cell? ⟨w.heap.size + 2, 0, none⟩ = some (.int .i64 0) := fun Y hY => hY.j0
        have Q2 : ∀ Y : World, LQ w (some ⟨g, 0, none⟩) nL cL 0 Y → Y.cell? ⟨g, i * 2 + 1, none⟩ = some (.string fd) := fun Y hY => unhide HFD Y hY.bel
        have B0 : LQ w (some ⟨g, 0, none⟩) nL cL 0 X.drew := (unhide HLX).q.step (belDrew (Below.refl _ _))
        go_region_held3 (fun w' => LQ w (some ⟨g, 0, none⟩) nL cL 0 w') (first | with_reducible exact B0 | with_reducible exact B5 | with_reducible exact BS) (first | (go_at_call 73; refine (unhide HLG _).mono ?_; rintro e w5 ⟨v5, rfl, ho5, hb5⟩; obtain ⟨a5, c5, hv5⟩ := ho5.form; subst hv5; have hb6 := bOfDrew hb5; have L5 := (unhide HLX).step hb6; have B5 := L5.q; have BS := B5.set2 (.slice a5 es.length c5); have s2 := L5.j2; have s3 := L5.k2))
        all_goals (try go_wp2_with fail)
        all_goals go_meet
        all_goals exact ⟨a5, c5, rfl, hide ⟨w5, rfl, L5, ho5⟩⟩
      case rest =>
      obtain ⟨a5, c5, rfl, HH⟩ := hcut
      obtain ⟨w5, rfl, L5, ho5⟩ := unhide HH
      obtain ⟨hbl5, d0, r0, r1, r2, y0, y1, y2, j0, j1, j2, k0, k1, k2⟩ := L5
      have HO5 := hide ho5
      have HB5 := hide hbl5
      have hxz := (unhide HLX).bel.size
      have hxj := lt_of_cell (unhide HLX).j0
      clear ho5 hbl5
      simp only at hxj
      go_wp2_with fail
      refine bodyPost_ret (v := .tuple #[.agg #[.int .i64 0, .int .i64 0, .slice a5 es.length c5], .int .i64 (logZ es : Nat), .bool true]) (by simp [results, Tryz.results27, go_sem, r0, r1, r2]) rfl ⟨_, rfl, ?_, ?_⟩
      · refine (OwnR.other (unhide HO5) (fun g' hg' => ?_)).le (by omega)
        have := (World.ownsRow.lt (unhide HO5) g' hg').1
        rw [heap_set (by omega), heap_set (by omega), heap_set (by omega), heap_set (by omega)]
      · exact below3S ((unhide HB5).setCell (p := ⟨w.heap.size + 2, 2, none⟩) (by show w.heap.size ≤ w.heap.size + 2; omega) _) (Nat.le_succ _)
  | some iv =>
    obtain ⟨hiv, hinv⟩ := atF_lt voteN live iv hav
    have htv := tab_at_some (unhide HRI) hav
    rw [List.getD_eq_getElem?_getD, List.getElem?_eq_getElem hiv, Option.getD_some] at htv
    rw [show atF ⟨#[118, 111, 116, 101]⟩ live = some iv from hav] at HAV
    have HVI : atV (some iv) = (iv : Int) := rfl
    rw [HVI] at HAV
    rw [htv]
    simp only []
    have hivl : iv < nL := by rw [← unhide HLN]; exact hiv
    have hsv := (unhide HSZ live[iv] (List.getElem_mem hiv)).2
    have HCV := hide (fun (W : World) (hW : Below w.heap.size w W) => (unhide HD _ hW).file iv hiv)
    have v0 : (0 : Int) ≤ (iv : Int) := by omega
    have v1 : (iv : Int) < (nL : Int) := by omega
    have v2 : ¬ (iv : Int) < 0 := by omega
    clear hav hinv htv HVI
    generalize live[iv] = fv at HCV hsv ⊢
    obtain ⟨fnv, dv⟩ := fv
    simp only at HCV hsv ⊢
    obtain ⟨g, ea, lgv, -, -⟩ := unhide HCV W0 (unhide HL0).bel
    subst ea
    have HFV := hide (show W0.cell? ⟨g, iv * 2 + 1, none⟩ = some (.string dv) from by obtain ⟨g', ea, _, _, p1⟩ := unhide HCV W0 (unhide HL0).bel; cases ea; exact p1)
    have HRD := hide (specRead_calls dv W0 (Nat.le_trans hsv (by decide)))
    have HNOT := hide (vot_not (s := dv))
    have HONE := hide (fun k b => vot_one (s := dv) (k := k) (b := b))
    have HSM := hide (fr_le dv)
    generalize votF dv = V at HNOT HONE ⊢
    generalize readF dv = Q at HRD HNOT HONE HSM
    obtain ⟨F, ps, c⟩ := Q
    simp only [] at HRD HNOT HONE HSM
    clear HCV hiv
    by_cases hbad : c ≠ 0 ∨ F.length ≠ 1
    · have HV : Hid (V = none) := hide (by
        by_cases hl : F.length = 1
        · obtain ⟨f, rfl⟩ : ∃ f, F = [f] := List.length_eq_one_iff.1 hl
          rw [unhide HONE f.1 f.2 rfl, if_neg (fun q => by rcases hbad with h | h; exact h q.1; exact h hl)]
        · exact unhide HNOT hl)
      rw [unhide HV]
      simp only []
      clear HNOT HONE HSM HAL
      have h3 : c ≠ 0 ∨ (c = 0 ∧ ¬ (F.length : Int) = 1) := by
        by_cases h : c = 0
        · refine .inr ⟨h, fun q => ?_⟩
          rcases hbad with h1 | h1
          · exact h1 h
          · omega
        · exact .inl h
      clear hbad
      rcases h3 with h3 | ⟨rfl, h3⟩
      all_goals
        have HA1 := hide (unhide HAV W0 (unhide HL0).bel)
        have q0 := (unhide HL0).d0
        have q1 := unhide HFV
        go_enter Tryz.func27, Tryz.ntmps27
        go_wp2_with fail
        rw [unhide HW0]
        refine (unhide HA1).mono ?_
        rintro e w1 ⟨rfl, rfl⟩
        go_wp2_with fail
        refine (unhide HRD).mono ?_
        rintro e w2 ⟨vf, rfl, hof, hb2⟩
        obtain ⟨fa, fc, rfl⟩ := ownF_form hof
        have HL2 := hide ((unhide HL0).step hb2)
        have HO2 := hide (own_frm hof)
        clear hof hb2 q0 q1 HA1 HRD HFV HAV
        obtain ⟨hbl, d0, r0, r1, r2, y0, y1, y2, j0, j1, j2, k0, k1, k2⟩ := unhide HL2
        clear hbl
        go_wp2_with fail
        refine bodyPost_ret (v := .tuple #[.agg #[.int .i64 0, .int .i64 0, .slice none 0 0], .int .i64 0, .bool false]) (by simp [results, Tryz.results27, go_sem, r0, r1, r2]) rfl ⟨_, rfl, ownR_nil _ _ _, ?_⟩
        first
          | exact below3S (unhide HL2).bel (Nat.le_succ _)
          | exact below3S (belQ (unhide HL2).bel _) (Nat.le_succ _)
          | exact below3S (belQ (belQ (unhide HL2).bel _) _) (Nat.le_succ _)
    · obtain ⟨rfl, hl⟩ : c = 0 ∧ F.length = 1 := by
        constructor
        · exact Classical.byContradiction fun h => hbad (.inl h)
        · exact Classical.byContradiction fun h => hbad (.inr h)
      obtain ⟨f, rfl⟩ : ∃ f, F = [f] := List.length_eq_one_iff.1 hl
      obtain ⟨k, b⟩ := f
      have hv := unhide HONE k b rfl
      have hbz : b.size ≤ 1000000000 := Nat.le_trans (unhide HSM _ List.mem_cons_self) (Nat.le_trans hsv (by decide))
      clear HONE HNOT HSM hl hbad
      obtain ⟨t1, s1, g1, e1, hs1, hv1, a1, a2⟩ := tkV_open b
      obtain ⟨t2, s2, g2, e2, hs2, hv2, b1, b2⟩ := tkV_open s1
      have hvo := vot_of a1 a2 b1 b2
      have HN := hide (fun (W : World) => spec_TakeNumber b W (by omega))
      have HM := hide (fun (W : World) => spec_TakeNumber s1 W (by omega))
      rw [e1] at HN
      rw [e2] at HM
      obtain ⟨em, hem⟩ : ∃ em : Bool, s2.toList.isEmpty = em := ⟨_, rfl⟩
      have hq : s2.size = 0 ↔ em = true := by rw [← hem, ByteArray.toList_eq, List.isEmpty_iff_length_eq_zero, Array.length_toList]; exact Iff.rfl
      have hv3 : V = if g1 = true ∧ g2 = true ∧ em = true ∧ k = 1 then some (t1, t2) else none := by
        rw [hv]
        by_cases hk : k = 1
        · rw [if_pos ⟨rfl, hk⟩]
          exact hvo.trans (by simp only [hq, hk, and_true])
        · rw [if_neg (fun q => hk q.2), if_neg (fun q => hk q.2.2.2)]
      clear hv hvo a1 a2 b1 b2 e1 e2 hq
      by_cases hgood : g1 = true ∧ g2 = true ∧ em = true ∧ k = 1
      · rw [if_pos hgood] at hv3
        obtain ⟨rfl, rfl, rfl, rfl⟩ := hgood
        rw [hv3]
        simp only []
        clear hv3
        cases hal : atF logN live with
        | none =>
          have htl := tab_at_none (unhide HRI) hal
          rw [show atF ⟨#[108, 111, 103]⟩ live = none from hal] at HAL
          rw [htl]
          simp only [Option.getD_none, log_empty]
          clear hal htl
          have HA1 := hide (unhide HAV W0 (unhide HL0).bel)
          have q0 := (unhide HL0).d0
          have q1 := unhide HFV
          go_enter Tryz.func27, Tryz.ntmps27
          go_wp2_with fail
          rw [unhide HW0]
          refine (unhide HA1).mono ?_
          rintro e w1 ⟨rfl, rfl⟩
          go_wp2_with fail
          refine (unhide HRD).mono ?_
          rintro e w2 ⟨vf, rfl, hof, hb2⟩
          obtain ⟨fa, fc, rfl⟩ := ownF_form hof
          have HL2 := hide ((unhide HL0).step hb2)
          have HO2 := hide (own_frm hof)
          clear hof hb2 q0 q1 HA1 HRD HFV HAV
          obtain ⟨gf, ea, l1, p0, p1⟩ := (OwnR.at (unhide HO2)).fm 0 (by simp)
          simp only [List.getElem_cons_zero, Nat.zero_mul, Nat.zero_add] at p0 p1
          subst ea
          go_wp2_with fail
          refine (unhide HN _).mono ?_
          rintro e w3 ⟨rfl, n3, rfl⟩
          go_wp2_with fail
          refine (unhide HM _).mono ?_
          rintro e w4 ⟨rfl, n4, rfl⟩
          obtain ⟨X, hX⟩ : ∃ X, X = ((w2.drewN (n3 + n4)).setCell ⟨w.heap.size + 1 + 1, 0, none⟩ (.int .i64 t1)).setCell ⟨w.heap.size + 1 + 1, 1, none⟩ (.int .i64 t2) := ⟨_, rfl⟩
          have L4 := (unhide HL2).step (belQ (Below.refl _ _) (n3 + n4))
          have HLX := hide (show LD w _ nL cL t1 t2 X from by rw [hX]; exact L4.put t1 t2)
          obtain ⟨-, dd0, -, -, -, -, -, -, jj0, jj1, jj2, kk0, kk1, kk2⟩ := unhide HL2
          have HX5 := hide hX.symm
          clear hX
          obtain ⟨-, d0, r0, r1, r2, y0, y1, y2, j0, j1, j2, -, -, -⟩ := unhide HLX
          go_wp2_with fail
          rw [unhide HX5]
          refine (unhide HAL X (unhide HLX).bel).mono ?_
          rintro e w2 ⟨rfl, rfl⟩
          go_wp2_with fail
          refine bodyPost_ret (v := .tuple #[.agg #[.int .i64 t1, .int .i64 t2, .slice none 0 0], .int .i64 0, .bool true]) (by simp [results, Tryz.results27, go_sem, r0, r1, r2]) rfl ⟨_, rfl, ownR_nil _ _ _, ?_⟩
          exact below3S (unhide HLX).bel (Nat.le_succ _)
        | some i =>
          obtain ⟨hi, hin⟩ := atF_lt logN live i hal
          have htl := tab_at_some (unhide HRI) hal
          rw [List.getD_eq_getElem?_getD, List.getElem?_eq_getElem hi, Option.getD_some] at htl
          rw [show atF ⟨#[108, 111, 103]⟩ live = some i from hal] at HAL
          have HV : atV (some i) = (i : Int) := rfl
          rw [HV] at HAL
          rw [htl]
          simp only [Option.getD_some]
          have hil : i < nL := by rw [← unhide HLN]; exact hi
          have hsz := (unhide HSZ live[i] (List.getElem_mem hi)).2
          have HCD := hide (fun (W : World) (hW : Below w.heap.size w W) => (unhide HD _ hW).file i hi)
          have i0 : (0 : Int) ≤ (i : Int) := by omega
          have i1 : (i : Int) < (nL : Int) := by omega
          have i2 : ¬ (i : Int) < 0 := by omega
          clear hal hin htl HV
          generalize live[i] = f at HCD hsz ⊢
          obtain ⟨fn, fd⟩ := f
          simp only at HCD hsz ⊢
          have HFD := hide (fun (W : World) (hW : Below w.heap.size w W) => show W.cell? ⟨g, i * 2 + 1, none⟩ = some (.string fd) from by obtain ⟨g', ea, _, _, p1⟩ := unhide HCD W hW; cases ea; exact p1)
          have HLG := hide (fun (W : World) => l5Log_calls fd t1 W (Nat.le_trans hsz (by decide)))
          generalize logF fd t1 = es at HLG ⊢
          clear HCD hsz hi
          have HA1 := hide (unhide HAV W0 (unhide HL0).bel)
          have q0 := (unhide HL0).d0
          have q1 := unhide HFV
          go_enter Tryz.func27, Tryz.ntmps27
          go_wp2_with fail
          rw [unhide HW0]
          refine (unhide HA1).mono ?_
          rintro e w1 ⟨rfl, rfl⟩
          go_wp2_with fail
          refine (unhide HRD).mono ?_
          rintro e w2 ⟨vf, rfl, hof, hb2⟩
          obtain ⟨fa, fc, rfl⟩ := ownF_form hof
          have HL2 := hide ((unhide HL0).step hb2)
          have HO2 := hide (own_frm hof)
          clear hof hb2 q0 q1 HA1 HRD HFV HAV
          obtain ⟨gf, ea, l1, p0, p1⟩ := (OwnR.at (unhide HO2)).fm 0 (by simp)
          simp only [List.getElem_cons_zero, Nat.zero_mul, Nat.zero_add] at p0 p1
          subst ea
          go_wp2_with fail
          refine (unhide HN _).mono ?_
          rintro e w3 ⟨rfl, n3, rfl⟩
          go_wp2_with fail
          refine (unhide HM _).mono ?_
          rintro e w4 ⟨rfl, n4, rfl⟩
          obtain ⟨X, hX⟩ : ∃ X, X = ((w2.drewN (n3 + n4)).setCell ⟨w.heap.size + 1 + 1, 0, none⟩ (.int .i64 t1)).setCell ⟨w.heap.size + 1 + 1, 1, none⟩ (.int .i64 t2) := ⟨_, rfl⟩
          have L4 := (unhide HL2).step (belQ (Below.refl _ _) (n3 + n4))
          have HLX := hide (show LD w _ nL cL t1 t2 X from by rw [hX]; exact L4.put t1 t2)
          obtain ⟨-, dd0, -, -, -, -, -, -, jj0, jj1, jj2, kk0, kk1, kk2⟩ := unhide HL2
          have HX5 := hide hX.symm
          clear hX
          obtain ⟨-, d0, r0, r1, r2, y0, y1, y2, j0, j1, j2, k0, k1, k2⟩ := unhide HLX
          go_wp2_with fail
          rw [unhide HX5]
          refine (unhide HAL X (unhide HLX).bel).mono ?_
          rintro e w2 ⟨rfl, rfl⟩
          clear HAL HSZ HRI HD
          go_wp2_with fail
          go_cut [16] (fun s16 wx => ∃ (a5 : Option Addr) (c5 : Nat), s16 = .int .i64 (logZ es : Nat) ∧ Hid (∃ w5, wx = w5.setCell ⟨w.heap.size + 2, 2, none⟩ (.slice a5 es.length c5) ∧ LD w (some ⟨g, 0, none⟩) nL cL t1 t2 w5 ∧ OwnR entE w5 X.heap.size (.slice a5 es.length c5) es))
          case first =>
            have Q0 : ∀ Y : World, LQ w (some ⟨g, 0, none⟩) nL cL t1 Y → Y.cell? ⟨w.heap.size, 0, none⟩ = some (.slice (some ⟨g, 0, none⟩) nL cL) := fun Y hY => hY.d0
            have Q1 : ∀ Y : World, LQ w (some ⟨g, 0, none⟩) nL cL t1 Y → Y.cell? ⟨w.heap.size + 2, 0, none⟩ = some (.int .i64 t1) := fun Y hY => hY.j0
            have Q2 : ∀ Y : World, LQ w (some ⟨g, 0, none⟩) nL cL t1 Y → Y.cell? ⟨g, i * 2 + 1, none⟩ = some (.string fd) := fun Y hY => unhide HFD Y hY.bel
            have B0 : LQ w (some ⟨g, 0, none⟩) nL cL t1 X.drew := (unhide HLX).q.step (belDrew (Below.refl _ _))
            go_region_held3 (fun w' => LQ w (some ⟨g, 0, none⟩) nL cL t1 w') (first | with_reducible exact B0 | with_reducible exact B5 | with_reducible exact BS) (first | (go_at_call 73; refine (unhide HLG _).mono ?_; rintro e w5 ⟨v5, rfl, ho5, hb5⟩; obtain ⟨a5, c5, hv5⟩ := ho5.form; subst hv5; have hb6 := bOfDrew hb5; have L5 := (unhide HLX).step hb6; have B5 := L5.q; have BS := B5.set2 (.slice a5 es.length c5); have s2 := L5.j2; have s3 := L5.k2))
            all_goals (try go_wp2_with fail)
            all_goals go_meet
            all_goals exact ⟨a5, c5, rfl, hide ⟨w5, rfl, L5, ho5⟩⟩
          case rest =>
          obtain ⟨a5, c5, rfl, HH⟩ := hcut
          obtain ⟨w5, rfl, L5, ho5⟩ := unhide HH
          obtain ⟨hbl5, d0, r0, r1, r2, y0, y1, y2, j0, j1, j2, k0, k1, k2⟩ := L5
          have HO5 := hide ho5
          have HB5 := hide hbl5
          have hxz := (unhide HLX).bel.size
          have hxj := lt_of_cell (unhide HLX).j0
          clear ho5 hbl5
          simp only at hxj
          go_wp2_with fail
          refine bodyPost_ret (v := .tuple #[.agg #[.int .i64 t1, .int .i64 t2, .slice a5 es.length c5], .int .i64 (logZ es : Nat), .bool true]) (by simp [results, Tryz.results27, go_sem, r0, r1, r2]) rfl ⟨_, rfl, ?_, ?_⟩
          · refine (OwnR.other (unhide HO5) (fun g' hg' => ?_)).le (by omega)
            have := (World.ownsRow.lt (unhide HO5) g' hg').1
            rw [heap_set (by omega), heap_set (by omega), heap_set (by omega), heap_set (by omega)]
          · exact below3S ((unhide HB5).setCell (p := ⟨w.heap.size + 2, 2, none⟩) (by show w.heap.size ≤ w.heap.size + 2; omega) _) (Nat.le_succ _)
      · rw [if_neg hgood] at hv3
        rw [hv3]
        simp only []
        clear hv3 HAL
        have h3 : (k ≠ 1) ∨ (k = 1 ∧ g1 = false) ∨ (k = 1 ∧ g1 = true ∧ g2 = false) ∨ (k = 1 ∧ g1 = true ∧ g2 = true ∧ em = false) := by
          by_cases hk : k = 1
          · cases g1 <;> cases g2 <;> cases em <;> simp_all
          · exact .inl hk
        clear hgood
        rcases h3 with h3 | ⟨rfl, rfl⟩ | ⟨rfl, rfl, rfl⟩ | ⟨rfl, rfl, rfl, rfl⟩
        all_goals
          have HA1 := hide (unhide HAV W0 (unhide HL0).bel)
          have q0 := (unhide HL0).d0
          have q1 := unhide HFV
          go_enter Tryz.func27, Tryz.ntmps27
          go_wp2_with fail
          rw [unhide HW0]
          refine (unhide HA1).mono ?_
          rintro e w1 ⟨rfl, rfl⟩
          go_wp2_with fail
          refine (unhide HRD).mono ?_
          rintro e w2 ⟨vf, rfl, hof, hb2⟩
          obtain ⟨fa, fc, rfl⟩ := ownF_form hof
          have HL2 := hide ((unhide HL0).step hb2)
          have HO2 := hide (own_frm hof)
          clear hof hb2 q0 q1 HA1 HRD HFV HAV
          obtain ⟨gf, ea, l1, p0, p1⟩ := (OwnR.at (unhide HO2)).fm 0 (by simp)
          simp only [List.getElem_cons_zero, Nat.zero_mul, Nat.zero_add] at p0 p1
          subst ea
          go_wp2_with fail
          refine (unhide HN _).mono ?_
          rintro e w3 ⟨rfl, n3, rfl⟩
          go_wp2_with fail
          refine (unhide HM _).mono ?_
          rintro e w4 ⟨rfl, n4, rfl⟩
          obtain ⟨hbl, d0, r0, r1, r2, y0, y1, y2, j0, j1, j2, k0, k1, k2⟩ := unhide HL2
          clear hbl
          go_wp2_with fail
          refine bodyPost_ret (v := .tuple #[.agg #[.int .i64 0, .int .i64 0, .slice none 0 0], .int .i64 0, .bool false]) (by simp [results, Tryz.results27, go_sem, r0, r1, r2]) rfl ⟨_, rfl, ownR_nil _ _ _, ?_⟩
          first
            | exact below3S (unhide HL2).bel (Nat.le_succ _)
            | exact below3S (belQ (unhide HL2).bel _) (Nat.le_succ _)
            | exact below3S (belQ (belQ (unhide HL2).bel _) _) (Nat.le_succ _)
end Go.Proofs.YtmgjkomgpkoenaaGreat


/- Recover of the specification. -/
namespace Go.Proofs.YtmgjkomgpkoenaaGreat
open Go.RowKit Plain
set_option linter.unusedVariables false

theorem recT_small (live safe : List Fl) (ops : List Dop) : (recT live safe ops).2.2.2.length ≤ 10000000 := by
  unfold recT
  split
  · split
    · exact Nat.zero_le _
    · exact Nat.le_trans (logE_small _ _ _ (Nat.zero_le _)) (by decide)
  · exact Nat.zero_le _
theorem recT_no {live safe : List Fl} {ops : List Dop} (h : (recT live safe ops).1 = false) : recT live safe ops = (false, 0, 0, []) := by
  unfold recT at h ⊢
  split
  · rename_i hd
    rw [if_pos hd] at h
    split
    · rfl
    · rename_i t v hv
      rw [hv] at h
      cases h
  · rfl

set_option maxRecDepth 10000 in
set_option maxHeartbeats 4000000 in
theorem spec_Recover (aL : Option Addr) (nL cL : Nat) (live : List Fl) (aS : Option Addr) (nS cS : Nat) (safe : List Fl) (aO : Option Addr) (nO cO : Nat) (ops : List Dop) (w : World) (h : DiskAt w aL nL cL live aS nS cS safe aO nO cO ops) :
    Calls Tryz.prog 7 #[.agg #[.slice aL nL cL, .slice aS nS cS, .slice aO nO cO]] w fun e w' => ∃ sl, e = .returned (.tuple #[.agg #[.int .i64 (recT live safe ops).2.1, .int .i64 (recT live safe ops).2.2.1, sl], .bool (recT live safe ops).1]) ∧ OwnR entE w' w.heap.size sl (recT live safe ops).2.2.2 ∧ Below w.heap.size w w' := by
  obtain ⟨W0, hW0⟩ : ∃ W0, W0 = (w.alloc (.cells #[.slice aL nL cL, .slice aS nS cS, .slice aO nO cO] 35)).alloc (.cells #[.int .i64 0, .int .i64 0, .slice none 0 0] 29) := ⟨_, rfl⟩
  have hb0 : Below w.heap.size w W0 := by rw [hW0]; exact belOn (bel1 _ _) (bel1 _ _)
  have hz0 : W0.heap.size = w.heap.size + 2 := by rw [hW0]; simp
  have c0 : W0.cell? ⟨w.heap.size, 0, none⟩ = some (.slice aL nL cL) := by rw [hW0]; simp [go_sem]
  have c1 : W0.cell? ⟨w.heap.size, 1, none⟩ = some (.slice aS nS cS) := by rw [hW0]; simp [go_sem]
  have c2 : W0.cell? ⟨w.heap.size, 2, none⟩ = some (.slice aO nO cO) := by rw [hW0]; simp [go_sem]
  have r0 : W0.cell? ⟨w.heap.size + 1, 0, none⟩ = some (.int .i64 0) := by rw [hW0]; simp [go_sem]
  have r1 : W0.cell? ⟨w.heap.size + 1, 1, none⟩ = some (.int .i64 0) := by rw [hW0]; simp [go_sem]
  have r2 : W0.cell? ⟨w.heap.size + 1, 2, none⟩ = some (.slice none 0 0) := by rw [hW0]; simp [go_sem]
  have y0 : W0.frozen? ⟨w.heap.size + 1, 0, none⟩ = false := by rw [hW0]; simp [go_sem]
  have y1 : W0.frozen? ⟨w.heap.size + 1, 1, none⟩ = false := by rw [hW0]; simp [go_sem]
  have y2 : W0.frozen? ⟨w.heap.size + 1, 2, none⟩ = false := by rw [hW0]; simp [go_sem]
  have HD := hide (fun (W : World) (hW : Below W0.heap.size W0 W) => (h.below hb0).below hW)
  have HC := hide (fun (W : World) (hW : Below W0.heap.size W0 W) => And.intro (bcl hW (by omega) c0) (And.intro (bcl hW (by omega) c1) (bcl hW (by omega) c2)))
  have HR := hide (fun (W : World) (hW : Below W0.heap.size W0 W) => And.intro (And.intro (bcl hW (by omega) r0) (And.intro (bcl hW (by omega) r1) (bcl hW (by omega) r2))) (And.intro ((hW.frozen (p := ⟨w.heap.size + 1, 0, none⟩) (by show w.heap.size + 1 < _; omega)).trans y0) (And.intro ((hW.frozen (p := ⟨w.heap.size + 1, 1, none⟩) (by show w.heap.size + 1 < _; omega)).trans y1) ((hW.frozen (p := ⟨w.heap.size + 1, 2, none⟩) (by show w.heap.size + 1 < _; omega)).trans y2))))
  have HFIN := hide (fun (W : World) (hW : Below W0.heap.size W0 W) => belOn hb0 hW)
  have HZ0 := hide hz0
  have HW0 := hide hW0.symm
  have HNO := hide (recT_no (live := live) (safe := safe) (ops := ops))
  have HDF := hide (show diskB live safe ops = false → recT live safe ops = (false, 0, 0, []) from fun q => by unfold recT; rw [q, if_neg (by simp)])
  have HDS := hide (fun (W : World) (hW : Below W0.heap.size W0 W) (q : diskB live safe ops = true) => l5Disk_calls aL nL cL live aS nS cS safe aO nO cO ops W ((h.below hb0).below hW) q)
  clear h hb0 c0 c1 c2 r0 r1 r2 y0 y1 y2 hW0 hz0
  generalize recT live safe ops = R at HNO HDF HDS ⊢
  cases hd : diskB live safe ops with
  | false =>
    rw [unhide HDF hd]
    have HX := hide hd
    clear hd HDF HDS HNO
    go_enter Tryz.func7, Tryz.ntmps7
    go_wp2_with fail
    rw [unhide HW0]
    obtain ⟨q0, q1, q2⟩ := unhide HC W0 (Below.refl _ _)
    go_wp2_with fail
    refine (spec_DiskOk aL nL cL live aS nS cS safe aO nO cO ops W0 (unhide HD _ (Below.refl _ _))).mono ?_
    rintro e w1 ⟨rfl, hb1⟩
    rw [unhide HX]
    have HB1 := hide (unhide HFIN _ hb1)
    obtain ⟨⟨r0, r1, r2⟩, y0, y1, y2⟩ := unhide HR _ hb1
    clear hb1
    go_wp2_with fail
    refine bodyPost_ret (v := .tuple #[.agg #[.int .i64 0, .int .i64 0, .slice none 0 0], .bool false]) (by simp [results, Tryz.results7, go_sem, r0, r1, r2]) rfl ⟨_, rfl, ownR_nil _ _ _, ?_⟩
    exact below3S (unhide HB1) (Nat.le_succ _)
  | true =>
    have HX := hide hd
    have HDS2 := hide (fun (W : World) (hW : Below W0.heap.size W0 W) => unhide HDS W hW hd)
    clear hd HDF HDS
    obtain ⟨ok, t, v, es⟩ := R
    simp only [] at HNO HDS2 ⊢
    have hz := unhide HZ0
    cases ok with
    | false =>
      have hno := unhide HNO rfl
      simp only [Prod.mk.injEq, true_and] at hno
      obtain ⟨rfl, rfl, rfl⟩ := hno
      go_enter Tryz.func7, Tryz.ntmps7
      go_wp2_with fail
      rw [unhide HW0]
      refine (spec_DiskOk aL nL cL live aS nS cS safe aO nO cO ops W0 (unhide HD _ (Below.refl _ _))).mono ?_
      rintro e w1 ⟨rfl, hb1⟩
      rw [unhide HX]
      obtain ⟨q0, q1, q2⟩ := unhide HC _ hb1
      have HB1 := hide hb1
      clear hb1
      go_wp2_with fail
      refine (unhide HDS2 _ (unhide HB1)).mono ?_
      rintro e w2 ⟨sl, rfl, ho, hb2⟩
      obtain ⟨a5, c5, rfl⟩ := ho.form
      obtain ⟨⟨r0, r1, r2⟩, y0, y1, y2⟩ := unhide HR _ (belOn (belOn (unhide HB1) hb2) (bel1 w2 (.cells #[.int .i64 0, .int .i64 0, .slice a5 0 c5] 29)))
      have HB2 := hide (unhide HFIN _ (belOn (unhide HB1) hb2))
      clear hb2 ho
      go_wp2_with fail
      refine bodyPost_ret (v := .tuple #[.agg #[.int .i64 0, .int .i64 0, .slice none 0 0], .bool false]) (by simp [results, Tryz.results7, go_sem, r0, r1, r2]) rfl ⟨_, rfl, ownR_nil _ _ _, ?_⟩
      exact below3S (belOn (unhide HB2) (bel1 _ _)) (Nat.le_succ _)
    | true =>
      clear HNO
      go_enter Tryz.func7, Tryz.ntmps7
      go_wp2_with fail
      rw [unhide HW0]
      refine (spec_DiskOk aL nL cL live aS nS cS safe aO nO cO ops W0 (unhide HD _ (Below.refl _ _))).mono ?_
      rintro e w1 ⟨rfl, hb1⟩
      rw [unhide HX]
      obtain ⟨q0, q1, q2⟩ := unhide HC _ hb1
      have HB1 := hide hb1
      clear hb1
      go_wp2_with fail
      refine (unhide HDS2 _ (unhide HB1)).mono ?_
      rintro e w2 ⟨sl, rfl, ho, hb2⟩
      obtain ⟨a5, c5, rfl⟩ := ho.form
      obtain ⟨⟨r0, r1, r2⟩, y0, y1, y2⟩ := unhide HR _ (belOn (belOn (unhide HB1) hb2) (bel1 w2 (.cells #[.int .i64 t, .int .i64 v, .slice a5 es.length c5] 29)))
      have HB2 := hide (unhide HFIN _ (belOn (unhide HB1) hb2))
      have HO2 := hide ho
      have hz1 := (unhide HB1).size
      clear hb2 ho
      go_wp2_with fail
      refine bodyPost_ret (v := .tuple #[.agg #[.int .i64 t, .int .i64 v, .slice a5 es.length c5], .bool true]) (by simp [results, Tryz.results7, go_sem, r0, r1, r2]) rfl ⟨_, rfl, ?_, ?_⟩
      · refine (OwnR.other (unhide HO2) (fun g' hg' => ?_)).le (by omega)
        have := World.ownsRow.lt (unhide HO2) g' hg'
        rw [heap_set (by omega), heap_set (by omega), heap_set (by omega)]
        exact ((bel1 _ _ : Below w2.heap.size w2 _).block g' this.2)
      · exact below3S (belOn (unhide HB2) (bel1 _ _)) (Nat.le_succ _)
end Go.Proofs.YtmgjkomgpkoenaaGreat

