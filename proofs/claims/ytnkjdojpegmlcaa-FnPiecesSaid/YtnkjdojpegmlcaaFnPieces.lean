/- For every two codes, the pieces of the text that is drawn of the first are the specification's, the text comes back from them in another order with one of them twice, and not from all but the first, and what is put together of the pieces that are drawn of the second is what the specification puts together; nothing that was there is changed. No condition. -/
import Derived.Test.YtnkjdojpegmlcaaRows
import Derived.Test.YtnkjdojpegmlcaaDrzA
import Derived.Test.YtnkjdojpegmlcaaDrzB
import Derived.Test.YtnkjdojpegmlcaaPcJ
import Derived.Test.YtnkjdojpegmlcaaDrzC
import Derived.WalkKit
import Derived.ProofKit
import Derived.OpenShut
import Derived.ShutString
import Derived.ChangeOld
import Derived.Below
namespace Go.Proofs.Ytnkjdojpegmlcaa.fnPieces
open Go.ChangeShapes Go.WideShapes Go.ChangeAt Go.RowKit
open Go.ChangeMaps (open_string shut_string)
open Plain
set_option linter.unusedVariables false

theorem own : ownKnob Try.prog.godebug = none := by kernel_rfl
theorem laidOut : laidOutB Try.prog = true := by kernel_rfl

set_option maxHeartbeats 1000000 in
theorem sameTexts_calls (a1 a2 : Option Addr) (c1 c2 n : Nat) (ls : List ByteArray) (w : World) (hn : ls.length = n) (hn2 : n ≤ 100000000) (h1 : StrsAt w a1 ls) (h2 : StrsAt w a2 ls) :
    Calls Try.prog 10 #[.slice a1 n c1, .slice a2 n c2] w fun e w' => e = .returned (.bool true) ∧ Below w.heap.size w w' := by
  have H1 := hide h1
  have H2 := hide h2
  have HN := hide hn
  clear h1 h2 hn
  go_enter Try.func10, Try.ntmps10
  go_wp2_with fail
  go_loopw [5] (fun i wr => ∃ (k : Nat), i = .int .i64 k ∧ k ≤ n ∧ Hid (Below w.heap.size w wr)) (fun i _ => n - (intOf i).toNat)
  case atStart => exact ⟨0, rfl, by omega, Below.refl _ _⟩
  case round =>
    obtain ⟨k, rfl, hk, HB⟩ := hrel
    by_cases hlt : k < n
    · obtain ⟨g1, o1, e1, l1, p1⟩ := (unhide H1).below (unhide HB) k (by rw [unhide HN]; exact hlt)
      obtain ⟨g2, o2, e2, l2, p2⟩ := (unhide H2).below (unhide HB) k (by rw [unhide HN]; exact hlt)
      generalize (ls[k]'(by rw [unhide HN]; exact hlt)) = x at p1 p2
      clear H1 H2
      subst e1 e2
      have i0 : (0 : Int) ≤ (k : Int) := by omega
      have i1 : (k : Int) < (n : Int) := by omega
      go_wp2_with fail
      go_region
      all_goals (try go_wp2_with fail)
      all_goals exact ⟨⟨k + 1, by go_num, by omega, hide (belDrew (unhide HB))⟩, by simp [intOf]; omega⟩
    · obtain rfl : k = n := by omega
      go_wp2_with fail
      go_ret
      exact ⟨rfl, unhide HB⟩
theorem rowBel {w w' : World} {a : Option Addr} {len cap : Nat} {zs : List Int} (h : IsRow .u8 w a len cap zs) (hb : Below w.heap.size w w') : IsRow .u8 w' a len cap zs := by
  rcases h with h | ⟨x, hx, h1, h2, h3, h4, h5⟩
  · exact .inl h
  · exact .inr ⟨x, hx, h1, h2, h3, fun i hi => (hb.cell (lt_of_cell (h4 i hi))).trans (h4 i hi), h5⟩

theorem pcs_case (s : ByteArray) (n : Int) : pcR s n = ([], false) ∨ ∃ m N : Nat, n = (m : Int) ∧ 1 ≤ m ∧ m ≤ 4000 ∧ s.size ≤ 20000 ∧ pcN s m = N ∧ N ≤ 20000 ∧ pcR s n = (pcL s m N, true) := by
  by_cases h : 1 ≤ n ∧ n ≤ 4000 ∧ s.size ≤ 20000
  · obtain ⟨m, rfl⟩ := Int.eq_ofNat_of_zero_le (show 0 ≤ n by omega)
    exact .inr ⟨m, _, rfl, by omega, by omega, h.2.2, rfl, pcN_le s m (by omega) h.2.2, pcR_in s m (by omega) (by omega) h.2.2⟩
  · refine .inl ?_
    unfold pcR
    rw [if_neg h]
theorem trn_small (t : ByteArray) (n N k : Nat) : ∀ s ∈ trn t n N k, s.size ≤ 20009 := by
  intro s hs
  unfold trn at hs
  obtain ⟨i, _, rfl⟩ := List.mem_map.1 hs
  exact frameB_le _ _
theorem trn_next (t : ByteArray) (n N k : Nat) : trn t n N (k + 1) = trn t n N k ++ [pcT t n (N - 1 - k)] := by simp [trn, List.range_succ]
theorem trn_len (t : ByteArray) (n N k : Nat) : (trn t n N k).length = k := by simp [trn]

set_option maxRecDepth 10000 in
set_option maxHeartbeats 8000000 in
theorem walk (a0 : Option Addr) (len0 cap0 : Nat) (z0 : List Int) (a1 : Option Addr) (len1 cap1 : Nat) (z1 : List Int) (w : World) (w0 : IsRow .u8 w a0 len0 cap0 z0) (w1 : IsRow .u8 w a1 len1 cap1 z1) :
    Calls Try.prog 3 #[.slice a0 len0 cap0, .slice a1 len1 cap1] w fun e w' => e = .returned (.bool true) ∧ Below w.heap.size w w' := by
  have hlen := w0.len
  have hlen1 := w1.len
  have H := hide w0
  have HI := hide w1
  clear w0 w1
  by_cases hbig : len0 ≤ 1048576
  · have hd : decide (1048576 < (len0 : Int)) = false := by simp; omega
    by_cases hbig1 : len1 ≤ 1048576
    · have hd1 : decide (1048576 < (len1 : Int)) = false := by simp; omega
      go_enter Try.func3, Try.ntmps3
      go_wp2_with fail
      refine (big_calls a0 len0 cap0 _ hlen).mono ?_
      rintro e w1 ⟨rfl, rfl⟩
      rw [hd]
      go_wp2_with fail
      refine (big_calls a1 len1 cap1 _ hlen1).mono ?_
      rintro e w1 ⟨rfl, rfl⟩
      rw [hd1]
      go_wp2_with fail
      refine (DrawPieces_calls a0 len0 cap0 z0 _ (unhide H) hbig).mono ?_
      rintro e w1 ⟨s, n, rfl, hs, hn0, hn1, hb1⟩
      have HB1 := hide hb1
      have hwf : (Lit.int .i64 n).wf = true := by
        show (decide (IntKind.i64.min ≤ n) && decide (n ≤ IntKind.i64.max)) = true
        rw [show IntKind.i64.max = 9223372036854775807 from rfl, show IntKind.i64.min = -9223372036854775808 from rfl]
        simp
        omega
      have HSP := hide (fun W => spec_Pieces s n W (by omega))
      have HIP := hide (fun W => impl_Pieces s n W (by omega) hwf)
      clear hb1 H hwf hd hd1 hn0 hn1
      rcases pcs_case s n with hR | ⟨m, N, rfl, hm1, hm2, hs2, hNN, hN, hR⟩
      · rw [hR] at HSP HIP
        clear hR
        go_wp2_with fail
        refine (unhide HSP _).mono ?_
        rintro e w2 ⟨v2, rfl, hO2, hb2⟩
        obtain ⟨a2, c2, e2⟩ := hO2.form
        rw [List.length_nil] at e2
        subst e2
        have HB2 := hide (belOn (unhide HB1) hb2)
        have HO2 := hide hO2.at.strs
        clear hb2 hO2 HB1
        go_wp2_with fail
        refine (unhide HIP _).mono ?_
        rintro e w3 ⟨v3, rfl, hO3, hb3⟩
        obtain ⟨a3, c3, e3⟩ := hO3.form
        rw [List.length_nil] at e3
        subst e3
        have HB3 := hide (belOn (unhide HB2) hb3)
        have HO23 := hide ((unhide HO2).below hb3)
        have HO3 := hide hO3
        clear hb3 hO3 HB2 HO2 HSP HIP
        go_wp2_with fail
        refine (sameTexts_calls a3 a2 c3 c2 0 [] _ rfl (by omega) (unhide HO3).at.strs (unhide HO23)).mono ?_
        rintro e w4 ⟨rfl, hb4⟩
        have HB4 := hide (belOn (unhide HB3) hb4)
        have HS4 := hide ((unhide HO3).at.strs.below hb4)
        clear hb4 HS4 HB3 HO3 HO23
        go_wp2_with fail
        refine (DrawWhole_calls a1 len1 cap1 z1 _ (rowBel (unhide HI) (unhide HB4)) hbig1).mono ?_
        rintro e wt1 ⟨at1, q, ct, os, rfl, hq, hq2, hsz, hSt, hbt⟩
        have HBt1 := hide (belOn (unhide HB4) hbt)
        have HSt := hide hSt
        have HSZt := hide (show ∀ s ∈ os, s.size ≤ 1048576 from fun s hs => by have := hsz s hs; omega)
        have HQ := hide hq
        clear hbt hSt hsz hq HB4 HI
        go_wp2_with fail
        refine (spec_Whole at1 q ct os _ (unhide HQ) (by omega) (unhide HSZt) (unhide HSt)).mono ?_
        rintro e wt2 ⟨rfl, hbt2⟩
        have HBt2 := hide (belOn (unhide HBt1) hbt2)
        have HSt2 := hide ((unhide HSt).below hbt2)
        have HIM := hide (fun W hW => impl_Whole at1 q ct os W (unhide HQ) (by omega) (unhide HSZt) hW)
        unfold WhPost at HIM
        generalize (wholeR os).1 = TT at HIM ⊢
        generalize (wholeR os).2 = FF at HIM ⊢
        clear hbt2 HSt HBt1
        go_wp2_with fail
        refine (unhide HIM _ (unhide HSt2)).mono ?_
        rintro e wt3 ⟨rfl, hbt3⟩
        have HBt3 := hide (belOn (unhide HBt2) hbt3)
        clear hbt3 HSt2 HBt2 HIM
        cases FF
        all_goals go_wp2_with fail
        all_goals go_ret
        all_goals exact ⟨rfl, unhide HBt3⟩
      · rw [hR] at HSP HIP
        obtain ⟨ls, hls⟩ : ∃ ls, pcL s m N = ls := ⟨_, rfl⟩
        rw [hls] at HSP HIP
        have HL := hide (show ls.length = N from by rw [← hls]; exact pcL_len _ _ _)
        have HG := hide (show ∀ j (h : j < ls.length), ls[j] = pcT s m j from by
          intro j h
          simp [← hls, pcL])
        have HZ := hide (show ∀ x ∈ ls, x.size ≤ 1048576 from fun x hx => by rw [← hls] at hx; have := pcL_small _ _ _ x hx; omega)
        have HW0 := hide (show N = 0 → wholeR [] = (s, true) from fun h => whole_nil s m hm1 (by omega))
        have HW1 := hide (show 0 < N → N < 2000 → wholeR (trn s m N N ++ [pcT s m 0]) = (s, true) from fun h1 h2 => by have := whole_trn s m hm1 hm2 hs2 (by omega) (by omega); rwa [hNN] at this)
        have HW2 := hide (show 1 < N → (wholeR (ls.drop 1)).2 = false from fun h1 => by have := whole_rest s m hm1 hm2 hs2 (by omega); rwa [hNN, hls] at this)
        clear hR hls hNN
        go_wp2_with fail
        refine (unhide HSP _).mono ?_
        rintro e w2 ⟨v2, rfl, hO2, hb2⟩
        obtain ⟨a2, c2, e2⟩ := hO2.form
        rw [unhide HL] at e2
        subst e2
        have HB2 := hide (belOn (unhide HB1) hb2)
        have HO2 := hide hO2.at.strs
        clear hb2 hO2 HB1
        go_wp2_with fail
        refine (unhide HIP _).mono ?_
        rintro e w3 ⟨v3, rfl, hO3, hb3⟩
        obtain ⟨a3, c3, e3⟩ := hO3.form
        rw [unhide HL] at e3
        subst e3
        have HB3 := hide (belOn (unhide HB2) hb3)
        have HO23 := hide ((unhide HO2).below hb3)
        have HO3 := hide hO3
        clear hb3 hO3 HB2 HO2 HSP HIP
        go_wp2_with fail
        refine (sameTexts_calls a3 a2 c3 c2 N ls _ (unhide HL) (by omega) (unhide HO3).at.strs (unhide HO23)).mono ?_
        rintro e w4 ⟨rfl, hb4⟩
        have HB4 := hide (belOn (unhide HB3) hb4)
        have HS4 := hide ((unhide HO3).at.strs.below hb4)
        have HC3 := hide (show 0 < N → ∃ g3, a3 = some ⟨g3, 0, none⟩ ∧ N ≤ c3 ∧ c3 ≤ 9223372036854775807 from by
          intro hp
          rcases (unhide HO3).2 with ⟨e, e'⟩ | ⟨g', cap', cur, e, hb, hc, h1, h2, h3, h4⟩
          · have := unhide HL
            omega
          · simp only [Value.slice.injEq] at e
            obtain ⟨rfl, -, rfl⟩ := e
            rw [unhide HL] at h1
            exact ⟨g', rfl, h1, h2⟩)
        clear hb4 HB3 HO3 HO23
        by_cases hN2 : N < 2000
        · have hN4 : (N : Int) < 2000 := by omega
          have hN3 : IntKind.i64.wrap ((N : Int) - 1) = (N : Int) - 1 := by rw [IntKind.wrap_i64]; omega
          go_wp2_with fail
          go_loopw [11, 12] (fun s11 s12 wr => ∃ k : Nat, s12 = .int .i64 ((N : Int) - 1 - (k : Int)) ∧ k ≤ N ∧ Hid (OwnR strE wr w4.heap.size s11 (trn s m N k)) ∧ Hid (Below w4.heap.size w4 wr)) (fun _ s12 _ => (intOf s12 + 1).toNat)
          case atStart => exact ⟨0, by simp, by omega, hide (ownR_empty strE w4 w4.heap.size (Nat.le_refl _)), hide (bel1 _ _)⟩
          case round =>
            obtain ⟨k, rfl, hk, HOr, HBr⟩ := hrel
            obtain ⟨ar, cr, er⟩ := (unhide HOr).form
            rw [trn_len] at er
            subst er
            have hzr : w4.heap.size ≤ wr.heap.size := (unhide HBr).size
            by_cases hkN : k < N
            · obtain ⟨X, hX⟩ : ∃ X : Nat, (N : Int) - 1 - (k : Int) = (X : Int) := ⟨N - 1 - k, by omega⟩
              rw [hX]
              obtain ⟨g, o, e1, l1, p1⟩ := (unhide HS4).below (unhide HBr) X (by rw [unhide HL]; omega)
              have hx := unhide HG X (by rw [unhide HL]; omega)
              generalize ls[X]'(by rw [unhide HL]; omega) = x at p1 hx
              have HX := hide hx
              subst e1
              have i0 : (0 : Int) ≤ (X : Int) := by omega
              have i1 : (X : Int) < (N : Int) := by omega
              have hX1 : IntKind.i64.wrap ((X : Int) - 1) = (X : Int) - 1 := by rw [IntKind.wrap_i64]; omega
              have hln : (trn s m N k).length < 100000000 := by rw [trn_len]; omega
              clear hx HC3
              go_wp2_with (at_builtin; go_must (refine appR (e := strE) rfl _ _ rfl (unhide HOr) rfl x rfl _ rfl rfl hln hzr ?_); intro v' w6 hown6 hb6 hg6; obtain ⟨a6, c6, e6⟩ := hown6.form; rw [List.length_append, trn_len, List.length_singleton] at e6; subst e6)
              have HO6 := hide (show OwnR strE w6 w4.heap.size (.slice a6 (k + 1) c6) (trn s m N (k + 1)) from by rw [trn_next, show N - 1 - k = X from by omega, ← unhide HX]; exact hown6)
              have HB6 := hide ((unhide HBr).trans hb6)
              clear hown6 hb6 hg6
              go_roundw
              case rel => exact ⟨k + 1, by rw [show (N : Int) - 1 - ((k + 1 : Nat) : Int) = (X : Int) - 1 from by omega], by omega, HO6, HB6⟩
              case measure => first | (simp [intOf]; done) | (simp [intOf]; omega)
            · obtain rfl : k = N := by omega
              rw [show (k : Int) - 1 - (k : Int) = -1 from by omega]
              by_cases hk0 : k = 0
              · subst hk0
                have HB5 := hide (belOn (unhide HB4) (unhide HBr))
                have hw := unhide HW0 rfl
                have HIW := hide (impl_Whole ar 0 cr [] wr rfl (by omega) (by simp) (StrsAt.nil _ _))
                unfold WhPost at HIW
                rw [hw] at HIW
                clear HBr hw HW0 HW1 HW2 HC3 HG HZ HOr
                go_wp2_with fail
                refine (unhide HIW).mono ?_
                rintro e w7 ⟨rfl, hb7⟩
                have HB7 := hide (belOn (unhide HB5) hb7)
                clear hb7 HB5 HIW
                go_wp2_with fail
                refine (DrawWhole_calls a1 len1 cap1 z1 _ (rowBel (unhide HI) (unhide HB7)) hbig1).mono ?_
                rintro e wt1 ⟨at1, q, ct, os, rfl, hq, hq2, hsz, hSt, hbt⟩
                have HBt1 := hide (belOn (unhide HB7) hbt)
                have HSt := hide hSt
                have HSZt := hide (show ∀ s ∈ os, s.size ≤ 1048576 from fun s hs => by have := hsz s hs; omega)
                have HQ := hide hq
                clear hbt hSt hsz hq HB7 HI
                go_wp2_with fail
                refine (spec_Whole at1 q ct os _ (unhide HQ) (by omega) (unhide HSZt) (unhide HSt)).mono ?_
                rintro e wt2 ⟨rfl, hbt2⟩
                have HBt2 := hide (belOn (unhide HBt1) hbt2)
                have HSt2 := hide ((unhide HSt).below hbt2)
                have HIM := hide (fun W hW => impl_Whole at1 q ct os W (unhide HQ) (by omega) (unhide HSZt) hW)
                unfold WhPost at HIM
                generalize (wholeR os).1 = TT at HIM ⊢
                generalize (wholeR os).2 = FF at HIM ⊢
                clear hbt2 HSt HBt1
                go_wp2_with fail
                refine (unhide HIM _ (unhide HSt2)).mono ?_
                rintro e wt3 ⟨rfl, hbt3⟩
                have HBt3 := hide (belOn (unhide HBt2) hbt3)
                clear hbt3 HSt2 HBt2 HIM
                cases FF
                all_goals go_wp2_with fail
                all_goals go_ret
                all_goals exact ⟨rfl, unhide HBt3⟩
              · have hk1 : 0 < k := by omega
                obtain ⟨g3, e3, hc1, hc2⟩ := unhide HC3 hk1
                subst e3
                obtain ⟨g, o, e1, l1, p1⟩ := (unhide HS4).below (unhide HBr) 0 (by rw [unhide HL]; omega)
                have hx := unhide HG 0 (by rw [unhide HL]; omega)
                generalize ls[0]'(by rw [unhide HL]; omega) = x at p1 hx
                obtain ⟨rfl, rfl⟩ : g3 = g ∧ 0 = o := by simpa using e1
                have HX := hide hx
                have i1 : (0 : Int) < (k : Int) := by omega
                have hln : (trn s m k k).length < 100000000 := by rw [trn_len]; omega
                clear hx e1
                go_wp2_with (at_builtin; go_must (refine appR (e := strE) rfl _ _ rfl (unhide HOr) rfl x rfl _ rfl rfl hln hzr ?_); intro v' w6 hown6 hb6 hg6)
                rw [unhide HX] at hown6
                obtain ⟨a6, c6, e6⟩ := hown6.form
                rw [List.length_append, trn_len, List.length_singleton] at e6
                subst e6
                have HB64 := hide ((unhide HBr).trans hb6)
                have HB6 := hide (belOn (unhide HB4) (unhide HB64))
                have HS6 := hide ((unhide HS4).below (unhide HB64))
                have hw := unhide HW1 hk1 hN2
                have HIW := hide (impl_Whole a6 (k + 1) c6 (trn s m k k ++ [pcT s m 0]) w6 (by rw [List.length_append, trn_len]; rfl) (by omega) (fun y hy => by
                  rcases List.mem_append.1 hy with h | h
                  · have := trn_small s m k k y h; omega
                  · rw [List.mem_singleton.1 h]; have := frameB_le 3 (putS ((0 : Nat) : Int) ++ putS (pcN s m : Int) ++ putT (pcP s m 0)); unfold pcT; omega) hown6.at.strs)
                unfold WhPost at HIW
                rw [hw] at HIW
                clear hown6 hb6 hg6 hw HOr HBr HW1 HW0 HC3 HG l1 p1
                go_wp2_with fail
                refine (unhide HIW).mono ?_
                rintro e w7 ⟨rfl, hb7⟩
                have HB7 := hide (belOn (unhide HB6) hb7)
                have HS7 := hide ((unhide HS6).below hb7)
                clear hb7 HB6 HIW HS6 HB64 HS4
                by_cases hk2 : 1 < k
                · have hw2 := unhide HW2 hk2
                  have HIX := hide (impl_Whole (some ⟨g3, 1, none⟩) (k - 1) (c3 - 1) (ls.drop 1) w7 (by rw [List.length_drop, unhide HL]) (by omega) (fun y hy => unhide HZ y (List.mem_of_mem_drop hy)) (by
                    intro i hi
                    rw [List.length_drop, unhide HL] at hi
                    obtain ⟨g', o', e', l', p'⟩ := (unhide HS7) (i + 1) (by rw [unhide HL]; omega)
                    cases e'
                    refine ⟨g3, 1, rfl, l', ?_⟩
                    rw [List.getElem_drop]
                    rw [show 0 + (i + 1) = 1 + i from by omega] at p'
                    simpa [Nat.add_comm] using p'))
                  unfold WhPost at HIX
                  rw [hw2] at HIX
                  generalize (wholeR (ls.drop 1)).1 = U at HIX
                  have j1 : (1 : Int) ≤ (k : Int) := by omega
                  have j2 : ¬ c3 = 1 := by omega
                  have j3 : (1 : Int) < (k : Int) := by omega
                  clear hw2 HW2 HS7 HZ HL
                  go_wp2_with fail
                  refine (unhide HIX).mono ?_
                  rintro e w8 ⟨rfl, hb8⟩
                  have HB8 := hide (belOn (unhide HB7) hb8)
                  clear hb8 HIX HB7
                  go_wp2_with fail
                  refine (DrawWhole_calls a1 len1 cap1 z1 _ (rowBel (unhide HI) (unhide HB8)) hbig1).mono ?_
                  rintro e wt1 ⟨at1, q, ct, os, rfl, hq, hq2, hsz, hSt, hbt⟩
                  have HBt1 := hide (belOn (unhide HB8) hbt)
                  have HSt := hide hSt
                  have HSZt := hide (show ∀ s ∈ os, s.size ≤ 1048576 from fun s hs => by have := hsz s hs; omega)
                  have HQ := hide hq
                  clear hbt hSt hsz hq HB8 HI
                  go_wp2_with fail
                  refine (spec_Whole at1 q ct os _ (unhide HQ) (by omega) (unhide HSZt) (unhide HSt)).mono ?_
                  rintro e wt2 ⟨rfl, hbt2⟩
                  have HBt2 := hide (belOn (unhide HBt1) hbt2)
                  have HSt2 := hide ((unhide HSt).below hbt2)
                  have HIM := hide (fun W hW => impl_Whole at1 q ct os W (unhide HQ) (by omega) (unhide HSZt) hW)
                  unfold WhPost at HIM
                  generalize (wholeR os).1 = TT at HIM ⊢
                  generalize (wholeR os).2 = FF at HIM ⊢
                  clear hbt2 HSt HBt1
                  go_wp2_with fail
                  refine (unhide HIM _ (unhide HSt2)).mono ?_
                  rintro e wt3 ⟨rfl, hbt3⟩
                  have HBt3 := hide (belOn (unhide HBt2) hbt3)
                  clear hbt3 HSt2 HBt2 HIM
                  cases FF
                  all_goals go_wp2_with fail
                  all_goals go_ret
                  all_goals exact ⟨rfl, unhide HBt3⟩
                · have j3 : ¬ (1 : Int) < (k : Int) := by omega
                  clear HS7 HZ HL HW2
                  go_wp2_with fail
                  refine (DrawWhole_calls a1 len1 cap1 z1 _ (rowBel (unhide HI) (unhide HB7)) hbig1).mono ?_
                  rintro e wt1 ⟨at1, q, ct, os, rfl, hq, hq2, hsz, hSt, hbt⟩
                  have HBt1 := hide (belOn (unhide HB7) hbt)
                  have HSt := hide hSt
                  have HSZt := hide (show ∀ s ∈ os, s.size ≤ 1048576 from fun s hs => by have := hsz s hs; omega)
                  have HQ := hide hq
                  clear hbt hSt hsz hq HB7 HI
                  go_wp2_with fail
                  refine (spec_Whole at1 q ct os _ (unhide HQ) (by omega) (unhide HSZt) (unhide HSt)).mono ?_
                  rintro e wt2 ⟨rfl, hbt2⟩
                  have HBt2 := hide (belOn (unhide HBt1) hbt2)
                  have HSt2 := hide ((unhide HSt).below hbt2)
                  have HIM := hide (fun W hW => impl_Whole at1 q ct os W (unhide HQ) (by omega) (unhide HSZt) hW)
                  unfold WhPost at HIM
                  generalize (wholeR os).1 = TT at HIM ⊢
                  generalize (wholeR os).2 = FF at HIM ⊢
                  clear hbt2 HSt HBt1
                  go_wp2_with fail
                  refine (unhide HIM _ (unhide HSt2)).mono ?_
                  rintro e wt3 ⟨rfl, hbt3⟩
                  have HBt3 := hide (belOn (unhide HBt2) hbt3)
                  clear hbt3 HSt2 HBt2 HIM
                  cases FF
                  all_goals go_wp2_with fail
                  all_goals go_ret
                  all_goals exact ⟨rfl, unhide HBt3⟩
        · have j3 : ¬ (N : Int) < 2000 := by omega
          clear HS4 HC3 HG HZ HW0 HW1 HW2 HL
          go_wp2_with fail
          refine (DrawWhole_calls a1 len1 cap1 z1 _ (rowBel (unhide HI) (unhide HB4)) hbig1).mono ?_
          rintro e wt1 ⟨at1, q, ct, os, rfl, hq, hq2, hsz, hSt, hbt⟩
          have HBt1 := hide (belOn (unhide HB4) hbt)
          have HSt := hide hSt
          have HSZt := hide (show ∀ s ∈ os, s.size ≤ 1048576 from fun s hs => by have := hsz s hs; omega)
          have HQ := hide hq
          clear hbt hSt hsz hq HB4 HI
          go_wp2_with fail
          refine (spec_Whole at1 q ct os _ (unhide HQ) (by omega) (unhide HSZt) (unhide HSt)).mono ?_
          rintro e wt2 ⟨rfl, hbt2⟩
          have HBt2 := hide (belOn (unhide HBt1) hbt2)
          have HSt2 := hide ((unhide HSt).below hbt2)
          have HIM := hide (fun W hW => impl_Whole at1 q ct os W (unhide HQ) (by omega) (unhide HSZt) hW)
          unfold WhPost at HIM
          generalize (wholeR os).1 = TT at HIM ⊢
          generalize (wholeR os).2 = FF at HIM ⊢
          clear hbt2 HSt HBt1
          go_wp2_with fail
          refine (unhide HIM _ (unhide HSt2)).mono ?_
          rintro e wt3 ⟨rfl, hbt3⟩
          have HBt3 := hide (belOn (unhide HBt2) hbt3)
          clear hbt3 HSt2 HBt2 HIM
          cases FF
          all_goals go_wp2_with fail
          all_goals go_ret
          all_goals exact ⟨rfl, unhide HBt3⟩
    · have hd1 : decide (1048576 < (len1 : Int)) = true := by simp; omega
      go_enter Try.func3, Try.ntmps3
      go_wp2_with fail
      refine (big_calls a0 len0 cap0 _ hlen).mono ?_
      rintro e w1 ⟨rfl, rfl⟩
      rw [hd]
      go_wp2_with fail
      refine (big_calls a1 len1 cap1 _ hlen1).mono ?_
      rintro e w1 ⟨rfl, rfl⟩
      rw [hd1]
      go_wp2_with fail
      go_ret
      exact ⟨rfl, Below.refl _ _⟩
  · have hd : decide (1048576 < (len0 : Int)) = true := by simp; omega
    go_enter Try.func3, Try.ntmps3
    go_wp2_with fail
    refine (big_calls a0 len0 cap0 _ hlen).mono ?_
    rintro e w1 ⟨rfl, rfl⟩
    rw [hd]
    go_wp2_with fail
    go_ret
    exact ⟨rfl, Below.refl _ _⟩

set_option maxRecDepth 100000 in
theorem lifted (os : Os) (started : os.Started) (H : Type) (enc : TypeId × Value → H) :
    ReturnsInHanded {} Try.checked os 3 .any (Rows.fnPiecesSpec.pre6 enc Try.prog Try.f3 Rows.fnPiecesRow.domain false) (Rows.fnPiecesSpec.post enc Try.prog Try.f3 false true false false) := by
  refine returnsInHanded_of_change (C := Try.checked) own started (by kernel_rfl) Try.func3
    (ChangeSpec.witness6 (enc := enc) (C := Try.checked) false ⟨#[], #[.slice none 0 0, .slice none 0 0], []⟩ 8 (by kernel_rfl) (by kernel_rfl) (by kernel_rfl) (by kernel_rfl)) ?_
  intro W base args ds gs before hval0 hW hcnd _
  have hval : ∀ (j : Nat) t v, Try.f3.params[j]? = some t → args[j]? = some v → Value.okWide Try.prog W .any base t v := hval0
  have hW' := hW
  obtain ⟨p, q, hA0, hV, rfl, hfz, hnd⟩ := hW
  have hA : DataW.TrodAll enc Try.prog W 0 (fun _ => true) true Try.f3.params.toList args.toList ds p := hA0
  rw [Try.params3] at hA hval
  obtain ⟨v0, vs0, d0, ds0, p0, q0, hargs, rfl, rfl, h0, r0⟩ := trodAll_cons hA
  obtain ⟨v1, vs1, d1, ds1, p1, q1, rfl, rfl, rfl, h1, r1⟩ := trodAll_cons r0
  obtain ⟨rfl, rfl, rfl⟩ := trodAll_nil r1
  obtain rfl : args = #[v0, v1] := by cases args; simp_all
  obtain ⟨rfl, rfl⟩ := trodVars_none hV
  have k0 := h0
  have lt0 : ∀ x ∈ p0, x.block < W.heap.size := by obtain ⟨m, hm⟩ := k0; exact DataW.trod_lt m _ _ _ hm
  obtain ⟨a0, len0, cap0, rfl⟩ := okWide_slice Try.underlying22 (hval 0 22 v0 rfl rfl)
  obtain ⟨z0, w0⟩ : ∃ zs, IsRow .u8 W a0 len0 cap0 zs := by
    obtain ⟨fuel, hf⟩ := h0
    rcases open_ints Try.underlying22 Try.underlying5 (by kernel_rfl) hf with ⟨hcs, _⟩ | ⟨x, l, c, zs, hcs, _, hl, hm, hz, _, hcell, hwz⟩
    · simp [Value.cells] at hcs
      obtain ⟨rfl, rfl, rfl⟩ := hcs
      exact ⟨[], .inl ⟨rfl, rfl, rfl, rfl⟩⟩
    · simp [Value.cells] at hcs
      obtain ⟨rfl, rfl, rfl⟩ := hcs
      exact ⟨zs, .inr ⟨_, rfl, hl, hm, by simpa using hz, hcell, hwz⟩⟩
  have k1 := h1
  have lt1 : ∀ x ∈ p1, x.block < W.heap.size := by obtain ⟨m, hm⟩ := k1; exact DataW.trod_lt m _ _ _ hm
  obtain ⟨a1, len1, cap1, rfl⟩ := okWide_slice Try.underlying22 (hval 1 22 v1 rfl rfl)
  obtain ⟨z1, w1⟩ : ∃ zs, IsRow .u8 W a1 len1 cap1 zs := by
    obtain ⟨fuel, hf⟩ := h1
    rcases open_ints Try.underlying22 Try.underlying5 (by kernel_rfl) hf with ⟨hcs, _⟩ | ⟨x, l, c, zs, hcs, _, hl, hm, hz, _, hcell, hwz⟩
    · simp [Value.cells] at hcs
      obtain ⟨rfl, rfl, rfl⟩ := hcs
      exact ⟨[], .inl ⟨rfl, rfl, rfl, rfl⟩⟩
    · simp [Value.cells] at hcs
      obtain ⟨rfl, rfl, rfl⟩ := hcs
      exact ⟨zs, .inr ⟨_, rfl, hl, hm, by simpa using hz, hcell, hwz⟩⟩
  clear hA0 hval0
  refine (walk a0 len0 cap0 z0 a1 len1 cap1 z1 W w0 w1).mono fun e W' ⟨he, bel⟩ => ?_
  subst he
  exact ⟨_, rfl, _, _, _, [], _, [], hW', trodAll_mk1 (shut_bool Try.underlying4 _), (trodAll_cons_mk (Below.trod laidOut (by kernel_rfl) (of_decide_eq_true (by kernel_rfl)) k0 bel lt0) (trodAll_cons_mk (Below.trod laidOut (by kernel_rfl) (of_decide_eq_true (by kernel_rfl)) k1 bel lt1) trodAll_mk0)), rfl, bel.frame _, fun h => by cases h⟩

theorem named : Try.pinned.checked.prog.funcNamed Rows.fnPiecesRow.func = some 3 := by kernel_rfl
theorem closed : joinedFacts Try.pinned.checked.prog 3 Try.f3 Rows.fnPiecesSpec Rows.fnPiecesRow = true := by kernel_rfl
theorem over : Rows.fnPiecesRow.holds Try.pinned (OpenSpec.ofChange Rows.fnPiecesSpec) :=
  OpenClaim.holds_of_wide 3 Try.f3 rfl rfl rfl rfl rfl rfl rfl ⟨rfl, rfl, rfl, rfl, rfl⟩ rfl rfl rfl rfl rfl named Try.func3 closed
    (of_decide_eq_true (by kernel_rfl)) (by unfold Func.isWrapper; first | (rw [if_pos (by decide +kernel)]; kernel_rfl) | (rw [if_neg (by decide +kernel)]; exact ⟨rfl, rfl⟩))
    (fun os started H enc _ => lifted os started H enc)

end Go.Proofs.Ytnkjdojpegmlcaa.fnPieces
namespace Go.Proofs.Ytnkjdojpegmlcaa
theorem fnPieces_holds : Rows.FnPiecesSaid := fnPieces.over
#print axioms fnPieces_holds
end Go.Proofs.Ytnkjdojpegmlcaa
