/- The program's disks: which are right. -/
import Derived.Test.YtknpccpfjclngaaLstI
namespace Go.Proofs.Ytknpccpfjclngaa
open Go.RowKit Go.Maps Plain
set_option linter.unusedVariables false

set_option maxHeartbeats 4000000 in
theorem equal_calls (a1 a2 : Option Addr) (n1 n2 c1 c2 : Nat) (s t : List Fl) (w : World) (hs : s.length = n1) (ht : t.length = n2) (hn : n1 ≤ 100000000) (hn2 : n2 ≤ 100000000) (h1 : RowAt fileE w a1 s) (h2 : RowAt fileE w a2 t) :
    Calls Try.prog 37 #[.slice a1 n1 c1, .slice a2 n2 c2] w fun e w' => e = .returned (.bool (sameF s t)) ∧ Below w.heap.size w w' := by
  by_cases hl : n1 = n2
  · subst hl
    have H1 := hide h1
    have H2 := hide h2
    have HS := hide hs
    have HT := hide ht
    clear h1 h2 hs ht
    go_enter Try.func37, Try.ntmps37
    go_wp2_with fail
    go_loopw [13] (fun i wr => ∃ k : Nat, i = .int .i64 k ∧ k ≤ n1 ∧ Hid (sameF (s.drop k) (t.drop k) = sameF s t) ∧ Hid (Below w.heap.size w wr)) (fun i _ => n1 - (intOf i).toNat)
    case atStart => exact ⟨0, rfl, by omega, hide rfl, hide (Below.refl _ _)⟩
    case round =>
      obtain ⟨k, rfl, hk, HR, HB⟩ := hrel
      by_cases hkn : k < n1
      · have k1 : k < s.length := by rw [unhide HS]; exact hkn
        have k2 : k < t.length := by rw [unhide HT]; exact hkn
        obtain ⟨g, e1, l1, p0, p1⟩ := ((unhide H1).below (unhide HB)).file k k1
        obtain ⟨g2, e2, l2, q0, q1⟩ := ((unhide H2).below (unhide HB)).file k k2
        have hst := sameF_step s t k k1 k2
        generalize s[k] = f at p0 p1 hst
        generalize t[k] = f2 at q0 q1 hst
        obtain ⟨fn, fd⟩ := f
        obtain ⟨gn, gd⟩ := f2
        simp only at p0 p1 q0 q1 hst
        subst e1 e2
        have i0 : (0 : Int) ≤ (k : Int) := by omega
        have i1 : (k : Int) < (n1 : Int) := by omega
        cases hx : eqN fn gn with
        | false =>
          have HF := hide (show sameF s t = false from by rw [← unhide HR, hst, hx]; rfl)
          unfold eqN at hx
          clear hst HR
          go_wp2_with fail
          go_quiet (fail)
          all_goals (try go_wp2_with fail)
          all_goals go_ret
          all_goals exact ⟨by rw [unhide HF]; rfl, belN (unhide HB) _⟩
        | true =>
          cases hy : eqN fd gd with
          | false =>
            have HF := hide (show sameF s t = false from by rw [← unhide HR, hst, hx, hy]; rfl)
            unfold eqN at hx hy
            clear hst HR
            go_wp2_with fail
            go_quiet (fail)
            all_goals (try go_wp2_with fail)
            all_goals go_ret
            all_goals exact ⟨by rw [unhide HF]; rfl, belN (unhide HB) _⟩
          | true =>
            have HF := hide (show sameF (s.drop (k + 1)) (t.drop (k + 1)) = sameF s t from by rw [← unhide HR, hst, hx, hy]; rfl)
            unfold eqN at hx hy
            clear hst HR
            go_wp2_with fail
            go_quiet (fail)
            all_goals (try go_wp2_with fail)
            all_goals exact ⟨⟨k + 1, by go_num, by omega, HF, hide (belN (unhide HB) _)⟩, by simp [intOf]; omega⟩
      · have HF := unhide HR
        rw [List.drop_of_length_le (by rw [unhide HS]; omega), List.drop_of_length_le (by rw [unhide HT]; omega)] at HF
        have HFF := hide HF
        clear HR HF
        go_wp2_with fail
        go_ret
        exact ⟨by rw [← unhide HFF]; rfl, unhide HB⟩
  · rw [sameF_len s t (by omega)]
    have b : ((n1 : Int) == (n2 : Int)) = false := by simp; omega
    clear h1 h2 hs ht
    go_enter Try.func37, Try.ntmps37
    go_wp2_with fail
    go_ret
    exact ⟨rfl, Below.refl _ _⟩

namespace Plain
theorem sumF_le {fs : List Fl} (h : FitF fs) : sumF fs ≤ fs.length * 1000000000000 := by
  induction fs with
  | nil => simp [sumF]
  | cons f t ih =>
    have h1 := (h f (by simp)).2
    have h2 := ih (fun g hg => h g (by simp [hg]))
    rw [sumF, List.length_cons, Nat.succ_mul]
    omega
theorem files_ok {fs : List Fl} (h : filesB fs = true) : okF none fs = true ∧ Risen fs := by
  unfold filesB at h
  rw [Bool.and_eq_true, Bool.and_eq_true] at h
  exact ⟨h.2.1, ((okF_none fs).1 h.2.1).2⟩
end Plain
/-- A table with right files. -/
structure Plain.TabOk (W : World) (b m : Nat) (now : List Fl) : Prop where
  tab : Tab W b m (tabF now)
  ok : filesB now = true
theorem tooFull_do (b m : Nat) (now : List Fl) (o : Dop) (w : World) (hok : filesB now = true) (ho : formB o = true) (hsm : SmO o) (h : Tab w b m (tabF (doF now o).1)) :
    Calls Try.prog 29 #[.map (some b)] w fun e w' => e = .returned (.bool (!filesB (doF now o).1)) ∧ Below w.heap.size w w' := by
  obtain ⟨hfit, hln⟩ := do_fit hok hsm
  have hr := risen_do (files_ok hok).2 o
  have hsum := sumF_le hfit
  rw [filesB_do (files_ok hok).1 o ho]
  exact tooFull_calls b m _ w h hr.names (by omega) (by omega)

set_option maxRecDepth 10000 in
set_option maxHeartbeats 8000000 in
theorem impl_DiskOkO (aL : Option Addr) (nL cL : Nat) (live : List Fl) (aS : Option Addr) (nS cS : Nat) (safe : List Fl) (aO : Option Addr) (nO cO : Nat) (ops : List Dop) (w : World) (h : DiskO w aL nL cL live aS nS cS safe aO nO cO ops) :
    Calls Try.prog 12 #[.agg #[.slice aL nL cL, .slice aS nS cS, .slice aO nO cO]] w fun e w' => e = .returned (.bool (diskB live safe ops)) ∧ Below w.heap.size w w' := by
  obtain ⟨W0, hW0⟩ : ∃ W0, W0 = w.alloc (.cells #[.slice aL nL cL, .slice aS nS cS, .slice aO nO cO] 27) := ⟨_, rfl⟩
  have hb0 : Below w.heap.size w W0 := by rw [hW0]; exact bel1 _ _
  have hlt : w.heap.size < W0.heap.size := by rw [hW0]; simp
  have c0 : W0.cell? ⟨w.heap.size, 0, none⟩ = some (.slice aL nL cL) := by rw [hW0]; simp [go_sem]
  have c1 : W0.cell? ⟨w.heap.size, 1, none⟩ = some (.slice aS nS cS) := by rw [hW0]; simp [go_sem]
  have c2 : W0.cell? ⟨w.heap.size, 2, none⟩ = some (.slice aO nO cO) := by rw [hW0]; simp [go_sem]
  have HD := hide (fun (W : World) (hW : Below W0.heap.size W0 W) => (h.below hb0).below hW)
  have HC := hide (fun (W : World) (hW : Below W0.heap.size W0 W) => And.intro (bcl hW hlt c0) (And.intro (bcl hW hlt c1) (bcl hW hlt c2)))
  have HFIN := hide (fun (W : World) (hW : Below W0.heap.size W0 W) => belOn hb0 hW)
  have HW0 := hide hW0.symm
  have hbl := h.bl
  have hbs := h.bs
  have hbo := h.bo
  have HH := hide h
  clear h hb0 hlt c0 c1 c2 hW0
  cases hL : filesB live with
  | false =>
    rw [show diskB live safe ops = false from by unfold diskB; rw [hL]; rfl]
    have HL := hide hL
    clear hL
    go_enter Try.func12, Try.ntmps12
    go_wp2_with fail
    rw [unhide HW0]
    refine (filesOk_calls aL nL cL live W0 (unhide HH).ll (by omega) (unhide HH).fl (unhide HD _ (Below.refl _ _)).rl).mono ?_
    rintro e w1 ⟨rfl, hb1⟩
    rw [unhide HL]
    have HB1 := hide (unhide HFIN _ hb1)
    clear hb1
    go_wp2_with fail
    go_ret
    exact ⟨rfl, unhide HB1⟩
  | true =>
    have HL := hide hL
    cases hS : filesB safe with
    | false =>
      rw [show diskB live safe ops = false from by unfold diskB; rw [hL, hS]; rfl]
      have HS := hide hS
      clear hL hS
      go_enter Try.func12, Try.ntmps12
      go_wp2_with fail
      rw [unhide HW0]
      refine (filesOk_calls aL nL cL live W0 (unhide HH).ll (by omega) (unhide HH).fl (unhide HD _ (Below.refl _ _)).rl).mono ?_
      rintro e w1 ⟨rfl, hb1⟩
      rw [unhide HL]
      have HB1 := hide hb1
      obtain ⟨q0, q1, q2⟩ := unhide HC _ hb1
      clear hb1
      go_wp2_with fail
      refine (filesOk_calls aS nS cS safe w1 (unhide HH).ls (by omega) (unhide HH).fs (unhide HD _ (unhide HB1)).rs).mono ?_
      rintro e w2 ⟨rfl, hb2⟩
      rw [unhide HS]
      have HB2 := hide (unhide HFIN _ (belOn (unhide HB1) hb2))
      clear hb2
      go_wp2_with fail
      go_ret
      exact ⟨rfl, unhide HB2⟩
    | true =>
      have HS := hide hS
      by_cases hO : nO ≤ 200
      · obtain ⟨R, hR⟩ : ∃ R, diskB live safe ops = R := ⟨_, rfl⟩
        have HRV := hide (fun r (hr : runF safe ops = r) => show R = diskV live safe r from by rw [← hR, diskB_eq hL hS (by rw [(unhide HH).lo]; exact hO), hr]; rfl)
        rw [hR]
        clear hR hL hS
        go_enter Try.func12, Try.ntmps12
        go_wp2_with fail
        rw [unhide HW0]
        refine (filesOk_calls aL nL cL live W0 (unhide HH).ll (by omega) (unhide HH).fl (unhide HD _ (Below.refl _ _)).rl).mono ?_
        rintro e w1 ⟨rfl, hb1⟩
        rw [unhide HL]
        have HB1 := hide hb1
        obtain ⟨q0, q1, q2⟩ := unhide HC _ hb1
        clear hb1
        go_wp2_with fail
        refine (filesOk_calls aS nS cS safe w1 (unhide HH).ls (by omega) (unhide HH).fs (unhide HD _ (unhide HB1)).rs).mono ?_
        rintro e w2 ⟨rfl, hb2⟩
        rw [unhide HS]
        have HB2 := hide (belOn (unhide HB1) hb2)
        obtain ⟨r0, r1, r2⟩ := unhide HC _ (unhide HB2)
        clear hb2 q0 q1 q2 HB1
        go_wp2_with fail
        have hnS : nS ≤ 60 := by have h1 := (files_small (unhide HS)).1; rw [(unhide HH).ls] at h1; exact h1
        refine (tableOf_calls aS nS cS safe w2 (unhide HH).ls (by omega) (unhide HH).fs (unhide HD _ (unhide HB2)).rs).mono ?_
        rintro e w3 ⟨b, m0, rfl, hbb, hm0, HT0, hb3⟩
        have HB3 := hide (belOn (unhide HB2) hb3)
        have hbW : W0.heap.size ≤ b := Nat.le_trans (unhide HB2).size hbb
        have hm60 : m0 ≤ 60 := by omega
        clear r0 r1 r2 hb3 hbb hm0
        obtain ⟨q0, q1, q2⟩ := unhide HC _ (unhide HB3)
        go_wp2_with fail
        go_loopw [30] (fun i wr => ∃ (k m : Nat) (now : List Fl), i = .int .i64 k ∧ k ≤ nO ∧ m ≤ 60 + k ∧ Hid (TabOk wr b m now) ∧ Hid (Below W0.heap.size W0 wr) ∧ Hid (runF now (ops.drop k) = runF safe ops)) (fun i _ => nO - (intOf i).toNat)
        case atStart => exact ⟨0, m0, safe, rfl, by omega, by omega, hide ⟨unhide HT0, unhide HS⟩, HB3, hide rfl⟩
        case round =>
          clear q0 q1 q2
          obtain ⟨k, m, now, rfl, hk, hm, HN, HB, HR⟩ := hrel
          obtain ⟨q0, q1, q2⟩ := unhide HC _ (unhide HB)
          by_cases hkn : k < nO
          · have hkl : k < ops.length := by rw [(unhide HH).lo]; exact hkn
            obtain ⟨g, ob, e1, l1, p0, p1, p2, p3⟩ := (unhide HD _ (unhide HB)).ro.dop k hkl
            have hsm := (unhide HH).fo ops[k] (by simp)
            have hst := runF_step now ops k hkl
            generalize ops[k] = o at p0 p1 p2 p3 hsm hst
            have HCH := hide (fun W => changeOf_calls o W hsm.fit)
            have HAP := hide (fun (W : World) (hT : Tab W b m (tabF now)) (ho : formB o = true) => apply_calls b m now o W hT (files_ok (unhide HN).ok).2 ho (by omega) (small_fit (unhide HN).ok) hsm.fit)
            have HTF := hide (fun (W : World) (m : Nat) (ho : formB o = true) (hT : Tab W b m (tabF (doF now o).1)) => tooFull_do b m now o W (unhide HN).ok ho hsm hT)
            have HST := hide (hst.symm.trans (unhide HR))
            obtain ⟨V, hV⟩ : ∃ V, chV o = V := ⟨_, rfl⟩
            have hbb := (unhide HN).tab.lt
            have hDV : dopV o = .agg #[.int .i64 o.kind, .string o.name, .string o.to, .string o.data] := rfl
            rw [hV, hDV] at HCH
            rw [hV] at HAP
            generalize hfm : formB o = B at HCH HAP HTF HST
            generalize doF now o = D at HAP HTF HST
            obtain ⟨kd, nm, to, dt⟩ := o
            simp only at p0 p1 p2 p3 HCH
            subst e1
            have i0 : (0 : Int) ≤ (k : Int) := by omega
            have i1 : (k : Int) < (nO : Int) := by omega
            clear hsm hst HR hfm hV hDV
            obtain ⟨nx, bb⟩ := D
            simp only at HAP HTF HST
            go_wp2_with fail
            refine (unhide HCH _).mono ?_
            rintro e w4 ⟨rfl, hb4⟩
            have HB4 := hide (belOn (belOn (unhide HB) (bel1 wr _)) hb4)
            have HT4 := hide ((unhide HN).tab.below (belOn (bel1 wr _) hb4) hbb)
            clear hb4 q0 q1 q2 p0 p1 p2 p3
            obtain ⟨q0, q1, q2⟩ := unhide HC _ (unhide HB4)
            cases B with
            | false =>
              have HX := hide (unhide HRV none (by have := unhide HST; rw [← this]; simp))
              have HBF := hide (unhide HFIN _ (unhide HB4))
              clear HST
              go_wp2_with fail
              go_ret
              exact ⟨by rw [unhide HX]; rfl, unhide HBF⟩
            | true =>
              go_wp2_with fail
              refine (unhide HAP w4 (unhide HT4) (by trivial)).mono ?_
              rintro e w5 ⟨rfl, HT5, ho5⟩
              have HB5 := hide ((unhide HB4).trans (ho5.below (fun g o e => by cases e; exact hbW) (unhide HB4).size))
              clear ho5 q0 q1 q2
              obtain ⟨q0, q1, q2⟩ := unhide HC _ (unhide HB5)
              cases bb with
              | false =>
                have HX := hide (unhide HRV none (by have := unhide HST; rw [← this]; simp))
                have HBF := hide (unhide HFIN _ (unhide HB5))
                clear HST
                go_wp2_with fail
                go_ret
                exact ⟨by rw [unhide HX]; rfl, unhide HBF⟩
              | true =>
                go_wp2_with fail
                refine (unhide HTF w5 (m + 1) (by trivial) (unhide HT5)).mono ?_
                rintro e w6 ⟨rfl, hb6⟩
                have HB6 := hide (belOn (unhide HB5) hb6)
                have HT6 := hide ((unhide HT5).below hb6 (unhide HT5).lt)
                clear hb6 q0 q1 q2
                cases hfl : filesB nx with
                | false =>
                  have HX := hide (unhide HRV none (by have := unhide HST; rw [← this, hfl]; simp))
                  have HBF := hide (unhide HFIN _ (unhide HB6))
                  clear HST
                  go_wp2_with fail
                  go_ret
                  exact ⟨by rw [unhide HX]; rfl, unhide HBF⟩
                | true =>
                  have HX := hide (show runF nx (ops.drop (k + 1)) = runF safe ops from by have := unhide HST; rw [hfl] at this; simpa using this)
                  have HFL := hide hfl
                  clear HST hfl
                  go_wp2_with fail
                  go_roundw
                  case rel => exact ⟨k + 1, m + 1, nx, by go_num, by omega, by omega, hide ⟨unhide HT6, unhide HFL⟩, HB6, HX⟩
                  case measure => simp [intOf]; omega
          · obtain rfl : k = nO := by omega
            have hR2 := unhide HR
            rw [List.drop_of_length_le (by rw [(unhide HH).lo]; exact Nat.le_refl _)] at hR2
            have HX := hide (unhide HRV (some now) hR2.symm)
            have hnow := (files_small (unhide HN).ok).1
            have hbb := (unhide HN).tab.lt
            have HLI := hide (fun (W : World) (hW : Below wr.heap.size wr W) => list_calls b m now W ((unhide HN).tab.below hW hbb) (files_ok (unhide HN).ok).2 (by omega) (small_fit (unhide HN).ok))
            have hlw : w.heap.size < wr.heap.size := lt_of_cell q0
            have HEQ := hide (fun (W : World) (a7 : Option Addr) (c7 : Nat) (B : Nat) (hO : OwnR fileE W B (.slice a7 now.length c7) now) (hW : Below W0.heap.size W0 W) => equal_calls a7 aL now.length nL c7 cL now live W rfl (unhide HH).ll (by omega) (by omega) hO.at (unhide HD _ hW).rl)
            clear HR hR2
            go_wp2_with fail
            go_region_with (first
              | (go_at_call 30; refine (unhide HLI _ (belDrew (Below.refl _ _))).mono ?_; rintro e w7 ⟨v7, rfl, hO7, hb7⟩; obtain ⟨a7, c7, hv7⟩ := hO7.form; subst hv7; have s0 := bcl (bOfDrew hb7) hlw q0)
              | (go_at_call 37; refine (unhide HEQ _ a7 c7 _ hO7 (belOn (unhide HB) (bOfDrew hb7))).mono ?_; rintro e w8 ⟨rfl, hb8⟩))
            all_goals (try go_wp2_with fail)
            all_goals (try go_ret)
            all_goals exact ⟨by rw [unhide HX]; rfl, unhide HFIN _ (belOn (belOn (unhide HB) (bOfDrew hb7)) hb8)⟩
      · have HSF := hide (show diskB live safe ops = false from by unfold diskB; rw [hL, hS, (unhide HH).lo, decide_eq_false hO]; rfl)
        rw [unhide HSF]
        clear hL hS HSF
        go_enter Try.func12, Try.ntmps12
        go_wp2_with fail
        rw [unhide HW0]
        refine (filesOk_calls aL nL cL live W0 (unhide HH).ll (by omega) (unhide HH).fl (unhide HD _ (Below.refl _ _)).rl).mono ?_
        rintro e w1 ⟨rfl, hb1⟩
        rw [unhide HL]
        have HB1 := hide hb1
        obtain ⟨q0, q1, q2⟩ := unhide HC _ hb1
        clear hb1
        go_wp2_with fail
        refine (filesOk_calls aS nS cS safe w1 (unhide HH).ls (by omega) (unhide HH).fs (unhide HD _ (unhide HB1)).rs).mono ?_
        rintro e w2 ⟨rfl, hb2⟩
        rw [unhide HS]
        obtain ⟨r0, r1, r2⟩ := unhide HC _ (belOn (unhide HB1) hb2)
        have HB2 := hide (unhide HFIN _ (belOn (unhide HB1) hb2))
        clear hb2 q0 q1 q2
        go_wp2_with fail
        go_ret
        exact ⟨rfl, unhide HB2⟩

end Go.Proofs.Ytknpccpfjclngaa
