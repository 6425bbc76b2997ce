/- What is drawn for quorums: members, right or odd, and ids. -/
import Derived.Test.YtmokpgmehaakgaaGreatDoorDrwC
import Derived.Deep.RegionWith
namespace Go.Proofs.YtmokpgmehaakgaaGreatDoor
open Go.RowKit Plain
set_option linter.unusedVariables false

theorem OwnR.set2s {α : Type} {e : Elem α} {W : World} {B : Nat} {v : Value} {xs : List α} {Z : Nat} {u1 u2 : Value} (h : OwnR e W B v xs) (hZ : ∀ g, v.ownBlock = some g → g ≠ Z) : OwnR e ((W.setCell ⟨Z, 0, none⟩ u1).setCell ⟨Z, 1, none⟩ u2) B v xs := (h.setN hZ).setN hZ
theorem OwnR.set3s {α : Type} {e : Elem α} {W : World} {B : Nat} {v : Value} {xs : List α} {M i Z : Nat} {u0 u1 u2 : Value} (h : OwnR e W B v xs) (hM : ∀ g, v.ownBlock = some g → g ≠ M) (hZ : ∀ g, v.ownBlock = some g → g ≠ Z) : OwnR e (((W.setCell ⟨M, i, none⟩ u0).setCell ⟨Z, 0, none⟩ u1).setCell ⟨Z, 1, none⟩ u2) B v xs := ((h.setN hM).setN hZ).setN hZ
/-- What the drawing of odd members leaves. -/
def OddPost (R : Nat) (a : Option Addr) (len cap : Nat) (zs : List Int) (w : World) (e : Ending) (w' : World) : Prop := ∃ (av : Option Addr) (cv : Nat) (v : List Int) (al : Option Addr) (cl : Nat) (l : List Int), e = .returned (.agg #[.slice av v.length cv, .slice al l.length cl]) ∧ Hid (OwnR i64E w' w.heap.size (.slice av v.length cv) v ∧ OwnR i64E w' w.heap.size (.slice al l.length cl) l) ∧ v.length ≤ 20 ∧ l.length ≤ 20 ∧ Rd w' R a len cap zs ∧ OnlyAt ⟨R, 1, none⟩ w w'

set_option maxRecDepth 10000 in
set_option maxHeartbeats 8000000 in
theorem oddConf_calls (R : Nat) (a : Option Addr) (len cap : Nat) (zs : List Int) (w : World) (h : Rd w R a len cap zs) :
    Calls Tryz.prog 17 #[.pointer (some ⟨R, 0, none⟩)] w (OddPost R a len cap zs w) := by
  have hR := h.lt
  have H := hide ((DS.start h).alloc (.cells #[.slice none 0 0, .slice none 0 0] 26))
  have HZ := hide (CB.new w (.slice none 0 0) (.slice none 0 0))
  clear h
  go_enter Tryz.func17, Tryz.ntmps17
  go_wp2_with fail
  refine (conf_calls R a len cap zs _ (unhide H).rd).mono ?_
  rintro e w1 ⟨av, cv, v, al, cl, l, rfl, hOw, hv10, hl10, hR1, ho1⟩
  obtain ⟨hV, hL, hap⟩ := unhide hOw
  have hz1 : w.heap.size < w1.heap.size := by have := ho1.size; simp at this; omega
  obtain ⟨n, hn⟩ : ∃ n, v.length = n := ⟨_, rfl⟩
  obtain ⟨m, hm⟩ : ∃ m, l.length = m := ⟨_, rfl⟩
  rw [hn] at hV hap hv10 ⊢
  rw [hm] at hL hap hl10 ⊢
  have hb1 := bel1 w1 (.cells #[.slice av n cv, .slice al m cl] 26)
  have HV := hide ((hV.keep hb1).le (B' := w.heap.size + 1) (by simp))
  have HL := hide ((hL.keep hb1).le (B' := w.heap.size + 1) (by simp))
  have HD := hide (((unhide H).call hR1 ho1).alloc (.cells #[.slice av n cv, .slice al m cl] 26))
  have HZ1 := hide (((unhide HZ).only ho1 (by omega)).alloc (.cells #[.slice av n cv, .slice al m cl] 26))
  have HS1 := hide (CB.new w1 (.slice av n cv) (.slice al m cl))
  have HAP := hide hap
  have HN := hide hn
  have HM := hide hm
  clear hR1 ho1 H HZ hOw hV hL hap hb1 hn hm
  go_wp2_with fail
  refine (below_calls R a len cap zs 24 _ (unhide HD).rd (by omega) (by omega)).mono ?_
  rintro e w2 ⟨u, rfl, hu0, hu1, hR2, ho2⟩
  have HD2 := hide ((unhide HD).call hR2 ho2)
  have HZ2 := hide ((unhide HZ1).only ho2 (by omega))
  have HS2 := hide ((unhide HS1).only ho2 (by omega))
  have HV2 := hide ((unhide HV).onl ho2 (by simp; omega))
  have HL2 := hide ((unhide HL).onl ho2 (by simp; omega))
  have hne : w.heap.size ≠ w1.heap.size := by omega
  clear hR2 ho2 HD HZ1 HS1 HV HL
  by_cases c0 : u = 0
  · subst c0
    have s0 := (unhide HS2).c0
    have HOF := hide (off_calls R a len cap zs 1 50 w2.drew ((unhide HD2).drew.rd) (by omega) (by omega) (by omega))
    have hlen : v.length < 100000000 := by rw [unhide HN]; omega
    go_wp2_with fail
    go_region_law (first
      | (refine stepG (e := i64E) rfl _ _ rfl (w := w4) (unhide HV4) (by simp [Act.eval]) x rfl _ (by simp [Act.eval]) rfl hlen hz4 ?_; intro v' w6 hown6 hb6 hg6; obtain ⟨av', cv', hv'⟩ := hown6.form; subst hv'; rw [show (v ++ [x]).length = v.length + 1 from by simp] at hown6; have HS6 := hide (((unhide HS4).alloc _).grown hg6 (fun q => (unhide HS4).ne (unhide HV4) _ q.symm rfl)); have z0 := (unhide HS6).c0; have z1 := (unhide HS6).c1; have zf := (unhide HS6).f0; have HZ6 := hide ((unhide HZ4).below hb6 (by omega)); have HL6 := hide (((unhide HL4).keep (bel1 _ _)).grO hg6 (fun g hg q => unhide HAP g q.symm hg)); have q0 := (unhide HZ6).c0; have q1 := (unhide HZ6).c1; have g0 := (unhide HZ6).f0; have g1 := (unhide HZ6).f1; have HD6 := hide ((unhide HD4).belowB hb6 (by omega) (by omega)))
      | (go_simp; refine (unhide HOF).mono ?_; rintro e w4 ⟨x, rfl, hx0, hx1, hR4, ho4⟩; have HV4 := hide (((unhide HV2).drewN 1).onl ho4 (by simp; omega)); have HL4 := hide (((unhide HL2).drewN 1).onl ho4 (by simp; omega)); have HS4 := hide (CB.only (w := w2.drew) (unhide HS2) ho4 (by omega)); have HZ4 := hide (CB.only (w := w2.drew) (unhide HZ2) ho4 (by omega)); have HD4 := hide ((unhide HD2).drew.call hR4 ho4); have hz4 : w.heap.size + 1 ≤ w4.heap.size := (unhide HZ4).lt; have t0 := (unhide HS4).c0; have t1 := (unhide HS4).c1; have y0 := (unhide HS4).f0; have tlt := (unhide HS4).lt))
    all_goals (try go_wp2_with fail)
    all_goals refine bodyPost_ret (v := .agg #[.slice av' (v.length + 1) cv', .slice al m cl]) (by simp [results, Tryz.results17, go_sem, q0, q1]) rfl ?_
    all_goals exact ⟨av', cv', v ++ [x], al, cl, l, by rw [unhide HM, show (v ++ [x]).length = v.length + 1 from by simp], hide ⟨by rw [show (v ++ [x]).length = v.length + 1 from by simp]; exact (hown6.set3s ((unhide HS6).ne hown6) (fun g hg => by have := (hown6.geB g hg).1; omega)).le (by omega), by rw [unhide HM]; exact ((unhide HL6).set3s ((unhide HS6).ne (unhide HL6)) (fun g hg => by have := ((unhide HL6).geB g hg).1; omega)).le (by omega)⟩, by simp; rw [unhide HN]; omega, by rw [unhide HM]; omega, ((((unhide HD6).set (b := w1.heap.size) (i := 0) hR (by omega) _).set (b := w.heap.size) (i := 0) hR (Nat.le_refl _) _).set (b := w.heap.size) (i := 1) hR (Nat.le_refl _) _).rd, ((((unhide HD6).set (b := w1.heap.size) (i := 0) hR (by omega) _).set (b := w.heap.size) (i := 0) hR (Nat.le_refl _) _).set (b := w.heap.size) (i := 1) hR (Nat.le_refl _) _).only⟩
  have b0 : (u == 0) = false := by simpa using c0
  by_cases c1 : u = 1
  · subst c1
    have s1 := (unhide HS2).c1
    have HOF := hide (off_calls R a len cap zs 1 50 w2.drew ((unhide HD2).drew.rd) (by omega) (by omega) (by omega))
    have hlen : l.length < 100000000 := by rw [unhide HM]; omega
    go_wp2_with fail
    go_region_law (first
      | (refine stepG (e := i64E) rfl _ _ rfl (w := w4) (unhide HL4) (by simp [Act.eval]) x rfl _ (by simp [Act.eval]) rfl hlen hz4 ?_; intro v' w6 hown6 hb6 hg6; obtain ⟨al', cl', hv'⟩ := hown6.form; subst hv'; rw [show (l ++ [x]).length = l.length + 1 from by simp] at hown6; have HS6 := hide (((unhide HS4).alloc _).grown hg6 (fun q => (unhide HS4).ne (unhide HL4) _ q.symm rfl)); have z0 := (unhide HS6).c0; have z1 := (unhide HS6).c1; have zf := (unhide HS6).f1; have HZ6 := hide ((unhide HZ4).below hb6 (by omega)); have HV6 := hide (((unhide HV4).keep (bel1 _ _)).grO hg6 (fun g hg q => unhide HAP g hg q.symm)); have q0 := (unhide HZ6).c0; have q1 := (unhide HZ6).c1; have g0 := (unhide HZ6).f0; have g1 := (unhide HZ6).f1; have HD6 := hide ((unhide HD4).belowB hb6 (by omega) (by omega)))
      | (go_simp; refine (unhide HOF).mono ?_; rintro e w4 ⟨x, rfl, hx0, hx1, hR4, ho4⟩; have HV4 := hide (((unhide HV2).drewN 1).onl ho4 (by simp; omega)); have HL4 := hide (((unhide HL2).drewN 1).onl ho4 (by simp; omega)); have HS4 := hide (CB.only (w := w2.drew) (unhide HS2) ho4 (by omega)); have HZ4 := hide (CB.only (w := w2.drew) (unhide HZ2) ho4 (by omega)); have HD4 := hide ((unhide HD2).drew.call hR4 ho4); have hz4 : w.heap.size + 1 ≤ w4.heap.size := (unhide HZ4).lt; have t0 := (unhide HS4).c0; have t1 := (unhide HS4).c1; have y0 := (unhide HS4).f1; have tlt := (unhide HS4).lt))
    all_goals (try go_wp2_with fail)
    all_goals refine bodyPost_ret (v := .agg #[.slice av n cv, .slice al' (l.length + 1) cl']) (by simp [results, Tryz.results17, go_sem, q0, q1]) rfl ?_
    all_goals exact ⟨av, cv, v, al', cl', l ++ [x], by rw [unhide HN, show (l ++ [x]).length = l.length + 1 from by simp], hide ⟨by rw [unhide HN]; exact ((unhide HV6).set3s ((unhide HS6).ne (unhide HV6)) (fun g hg => by have := ((unhide HV6).geB g hg).1; omega)).le (by omega), by rw [show (l ++ [x]).length = l.length + 1 from by simp]; exact (hown6.set3s ((unhide HS6).ne hown6) (fun g hg => by have := (hown6.geB g hg).1; omega)).le (by omega)⟩, by rw [unhide HN]; omega, by simp; rw [unhide HM]; omega, ((((unhide HD6).set (b := w1.heap.size) (i := 1) hR (by omega) _).set (b := w.heap.size) (i := 0) hR (Nat.le_refl _) _).set (b := w.heap.size) (i := 1) hR (Nat.le_refl _) _).rd, ((((unhide HD6).set (b := w1.heap.size) (i := 1) hR (by omega) _).set (b := w.heap.size) (i := 0) hR (Nat.le_refl _) _).set (b := w.heap.size) (i := 1) hR (Nat.le_refl _) _).only⟩
  have b1 : (u == 1) = false := by simpa using c1
  have s0 := (unhide HS2).c0
  have s1 := (unhide HS2).c1
  have sf := (unhide HS2).f0
  have slt := (unhide HS2).lt
  have q0 := (unhide HZ2).c0
  have q1 := (unhide HZ2).c1
  have g0 := (unhide HZ2).f0
  have g1 := (unhide HZ2).f1
  have qlt := (unhide HZ2).lt
  by_cases c2 : u = 2
  · subst c2
    go_wp2_with fail
    refine bodyPost_ret (v := .agg #[.slice none 0 0, .slice al m cl]) (by simp [results, Tryz.results17, go_sem, q0, q1]) rfl ?_
    exact ⟨none, 0, [], al, cl, l, by rw [unhide HM]; rfl, hide ⟨ownR_nil _ _ _, by rw [unhide HM]; exact ((unhide HL2).set3s ((unhide HS2).ne (unhide HL2)) (fun g hg => by have := ((unhide HL2).geB g hg).1; omega)).le (by omega)⟩, by simp, by rw [unhide HM]; omega, ((((unhide HD2).set (b := w1.heap.size) (i := 0) hR (by omega) _).set (b := w.heap.size) (i := 0) hR (Nat.le_refl _) _).set (b := w.heap.size) (i := 1) hR (Nat.le_refl _) _).rd, ((((unhide HD2).set (b := w1.heap.size) (i := 0) hR (by omega) _).set (b := w.heap.size) (i := 0) hR (Nat.le_refl _) _).set (b := w.heap.size) (i := 1) hR (Nat.le_refl _) _).only⟩
  · have b2 : (u == 2) = false := by simpa using c2
    go_wp2_with fail
    refine bodyPost_ret (v := .agg #[.slice av n cv, .slice al m cl]) (by simp [results, Tryz.results17, go_sem, q0, q1]) rfl ?_
    exact ⟨av, cv, v, al, cl, l, by rw [unhide HM, unhide HN], hide ⟨by rw [unhide HN]; exact ((unhide HV2).set2s (fun g hg => by have := ((unhide HV2).geB g hg).1; omega)).le (by omega), by rw [unhide HM]; exact ((unhide HL2).set2s (fun g hg => by have := ((unhide HL2).geB g hg).1; omega)).le (by omega)⟩, by rw [unhide HN]; omega, by rw [unhide HM]; omega, (((unhide HD2).set (b := w.heap.size) (i := 0) hR (Nat.le_refl _) _).set (b := w.heap.size) (i := 1) hR (Nat.le_refl _) _).rd, (((unhide HD2).set (b := w.heap.size) (i := 0) hR (Nat.le_refl _) _).set (b := w.heap.size) (i := 1) hR (Nat.le_refl _) _).only⟩
end Go.Proofs.YtmokpgmehaakgaaGreatDoor
