/- RepoOk of the program by its contract. -/
import Derived.Test.YtnkjdojpegmlcaaDoorRep
import Derived.Deep.LoopGhost
import Derived.WalkMore
namespace Go.Proofs.YtnkjdojpegmlcaaDoor
open Go.RowKit Plain
set_option linter.unusedVariables false

namespace Plain
/-- Where the scanner in block b stands. -/
def curAt (b : Nat) (w : World) : Nat := match w.cell? ⟨b, 1, none⟩ with
  | some (.int _ n) => n.toNat
  | _ => 0
theorem curAt_of {b : Nat} {w : World} {p : Nat} (h : w.cell? ⟨b, 1, none⟩ = some (.int .i64 p)) : curAt b w = p := by unfold curAt; rw [h]; simp
/-- The scanner over s in block b, made in this call, stands at p. -/
structure Scan (W : World) (s : ByteArray) (p : Nat) (w : World) : Prop where
  text : w.cell? ⟨W.heap.size, 0, none⟩ = some (.string s)
  at_ : w.cell? ⟨W.heap.size, 1, none⟩ = some (.int .i64 p)
  free : w.frozen? ⟨W.heap.size, 1, none⟩ = false
  size : W.heap.size < w.heap.size
  below : Below W.heap.size W w
theorem Scan.only {W : World} {s : ByteArray} {p : Nat} {w w' : World} (h : Scan W s p w) (ho : OnlyAt ⟨W.heap.size, 1, none⟩ w w') {q : Nat} (hq : w'.cell? ⟨W.heap.size, 1, none⟩ = some (.int .i64 q)) : Scan W s q w' :=
  ⟨(ho.cell ⟨_, 0, none⟩ h.size (by simp)).trans h.text, hq, (ho.frozen ⟨_, 1, none⟩ h.size).trans h.free, Nat.lt_of_lt_of_le h.size ho.size, h.below.trans (ho.below (Nat.le_refl _) (Nat.le_of_lt h.size))⟩
theorem Scan.drewN {W : World} {s : ByteArray} {p : Nat} {w : World} (h : Scan W s p w) (k : Nat) : Scan W s p (w.drewN k) := h.only ((OnlyAt.refl _ _).drewN k) h.at_
theorem Scan.new (w : World) (s : ByteArray) (T : TypeId) : Scan w s 0 (w.alloc (.cells #[.string s, .int .i64 0] T)) :=
  ⟨by simp [go_sem], by simp [go_sem], by simp [go_sem], by simp, (Below.refl _ _).alloc (Nat.le_refl _) _⟩
theorem drop_all (s : ByteArray) (p : Nat) (h : s.size ≤ p) : s.data.toList.drop p = [] := List.drop_of_length_le (by rw [len_list]; exact h)
theorem drop_cons (s : ByteArray) (p : Nat) (h : p < s.size) : s.data.toList.drop p = s[p] :: s.data.toList.drop (p + 1) := List.drop_eq_getElem_cons (by rw [len_list]; exact h)
theorem repoB_of {s : ByteArray} (h : s.size ≤ 100) : repoB s = rep 0 (s.data.toList.drop 0) := by unfold repoB; simp [h]
end Plain

set_option maxHeartbeats 2000000 in
theorem impl_RepoOk (s : ByteArray) (w : World) (hs : s.size ≤ 1000000000000) :
    Calls Tryd.prog 31 #[.string s] w fun e w' => e = .returned (.bool (repoB s)) ∧ Below w.heap.size w w' := by
  by_cases hbig : 100 < s.size
  · rw [show repoB s = false from by unfold repoB; simp; intro; omega]
    go_enter Tryd.func31, Tryd.ntmps31
    go_wp2_with fail
    go_step3
    go_wp2_with fail
    try rw [Exit.noGoto_ret]
    go_ret
    exact ⟨rfl, Below.refl _ _⟩
  · rw [repoB_of (by omega)]
    go_enter Tryd.func31, Tryd.ntmps31
    go_wp2_with fail
    go_step3
    go_wp2_with fail
    go_step3
    go_wp2_with fail
    go_loopg [2] s.size (fun g r wr => ∃ p : Nat, r = .bool false ∧ p ≤ s.size ∧ g = s.size - p ∧ Hid (rep 0 (s.data.toList.drop p) = rep 0 (s.data.toList.drop 0)) ∧ Hid (Scan w s p wr))
    case atStart => exact ⟨0, rfl, by omega, by omega, rfl, hide (Scan.new w s _)⟩
    case round =>
      obtain ⟨p, rfl, hp, hg, HR, HS⟩ := hrel
      have hS := unhide HS
      have HW := word_ok w.heap.size s p wr hS.text hS.at_ hS.free hs hp
      have hwd := rep_wd (s.data.toList.drop p)
      have hwl := wd_le (s.data.toList.drop p)
      have hnw := noWd_drop (s.data.toList.drop p)
      rw [List.length_drop, len_list] at hwl
      obtain ⟨N, hN⟩ : ∃ N, wd (s.data.toList.drop p) = N := ⟨_, rfl⟩
      rw [hN] at hwd hwl HW hnw
      rw [List.drop_drop] at hwd hnw
      have HG := hide hg
      clear hN hS hg
      by_cases hN0 : 0 < N
      · have hb : decide (0 < N) = true := by simpa using hN0
        rw [hb, Bool.true_and] at hwd
        rw [hb] at HW
        have HQ := hide (hwd.symm.trans (unhide HR))
        have HNW := hide hnw
        clear hb hwd HR hnw
        go_wp2_with fail
        refine HW.mono ?_
        rintro e w1 ⟨rfl, ho, hcell⟩
        have HS1 := hide ((unhide HS).only ho hcell)
        clear ho hcell HS HW
        go_wp2_with fail
        go_loopg [11] (s.size - (p + N)) (fun g r wr => ∃ q : Nat, p < q ∧ q ≤ s.size ∧ g = s.size - q ∧ Hid (noWd (s.data.toList.drop q)) ∧ Hid (rep 1 (s.data.toList.drop q) = rep 0 (s.data.toList.drop 0)) ∧ Hid (Scan w s q wr))
        case atStart => exact ⟨p + N, by omega, by omega, rfl, HNW, HQ, HS1⟩
        case round =>
          clear HS1 HQ HNW hwl hN0
          obtain ⟨q, hpq, hq, hg2, HNW, HQ, HS⟩ := hrel
          have hS := unhide HS
          have HW := mark_ok w.heap.size s q wr hS.text hS.at_ hS.free hs hq
          have hwl := mk_le (s.data.toList.drop q)
          have hmk := rep_mk (s.data.toList.drop q)
          rw [List.length_drop, len_list] at hwl
          have HG2 := hide hg2
          clear hS hg2
          by_cases hM0 : 0 < mk (s.data.toList.drop q)
          · have hm := (hmk hM0).symm.trans (unhide HQ)
            obtain ⟨M, hM⟩ : ∃ M, mk (s.data.toList.drop q) = M := ⟨_, rfl⟩
            rw [hM] at hwl HW hM0 hm
            rw [List.drop_drop] at hm
            have hb : decide (0 < M) = true := by simpa using hM0
            rw [hb] at HW
            have HQ2 := hide hm
            clear hb hm hmk HQ HNW hM
            go_wp2_with fail
            refine HW.mono ?_
            rintro e w2 ⟨rfl, ho, hcell⟩
            have HS2 := hide ((unhide HS).only ho hcell)
            clear ho hcell HS HW
            have hS := unhide HS2
            have HW := word_ok w.heap.size s (q + M) w2 hS.text hS.at_ hS.free hs (by omega)
            have hwd := rep_wd (s.data.toList.drop (q + M))
            have hwl2 := wd_le (s.data.toList.drop (q + M))
            have hnw := noWd_drop (s.data.toList.drop (q + M))
            rw [List.length_drop, len_list] at hwl2
            obtain ⟨N2, hN⟩ : ∃ N2, wd (s.data.toList.drop (q + M)) = N2 := ⟨_, rfl⟩
            rw [hN] at hwd hwl2 HW hnw
            rw [List.drop_drop] at hwd hnw
            clear hN hS
            by_cases hN0 : 0 < N2
            · have hb : decide (0 < N2) = true := by simpa using hN0
              rw [hb, Bool.true_and] at hwd
              rw [hb] at HW
              have HQ := hide (hwd.symm.trans (unhide HQ2))
              have HNW := hide hnw
              clear hb hwd HQ2 hnw
              go_wp2_with fail
              refine HW.mono ?_
              rintro e w3 ⟨rfl, ho, hcell⟩
              have HS3 := hide ((unhide HS2).only ho hcell)
              clear ho hcell HS2 HW
              go_wp2_with fail
              go_roundg (s.size - (q + M + N2))
              case measure => have := unhide HG2; omega
              case rel => exact ⟨q + M + N2, by omega, by omega, rfl, HNW, HQ, HS3⟩
            · have hb : decide (0 < N2) = false := by simpa using hN0
              rw [hb, Bool.false_and] at hwd
              rw [hb] at HW
              have HQ := hide ((unhide HQ2).symm.trans hwd)
              clear hb hwd HQ2 hnw
              go_wp2_with fail
              refine HW.mono ?_
              rintro e w3 ⟨rfl, ho, hcell⟩
              have HB := hide ((unhide HS2).only ho hcell).below
              clear ho hcell HS2 HW
              go_wp2_with fail
              try rw [Exit.noGoto_ret]
              go_ret
              exact ⟨by rw [unhide HQ]; rfl, unhide HB⟩
          · have hM : mk (s.data.toList.drop q) = 0 := by omega
            rw [hM] at HW
            have HM := hide hM
            clear hM hM0 hmk hwl
            go_wp2_with fail
            refine HW.mono ?_
            rintro e w2 ⟨rfl, ho, hcell⟩
            have HS2 := hide ((unhide HS).only ho hcell)
            clear ho hcell HS HW
            have hS := unhide HS2
            have HR := rest_ok w.heap.size 0 s q w2 hS.text hS.at_ hs hq
            go_wp2_with fail
            refine HR.mono ?_
            rintro e w3 ⟨rfl, kk, rfl⟩
            have HS3 := hide ((unhide HS2).drewN kk)
            clear HS2 HR hS
            by_cases hend : q < s.size
            · have he : (s.extract q s.size).toList.isEmpty = false := by
                rw [toList_data, ext_list, drop_cons s q hend]; rfl
              have hd := drop_cons s q hend
              have hB : hpL (s.data.toList.drop q) [47] = decide (s[q].toNat = 47) := by
                rw [hd]; unfold hpL
                rw [Bool.eq_iff_iff]
                simp [List.isPrefixOf]
                constructor
                · intro e; rw [← e]; rfl
                · intro e; rw [u8 (by omega) e]; rfl
              have hS := unhide HS3
              have HW := slash_ok w.heap.size s q _ hS.text hS.at_ hS.free hs hq _ hB (fun _ => hend)
              rw [hd] at HQ HM HNW
              clear hS hB
              by_cases h47 : s[q].toNat = 47
              · have hb : decide (s[q].toNat = 47) = true := by simpa using h47
                rw [hb] at HW
                have HQ2 := hide ((rep_slash _ _ h47).symm.trans (unhide HQ))
                clear hb HQ HM HNW hd h47
                go_wp2_with fail
                refine HW.mono ?_
                rintro e w4 ⟨rfl, ho, hcell⟩
                have HS4 := hide ((unhide HS3).only ho hcell)
                clear ho hcell HS3 HW
                go_wp2_with fail
                go_roundg (s.size - (q + 1))
                case measure => have := unhide HG; omega
                case rel => exact ⟨q + 1, rfl, by omega, rfl, HQ2, HS4⟩
              · have hb : decide (s[q].toNat = 47) = false := by simpa using h47
                rw [hb] at HW
                have HQ2 := hide ((unhide HQ).symm.trans (rep_no _ _ (unhide HNW) (unhide HM) h47))
                clear hb HQ HM HNW hd h47
                go_wp2_with fail
                refine HW.mono ?_
                rintro e w4 ⟨rfl, ho, hcell⟩
                have HB := hide ((unhide HS3).only ho hcell).below
                clear ho hcell HS3 HW
                go_wp2_with fail
                try rw [Exit.noGoto_ret]
                go_ret
                exact ⟨by rw [unhide HQ2]; rfl, unhide HB⟩
            · have hd := drop_all s q (by omega)
              have he : (s.extract q s.size).toList.isEmpty = true := by
                rw [toList_data, ext_list, hd]; rfl
              have HQ2 := hide (show rep 0 (s.data.toList.drop 0) = true from by rw [← unhide HQ, hd]; rfl)
              clear hd HQ HM HNW
              go_wp2_with fail
              try rw [Exit.noGoto_ret]
              go_ret
              exact ⟨by rw [unhide HQ2]; rfl, (unhide HS3).below⟩
      · have hb : decide (0 < N) = false := by simpa using hN0
        rw [hb, Bool.false_and] at hwd
        rw [hb] at HW
        have HQ := hide ((unhide HR).symm.trans hwd)
        clear hb hwd HR
        go_wp2_with fail
        refine HW.mono ?_
        rintro e w1 ⟨rfl, ho, hcell⟩
        have HB := hide ((unhide HS).only ho hcell).below
        clear ho hcell HS HW
        go_wp2_with fail
        try rw [Exit.noGoto_ret]
        go_ret
        exact ⟨by rw [unhide HQ]; rfl, unhide HB⟩
end Go.Proofs.YtnkjdojpegmlcaaDoor
