/- The walk of the law FnDiff. -/
import Derived.Test.YtldgkpnlplfopaaGreatDoorFdD
import Derived.Test.YtldgkpnlplfopaaGreatDoorFdC
import Derived.Test.YtldgkpnlplfopaaGreatDoorQzC
import Derived.Test.YtldgkpnlplfopaaGreatDoorDzA
import Derived.Deep.QuietTactic
import Derived.BigQuiet
import Derived.WalkKit
import Derived.ProofKit
import Derived.Below
set_option linter.unusedVariables false
namespace Go.Proofs.YtldgkpnlplfopaaGreatDoor.fnDiff
open Go.RowKit Go.Maps
open Plain
open Classical

theorem spec_StepsF (a : Option Addr) (n c : Nat) (A : List ByteArray) (a' : Option Addr) (n' c' : Nat) (B : List ByteArray) (w : World) (h : TxtsAt w a n A) (h' : TxtsAt w a' n' B) :
    Calls Tryz.prog 6 #[.slice a n c, .slice a' n' c'] w (StpQ A B w) := by
  cases hno : stOk A B with
  | false => exact spec_StepsNo a n c A a' n' c' B w h h' hno
  | true =>
    unfold stOk at hno
    rw [Bool.and_eq_true] at hno
    exact spec_StepsYes a n c A a' n' c' B w h h' hno.1 hno.2
theorem impl_StepsF (a : Option Addr) (n c : Nat) (A : List ByteArray) (a' : Option Addr) (n' c' : Nat) (B : List ByteArray) (w : World) (h : TxtsAt w a n A) (h' : TxtsAt w a' n' B) (hK : KAt w) :
    Calls Tryz.prog 7 #[.slice a n c, .slice a' n' c'] w (StpI A B w) := by
  cases hno : stOk A B with
  | false => exact impl_StepsNo a n c A a' n' c' B w h h' hno
  | true =>
    unfold stOk at hno
    rw [Bool.and_eq_true] at hno
    exact impl_StepsYes a n c A a' n' c' B w h h' hno.1 hno.2 hK
theorem df_comm (A B : List ByteArray) : dfB A B = dfB B A := by
  funext q
  unfold dfB
  rw [decide_eq_decide]
  exact ⟨fun h e => h e.symm, fun h e => h e.symm⟩
theorem noCl_comm {A B : List ByteArray} (h : noCl A B) : noCl B A := by
  intro q hq hu e
  refine h q hq ?_ e.symm
  unfold udB at hu ⊢
  rw [decide_eq_true_eq] at hu ⊢
  exact fun e => hu e.symm
theorem hasTextF (a : Option Addr) (n c : Nat) (ls : List ByteArray) (s : ByteArray) (w : World) (q : Nat) (b : Bool) (hn : ls.length = n) (hn2 : n ≤ 100000000) (h : RowAt strE w a ls) (hb : decide (s ∈ ls) = b) :
    Calls Tryz.prog 9 #[.slice a n c, .string s] (w.drewN q) fun e w'' => e = .returned (.bool b) ∧ ∃ m, w'' = w.drewN m := by
  subst hb
  have ha : anyB ls s = decide (s ∈ ls) := by
    rw [Bool.eq_iff_iff, decide_eq_true_eq]
    exact anyB_mem ls s
  rw [← ha]
  refine (hasText_calls a n c ls s (w.drewN q) hn hn2 (h.below (belQT (Below.refl _ _) q)).strs).mono ?_
  rintro e w2 ⟨rfl, rfl⟩
  exact ⟨rfl, q, rfl⟩
theorem dif_facts {A B : List ByteArray} (hA : setB A = true) (hB : setB B = true) (h : noCl A B) : (∀ x ∈ A, x ∈ mrL A B ↔ x ∉ B) ∧ (∀ x ∈ B, x ∈ leL A B ↔ x ∉ A) ∧ (mrL A B).length ≤ A.length ∧ (leL A B).length ≤ B.length ∧ (ndB A (0, 0) = ndB B (0, 0) ↔ A = B) ∧ ((asL A B).length = 1 ↔ A = B) := by
  have hyes : stOk A B = true := by unfold stOk; rw [hA, hB]; rfl
  unfold asL mrL leL
  rw [hyes]
  simp only [if_true]
  refine ⟨fun x hx => mem_more hA h hx, fun x hx => ?_, more_few hA _, more_few hB _, root_same h, ?_⟩
  · rw [df_comm]
    exact mem_more hB (noCl_comm h) hx
  · rw [List.length_map, ask_one]
    exact root_same h

set_option maxRecDepth 10000 in
set_option maxHeartbeats 16000000 in
theorem walk0 (a0 : Option Addr) (len0 cap0 : Nat) (z0 : List Int) (w : World) (w0 : IsRow .u8 w a0 len0 cap0 z0) (hK : KAt w) :
    Calls Tryz.prog 3 #[.slice a0 len0 cap0] w fun e w' => e = .returned (.bool true) ∧ Below w.heap.size w w' := by
  have h0 : 1 < w.heap.size := lt_of_cell (hK 0 (by omega))
  have hlen := w0.len
  have H := hide w0
  clear w0
  by_cases hbig : len0 ≤ 1048576
  case neg =>
    have hd : decide (1048576 < (len0 : Int)) = true := by simp; omega
    clear H hK
    go_enter Tryz.func3, Tryz.ntmps3
    go_wp2_with fail
    refine (big_calls a0 len0 cap0 _ hlen).mono ?_
    rintro e w1 ⟨rfl, rfl⟩
    rw [hd]
    go_wp2_with fail
    go_ret
    exact ⟨rfl, Below.refl _ _⟩
  case pos =>
    have hd : decide (1048576 < (len0 : Int)) = false := by simp; omega
    have HKA := hide (fun (W : World) (hW : Below w.heap.size w W) => hK.below hW h0)
    clear hK
    go_enter Tryz.func3, Tryz.ntmps3
    go_wp2_with fail
    refine (big_calls a0 len0 cap0 _ hlen).mono ?_
    rintro e w1 ⟨rfl, rfl⟩
    rw [hd]
    go_wp2_with fail
    refine (DrawSteps_calls a0 len0 cap0 z0 _ (unhide H) hbig).mono ?_
    rintro e w1 ⟨v, A, u, B, rfl, HoA, HfA, hal, HoB, HfB, hbl, hb1⟩
    obtain ⟨aA, cA, hvA⟩ := (unhide HoA).form
    obtain ⟨nA, hnA⟩ : ∃ n, A.length = n := ⟨_, rfl⟩
    rw [hnA] at hvA hal
    subst hvA
    obtain ⟨aB, cB, hvB⟩ := (unhide HoB).form
    obtain ⟨nB, hnB⟩ : ∃ n, B.length = n := ⟨_, rfl⟩
    rw [hnB] at hvB hbl
    subst hvB
    have HTA := hide (fun (W : World) (hW : Below w1.heap.size w1 W) => (show TxtsAt W aA nA A from ⟨(unhide HoA).at.below hW, hnA, by omega, fun s hs => by have := unhide HfA s hs; omega⟩))
    have HTB := hide (fun (W : World) (hW : Below w1.heap.size w1 W) => (show TxtsAt W aB nB B from ⟨(unhide HoB).at.below hW, hnB, by omega, fun s hs => by have := unhide HfB s hs; omega⟩))
    have HB1 := hide hb1
    have HSP := hide (spec_StepsF aA nA cA A aB nB cB B w1 (unhide HTA _ (Below.refl _ _)) (unhide HTB _ (Below.refl _ _)))
    have HIM0 := hide (fun (W : World) (hW : Below w1.heap.size w1 W) => impl_StepsF aA nA cA A aB nB cB B W (unhide HTA _ hW) (unhide HTB _ hW) (unhide HKA W (belOnT (unhide HB1) hW)))
    unfold StpQ at HSP
    unfold StpI at HIM0
    obtain ⟨ok, hok⟩ : ∃ ok, stOk A B = ok := ⟨_, rfl⟩
    rw [hok] at HSP HIM0
    have HOK := hide hok
    have HNA := hide hnA
    have HNB := hide hnB
    clear hb1 hd H hbig hlen HoA HoB HfA HfB hok hnA hnB
    go_wp2_with fail
    refine (unhide HSP).mono ?_
    rintro e w2 ⟨s1, s2, s3, rfl, os1, os2, os3, hb2⟩
    obtain ⟨t1, t1c, hv⟩ := os1.form
    generalize (asL A B).length = q1 at hv
    subst hv
    obtain ⟨t2, t2c, hv⟩ := os2.form
    generalize (mrL A B).length = q2 at hv
    subst hv
    obtain ⟨t3, t3c, hv⟩ := os3.form
    generalize (leL A B).length = q3 at hv
    subst hv
    have HB2 := hide hb2
    have HIM := hide (unhide HIM0 w2 hb2)
    clear os1 os2 os3 hb2 HSP HIM0
    go_wp2_with fail
    refine (unhide HIM).mono ?_
    rintro e w3 ⟨v1, v2, v3, rfl, ht, hb3⟩
    obtain ⟨a1, c1, hv⟩ := ht.o1.form
    obtain ⟨m1, hm1⟩ : ∃ m, (asL A B).length = m := ⟨_, rfl⟩
    rw [hm1] at hv
    subst hv
    obtain ⟨a2, c2, hv⟩ := ht.o2.form
    obtain ⟨m2, hm2⟩ : ∃ m, (mrL A B).length = m := ⟨_, rfl⟩
    rw [hm2] at hv
    subst hv
    obtain ⟨a3, c3, hv⟩ := ht.o3.form
    obtain ⟨m3, hm3⟩ : ∃ m, (leL A B).length = m := ⟨_, rfl⟩
    rw [hm3] at hv
    subst hv
    have HR2 := hide ht.o2.at
    have HR3 := hide ht.o3.at
    have HM1 := hide hm1
    have HM2 := hide hm2
    have HM3 := hide hm3
    have HB3 := hide (belOnT (unhide HB2) hb3)
    have HB13 := hide (belOnT (unhide HB1) (unhide HB3))
    clear ht hb3 hm1 hm2 hm3 HIM HB2
    cases ok with
    | false =>
      obtain rfl : m1 = 0 := by
        rw [← unhide HM1]
        unfold asL
        rw [unhide HOK]
        rfl
      go_wp2_with fail
      go_ret
      exact ⟨rfl, unhide HB13⟩
    | true =>
      obtain ⟨hA, hB⟩ : setB A = true ∧ setB B = true := by
        have := unhide HOK
        unfold stOk at this
        rwa [Bool.and_eq_true] at this
      have HCL := hide (clash_calls aA nA cA A aB nB cB B w3 (unhide HTA _ (unhide HB3)) (unhide HTB _ (unhide HB3)) hA hB)
      go_wp2_with fail
      refine (unhide HCL).mono ?_
      rintro e w4 ⟨r, rfl, hr, hb4⟩
      have HB4 := hide (belOnT (unhide HB3) hb4)
      have HB14 := hide (belOnT (unhide HB1) (unhide HB4))
      have HR24 := hide ((unhide HR2).below hb4)
      have HR34 := hide ((unhide HR3).below hb4)
      clear hb4 HCL HR2 HR3 HB3 HB13
      cases r with
      | true =>
        go_wp2_with fail
        go_ret
        exact ⟨rfl, unhide HB14⟩
      | false =>
        obtain ⟨f1, f2, f3, f4, f5, f6⟩ := dif_facts hA hB (hr rfl)
        rw [unhide HM2, unhide HNA] at f3
        rw [unhide HM3, unhide HNB] at f4
        rw [unhide HM1] at f6
        have HF1 := hide f1
        have HF2 := hide f2
        have HTA4 := hide (fun (W : World) (hW : Below w4.heap.size w4 W) => unhide HTA W (belOnT (unhide HB4) hW))
        have HTB4 := hide (fun (W : World) (hW : Below w4.heap.size w4 W) => unhide HTB W (belOnT (unhide HB4) hW))
        have HNI := hide (fun (W : World) (hW : Below w4.heap.size w4 W) => (show Calls Tryz.prog 10 #[.slice aA nA cA, .string ByteArray.empty] W fun e w' => e = .returned (.tuple #[.string (ndB A (0, 0)), .bool true]) ∧ Below W.heap.size W w' from by
          have := impl_NodeOf aA nA cA A ByteArray.empty W (unhide HTA4 W hW) (by decide) (unhide HKA W (belOnT (unhide HB14) hW))
          rw [(ndT_root hA).1, (ndT_root hA).2] at this
          exact this))
        have HNJ := hide (fun (W : World) (hW : Below w4.heap.size w4 W) => (show Calls Tryz.prog 10 #[.slice aB nB cB, .string ByteArray.empty] W fun e w' => e = .returned (.tuple #[.string (ndB B (0, 0)), .bool true]) ∧ Below W.heap.size W w' from by
          have := impl_NodeOf aB nB cB B ByteArray.empty W (unhide HTB4 W hW) (by decide) (unhide HKA W (belOnT (unhide HB14) hW))
          rw [(ndT_root hB).1, (ndT_root hB).2] at this
          exact this))
        have g3 : (m2 : Int) ≤ (nA : Int) := by omega
        have g4 : (m3 : Int) ≤ (nB : Int) := by omega
        have HF5 := hide f5
        have HF6 := hide f6
        clear hr hA hB f1 f2 f3 f4 f5 f6 HTA HTB HKA HOK
        go_wp2_with fail
        go_loopw [13] (fun s13 wr => ∃ (i : Nat), s13 = .int .i64 i ∧ i ≤ nA ∧ Hid (Below w4.heap.size w4 wr)) (fun s13 _ => nA - (intOf s13).toNat)
        case atStart => exact ⟨0, rfl, by omega, hide (Below.refl _ _)⟩
        case round =>
          obtain ⟨i, rfl, hi, HBi⟩ := hrel
          by_cases hlt : i < nA
          · have hil : i < A.length := by rw [unhide HNA]; exact hlt
            obtain ⟨g, e1, hgl, pc, -⟩ := (unhide HTA4 wr (unhide HBi)).row.str i hil
            have hfx := unhide HF1 A[i] (List.getElem_mem _)
            generalize A[i] = x at pc hfx
            subst e1
            have i0 : (0 : Int) ≤ (i : Int) := by omega
            have i1 : (i : Int) < (nA : Int) := by omega
            have HW2 := hide ((unhide HR24).below (unhide HBi))
            have HWB := hide (unhide HTB4 wr (unhide HBi)).row
            obtain ⟨b, hb⟩ : ∃ b, decide (x ∈ B) = b := ⟨_, rfl⟩
            have hb' : decide (x ∈ mrL A B) = !b := by
              rw [← hb]
              by_cases q : x ∈ B
              · simp [q, hfx]
              · simp [q, hfx]
            have HQ1 := hide hb
            have HQ2 := hide hb'
            have hle2 : m2 ≤ 100000000 := by omega
            have hleB : nB ≤ 100000000 := by omega
            clear hfx hb hb'
            go_wp2_with fail
            go_quiet (first
              | (go_at_call 9; with_reducible exact hasTextF a2 m2 c2 (mrL A B) x wr _ (!b) (unhide HM2) hle2 (unhide HW2) (unhide HQ2))
              | (go_at_call 9; with_reducible exact hasTextF aB nB cB B x wr _ b (unhide HNB) hleB (unhide HWB) (unhide HQ1)))
            cases b
            all_goals
              go_wp2_with fail
              go_roundw
              case rel => exact ⟨i + 1, by go_num, by omega, hide (belQT (unhide HBi) _)⟩
              case measure => simp [intOf]; omega
          · obtain rfl : i = nA := by omega
            have HTA5 := hide (fun (W : World) (hW : Below wr.heap.size wr W) => unhide HTA4 W (belOnT (unhide HBi) hW))
            have HTB5 := hide (fun (W : World) (hW : Below wr.heap.size wr W) => unhide HTB4 W (belOnT (unhide HBi) hW))
            have HR35 := hide ((unhide HR34).below (unhide HBi))
            have HNI5 := hide (fun (W : World) (hW : Below wr.heap.size wr W) => unhide HNI W (belOnT (unhide HBi) hW))
            have HNJ5 := hide (fun (W : World) (hW : Below wr.heap.size wr W) => unhide HNJ W (belOnT (unhide HBi) hW))
            have HB15 := hide (belOnT (unhide HB14) (unhide HBi))
            clear HTA4 HTB4 HR34 HNI HNJ HB14 HBi HR24 HF1 HB4
            rename World => w5
            go_wp2_with fail
            go_loopw [14] (fun s14 wr => ∃ (j : Nat), s14 = .int .i64 j ∧ j ≤ nB ∧ Hid (Below w5.heap.size w5 wr)) (fun s14 _ => nB - (intOf s14).toNat)
            case atStart => exact ⟨0, rfl, by omega, hide (Below.refl _ _)⟩
            case round =>
              obtain ⟨j, rfl, hj, HBj⟩ := hrel
              by_cases hltj : j < nB
              · have hjl : j < B.length := by rw [unhide HNB]; exact hltj
                obtain ⟨g, e1, hgl, pc, -⟩ := (unhide HTB5 wr (unhide HBj)).row.str j hjl
                have hfx := unhide HF2 B[j] (List.getElem_mem _)
                generalize B[j] = x at pc hfx
                subst e1
                have j0 : (0 : Int) ≤ (j : Int) := by omega
                have j1 : (j : Int) < (nB : Int) := by omega
                have HW3 := hide ((unhide HR35).below (unhide HBj))
                have HWA := hide (unhide HTA5 wr (unhide HBj)).row
                obtain ⟨b, hb⟩ : ∃ b, decide (x ∈ A) = b := ⟨_, rfl⟩
                have hb' : decide (x ∈ leL A B) = !b := by
                  rw [← hb]
                  by_cases q : x ∈ A
                  · simp [q, hfx]
                  · simp [q, hfx]
                have HQ1 := hide hb
                have HQ2 := hide hb'
                have hle3 : m3 ≤ 100000000 := by omega
                have hleA : i ≤ 100000000 := by omega
                clear hfx hb hb'
                go_wp2_with fail
                go_quiet (first
                  | (go_at_call 9; with_reducible exact hasTextF a3 m3 c3 (leL A B) x wr _ (!b) (unhide HM3) hle3 (unhide HW3) (unhide HQ2))
                  | (go_at_call 9; with_reducible exact hasTextF aA i cA A x wr _ b (unhide HNA) hleA (unhide HWA) (unhide HQ1)))
                cases b
                all_goals
                  go_wp2_with fail
                  go_roundw
                  case rel => exact ⟨j + 1, by go_num, by omega, hide (belQT (unhide HBj) _)⟩
                  case measure => simp [intOf]; omega
              · obtain rfl : j = nB := by omega
                have HN1 := hide (unhide HNI5 wr (unhide HBj))
                go_wp2_with fail
                refine (unhide HN1).mono ?_
                rintro e w6 ⟨rfl, hb6⟩
                have HX6 := hide (belOnT (unhide HBj) hb6)
                have HN2 := hide (unhide HNJ5 w6 (unhide HX6))
                clear hb6 HN1 HNI5 HNJ5 HBj
                go_wp2_with fail
                refine (unhide HN2).mono ?_
                rintro e w7 ⟨rfl, hb7⟩
                have HX7 := hide (belOnT (unhide HX6) hb7)
                have HST := hide (sameT_calls aA aB cA cB i j A B w7 (unhide HNA) (unhide HNB) (by omega) (by omega) (unhide HTA5 w7 (unhide HX7)).row.strs (unhide HTB5 w7 (unhide HX7)).row.strs)
                clear hb7 HN2 HX6
                by_cases hab : A = B
                · have hx := (unhide HF5).2 hab
                  obtain rfl : m1 = 1 := (unhide HF6).2 hab
                  rw [decide_eq_true hab] at HST
                  rw [hx]
                  generalize ndB B (0, 0) = Z
                  go_wp2_with fail
                  refine (unhide HST).mono ?_
                  rintro e w8 ⟨rfl, hb8⟩
                  have HB8 := hide (belOnT (belOnT (unhide HB15) (unhide HX7)) hb8)
                  clear hb8
                  go_wp2_with fail
                  go_ret
                  exact ⟨rfl, unhide HB8⟩
                · have hx := ne_beq (fun e => hab ((unhide HF5).1 e))
                  have hm1n : ((m1 : Int) == 1) = false := by
                    rw [beq_eq_false_iff_ne]
                    intro e
                    exact hab ((unhide HF6).1 (by omega))
                  rw [decide_eq_false hab] at HST
                  generalize ndB A (0, 0) = Z1 at hx ⊢
                  generalize ndB B (0, 0) = Z2 at hx ⊢
                  go_wp2_with fail
                  refine (unhide HST).mono ?_
                  rintro e w8 ⟨rfl, hb8⟩
                  have HB8 := hide (belOnT (belOnT (unhide HB15) (unhide HX7)) hb8)
                  clear hb8
                  go_wp2_with fail
                  go_ret
                  exact ⟨rfl, unhide HB8⟩
end Go.Proofs.YtldgkpnlplfopaaGreatDoor.fnDiff
