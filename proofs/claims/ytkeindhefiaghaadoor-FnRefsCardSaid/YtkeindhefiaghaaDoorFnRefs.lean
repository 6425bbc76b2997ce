/- For every two codes, the reference that is drawn of the first comes back from its text, which is the specification's, and what is read of the text that is drawn of the second is answered as by the specification and has just the text that it was read from; nothing that was there is changed. No condition but the card's own: the tables of unicode/utf8 are as the library's text lays them (the call never reads them). -/
import Derived.Test.YtkeindhefiaghaaDoorRows
import Derived.Test.YtkeindhefiaghaaDoorDrawU
import Derived.Test.YtkeindhefiaghaaDoorRRefU
import Derived.Test.YtkeindhefiaghaaDoorBig
import Derived.Test.YtkeindhefiaghaaDoorTie
import Derived.Test.YtkeindhefiaghaaDoorCards
import Derived.LaidMore
import Derived.Lay
import Derived.SevenTiedAt
import Derived.Stop.Joined
import Derived.WalkKit
import Derived.ProofKit
import Derived.OpenShut
import Derived.ShutString
import Derived.ChangeOld
import Derived.Below
namespace Go.Proofs.YtkeindhefiaghaaDoor.fnRefs
open Go.ChangeShapes Go.WideShapes Go.ChangeAt Go.RowKit
open Go.ChangeMaps (open_string shut_string)
open Plain
set_option linter.unusedVariables false

theorem own : ownKnob Tryd.prog.godebug = none := by kernel_rfl
theorem laidOut : laidOutB Tryd.prog = true := by kernel_rfl

theorem wref_ne {r t d : ByteArray} (h : refB r t d = true) : (wrefS r t d).toList.isEmpty = false := by
  have h1 : repoB r = true := by unfold refB at h; simp at h; exact h.1.1
  have h2 := repoB_pos h1
  have h3 : r.data.toList ++ (headS 58 t ++ headS 64 d) ≠ [] := by
    intro e
    have h4 : (r.data.toList ++ (headS 58 t ++ headS 64 d)).length = 0 := by rw [e]; rfl
    rw [List.length_append, len_data] at h4
    omega
  rw [ByteArray.toList_eq, wref_list h]
  cases hl : r.data.toList ++ (headS 58 t ++ headS 64 d) with
  | nil => exact absurd hl h3
  | cons a b => rfl

set_option maxRecDepth 10000 in
set_option maxHeartbeats 8000000 in
theorem walk (a0 : Option Addr) (len0 cap0 : Nat) (z0 : List Int) (a1 : Option Addr) (len1 cap1 : Nat) (z1 : List Int) (w : World) (w0 : IsRow .u8 w a0 len0 cap0 z0) (w1 : IsRow .u8 w a1 len1 cap1 z1) :
    Calls Tryd.prog 3 #[.slice a0 len0 cap0, .slice a1 len1 cap1] w fun e w' => e = .returned (.bool true) ∧ Below w.heap.size w w' := by
  have hlen := w0.len
  have hlen1 := w1.len
  have H := hide w0
  have HI := hide w1
  clear w0 w1
  by_cases hbig : len0 ≤ 1048576
  · have hd : decide (1048576 < (len0 : Int)) = false := by simp; omega
    by_cases hbig1 : len1 ≤ 1048576
    · have hd1 : decide (1048576 < (len1 : Int)) = false := by simp; omega
      go_enter Tryd.func3, Tryd.ntmps3
      go_wp2_with fail
      refine (big_calls a0 len0 cap0 _ hlen).mono ?_
      rintro e w1 ⟨rfl, rfl⟩
      rw [hd]
      go_wp2_with fail
      refine (big_calls a1 len1 cap1 _ hlen1).mono ?_
      rintro e w1 ⟨rfl, rfl⟩
      rw [hd1]
      go_wp2_with fail
      refine (DrawWriteRef_calls a0 len0 cap0 z0 _ (unhide H) hbig).mono ?_
      rintro e w1 ⟨r, t, d, rfl, hr, ht, hdd, hb1⟩
      have HB1 := hide (belowAlloc (Nat.le_refl _) hb1 (.cells #[.string r, .string t, .string d] 25))
      have HF1 := hide (RefAt.new w1 r t d 25)
      clear hb1
      go_wp2_with fail
      refine (impl_WriteRef r t d _ (by omega) (by omega) (by omega)).mono ?_
      rintro e w2 ⟨rfl, hb2⟩
      have HB2 := hide (belowVia (Nat.le_refl w.heap.size) hb2 (unhide HB1))
      have HF2 := hide ((unhide HF1).below hb2)
      obtain ⟨f0, f1, f2, -, -, -⟩ := unhide HF2
      clear hb2 HB1 HF1
      go_wp2_with fail
      clear f0 f1 f2
      refine (spec_WriteRef r t d _ (by omega) (by omega) (by omega)).mono ?_
      rintro e w3 ⟨rfl, hb3⟩
      have HB3 := hide (belowVia (Nat.le_refl w.heap.size) hb3 (unhide HB2))
      have HF3 := hide ((unhide HF2).below hb3)
      clear hb3 HB2 HF2
      cases hB : refB r t d with
      | false =>
        rw [show wrefS r t d = ⟨#[]⟩ from by unfold wrefS; rw [hB]; rfl]
        clear hB
        go_wp2_with fail
        refine (DrawReadRef_calls a1 len1 cap1 z1 _ (rowBel (unhide HI) (unhide HB3)) hbig1).mono ?_
        rintro e w5 ⟨s2, rfl, hs2, hb5⟩
        have HB5 := hide (belowVia (Nat.le_refl w.heap.size) hb5 (unhide HB3))
        obtain ⟨r2, t2, d2, c2, hv, hcase⟩ := rrV_form s2
        have HS := fun w => spec_ReadRef s2 w (by omega)
        have HJ := fun w => impl_ReadRef s2 w (by omega)
        rw [hv] at HS HJ
        unfold refV at HS HJ
        have HSS := hide HS
        have HJJ := hide HJ
        have HC := hide hcase
        clear HS HJ hv hcase hb5 HB3
        go_wp2_with fail
        refine (unhide HSS _).mono ?_
        rintro e w6 ⟨rfl, hb6⟩
        have HB6 := hide (belowAlloc (Nat.le_refl _) (belowVia (Nat.le_refl w.heap.size) hb6 (unhide HB5)) (.cells #[.string r2, .string t2, .string d2] 25))
        clear hb6 HB5 HSS
        go_wp2_with fail
        refine (unhide HJJ _).mono ?_
        rintro e w7 ⟨rfl, hb7⟩
        have HB7 := hide (belowAlloc (Nat.le_refl _) (belowVia (Nat.le_refl w.heap.size) hb7 (unhide HB6)) (.cells #[.string r2, .string t2, .string d2] 25))
        clear hb7 HB6 HJJ
        rcases unhide HC with ⟨rfl, er, et, ed, hBB, hT, hD⟩ | ⟨hc, rfl, rfl, rfl⟩
        · have hwr : wrefS r2 t2 d2 = s2 := by
            subst er et ed
            exact read_back hBB hT hD
          have hz : r2.size ≤ 1000 ∧ t2.size ≤ 1000 ∧ d2.size ≤ 1000 := by
            subst er et ed
            have e1 : (s2.extract 0 (rI s2)).size ≤ 1000 := by rw [ByteArray.size_extract]; omega
            have e2 : (rTag s2).size ≤ 1000 := by unfold rTag; split; (rw [ByteArray.size_extract]; omega); decide
            have e3 : (rDig s2).size ≤ 1000 := by unfold rDig; split; (rw [ByteArray.size_extract]; omega); decide
            exact ⟨e1, e2, e3⟩
          have HW := hide hwr
          obtain ⟨hz1, hz2, hz3⟩ := hz
          clear HC er et ed hBB hT hD hwr
          go_wp2_with fail
          refine (impl_WriteRef r2 t2 d2 _ (by omega) (by omega) (by omega)).mono ?_
          rintro e w8 ⟨rfl, hb8⟩
          have HB8 := hide (belowVia (Nat.le_refl w.heap.size) hb8 (unhide HB7))
          rw [unhide HW]
          clear hb8 HB7
          go_wp2_with fail
          go_ret
          exact ⟨rfl, unhide HB8⟩
        · clear HC
          unfold e0 at *
          rcases hc with rfl | rfl | rfl
          all_goals go_wp2_with fail
          all_goals go_ret
          all_goals exact ⟨rfl, unhide HB7⟩
      | true =>
        have hne := wref_ne hB
        have HR := fun w => impl_ReadRef (wrefS r t d) w (by
          unfold wrefS; rw [hB]
          have := addS_size 64 (addS 58 r t) d
          have := addS_size 58 r t
          simp
          omega)
        rw [wref_back hB] at HR
        have h1 : repoB r = true := by unfold refB at hB; simp at hB; exact hB.1.1
        have h2 : emp t = true ∨ tagB t = true := by unfold refB at hB; simp at hB; exact hB.1.2
        unfold refV at HR
        have HRR := hide HR
        have H1 := hide h1
        have H2 := hide h2
        clear HR h1 h2 hB
        generalize wrefS r t d = s at hne HRR
        go_wp2_with fail
        refine (unhide HRR _).mono ?_
        rintro e w4 ⟨rfl, hb4⟩
        have HB4 := hide (belowAlloc (Nat.le_refl _) (belowVia (Nat.le_refl w.heap.size) hb4 (unhide HB3)) (.cells #[.string r, .string t, .string d] 25))
        have HF4 := hide (((unhide HF3).below hb4).below ((Below.refl w4.heap.size w4).alloc (Nat.le_refl _) (.cells #[.string r, .string t, .string d] 25)))
        obtain ⟨f0, f1, f2, -, -, -⟩ := unhide HF4
        clear hb4 HB3 HF3
        go_wp2_with fail
        refine (impl_RepoOk r _ (by omega)).mono ?_
        rintro e w5 ⟨rfl, hb5⟩
        rw [unhide H1]
        have HB5a := hide (belowVia (Nat.le_refl w.heap.size) hb5 (unhide HB4))
        have HF5 := hide ((unhide HF4).below hb5)
        clear f0 f1 f2
        obtain ⟨f0, f1, f2, -, -, -⟩ := unhide HF5
        clear hb5 HB4 HF4 HF5
        rcases unhide H2 with h2 | h2
        · unfold emp at h2
          clear H2
          go_wp2_with fail
          clear f0 f1 f2
          refine (DrawReadRef_calls a1 len1 cap1 z1 _ (rowBel (unhide HI) (unhide HB5a)) hbig1).mono ?_
          rintro e w5 ⟨s2, rfl, hs2, hb5⟩
          have HB5 := hide (belowVia (Nat.le_refl w.heap.size) hb5 (unhide HB5a))
          obtain ⟨r2, t2, d2, c2, hv, hcase⟩ := rrV_form s2
          have HS := fun w => spec_ReadRef s2 w (by omega)
          have HJ := fun w => impl_ReadRef s2 w (by omega)
          rw [hv] at HS HJ
          unfold refV at HS HJ
          have HSS := hide HS
          have HJJ := hide HJ
          have HC := hide hcase
          clear HS HJ hv hcase hb5 HB5a
          go_wp2_with fail
          refine (unhide HSS _).mono ?_
          rintro e w6 ⟨rfl, hb6⟩
          have HB6 := hide (belowAlloc (Nat.le_refl _) (belowVia (Nat.le_refl w.heap.size) hb6 (unhide HB5)) (.cells #[.string r2, .string t2, .string d2] 25))
          clear hb6 HB5 HSS
          go_wp2_with fail
          refine (unhide HJJ _).mono ?_
          rintro e w7 ⟨rfl, hb7⟩
          have HB7 := hide (belowAlloc (Nat.le_refl _) (belowVia (Nat.le_refl w.heap.size) hb7 (unhide HB6)) (.cells #[.string r2, .string t2, .string d2] 25))
          clear hb7 HB6 HJJ
          rcases unhide HC with ⟨rfl, er, et, ed, hBB, hT, hD⟩ | ⟨hc, rfl, rfl, rfl⟩
          · have hwr : wrefS r2 t2 d2 = s2 := by
              subst er et ed
              exact read_back hBB hT hD
            have hz : r2.size ≤ 1000 ∧ t2.size ≤ 1000 ∧ d2.size ≤ 1000 := by
              subst er et ed
              have e1 : (s2.extract 0 (rI s2)).size ≤ 1000 := by rw [ByteArray.size_extract]; omega
              have e2 : (rTag s2).size ≤ 1000 := by unfold rTag; split; (rw [ByteArray.size_extract]; omega); decide
              have e3 : (rDig s2).size ≤ 1000 := by unfold rDig; split; (rw [ByteArray.size_extract]; omega); decide
              exact ⟨e1, e2, e3⟩
            have HW := hide hwr
            obtain ⟨hz1, hz2, hz3⟩ := hz
            clear HC er et ed hBB hT hD hwr
            go_wp2_with fail
            refine (impl_WriteRef r2 t2 d2 _ (by omega) (by omega) (by omega)).mono ?_
            rintro e w8 ⟨rfl, hb8⟩
            have HB8 := hide (belowVia (Nat.le_refl w.heap.size) hb8 (unhide HB7))
            rw [unhide HW]
            clear hb8 HB7
            go_wp2_with fail
            go_ret
            exact ⟨rfl, unhide HB8⟩
          · clear HC
            unfold e0 at *
            rcases hc with rfl | rfl | rfl
            all_goals go_wp2_with fail
            all_goals go_ret
            all_goals exact ⟨rfl, unhide HB7⟩
        · have h3 : t.toList.isEmpty = false := pos_emp (tagB_pos h2)
          have H3 := hide h2
          clear h2 H2
          go_wp2_with fail
          refine (impl_TagOk t _ (by omega)).mono ?_
          rintro e w6 ⟨rfl, rfl⟩
          rw [unhide H3]
          clear f0 f1 f2
          go_wp2_with fail
          refine (DrawReadRef_calls a1 len1 cap1 z1 _ (rowBel (unhide HI) (unhide HB5a)) hbig1).mono ?_
          rintro e w5 ⟨s2, rfl, hs2, hb5⟩
          have HB5 := hide (belowVia (Nat.le_refl w.heap.size) hb5 (unhide HB5a))
          obtain ⟨r2, t2, d2, c2, hv, hcase⟩ := rrV_form s2
          have HS := fun w => spec_ReadRef s2 w (by omega)
          have HJ := fun w => impl_ReadRef s2 w (by omega)
          rw [hv] at HS HJ
          unfold refV at HS HJ
          have HSS := hide HS
          have HJJ := hide HJ
          have HC := hide hcase
          clear HS HJ hv hcase hb5 HB5a
          go_wp2_with fail
          refine (unhide HSS _).mono ?_
          rintro e w6 ⟨rfl, hb6⟩
          have HB6 := hide (belowAlloc (Nat.le_refl _) (belowVia (Nat.le_refl w.heap.size) hb6 (unhide HB5)) (.cells #[.string r2, .string t2, .string d2] 25))
          clear hb6 HB5 HSS
          go_wp2_with fail
          refine (unhide HJJ _).mono ?_
          rintro e w7 ⟨rfl, hb7⟩
          have HB7 := hide (belowAlloc (Nat.le_refl _) (belowVia (Nat.le_refl w.heap.size) hb7 (unhide HB6)) (.cells #[.string r2, .string t2, .string d2] 25))
          clear hb7 HB6 HJJ
          rcases unhide HC with ⟨rfl, er, et, ed, hBB, hT, hD⟩ | ⟨hc, rfl, rfl, rfl⟩
          · have hwr : wrefS r2 t2 d2 = s2 := by
              subst er et ed
              exact read_back hBB hT hD
            have hz : r2.size ≤ 1000 ∧ t2.size ≤ 1000 ∧ d2.size ≤ 1000 := by
              subst er et ed
              have e1 : (s2.extract 0 (rI s2)).size ≤ 1000 := by rw [ByteArray.size_extract]; omega
              have e2 : (rTag s2).size ≤ 1000 := by unfold rTag; split; (rw [ByteArray.size_extract]; omega); decide
              have e3 : (rDig s2).size ≤ 1000 := by unfold rDig; split; (rw [ByteArray.size_extract]; omega); decide
              exact ⟨e1, e2, e3⟩
            have HW := hide hwr
            obtain ⟨hz1, hz2, hz3⟩ := hz
            clear HC er et ed hBB hT hD hwr
            go_wp2_with fail
            refine (impl_WriteRef r2 t2 d2 _ (by omega) (by omega) (by omega)).mono ?_
            rintro e w8 ⟨rfl, hb8⟩
            have HB8 := hide (belowVia (Nat.le_refl w.heap.size) hb8 (unhide HB7))
            rw [unhide HW]
            clear hb8 HB7
            go_wp2_with fail
            go_ret
            exact ⟨rfl, unhide HB8⟩
          · clear HC
            unfold e0 at *
            rcases hc with rfl | rfl | rfl
            all_goals go_wp2_with fail
            all_goals go_ret
            all_goals exact ⟨rfl, unhide HB7⟩
    · have hd1 : decide (1048576 < (len1 : Int)) = true := by simp; omega
      go_enter Tryd.func3, Tryd.ntmps3
      go_wp2_with fail
      refine (big_calls a0 len0 cap0 _ hlen).mono ?_
      rintro e w1 ⟨rfl, rfl⟩
      rw [hd]
      go_wp2_with fail
      refine (big_calls a1 len1 cap1 _ hlen1).mono ?_
      rintro e w1 ⟨rfl, rfl⟩
      rw [hd1]
      go_wp2_with fail
      go_ret
      exact ⟨rfl, Below.refl _ _⟩
  · have hd : decide (1048576 < (len0 : Int)) = true := by simp; omega
    go_enter Tryd.func3, Tryd.ntmps3
    go_wp2_with fail
    refine (big_calls a0 len0 cap0 _ hlen).mono ?_
    rintro e w1 ⟨rfl, rfl⟩
    rw [hd]
    go_wp2_with fail
    go_ret
    exact ⟨rfl, Below.refl _ _⟩

set_option maxRecDepth 100000 in
theorem lifted (os : Os) (started : os.Started) (H : Type) (enc : TypeId × Value → H) :
    ReturnsInHanded {} Tryd.checked os 3 .any (fun w args => (Rows.fnRefsSpec.pre enc Tryd.prog Tryd.f3 [] false w args ∧ laidMetH Tryd.prog Rows.fnRefsRow.laid w) ∧ sizedMet enc Tryd.prog Tryd.f3 (OpenSpec.ofChange Rows.fnRefsSpec) false w args)
      (Rows.fnRefsSpec.post enc Tryd.prog Tryd.f3 false true false false) := by
  refine returnsInHanded_of_change_and (C := Tryd.checked) (X := fun w _ => laidMetH Tryd.prog Rows.fnRefsRow.laid w) (fun _ _ _ hh h => h.of_heap hh) own started (by kernel_rfl) Tryd.func3
    (ChangeSpec.witness_shaped (enc := enc) (C := Tryd.checked) (os := os) (X := fun w _ => laidMetH Tryd.prog Rows.fnRefsRow.laid w) false (World.laidAll Tryd.prog os Rows.fnRefsRow.laid) #[.slice none 0 0, .slice none 0 0] 8 (World.laidAll_os _ _ _)
      (World.shaped_of_ZipB (by kernel_rfl) (by kernel_rfl)) (by kernel_rfl) (by kernel_rfl) (by kernel_rfl)
      (by rw [MakeChecks.laidMetH_plain _ _ _ (by kernel_rfl)]; exact laidMet_laidAll _ (by kernel_rfl) (by kernel_rfl))) ?_
  intro W base args ds gs before hval0 hW _ _ hL _
  have hval : ∀ (j : Nat) t v, Tryd.f3.params[j]? = some t → args[j]? = some v → Value.okWide Tryd.prog W .any base t v := hval0
  have hW' := hW
  obtain ⟨p, q, hA0, hV, rfl, hfz, hnd⟩ := hW
  have hA : DataW.TrodAll enc Tryd.prog W 0 (fun _ => true) true Tryd.f3.params.toList args.toList ds p := hA0
  rw [Tryd.params3] at hA hval
  obtain ⟨v0, vs0, d0, ds0, p0, q0, hargs, rfl, rfl, h0, r0⟩ := trodAll_cons hA
  obtain ⟨v1, vs1, d1, ds1, p1, q1, rfl, rfl, rfl, h1, r1⟩ := trodAll_cons r0
  obtain ⟨rfl, rfl, rfl⟩ := trodAll_nil r1
  obtain rfl : args = #[v0, v1] := by cases args; simp_all
  obtain ⟨rfl, rfl⟩ := trodVars_none hV
  have k0 := h0
  have lt0 : ∀ x ∈ p0, x.block < W.heap.size := by obtain ⟨m, hm⟩ := k0; exact DataW.trod_lt m _ _ _ hm
  obtain ⟨a0, len0, cap0, rfl⟩ := okWide_slice Tryd.underlying22 (hval 0 22 v0 rfl rfl)
  obtain ⟨z0, w0⟩ : ∃ zs, IsRow .u8 W a0 len0 cap0 zs := by
    obtain ⟨fuel, hf⟩ := h0
    rcases open_ints Tryd.underlying22 Tryd.underlying5 (by kernel_rfl) hf with ⟨hcs, _⟩ | ⟨x, l, c, zs, hcs, _, hl, hm, hz, _, hcell, hwz⟩
    · simp [Value.cells] at hcs
      obtain ⟨rfl, rfl, rfl⟩ := hcs
      exact ⟨[], .inl ⟨rfl, rfl, rfl, rfl⟩⟩
    · simp [Value.cells] at hcs
      obtain ⟨rfl, rfl, rfl⟩ := hcs
      exact ⟨zs, .inr ⟨_, rfl, hl, hm, by simpa using hz, hcell, hwz⟩⟩
  have k1 := h1
  have lt1 : ∀ x ∈ p1, x.block < W.heap.size := by obtain ⟨m, hm⟩ := k1; exact DataW.trod_lt m _ _ _ hm
  obtain ⟨a1, len1, cap1, rfl⟩ := okWide_slice Tryd.underlying22 (hval 1 22 v1 rfl rfl)
  obtain ⟨z1, w1⟩ : ∃ zs, IsRow .u8 W a1 len1 cap1 zs := by
    obtain ⟨fuel, hf⟩ := h1
    rcases open_ints Tryd.underlying22 Tryd.underlying5 (by kernel_rfl) hf with ⟨hcs, _⟩ | ⟨x, l, c, zs, hcs, _, hl, hm, hz, _, hcell, hwz⟩
    · simp [Value.cells] at hcs
      obtain ⟨rfl, rfl, rfl⟩ := hcs
      exact ⟨[], .inl ⟨rfl, rfl, rfl, rfl⟩⟩
    · simp [Value.cells] at hcs
      obtain ⟨rfl, rfl, rfl⟩ := hcs
      exact ⟨zs, .inr ⟨_, rfl, hl, hm, by simpa using hz, hcell, hwz⟩⟩
  clear hA0 hval0
  refine (walk a0 len0 cap0 z0 a1 len1 cap1 z1 W w0 w1).mono fun e W' ⟨he, bel⟩ => ?_
  subst he
  exact ⟨_, rfl, _, _, _, [], _, [], hW', trodAll_mk1 (shut_bool Tryd.underlying4 _), (trodAll_cons_mk (Below.trod laidOut (by kernel_rfl) (of_decide_eq_true (by kernel_rfl)) k0 bel lt0) (trodAll_cons_mk (Below.trod laidOut (by kernel_rfl) (of_decide_eq_true (by kernel_rfl)) k1 bel lt1) trodAll_mk0)), rfl, bel.frame _, fun h => by cases h⟩

theorem over : Rows.fnRefsRow.holds Tryd.pinned (OpenSpec.ofChange Rows.fnRefsSpec) :=
  OpenClaim.holds_of_wide 3 Tryd.f3 rfl rfl rfl rfl rfl rfl rfl ⟨rfl, rfl, rfl, rfl, rfl⟩ rfl rfl rfl rfl rfl (by kernel_rfl) Tryd.func3 (by kernel_rfl)
    (of_decide_eq_true (by kernel_rfl)) (by unfold Func.isWrapper; first | (rw [if_pos (by decide +kernel)]; kernel_rfl) | (rw [if_neg (by decide +kernel)]; exact ⟨rfl, rfl⟩))
    (fun os started H enc _ => lifted os started H enc)

end Go.Proofs.YtkeindhefiaghaaDoor.fnRefs
namespace Go.Proofs.YtkeindhefiaghaaDoor
theorem fnRefs_holds : Rows.FnRefsCardSaid :=
  Claim7.holds_tied_plain_at .later [] [.data, .pinned] true Rows.fnRefsCard.stood.harness false
    fnRefs.over (fun _ h => by cases h) (by kernel_rfl) (fun _ h => by cases h) fnRefs_row_tie rfl ⟨rfl, rfl⟩ (by kernel_rfl) rfl
    (fun f fn hf hfn => by
      obtain rfl : f = 3 := Option.some.inj ((show Tryd.prog.funcNamed "loop.example/g00141/laws.FnRefs" = some 3 by kernel_rfl).symm.trans hf) |>.symm
      obtain rfl : fn = Tryd.f3 := (Option.some.inj (Tryd.func3.symm.trans hfn)).symm
      exact ⟨by kernel_rfl, fun j t ht => by
        rw [Tryd.params3] at ht
        have hm : t ∈ [22, 22] := by simpa using Array.mem_of_getElem? ht
        have hall : ([22, 22].all fun u => !Tryd.prog.wantsStandIn u) = true := by kernel_rfl
        exact (show Tryd.prog.wantsStandIn t = false by simpa using List.all_eq_true.1 hall t hm)⟩)
    (by kernel_rfl)
#print axioms fnRefs_holds
end Go.Proofs.YtkeindhefiaghaaDoor
