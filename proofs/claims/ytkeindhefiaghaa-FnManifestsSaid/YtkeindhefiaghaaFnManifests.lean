/- For every two codes, the manifest that is drawn of the first comes back from its text, which is the specification's, and names just its config and its layers, and what is read of the text that is drawn of the second is answered with the specification's code and has just the text that it was read from; nothing that was there is changed. No condition. -/
import Derived.Test.YtkeindhefiaghaaRows
import Derived.Test.YtkeindhefiaghaaDrawP
import Derived.Test.YtkeindhefiaghaaManX
import Derived.Test.YtkeindhefiaghaaManY
import Derived.Test.YtkeindhefiaghaaBig
import Derived.WalkKit
import Derived.ProofKit
import Derived.OpenShut
import Derived.ShutString
import Derived.ChangeOld
import Derived.Below
namespace Go.Proofs.Ytkeindhefiaghaa.fnManifests
open Go.ChangeShapes Go.WideShapes Go.ChangeAt Go.RowKit
open Go.ChangeMaps (open_string shut_string)
open Plain
set_option linter.unusedVariables false

theorem own : ownKnob Try.prog.godebug = none := by kernel_rfl
theorem laidOut : laidOutB Try.prog = true := by kernel_rfl

theorem man_ok {s : ByteArray} {c : ByteArray} {ls : List ByteArray} (h : rmV (cutB 10 s) = (c, ls, 0)) : manB c ls = true := by
  cases hp : cutB 10 s with
  | nil => exact absurd hp (cutB_ne s)
  | cons p qs =>
    rw [hp] at h
    by_cases h1 : okL cfgH p = true
    · by_cases h2 : laysOk qs = true
      · by_cases h3 : 1 ≤ (laysOf qs).length ∧ (laysOf qs).length ≤ 40
        · rw [rm_good p qs h1 h2 h3] at h
          simp only [Prod.mk.injEq] at h
          obtain ⟨rfl, rfl, -⟩ := h
          exact manB_mk (okL_parts h1).2.2 h3.1 h3.2 (laysOf_dig qs h2)
        · rw [rm_many p qs h1 h2 h3] at h
          simp at h
      · rw [rm_bad p qs (.inr (by simpa using h2))] at h
        simp at h
    · rw [rm_bad p qs (.inl (by simpa using h1))] at h
      simp at h
theorem man_fit {c : ByteArray} {ls : List ByteArray} (h : manB c ls = true) : c.size ≤ 1000000000000 ∧ ls.length ≤ 100000000000 ∧ ∀ l ∈ ls, l.size ≤ 1000000000000 := by
  obtain ⟨h1, h2, h3, h4⟩ := manB_lays h
  have := digB_71 h1
  exact ⟨by omega, by omega, fun l hl => by have := digB_71 (h4 l hl); omega⟩

set_option maxRecDepth 10000 in
set_option maxHeartbeats 8000000 in
theorem walk (a0 : Option Addr) (len0 cap0 : Nat) (z0 : List Int) (a1 : Option Addr) (len1 cap1 : Nat) (z1 : List Int) (w : World) (w0 : IsRow .u8 w a0 len0 cap0 z0) (w1 : IsRow .u8 w a1 len1 cap1 z1) :
    Calls Try.prog 3 #[.slice a0 len0 cap0, .slice a1 len1 cap1] w fun e w' => e = .returned (.bool true) ∧ Below w.heap.size w w' := by
  have hlen := w0.len
  have hlen1 := w1.len
  have H := hide w0
  have HI := hide w1
  clear w0 w1
  by_cases hbig : len0 ≤ 1048576
  · have hd : decide (1048576 < (len0 : Int)) = false := by simp; omega
    by_cases hbig1 : len1 ≤ 1048576
    · have hd1 : decide (1048576 < (len1 : Int)) = false := by simp; omega
      go_enter Try.func3, Try.ntmps3
      go_wp2_with fail
      refine (big_calls a0 len0 cap0 _ hlen).mono ?_
      rintro e w1 ⟨rfl, rfl⟩
      rw [hd]
      go_wp2_with fail
      refine (big_calls a1 len1 cap1 _ hlen1).mono ?_
      rintro e w1 ⟨rfl, rfl⟩
      rw [hd1]
      go_wp2_with fail
      refine (DrawWriteManifest_calls a0 len0 cap0 z0 _ (unhide H) hbig).mono ?_
      rintro e w1 ⟨c, v, ls, rfl, hma, hb1⟩
      obtain ⟨hO1, hc1, hl1, hs1⟩ := unhide hma
      obtain ⟨av, cv, hv⟩ := hO1.form
      subst hv
      obtain ⟨n, hn⟩ : ∃ n, ls.length = n := ⟨_, rfl⟩
      rw [hn] at hO1 hl1 ⊢
      have HN := hide hn
      have HSZ := hide (show ∀ l ∈ ls, l.size ≤ 1000000000000 from fun l hl => by have := hs1 l hl; omega)
      have hba := bel1 w1 (.cells #[.string c, .slice av n cv] 26)
      have HB1 := hide (belOn hb1 hba)
      have HR1 := hide (hO1.at.strs.below hba)
      have HM1 := hide (Mc.new w1 c (.slice av n cv) 26)
      clear hma hb1 hO1 hs1 hba hn
      go_wp2_with fail
      refine (impl_WriteManifest c av n cv ls _ (by omega) (unhide HN) (by omega) (unhide HSZ) (unhide HR1)).mono ?_
      rintro e w2 ⟨rfl, hb2⟩
      have HB2 := hide (belOn (unhide HB1) hb2)
      have HR2 := hide ((unhide HR1).below hb2)
      have HM2 := hide ((unhide HM1).below hb2 (unhide HM1).lt)
      obtain ⟨m0, m1, -, -, mlt⟩ := unhide HM2
      clear hb2 HB1 HR1 HM1
      go_wp2_with fail
      clear m0 m1 mlt
      refine (spec_WriteManifest c av n cv ls _ (by omega) (unhide HN) (by omega) (unhide HSZ) (unhide HR2)).mono ?_
      rintro e w3 ⟨rfl, hb3⟩
      have HB3 := hide (belOn (unhide HB2) hb3)
      have HR3 := hide ((unhide HR2).below hb3)
      have HM3 := hide ((unhide HM2).below hb3 (unhide HM2).lt)
      clear hb3 HB2 HR2 HM2
      cases hB : manB c ls with
      | false =>
        rw [show manS c ls = ⟨#[]⟩ from by unfold manS; rw [hB]; rfl]
        clear hB
        go_wp2_with fail
        refine (DrawReadManifest_calls a1 len1 cap1 z1 _ (rowBelM (unhide HI) (unhide HB3)) hbig1).mono ?_
        rintro e wa ⟨s2, rfl, hs2, hba⟩
        have HBa := hide (belOn (unhide HB3) hba)
        have hSR := fun w => spec_ReadManifest s2 w (by omega)
        have hIR := fun w => impl_ReadManifest s2 w (by omega)
        unfold RmPost at hIR hSR
        have hcase := fun c ls k h => And.intro (man_read (s := s2) (c := c) (ls := ls) (k := k) h) (fun e : k = 0 => man_ok (s := s2) (c := c) (ls := ls) (by rw [h, e]))
        generalize rmV (cutB 10 s2) = x at hSR hIR hcase
        obtain ⟨c2, ls2, k2⟩ := x
        simp only at hIR hSR
        have hcs := hcase c2 ls2 k2 rfl
        have HSR := hide hSR
        have HIR := hide hIR
        have HCS := hide hcs
        clear hSR hIR hcase hcs hba HB3
        go_wp2_with fail
        refine (unhide HSR _).mono ?_
        rintro e wb ⟨vb, rfl, hOb, hbb⟩
        have HBb := hide (belOn (belOn (unhide HBa) hbb) (bel1 wb (.cells #[.string c2, vb] 26)))
        obtain ⟨ab, cb, hvb⟩ := hOb.form
        subst hvb
        clear hbb hOb HBa HSR
        go_wp2_with fail
        refine (unhide HIR _).mono ?_
        rintro e wc ⟨vc, rfl, hOc, hbc⟩
        obtain ⟨ac, cc, hvc⟩ := hOc.form
        subst hvc
        have HBc := hide (belOn (belOn (unhide HBb) hbc) (bel1 wc (.cells #[.string c2, .slice ac ls2.length cc] 26)))
        have HRc := hide (hOc.at.strs.below (bel1 wc (.cells #[.string c2, .slice ac ls2.length cc] 26)))
        clear hbc hOc HBb HIR
        rcases (unhide HCS).1 with ⟨rfl, hms⟩ | ⟨hk, rfl, rfl⟩
        · have HMS := hide hms
          have hfit : c2.size ≤ 1000000000000 ∧ ls2.length ≤ 100000000000 ∧ ∀ l ∈ ls2, l.size ≤ 1000000000000 := man_fit ((unhide HCS).2 rfl)
          obtain ⟨ft1, ft2, ft3⟩ := hfit
          have HFT := hide ft3
          clear HCS hms ft3
          go_wp2_with fail
          refine (impl_WriteManifest c2 ac ls2.length cc ls2 _ ft1 rfl ft2 (unhide HFT) (unhide HRc)).mono ?_
          rintro e wd ⟨rfl, hbd⟩
          have HBd := hide (belOn (unhide HBc) hbd)
          rw [unhide HMS]
          clear hbd HBc
          go_wp2_with fail
          go_ret
          exact ⟨rfl, unhide HBd⟩
        · clear HCS
          simp only [List.length_nil]
          rcases hk with rfl | rfl
          all_goals go_wp2_with fail
          all_goals go_ret
          all_goals exact ⟨rfl, unhide HBc⟩
      | true =>
        have hne := manS_ne hB
        have hsz := manS_size c ls
        have hIR := fun w => impl_ReadManifest (manS c ls) w (by omega)
        unfold RmPost at hIR
        rw [man_back hB] at hIR
        simp only at hIR
        have HIR := hide hIR
        have HBM := hide hB
        generalize manS c ls = s at hne HIR
        clear hB hIR hsz
        go_wp2_with fail
        refine (unhide HIR _).mono ?_
        rintro e w4 ⟨v4, rfl, hO4, hb4⟩
        obtain ⟨a4, c4, hv4⟩ := hO4.form
        subst hv4
        rw [unhide HN] at hO4 ⊢
        have hba := bel1 w4 (.cells #[.string c, .slice a4 n c4] 26)
        have HB4 := hide (belOn (belOn (unhide HB3) hb4) hba)
        have HR4 := hide (((unhide HR3).below hb4).below hba)
        have HY4 := hide (hO4.at.strs.below hba)
        have HM4 := hide (((unhide HM3).below hb4 (unhide HM3).lt).below hba (Nat.lt_of_lt_of_le (unhide HM3).lt hb4.size))
        have HN4 := hide (Mc.new w4 c (.slice a4 n c4) 26)
        obtain ⟨m0, m1, -, -, mlt⟩ := unhide HM4
        clear hb4 hO4 hba HB3 HR3 HM3 HIR
        go_wp2_with fail
        clear m0 m1 mlt
        refine (impl_BlobsOf c av n cv ls _ (by omega) (unhide HN) (by omega) (unhide HSZ) (unhide HR4)).mono ?_
        rintro e w5 ⟨v5, out, rfl, hO5, hs5, hb5⟩
        obtain ⟨a5, c5, hv5⟩ := hO5.form
        subst hv5
        have hol := (unhide hs5).len
        obtain ⟨m, hm⟩ : ∃ m, out.length = m := ⟨_, rfl⟩
        rw [hm] at hO5 hol ⊢
        rw [unhide HN] at hol
        have HMM := hide hm
        have HB5 := hide (belOn (unhide HB4) hb5)
        have HR5 := hide ((unhide HR4).below hb5)
        have HY5 := hide ((unhide HY4).below hb5)
        have HO5 := hide hO5.at.strs
        have HM5 := hide ((unhide HM4).below hb5 (unhide HM4).lt)
        have HN5 := hide ((unhide HN4).below hb5 (unhide HN4).lt)
        have hin : anyB out c = true ∧ ∀ l ∈ ls, anyB out l = true := by
          rcases unhide hs5 with ⟨-, -, h⟩ | ⟨h, -⟩
          · exact ⟨(anyB_mem _ _).2 ((h c).2 (by simp)), fun l hl => (anyB_mem _ _).2 ((h l).2 (by simp [hl]))⟩
          · rw [unhide HBM] at h; simp at h
        have HIN := hide hin
        obtain ⟨m0, m1, -, -, mlt⟩ := unhide HM5
        obtain ⟨n0, n1, -, -, nlt⟩ := unhide HN5
        have hl5 : ¬ ((1 : Int) + (n : Int) < (m : Int)) := by omega
        clear hb5 hO5 hm hin HB4 HR4 HY4 HM4 HN4
        have HSAME := hide (sameTexts_calls a4 av c4 cv n ls w5 (unhide HN) (by omega) (unhide HY5) (unhide HR5))
        go_wp2_with fail
        refine (unhide HSAME).mono ?_
        rintro e w6 ⟨rfl, hb6⟩
        have HB6 := hide (belOn (unhide HB5) hb6)
        have HR6 := hide ((unhide HR5).below hb6)
        have HO6 := hide ((unhide HO5).below hb6)
        have HM6 := hide ((unhide HM5).below hb6 (unhide HM5).lt)
        clear m0 m1 mlt n0 n1 nlt hb6 HB5 HR5 HY5 HO5 HM5 HN5 HSAME
        obtain ⟨m0, m1, -, -, mlt⟩ := unhide HM6
        go_wp2_with fail
        refine (hasText_calls a5 m c5 out c _ (unhide HMM) (by omega) (unhide HO6)).mono ?_
        rintro e w7 ⟨rfl, rfl⟩
        rw [(unhide HIN).1]
        go_wp2_with fail
        go_loop [10] (fun i => ∃ k : Nat, i = .int .i64 k ∧ k ≤ n) (fun i => n - (intOf i).toNat)
        case atStart => exact ⟨0, rfl, by omega⟩
        case round =>
          obtain ⟨k, rfl, hk⟩ := hrel
          by_cases hkn : k < n
          · obtain ⟨gg, oo, ee, ll, pp⟩ := unhide HR6 k (by rw [unhide HN]; exact hkn)
            have hh := (unhide HIN).2 (ls[k]'(by rw [unhide HN]; exact hkn)) (by simp)
            generalize ls[k]'(by rw [unhide HN]; exact hkn) = y at pp hh
            have HH := hide hh
            subst ee
            have i0 : (0 : Int) ≤ (k : Int) := by omega
            have i1 : (k : Int) < (n : Int) := by omega
            clear hh
            go_wp2_with (go_at_call 23; refine (hasText_calls a5 m c5 out y _ (unhide HMM) (by omega) (unhide HO6)).mono ?_; rintro e w7 ⟨rfl, rfl⟩; rw [unhide HH])
            go_round
            case rel => exact ⟨k + 1, by go_num, by omega⟩
            case measure => simp [intOf]; omega
          · go_wp2_with fail
            refine (DrawReadManifest_calls a1 len1 cap1 z1 _ (rowBelM (unhide HI) (unhide HB6)) hbig1).mono ?_
            rintro e wa ⟨s2, rfl, hs2, hba⟩
            have HBa := hide (belOn (unhide HB6) hba)
            have hSR := fun w => spec_ReadManifest s2 w (by omega)
            have hIR := fun w => impl_ReadManifest s2 w (by omega)
            unfold RmPost at hIR hSR
            have hcase := fun c ls k h => And.intro (man_read (s := s2) (c := c) (ls := ls) (k := k) h) (fun e : k = 0 => man_ok (s := s2) (c := c) (ls := ls) (by rw [h, e]))
            generalize rmV (cutB 10 s2) = x at hSR hIR hcase
            obtain ⟨c2, ls2, k2⟩ := x
            simp only at hIR hSR
            have hcs := hcase c2 ls2 k2 rfl
            have HSR := hide hSR
            have HIR := hide hIR
            have HCS := hide hcs
            clear hSR hIR hcase hcs hba HB6
            go_wp2_with fail
            refine (unhide HSR _).mono ?_
            rintro e wb ⟨vb, rfl, hOb, hbb⟩
            have HBb := hide (belOn (belOn (unhide HBa) hbb) (bel1 wb (.cells #[.string c2, vb] 26)))
            obtain ⟨ab, cb, hvb⟩ := hOb.form
            subst hvb
            clear hbb hOb HBa HSR
            go_wp2_with fail
            refine (unhide HIR _).mono ?_
            rintro e wc ⟨vc, rfl, hOc, hbc⟩
            obtain ⟨ac, cc, hvc⟩ := hOc.form
            subst hvc
            have HBc := hide (belOn (belOn (unhide HBb) hbc) (bel1 wc (.cells #[.string c2, .slice ac ls2.length cc] 26)))
            have HRc := hide (hOc.at.strs.below (bel1 wc (.cells #[.string c2, .slice ac ls2.length cc] 26)))
            clear hbc hOc HBb HIR
            rcases (unhide HCS).1 with ⟨rfl, hms⟩ | ⟨hk, rfl, rfl⟩
            · have HMS := hide hms
              have hfit : c2.size ≤ 1000000000000 ∧ ls2.length ≤ 100000000000 ∧ ∀ l ∈ ls2, l.size ≤ 1000000000000 := man_fit ((unhide HCS).2 rfl)
              obtain ⟨ft1, ft2, ft3⟩ := hfit
              have HFT := hide ft3
              clear HCS hms ft3
              go_wp2_with fail
              refine (impl_WriteManifest c2 ac ls2.length cc ls2 _ ft1 rfl ft2 (unhide HFT) (unhide HRc)).mono ?_
              rintro e wd ⟨rfl, hbd⟩
              have HBd := hide (belOn (unhide HBc) hbd)
              rw [unhide HMS]
              clear hbd HBc
              go_wp2_with fail
              go_ret
              exact ⟨rfl, unhide HBd⟩
            · clear HCS
              simp only [List.length_nil]
              rcases hk with rfl | rfl
              all_goals go_wp2_with fail
              all_goals go_ret
              all_goals exact ⟨rfl, unhide HBc⟩
    · have hd1 : decide (1048576 < (len1 : Int)) = true := by simp; omega
      go_enter Try.func3, Try.ntmps3
      go_wp2_with fail
      refine (big_calls a0 len0 cap0 _ hlen).mono ?_
      rintro e w1 ⟨rfl, rfl⟩
      rw [hd]
      go_wp2_with fail
      refine (big_calls a1 len1 cap1 _ hlen1).mono ?_
      rintro e w1 ⟨rfl, rfl⟩
      rw [hd1]
      go_wp2_with fail
      go_ret
      exact ⟨rfl, Below.refl _ _⟩
  · have hd : decide (1048576 < (len0 : Int)) = true := by simp; omega
    go_enter Try.func3, Try.ntmps3
    go_wp2_with fail
    refine (big_calls a0 len0 cap0 _ hlen).mono ?_
    rintro e w1 ⟨rfl, rfl⟩
    rw [hd]
    go_wp2_with fail
    go_ret
    exact ⟨rfl, Below.refl _ _⟩

set_option maxRecDepth 100000 in
theorem lifted (os : Os) (started : os.Started) (H : Type) (enc : TypeId × Value → H) :
    ReturnsInHanded {} Try.checked os 3 .any (Rows.fnManifestsSpec.pre6 enc Try.prog Try.f3 Rows.fnManifestsRow.domain false) (Rows.fnManifestsSpec.post enc Try.prog Try.f3 false true false false) := by
  refine returnsInHanded_of_change (C := Try.checked) own started (by kernel_rfl) Try.func3
    (ChangeSpec.witness6 (enc := enc) (C := Try.checked) false ⟨#[], #[.slice none 0 0, .slice none 0 0], []⟩ 8 (by kernel_rfl) (by kernel_rfl) (by kernel_rfl) (by kernel_rfl)) ?_
  intro W base args ds gs before hval0 hW hcnd _
  have hval : ∀ (j : Nat) t v, Try.f3.params[j]? = some t → args[j]? = some v → Value.okWide Try.prog W .any base t v := hval0
  have hW' := hW
  obtain ⟨p, q, hA0, hV, rfl, hfz, hnd⟩ := hW
  have hA : DataW.TrodAll enc Try.prog W 0 (fun _ => true) true Try.f3.params.toList args.toList ds p := hA0
  rw [Try.params3] at hA hval
  obtain ⟨v0, vs0, d0, ds0, p0, q0, hargs, rfl, rfl, h0, r0⟩ := trodAll_cons hA
  obtain ⟨v1, vs1, d1, ds1, p1, q1, rfl, rfl, rfl, h1, r1⟩ := trodAll_cons r0
  obtain ⟨rfl, rfl, rfl⟩ := trodAll_nil r1
  obtain rfl : args = #[v0, v1] := by cases args; simp_all
  obtain ⟨rfl, rfl⟩ := trodVars_none hV
  have k0 := h0
  have lt0 : ∀ x ∈ p0, x.block < W.heap.size := by obtain ⟨m, hm⟩ := k0; exact DataW.trod_lt m _ _ _ hm
  obtain ⟨a0, len0, cap0, rfl⟩ := okWide_slice Try.underlying22 (hval 0 22 v0 rfl rfl)
  obtain ⟨z0, w0⟩ : ∃ zs, IsRow .u8 W a0 len0 cap0 zs := by
    obtain ⟨fuel, hf⟩ := h0
    rcases open_ints Try.underlying22 Try.underlying5 (by kernel_rfl) hf with ⟨hcs, _⟩ | ⟨x, l, c, zs, hcs, _, hl, hm, hz, _, hcell, hwz⟩
    · simp [Value.cells] at hcs
      obtain ⟨rfl, rfl, rfl⟩ := hcs
      exact ⟨[], .inl ⟨rfl, rfl, rfl, rfl⟩⟩
    · simp [Value.cells] at hcs
      obtain ⟨rfl, rfl, rfl⟩ := hcs
      exact ⟨zs, .inr ⟨_, rfl, hl, hm, by simpa using hz, hcell, hwz⟩⟩
  have k1 := h1
  have lt1 : ∀ x ∈ p1, x.block < W.heap.size := by obtain ⟨m, hm⟩ := k1; exact DataW.trod_lt m _ _ _ hm
  obtain ⟨a1, len1, cap1, rfl⟩ := okWide_slice Try.underlying22 (hval 1 22 v1 rfl rfl)
  obtain ⟨z1, w1⟩ : ∃ zs, IsRow .u8 W a1 len1 cap1 zs := by
    obtain ⟨fuel, hf⟩ := h1
    rcases open_ints Try.underlying22 Try.underlying5 (by kernel_rfl) hf with ⟨hcs, _⟩ | ⟨x, l, c, zs, hcs, _, hl, hm, hz, _, hcell, hwz⟩
    · simp [Value.cells] at hcs
      obtain ⟨rfl, rfl, rfl⟩ := hcs
      exact ⟨[], .inl ⟨rfl, rfl, rfl, rfl⟩⟩
    · simp [Value.cells] at hcs
      obtain ⟨rfl, rfl, rfl⟩ := hcs
      exact ⟨zs, .inr ⟨_, rfl, hl, hm, by simpa using hz, hcell, hwz⟩⟩
  clear hA0 hval0
  refine (walk a0 len0 cap0 z0 a1 len1 cap1 z1 W w0 w1).mono fun e W' ⟨he, bel⟩ => ?_
  subst he
  exact ⟨_, rfl, _, _, _, [], _, [], hW', trodAll_mk1 (shut_bool Try.underlying4 _), (trodAll_cons_mk (Below.trod laidOut (by kernel_rfl) (of_decide_eq_true (by kernel_rfl)) k0 bel lt0) (trodAll_cons_mk (Below.trod laidOut (by kernel_rfl) (of_decide_eq_true (by kernel_rfl)) k1 bel lt1) trodAll_mk0)), rfl, bel.frame _, fun h => by cases h⟩

theorem over : Rows.fnManifestsRow.holds Try.pinned (OpenSpec.ofChange Rows.fnManifestsSpec) :=
  OpenClaim.holds_of_wide 3 Try.f3 rfl rfl rfl rfl rfl rfl rfl ⟨rfl, rfl, rfl, rfl, rfl⟩ rfl rfl rfl rfl rfl (by kernel_rfl) Try.func3 (by kernel_rfl)
    (of_decide_eq_true (by kernel_rfl)) (by unfold Func.isWrapper; first | (rw [if_pos (by decide +kernel)]; kernel_rfl) | (rw [if_neg (by decide +kernel)]; exact ⟨rfl, rfl⟩))
    (fun os started H enc _ => lifted os started H enc)

end Go.Proofs.Ytkeindhefiaghaa.fnManifests
namespace Go.Proofs.Ytkeindhefiaghaa
theorem fnManifests_holds : Rows.FnManifestsSaid := fnManifests.over
#print axioms fnManifests_holds
end Go.Proofs.Ytkeindhefiaghaa
