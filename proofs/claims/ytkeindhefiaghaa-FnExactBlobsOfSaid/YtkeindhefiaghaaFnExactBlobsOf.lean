/- For every manifest, BlobsOf of the program answers the digests that BlobsOf of the specification answers, in memory of their own, behind a change of its argument and behind another call too, and leaves its argument as it was; nothing that was there is changed. No condition. -/
import Derived.Test.YtkeindhefiaghaaRows
import Derived.Test.YtkeindhefiaghaaBlobQ
import Derived.WalkKit
import Derived.ProofKit
import Derived.OpenShut
import Derived.ShutString
import Derived.ChangeOld
import Derived.Below
import Derived.Lib.SmallJoins
import Derived.SliceStrings
namespace Go.Proofs.Ytkeindhefiaghaa.fnExactBlobsOf
open Go.ChangeShapes Go.WideShapes Go.ChangeAt Go.RowKit Go.Joins
open Go.ChangeMaps (open_string shut_string)
open Plain
set_option linter.unusedVariables false

theorem own : ownKnob Try.prog.godebug = none := by kernel_rfl
theorem laidOut : laidOutB Try.prog = true := by kernel_rfl

set_option maxRecDepth 10000 in
set_option maxHeartbeats 8000000 in
theorem walk (cf : ByteArray) (a : Option Addr) (n c : Nat) (ls : List ByteArray) (w : World) (w0 : cf.size ≤ maxLen) (w1 : StrsRow w a n c ls) :
    Calls Try.prog 9 #[.agg #[.string cf, .slice a n c]] w fun e w' => e = .returned (.bool true) ∧ Below w.heap.size w w' := by
  obtain ⟨hn, hn2, hs, hr⟩ := w1
  unfold maxLen at w0 hn2 hs
  obtain ⟨W0, hW0⟩ : ∃ W0, W0 = w.alloc (.cells #[.string cf, .slice a n c] 56) := ⟨_, rfl⟩
  have hb0 : Below w.heap.size w W0 := by rw [hW0]; exact bel1 _ _
  have hlt : w.heap.size < W0.heap.size := by rw [hW0]; simp
  have c0 : W0.cell? ⟨w.heap.size, 0, none⟩ = some (.string cf) := by rw [hW0]; simp [go_sem]
  have c1 : W0.cell? ⟨w.heap.size, 1, none⟩ = some (.slice a n c) := by rw [hW0]; simp [go_sem]
  have HR0 := hide (hr.below hb0)
  have HB0 := hide hb0
  have HS := hide hs
  have HN := hide hn
  have HC0 := hide (fun (W : World) (h : Below W0.heap.size W0 W) => bcl h hlt c0)
  have HC1 := hide (fun (W : World) (h : Below W0.heap.size W0 W) => bcl h hlt c1)
  have HRA := hide (fun (W : World) (h : Below W0.heap.size W0 W) => (unhide HR0).below h)
  have HW0 := hide hW0.symm
  have HFIN := hide (fun (W : World) (h : Below W0.heap.size W0 W) => belOn (unhide HB0) h)
  clear hs hn hlt c0 c1 hr hb0 hW0
  go_enter Try.func9, Try.ntmps9
  go_wp2_with fail
  rw [unhide HW0]
  refine (szManifest_calls cf a n c ls 1048576 _ (by omega) (unhide HN) (by omega) (fun l hl => by have := unhide HS l hl; omega) (by omega) (by omega) (unhide HR0)).mono ?_
  rintro e w1 ⟨rfl, hb1⟩
  by_cases hbig : szM cf ls 1048576 < 0
  · have HB1 := hide (unhide HFIN _ hb1)
    clear hb1
    go_wp2_with fail
    go_ret
    exact ⟨rfl, unhide HB1⟩
  · obtain ⟨f1, f2, f3⟩ := szM_fit hbig
    have HF3 := hide (show ∀ l ∈ ls, l.size ≤ 1048576 from fun l hl => by have := sumL_mem ls l hl; omega)
    rw [unhide HN] at f2
    have HA1 := hide hb1
    have p0 := unhide HC0 _ hb1
    have p1 := unhide HC1 _ hb1
    generalize szM cf ls 1048576 = rest at hbig
    clear hb1 HS f3
    go_wp2_with fail
    refine (toManifest_calls cf a n c ls _ (unhide HN) f2 (unhide HRA _ (unhide HA1))).mono ?_
    rintro e w2 ⟨g2, rfl, ho2, hb2⟩
    have HA2 := hide (belOn (unhide HA1) hb2)
    have HS2 := hide ho2.at.strs
    clear p0 p1 hb2 ho2 HA1
    go_wp2_with fail
    refine (spec_BlobsOf cf _ n n ls _ (by omega) (unhide HN) (by omega) (fun l hl => by have := unhide HF3 l hl; omega) (unhide HS2)).mono ?_
    rintro e w3 ⟨v0, out, rfl, ho3, hs3, hb3⟩
    obtain ⟨a0, k0, hv⟩ := ho3.form
    subst hv
    have hol := (unhide hs3).len
    obtain ⟨m, hm⟩ : ∃ m, out.length = m := ⟨_, rfl⟩
    rw [hm] at ho3 hol ⊢
    rw [unhide HN] at hol
    have HM := hide hm
    have HA3 := hide (belOn (unhide HA2) hb3)
    have HX3 := hide ho3.at.strs
    have HV3 := hide (fun g o e => (ho3.blk g o e).2)
    have p0 := unhide HC0 _ (unhide HA3)
    have p1 := unhide HC1 _ (unhide HA3)
    clear hb3 ho3 HA2 HS2 hm
    go_wp2_with fail
    refine (toManifest_calls cf a n c ls _ (unhide HN) f2 (unhide HRA _ (unhide HA3))).mono ?_
    rintro e w4 ⟨g4, rfl, ho4, hb4⟩
    obtain ⟨W5, hW5⟩ : ∃ W5, w4.alloc (.cells #[.string cf, .slice (some ⟨g4, 0, none⟩) n n] 26) = W5 := ⟨_, rfl⟩
    have hb5 : Below w4.heap.size w4 W5 := by rw [← hW5]; exact bel1 _ _
    have HK5 := hide (show Mc w4.heap.size cf (.slice (some ⟨g4, 0, none⟩) n n) W5 from by rw [← hW5]; exact Mc.new _ _ _ _)
    have HG5 := hide (ho4.at.below hb5)
    have hg4 := ho4.blk g4 0 rfl
    have hlt5 : w4.heap.size < W5.heap.size := (unhide HK5).lt
    have HT5 := hide (belOn hb4 hb5)
    have HW5 := hide hW5
    clear p0 p1 hb4 hb5 ho4 hW5
    go_wp2_with fail
    rw [unhide HW5]
    refine (impl_BlobsOf cf _ n n ls _ (by omega) (unhide HN) (by omega) (fun l hl => by have := unhide HF3 l hl; omega) (unhide HG5).strs).mono ?_
    rintro e w6 ⟨v1, out1, rfl, ho6, hs6, hb6⟩
    obtain rfl : out1 = out := (unhide hs6).one (unhide hs3)
    obtain ⟨a1, k1, hv⟩ := ho6.form
    subst hv
    rw [unhide HM] at ho6 ⊢
    have HT6 := hide (belOn (unhide HT5) hb6)
    have HK6 := hide ((unhide HK5).below hb6 (unhide HK5).lt)
    have HG6 := hide ((unhide HG5).below hb6)
    have HY6 := hide ho6.at
    have HV6 := hide (fun g o e => (ho6.blk g o e))
    have hz6 := hb6.size
    clear hb6 ho6 hs6 HT5 HK5 HG5 HW5
    go_wp2_with fail
    refine (eqStringS_calls a1 a0 k1 k0 m out1 _ (unhide HM) (by omega) (unhide HY6).strs ((unhide HX3).below (unhide HT6))).mono ?_
    rintro e w7 ⟨rfl, hb7⟩
    have HT7 := hide (belOn (unhide HT6) hb7)
    have HK7 := hide ((unhide HK6).below hb7 (unhide HK6).lt)
    have HG7 := hide ((unhide HG6).below hb7)
    have HY7 := hide ((unhide HY6).below hb7)
    have hz7 := hb7.size
    have p0 := unhide HC0 _ (belOn (unhide HA3) (unhide HT7))
    have p1 := unhide HC1 _ (belOn (unhide HA3) (unhide HT7))
    obtain ⟨x0, x1, -, -, xlt⟩ := unhide HK7
    clear hb7 HT6 HK6 HG6 HY6
    have hdr : Below w7.heap.size w7 w7.drew := belDrew (Below.refl _ _)
    have HDR := hide hdr
    have HTM := hide (toManifest_calls cf a n c ls w7.drew (unhide HN) f2 (unhide HRA _ (belOn (belOn (unhide HA3) (unhide HT7)) hdr)))
    have xl : w4.heap.size < w7.drew.heap.size := xlt
    clear hdr
    go_wp2_with fail
    go_region_with (first | (go_at_call 41; refine (unhide HTM).mono ?_; rintro e w8 ⟨g8, rfl, ho8, hb8⟩; have y0 := bcl hb8 xl x0; have y1 := bcl hb8 xl x1) | (go_at_call 42; refine (eqManifest_calls cf _ _ n n n ls _ (unhide HN) (by omega) (((unhide HG7).strs.below (unhide HDR)).below hb8) ho8.at.strs).mono ?_; rintro e w9 ⟨rfl, hb9⟩))
    all_goals have HD9 := hide (belOn (belOn (unhide HDR) hb8) hb9)
    all_goals clear hb8 hb9 ho8 y0 y1 x0 x1 p0 p1
    all_goals
      have HK9 := hide ((unhide HK7).below (unhide HD9) (unhide HK7).lt)
      have HG9 := hide ((unhide HG7).below (unhide HD9))
      have HY9 := hide ((unhide HY7).below (unhide HD9))
      have HT9 := hide (belOn (unhide HT7) (unhide HD9))
      have hz9 := (unhide HD9).size
      obtain ⟨x0, x1, -, -, -⟩ := unhide HK9
      go_wp2_with fail
      clear x0 x1
      refine (markManifest_calls cf 1 (some ⟨g4, 0, none⟩) n n ls w9 (by omega) (by omega) (unhide HN) (by omega) (unhide HG9)).mono ?_
      rintro e wa ⟨rfl, -, hoa⟩
      have HTa := hide ((unhide HT9).trans (hoa.below (B := w3.heap.size) (fun g o e => by cases e; omega) (unhide HT9).size))
      have HYa := hide ((unhide HY9).onlyRow hoa (fun g o e o' e' => by have := unhide HV6 g o e; cases e'; omega))
      have hza := hoa.size
      have hpos : ((1 + n : Nat) : Int) = 1 + (n : Int) := by omega
      rw [hpos]
      clear hoa hpos HK9 HG9 HY9 HT9
      go_wp2_with fail
      refine (eqStringS_calls a1 a0 k1 k0 m out1 _ (unhide HM) (by omega) (unhide HYa).strs ((unhide HX3).below (unhide HTa))).mono ?_
      rintro e wb ⟨rfl, hbb⟩
      have HTb := hide (belOn (unhide HTa) hbb)
      have HYb := hide ((unhide HYa).below hbb)
      have hzb := hbb.size
      clear hbb HTa HYa
      go_wp2_with fail
      refine (markStringS_calls 1 a1 k1 m out1 wb (by omega) (by omega) (unhide HM) (by omega) (unhide HYb)).mono ?_
      rintro e wc ⟨rfl, hMc, hoc⟩
      have HTc := hide ((unhide HTb).trans (hoc.below (B := w3.heap.size) (fun g o e => by have := unhide HV6 g o e; omega) (unhide HTb).size))
      have HMc := hide hMc
      clear hMc hoc HTb HYb
      go_wp2_with fail
      refine (heldStringS_calls 1 a1 k1 m wc (by omega) (by omega) (by omega) (unhide HMc)).mono ?_
      rintro e wd ⟨rfl, hbd⟩
      have HTd := hide (belOn (unhide HTc) hbd)
      have HMd := hide ((unhide HMc).below hbd)
      have p0 := unhide HC0 _ (belOn (unhide HA3) (unhide HTd))
      have p1 := unhide HC1 _ (belOn (unhide HA3) (unhide HTd))
      clear hbd HTc HMc
      go_wp2_with fail
      clear p0 p1
      refine (toManifest_calls cf a n c ls wd (unhide HN) f2 (unhide HRA _ (belOn (unhide HA3) (unhide HTd)))).mono ?_
      rintro e we ⟨ge, rfl, hoe, hbe⟩
      have HTe := hide (belOn (unhide HTd) hbe)
      have HMe := hide ((unhide HMd).below hbe)
      have HSe := hide hoe.at.strs
      clear hbe hoe HTd HMd
      go_wp2_with fail
      refine (impl_BlobsOf cf _ n n ls _ (by omega) (unhide HN) (by omega) (fun l hl => by have := unhide HF3 l hl; omega) (unhide HSe)).mono ?_
      rintro e wf ⟨v2, out2, rfl, hof, hsf, hbf⟩
      obtain rfl : out2 = out1 := (unhide hsf).one (unhide hs3)
      obtain ⟨a2, k2, hv⟩ := hof.form
      subst hv
      rw [unhide HM] at hof ⊢
      have HTf := hide (belOn (unhide HTe) hbf)
      have HMf := hide ((unhide HMe).below hbf)
      have HYf := hide hof.at.strs
      clear hbf hof hsf HTe HMe HSe
      go_wp2_with fail
      refine (eqStringS_calls a2 a0 k2 k0 m out2 _ (unhide HM) (by omega) (unhide HYf) ((unhide HX3).below (unhide HTf))).mono ?_
      rintro e wg ⟨rfl, hbg⟩
      have HTg := hide (belOn (unhide HTf) hbg)
      have HMg := hide ((unhide HMf).below hbg)
      clear hbg HTf HMf HYf
      go_wp2_with fail
      refine (heldStringS_calls 1 a1 k1 m wg (by omega) (by omega) (by omega) (unhide HMg)).mono ?_
      rintro e wh ⟨rfl, hbh⟩
      have HFI := hide (unhide HFIN _ (belOn (unhide HA3) (belOn (unhide HTg) hbh)))
      clear hbh HTg HMg
      go_wp2_with fail
      go_ret
      exact ⟨rfl, unhide HFI⟩

set_option maxRecDepth 100000 in
theorem lifted (os : Os) (started : os.Started) (H : Type) (enc : TypeId × Value → H) :
    ReturnsInHanded {} Try.checked os 9 .any (Rows.fnExactBlobsOfSpec.pre6 enc Try.prog Try.f9 Rows.fnExactBlobsOfRow.domain false) (Rows.fnExactBlobsOfSpec.post enc Try.prog Try.f9 false true false false) := by
  refine returnsInHanded_of_change (C := Try.checked) own started (by kernel_rfl) Try.func9
    (ChangeSpec.witness6 (enc := enc) (C := Try.checked) false ⟨#[], #[.agg #[.string ByteArray.empty, .slice none 0 0]], []⟩ 8 (by kernel_rfl) (by kernel_rfl) (by kernel_rfl) (by kernel_rfl)) ?_
  intro W base args ds gs before hval0 hW hcnd _
  have hval : ∀ (j : Nat) t v, Try.f9.params[j]? = some t → args[j]? = some v → Value.okWide Try.prog W .any base t v := hval0
  have hW' := hW
  obtain ⟨p, q, hA0, hV, rfl, hfz, hnd⟩ := hW
  have hA : DataW.TrodAll enc Try.prog W 0 (fun _ => true) true Try.f9.params.toList args.toList ds p := hA0
  rw [Try.params9] at hA hval
  obtain ⟨v0, vs0, d0, ds0, p0, q0, hargs, rfl, rfl, h0, r0⟩ := trodAll_cons hA
  obtain ⟨rfl, rfl, rfl⟩ := trodAll_nil r0
  obtain rfl : args = #[v0] := by cases args; simp_all
  obtain ⟨rfl, rfl⟩ := trodVars_none hV
  have k0 := h0
  have lt0 : ∀ x ∈ p0, x.block < W.heap.size := by obtain ⟨m, hm⟩ := k0; exact DataW.trod_lt m _ _ _ hm
  obtain ⟨c0x0, c0x1, y0x0, y0x1, mm0, rfl, e0, f0, hy0x0, hy0x1⟩ := open_agg2 Try.underlying56 (by kernel_rfl) (by kernel_rfl) (hval 0 56 v0 rfl rfl) h0
  obtain ⟨a0x0, g0x0, _, w0x0⟩ := DataW.trod_string Try.underlying9 hy0x0
  obtain ⟨a0x1, n0x1, l0x1, z0x1, g0x1, w0x1⟩ : ∃ a n l zs, c0x1 = .slice a n l ∧ StrsRow W a n l zs := by
    rcases open_strings Try.underlying24 Try.underlying9 (by kernel_rfl) hy0x1 with ⟨hcs, _⟩ | ⟨x, l, c, ss, hcs, _, hl, hm, hz, _, hcell, hsz⟩
    · exact ⟨none, 0, 0, [], by simpa using hcs, rfl, Nat.zero_le _, fun _ h => by simp at h, StrsAt.nil _ _⟩
    · simp at hz
      exact ⟨some x, l, c, ss.take l, by simpa using hcs, by rw [List.length_take]; omega, Nat.le_trans hl hm, fun s hs => hsz s (List.mem_of_mem_take hs), StrsAt.of_cells (by omega) hcell⟩
  simp at g0x0 g0x1
  subst g0x0 g0x1
  clear hA0 hval0
  refine (walk a0x0 a0x1 n0x1 l0x1 z0x1 W w0x0 w0x1).mono fun e W' ⟨he, bel⟩ => ?_
  subst he
  exact ⟨_, rfl, _, _, _, [], _, [], hW', trodAll_mk1 (shut_bool Try.underlying4 _), (trodAll_cons_mk (Below.trod laidOut (by kernel_rfl) (of_decide_eq_true (by kernel_rfl)) k0 bel lt0) trodAll_mk0), rfl, bel.frame _, fun h => by cases h⟩

theorem over : Rows.fnExactBlobsOfRow.holds Try.pinned (OpenSpec.ofChange Rows.fnExactBlobsOfSpec) :=
  OpenClaim.holds_of_wide 9 Try.f9 rfl rfl rfl rfl rfl rfl rfl ⟨rfl, rfl, rfl, rfl, rfl⟩ rfl rfl rfl rfl rfl (by kernel_rfl) Try.func9 (by kernel_rfl)
    (of_decide_eq_true (by kernel_rfl)) (by unfold Func.isWrapper; first | (rw [if_pos (by decide +kernel)]; kernel_rfl) | (rw [if_neg (by decide +kernel)]; exact ⟨rfl, rfl⟩))
    (fun os started H enc _ => lifted os started H enc)

end Go.Proofs.Ytkeindhefiaghaa.fnExactBlobsOf
namespace Go.Proofs.Ytkeindhefiaghaa
theorem fnExactBlobsOf_holds : Rows.FnExactBlobsOfSaid := fnExactBlobsOf.over
#print axioms fnExactBlobsOf_holds
end Go.Proofs.Ytkeindhefiaghaa
