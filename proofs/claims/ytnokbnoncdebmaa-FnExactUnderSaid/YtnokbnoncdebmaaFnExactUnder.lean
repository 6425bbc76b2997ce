/- For every row of texts and every text, Under of the program answers the texts that Under of the specification answers, in memory of their own, behind a change of its argument and behind another call too, and leaves its argument as it was; nothing that was there is changed. No condition. -/
import Derived.Test.YtnokbnoncdebmaaRows
import Derived.Test.YtnokbnoncdebmaaUnZ
import Derived.WalkKit
import Derived.ProofKit
import Derived.OpenShut
import Derived.ShutString
import Derived.ChangeOld
import Derived.Below
import Derived.SliceStrings
namespace Go.Proofs.Ytnokbnoncdebmaa.fnExactUnder
open Go.ChangeShapes Go.WideShapes Go.ChangeAt Go.RowKit
open Go.ChangeMaps (open_string shut_string)
open Plain
set_option linter.unusedVariables false

theorem own : ownKnob Try.prog.godebug = none := by kernel_rfl
theorem laidOut : laidOutB Try.prog = true := by kernel_rfl

set_option maxRecDepth 10000 in
set_option maxHeartbeats 8000000 in
theorem walk (a : Option Addr) (n c : Nat) (ls : List ByteArray) (d : ByteArray) (w : World) (w0 : StrsRow w a n c ls) (w1 : d.size ≤ maxLen) :
    Calls Try.prog 3 #[.slice a n c, .string d] w fun e w' => e = .returned (.bool true) ∧ Below w.heap.size w w' := by
  obtain ⟨hn, hn2, hs, hr⟩ := w0
  unfold maxLen at w1 hn2 hs
  by_cases hd : (1048576 : Int) < (d.size : Int)
  · clear hs hn hr
    go_enter Try.func3, Try.ntmps3
    go_wp2_with fail
    go_ret
    exact ⟨rfl, Below.refl _ _⟩
  have HSZ := hide (szStringS_calls a n c ls 1048576 w hn (by omega) (fun l hl => by have := hs l hl; omega) (by omega) (by omega) hr)
  unfold szL at HSZ
  rw [hn] at HSZ
  by_cases hbig : (1048576 : Int) < (n : Int) + sumZ ls
  · rw [if_pos hbig] at HSZ
    clear hs hn hr hbig
    go_enter Try.func3, Try.ntmps3
    go_wp2_with fail
    refine (unhide HSZ).mono ?_
    rintro e w1 ⟨rfl, hb1⟩
    have HB1 := hide hb1
    clear hb1
    go_wp2_with fail
    go_ret
    exact ⟨rfl, unhide HB1⟩
  rw [if_neg hbig] at HSZ
  obtain ⟨r, hr2⟩ : ∃ r : Nat, (1048576 : Int) - ((n : Int) + sumZ ls) = (r : Int) := ⟨1048576 - (n + sumZ ls), by omega⟩
  rw [hr2] at HSZ
  have f2 : n ≤ 1048576 := by omega
  have HF3 := hide (show ∀ l ∈ ls, l.size ≤ 1048576 from fun l hl => by have := sumZ_mem ls l hl; omega)
  have HTX := hide (fun (W : World) (a : Option Addr) (q : RowAt strE W a ls) => (show TxtsAt W a n ls from ⟨q, hn, f2, fun s hs => by have := unhide HF3 s hs; omega⟩))
  have hd2 : d.size ≤ 1000000000 := by omega
  have HSP := hide (fun (W : World) (a : Option Addr) (q : TxtsAt W a n ls) => spec_Under a n n ls d W q hd2)
  have HIM := hide (fun (W : World) (a : Option Addr) (q : TxtsAt W a n ls) => impl_Under a n n ls d W q hd2)
  have hol := und_len ls d
  generalize undL ls d = out at HSP HIM hol
  have HN := hide hn
  have HRA := hide (fun (W : World) (h : Below w.heap.size w W) => hr.below h)
  clear hs hn hr hbig w1 hn2 hr2
  go_enter Try.func3, Try.ntmps3
  go_wp2_with fail
  refine (unhide HSZ).mono ?_
  rintro e w1 ⟨rfl, hb1⟩
  have HA1 := hide hb1
  clear hb1 HSZ
  go_wp2_with fail
  refine (toStringS_calls a n c ls _ (unhide HN) f2 (unhide HRA _ (unhide HA1))).mono ?_
  rintro e w2 ⟨g2, rfl, ho2, hb2⟩
  have HA2 := hide (belOnK (unhide HA1) hb2)
  have HS2 := hide (unhide HTX _ _ ho2.at)
  clear hb2 ho2 HA1
  go_wp2_with fail
  refine (unhide HSP _ _ (unhide HS2)).mono ?_
  rintro e w3 ⟨v0, rfl, ho3, hb3⟩
  obtain ⟨a0, k0, hv⟩ := ho3.form
  subst hv
  obtain ⟨m, hm⟩ : ∃ m, out.length = m := ⟨_, rfl⟩
  rw [hm] at ho3 hol ⊢
  have HM := hide hm
  have HA3 := hide (belOnK (unhide HA2) hb3)
  have HX3 := hide ho3.at.strs
  clear hb3 ho3 HA2 HS2 hm
  go_wp2_with fail
  refine (toStringS_calls a n c ls _ (unhide HN) f2 (unhide HRA _ (unhide HA3))).mono ?_
  rintro e w4 ⟨g4, rfl, ho4, hb4⟩
  have hg4 := ho4.blkK g4 0 rfl
  have HG4 := hide ho4.at
  have HT4 := hide hb4
  clear hb4 ho4
  go_wp2_with fail
  refine (unhide HIM _ _ (unhide HTX _ _ (unhide HG4))).mono ?_
  rintro e w6 ⟨v1, rfl, ho6, hb6⟩
  obtain ⟨a1, k1, hv⟩ := ho6.form
  subst hv
  rw [unhide HM] at ho6 ⊢
  have HT6 := hide (belOnK (unhide HT4) hb6)
  have HG6 := hide ((unhide HG4).below hb6)
  have HY6 := hide ho6.at
  have HV6 := hide (fun g o e => (ho6.blkK g o e))
  have hz6 := hb6.size
  clear hb6 ho6 HT4 HG4
  go_wp2_with fail
  refine (eqStringS_calls a1 a0 k1 k0 m out _ (unhide HM) (by omega) (unhide HY6).strs ((unhide HX3).below (unhide HT6))).mono ?_
  rintro e w7 ⟨rfl, hb7⟩
  have HT7 := hide (belOnK (unhide HT6) hb7)
  have HG7 := hide ((unhide HG6).below hb7)
  have HY7 := hide ((unhide HY6).below hb7)
  have hz7 := hb7.size
  clear hb7 HT6 HG6 HY6
  go_wp2_with fail
  refine (toStringS_calls a n c ls _ (unhide HN) f2 (unhide HRA _ (belOnK (unhide HA3) (unhide HT7)))).mono ?_
  rintro e w8 ⟨g8, rfl, ho8, hb8⟩
  have HS8 := hide ho8.at
  have HT8 := hide (belOnK (unhide HT7) hb8)
  have HG8 := hide ((unhide HG7).below hb8)
  have HY8 := hide ((unhide HY7).below hb8)
  have hz8 := hb8.size
  clear hb8 ho8 HT7 HG7 HY7
  go_wp2_with fail
  refine (eqStringS_calls _ _ n n n ls _ (unhide HN) (by omega) (unhide HG8).strs (unhide HS8).strs).mono ?_
  rintro e w9 ⟨rfl, hb9⟩
  have HT9 := hide (belOnK (unhide HT8) hb9)
  have HG9 := hide ((unhide HG8).below hb9)
  have HY9 := hide ((unhide HY8).below hb9)
  have hz9 := hb9.size
  clear hb9 HT8 HG8 HY8 HS8
  go_wp2_with fail
  refine (markStringS_calls 1 (some ⟨g4, 0, none⟩) n n ls w9 (by omega) (by omega) (unhide HN) (by omega) (unhide HG9)).mono ?_
  rintro e wa ⟨rfl, -, hoa⟩
  have HTa := hide ((unhide HT9).trans (hoa.below (B := w3.heap.size) (fun g o e => by cases e; omega) (unhide HT9).size))
  have HYa := hide ((unhide HY9).onlyRowK hoa (fun g o e o' e' => by have := unhide HV6 g o e; cases e'; omega))
  have hza := hoa.size
  have hpos : ((1 + n : Nat) : Int) = 1 + (n : Int) := by omega
  rw [hpos]
  clear hoa hpos HG9 HY9 HT9
  go_wp2_with fail
  refine (eqStringS_calls a1 a0 k1 k0 m out _ (unhide HM) (by omega) (unhide HYa).strs ((unhide HX3).below (unhide HTa))).mono ?_
  rintro e wb ⟨rfl, hbb⟩
  have HTb := hide (belOnK (unhide HTa) hbb)
  have HYb := hide ((unhide HYa).below hbb)
  have hzb := hbb.size
  clear hbb HTa HYa
  go_wp2_with fail
  refine (markStringS_calls 1 a1 k1 m out wb (by omega) (by omega) (unhide HM) (by omega) (unhide HYb)).mono ?_
  rintro e wc ⟨rfl, hMc, hoc⟩
  have HTc := hide ((unhide HTb).trans (hoc.below (B := w3.heap.size) (fun g o e => by have := unhide HV6 g o e; omega) (unhide HTb).size))
  have HMc := hide hMc
  clear hMc hoc HTb HYb
  go_wp2_with fail
  refine (heldStringS_calls 1 a1 k1 m wc (by omega) (by omega) (by omega) (unhide HMc)).mono ?_
  rintro e wd ⟨rfl, hbd⟩
  have HTd := hide (belOnK (unhide HTc) hbd)
  have HMd := hide ((unhide HMc).below hbd)
  clear hbd HTc HMc
  go_wp2_with fail
  refine (toStringS_calls a n c ls wd (unhide HN) f2 (unhide HRA _ (belOnK (unhide HA3) (unhide HTd)))).mono ?_
  rintro e we ⟨ge, rfl, hoe, hbe⟩
  have HTe := hide (belOnK (unhide HTd) hbe)
  have HMe := hide ((unhide HMd).below hbe)
  have HSe := hide (unhide HTX _ _ hoe.at)
  clear hbe hoe HTd HMd
  go_wp2_with fail
  refine (unhide HIM _ _ (unhide HSe)).mono ?_
  rintro e wf ⟨v2, rfl, hof, hbf⟩
  obtain ⟨a2, k2, hv⟩ := hof.form
  subst hv
  rw [unhide HM] at hof ⊢
  have HTf := hide (belOnK (unhide HTe) hbf)
  have HMf := hide ((unhide HMe).below hbf)
  have HYf := hide hof.at.strs
  clear hbf hof HTe HMe HSe
  go_wp2_with fail
  refine (eqStringS_calls a2 a0 k2 k0 m out _ (unhide HM) (by omega) (unhide HYf) ((unhide HX3).below (unhide HTf))).mono ?_
  rintro e wg ⟨rfl, hbg⟩
  have HTg := hide (belOnK (unhide HTf) hbg)
  have HMg := hide ((unhide HMf).below hbg)
  clear hbg HTf HMf HYf
  go_wp2_with fail
  refine (heldStringS_calls 1 a1 k1 m wg (by omega) (by omega) (by omega) (unhide HMg)).mono ?_
  rintro e wh ⟨rfl, hbh⟩
  have HFI := hide (belOnK (unhide HA3) (belOnK (unhide HTg) hbh))
  clear hbh HTg HMg
  go_wp2_with fail
  go_ret
  exact ⟨rfl, unhide HFI⟩

set_option maxRecDepth 100000 in
theorem lifted (os : Os) (started : os.Started) (H : Type) (enc : TypeId × Value → H) :
    ReturnsInHanded {} Try.checked os 3 .any (Rows.fnExactUnderSpec.pre6 enc Try.prog Try.f3 Rows.fnExactUnderRow.domain false) (Rows.fnExactUnderSpec.post enc Try.prog Try.f3 false true false false) := by
  refine returnsInHanded_of_change (C := Try.checked) own started (by kernel_rfl) Try.func3
    (ChangeSpec.witness6 (enc := enc) (C := Try.checked) false ⟨#[], #[.slice none 0 0, .string ByteArray.empty], []⟩ 8 (by kernel_rfl) (by kernel_rfl) (by kernel_rfl) (by kernel_rfl)) ?_
  intro W base args ds gs before hval0 hW hcnd _
  have hval : ∀ (j : Nat) t v, Try.f3.params[j]? = some t → args[j]? = some v → Value.okWide Try.prog W .any base t v := hval0
  have hW' := hW
  obtain ⟨p, q, hA0, hV, rfl, hfz, hnd⟩ := hW
  have hA : DataW.TrodAll enc Try.prog W 0 (fun _ => true) true Try.f3.params.toList args.toList ds p := hA0
  rw [Try.params3] at hA hval
  obtain ⟨v0, vs0, d0, ds0, p0, q0, hargs, rfl, rfl, h0, r0⟩ := trodAll_cons hA
  obtain ⟨v1, vs1, d1, ds1, p1, q1, rfl, rfl, rfl, h1, r1⟩ := trodAll_cons r0
  obtain ⟨rfl, rfl, rfl⟩ := trodAll_nil r1
  obtain rfl : args = #[v0, v1] := by cases args; simp_all
  obtain ⟨rfl, rfl⟩ := trodVars_none hV
  have k0 := h0
  have lt0 : ∀ x ∈ p0, x.block < W.heap.size := by obtain ⟨m, hm⟩ := k0; exact DataW.trod_lt m _ _ _ hm
  obtain ⟨b0, len0, cap0, rfl⟩ := okWide_slice Try.underlying22 (hval 0 22 v0 rfl rfl)
  obtain ⟨z0, w0⟩ : ∃ zs, StrsRow W b0 len0 cap0 zs := by
    obtain ⟨fuel, hf⟩ := h0
    rcases open_strings Try.underlying22 Try.underlying9 (by kernel_rfl) (by simpa [Value.cells] using hf) with ⟨hcs, _⟩ | ⟨x, l, c, ss, hcs, _, hl, hm, hz, _, hcell, hsz⟩
    · simp at hcs
      obtain ⟨rfl, rfl, rfl⟩ := hcs
      exact ⟨[], rfl, Nat.zero_le _, fun _ h => by simp at h, StrsAt.nil _ _⟩
    · simp at hcs hz
      obtain ⟨rfl, rfl, rfl⟩ := hcs
      exact ⟨ss.take len0, by rw [List.length_take]; omega, Nat.le_trans hl hm, fun s hs => hsz s (List.mem_of_mem_take hs), StrsAt.of_cells (by omega) hcell⟩
  have k1 := h1
  have lt1 : ∀ x ∈ p1, x.block < W.heap.size := by obtain ⟨m, hm⟩ := k1; exact DataW.trod_lt m _ _ _ hm
  obtain ⟨a1, rfl, e1, f1, w1⟩ := open_string Try.underlying9 (hval 1 9 v1 rfl rfl) h1
  clear hA0 hval0
  refine (walk b0 len0 cap0 z0 a1 W w0 w1).mono fun e W' ⟨he, bel⟩ => ?_
  subst he
  exact ⟨_, rfl, _, _, _, [], _, [], hW', trodAll_mk1 (shut_bool Try.underlying4 _), (trodAll_cons_mk (Below.trod laidOut (by kernel_rfl) (of_decide_eq_true (by kernel_rfl)) k0 bel lt0) (trodAll_cons_mk (Below.trod laidOut (by kernel_rfl) (of_decide_eq_true (by kernel_rfl)) k1 bel lt1) trodAll_mk0)), rfl, bel.frame _, fun h => by cases h⟩

theorem named : Try.pinned.checked.prog.funcNamed Rows.fnExactUnderRow.func = some 3 := by kernel_rfl
theorem closed : joinedFacts Try.pinned.checked.prog 3 Try.f3 Rows.fnExactUnderSpec Rows.fnExactUnderRow = true := by kernel_rfl
theorem over : Rows.fnExactUnderRow.holds Try.pinned (OpenSpec.ofChange Rows.fnExactUnderSpec) :=
  OpenClaim.holds_of_wide 3 Try.f3 rfl rfl rfl rfl rfl rfl rfl ⟨rfl, rfl, rfl, rfl, rfl⟩ rfl rfl rfl rfl rfl named Try.func3 closed
    (of_decide_eq_true (by kernel_rfl)) (by unfold Func.isWrapper; first | (rw [if_pos (by decide +kernel)]; kernel_rfl) | (rw [if_neg (by decide +kernel)]; exact ⟨rfl, rfl⟩))
    (fun os started H enc _ => lifted os started H enc)

end Go.Proofs.Ytnokbnoncdebmaa.fnExactUnder
namespace Go.Proofs.Ytnokbnoncdebmaa
theorem fnExactUnder_holds : Rows.FnExactUnderSaid := fnExactUnder.over
#print axioms fnExactUnder_holds
end Go.Proofs.Ytnokbnoncdebmaa
