/- For every text and size, Pieces of the program answers the pieces and the flag that Pieces of the specification answers, in memory of their own, behind another call too; nothing that was there is changed. No condition. -/
import Derived.Test.YtnkjdojpegmlcaaRows
import Derived.Test.YtnkjdojpegmlcaaPcJ
import Derived.Test.YtnkjdojpegmlcaaStrQ
import Derived.WalkKit
import Derived.ProofKit
import Derived.OpenShut
import Derived.ShutString
import Derived.ChangeOld
import Derived.Below
namespace Go.Proofs.Ytnkjdojpegmlcaa.fnExactPieces
open Go.ChangeShapes Go.WideShapes Go.ChangeAt Go.RowKit
open Go.ChangeMaps (open_string shut_string)
open Plain
set_option linter.unusedVariables false

theorem own : ownKnob Try.prog.godebug = none := by kernel_rfl
theorem laidOut : laidOutB Try.prog = true := by kernel_rfl

set_option maxRecDepth 10000 in
set_option maxHeartbeats 8000000 in
theorem walk (t : ByteArray) (n : Int) (w : World) (ht : t.size ≤ maxLen) (hn : (Lit.int .i64 n).wf = true) :
    Calls Try.prog 4 #[.string t, .int .i64 n] w fun e w' => e = .returned (.bool true) ∧ Below w.heap.size w w' := by
  unfold maxLen at ht
  by_cases hbig : 1048576 < t.size
  · go_enter Try.func4, Try.ntmps4
    go_wp2_with fail
    go_ret
    exact ⟨rfl, Below.refl _ _⟩
  · have HS := hide (fun W => spec_Pieces t n W (by omega))
    have HI := hide (fun W => impl_Pieces t n W (by omega) hn)
    have hlen : (pcR t n).1.length ≤ 20000 := by
      unfold pcR
      split
      · rename_i h
        show (pcL t n.toNat (pcN t n.toNat)).length ≤ 20000
        rw [pcL_len]
        exact pcN_le t _ (by omega) h.2.2
      · exact Nat.zero_le _
    unfold PcPost at HS HI
    generalize (pcR t n).1 = out at HS HI hlen
    generalize (pcR t n).2 = g at HS HI
    obtain ⟨m, hm⟩ : ∃ m, out.length = m := ⟨_, rfl⟩
    rw [hm] at hlen
    have HM := hide hm
    clear hm ht hn
    go_enter Try.func4, Try.ntmps4
    go_wp2_with fail
    refine (unhide HS _).mono ?_
    rintro e w3 ⟨v0, rfl, ho3, hb3⟩
    obtain ⟨a0, k0, hv⟩ := ho3.form
    subst hv
    rw [unhide HM] at ho3 ⊢
    have HA3 := hide hb3
    have HX3 := hide ho3.at.strs
    clear hb3 ho3
    go_wp2_with fail
    refine (unhide HI _).mono ?_
    rintro e w6 ⟨v1, rfl, ho6, hb6⟩
    obtain ⟨a1, k1, hv⟩ := ho6.form
    subst hv
    rw [unhide HM] at ho6 ⊢
    have HT6 := hide hb6
    have HY6 := hide ho6.at
    have HV6 := hide (show ∀ g o, a1 = some ⟨g, o, none⟩ → w3.heap.size ≤ g from fun g o e => (World.ownsRow.lt ho6 g (by rw [e]; rfl)).1)
    clear hb6 ho6
    go_wp2_with fail
    refine (eqStringS_calls a1 a0 k1 k0 m out _ (unhide HM) (by omega) (unhide HY6).strs ((unhide HX3).below (unhide HT6))).mono ?_
    rintro e wb ⟨rfl, hbb⟩
    have HTb := hide (belOn (unhide HT6) hbb)
    have HYb := hide ((unhide HY6).below hbb)
    clear hbb HT6 HY6
    go_wp2_with fail
    refine (markStringS_calls 1 a1 k1 m out wb (by omega) (by omega) (unhide HM) (by omega) (unhide HYb)).mono ?_
    rintro e wc ⟨rfl, hMc, hoc⟩
    have HTc := hide ((unhide HTb).trans (hoc.below (B := w3.heap.size) (fun g o e => unhide HV6 g o e) (unhide HTb).size))
    have HMc := hide hMc
    clear hMc hoc HTb HYb
    go_wp2_with fail
    refine (heldStringS_calls 1 a1 k1 m wc (by omega) (by omega) (by omega) (unhide HMc)).mono ?_
    rintro e wd ⟨rfl, hbd⟩
    have HTd := hide (belOn (unhide HTc) hbd)
    have HMd := hide ((unhide HMc).below hbd)
    clear hbd HTc HMc
    go_wp2_with fail
    refine (unhide HI _).mono ?_
    rintro e wf ⟨v2, rfl, hof, hbf⟩
    obtain ⟨a2, k2, hv⟩ := hof.form
    subst hv
    rw [unhide HM] at hof ⊢
    have HTf := hide (belOn (unhide HTd) hbf)
    have HMf := hide ((unhide HMd).below hbf)
    have HYf := hide hof.at.strs
    clear hbf hof HTd HMd
    go_wp2_with fail
    refine (eqStringS_calls a2 a0 k2 k0 m out _ (unhide HM) (by omega) (unhide HYf) ((unhide HX3).below (unhide HTf))).mono ?_
    rintro e wg ⟨rfl, hbg⟩
    have HTg := hide (belOn (unhide HTf) hbg)
    have HMg := hide ((unhide HMf).below hbg)
    clear hbg HTf HMf HYf
    go_wp2_with fail
    refine (heldStringS_calls 1 a1 k1 m wg (by omega) (by omega) (by omega) (unhide HMg)).mono ?_
    rintro e wh ⟨rfl, hbh⟩
    have HFI := hide (belOn (unhide HA3) (belOn (unhide HTg) hbh))
    clear hbh HTg HMg
    go_wp2_with fail
    go_ret
    exact ⟨rfl, unhide HFI⟩

set_option maxRecDepth 100000 in
theorem lifted (os : Os) (started : os.Started) (H : Type) (enc : TypeId × Value → H) :
    ReturnsInHanded {} Try.checked os 4 .any (Rows.fnExactPiecesSpec.pre6 enc Try.prog Try.f4 Rows.fnExactPiecesRow.domain false) (Rows.fnExactPiecesSpec.post enc Try.prog Try.f4 false true false false) := by
  refine returnsInHanded_of_change (C := Try.checked) own started (by kernel_rfl) Try.func4
    (ChangeSpec.witness6 (enc := enc) (C := Try.checked) false ⟨#[], #[.string ByteArray.empty, .int .i64 0], []⟩ 8 (by kernel_rfl) (by kernel_rfl) (by kernel_rfl) (by kernel_rfl)) ?_
  intro W base args ds gs before hval0 hW hcnd _
  have hval : ∀ (j : Nat) t v, Try.f4.params[j]? = some t → args[j]? = some v → Value.okWide Try.prog W .any base t v := hval0
  have hW' := hW
  obtain ⟨p, q, hA0, hV, rfl, hfz, hnd⟩ := hW
  have hA : DataW.TrodAll enc Try.prog W 0 (fun _ => true) true Try.f4.params.toList args.toList ds p := hA0
  rw [Try.params4] at hA hval
  obtain ⟨v0, vs0, d0, ds0, p0, q0, hargs, rfl, rfl, h0, r0⟩ := trodAll_cons hA
  obtain ⟨v1, vs1, d1, ds1, p1, q1, rfl, rfl, rfl, h1, r1⟩ := trodAll_cons r0
  obtain ⟨rfl, rfl, rfl⟩ := trodAll_nil r1
  obtain rfl : args = #[v0, v1] := by cases args; simp_all
  obtain ⟨rfl, rfl⟩ := trodVars_none hV
  have k0 := h0
  have lt0 : ∀ x ∈ p0, x.block < W.heap.size := by obtain ⟨m, hm⟩ := k0; exact DataW.trod_lt m _ _ _ hm
  obtain ⟨a0, rfl, e0, f0, w0⟩ := open_string Try.underlying9 (hval 0 9 v0 rfl rfl) h0
  have k1 := h1
  have lt1 : ∀ x ∈ p1, x.block < W.heap.size := by obtain ⟨m, hm⟩ := k1; exact DataW.trod_lt m _ _ _ hm
  obtain ⟨a1, rfl, e1, f1, w1⟩ := open_int Try.underlying2 (hval 1 2 v1 rfl rfl) h1
  clear hA0 hval0
  refine (walk a0 a1 W w0 w1).mono fun e W' ⟨he, bel⟩ => ?_
  subst he
  exact ⟨_, rfl, _, _, _, [], _, [], hW', trodAll_mk1 (shut_bool Try.underlying4 _), (trodAll_cons_mk (Below.trod laidOut (by kernel_rfl) (of_decide_eq_true (by kernel_rfl)) k0 bel lt0) (trodAll_cons_mk (Below.trod laidOut (by kernel_rfl) (of_decide_eq_true (by kernel_rfl)) k1 bel lt1) trodAll_mk0)), rfl, bel.frame _, fun h => by cases h⟩

theorem named : Try.pinned.checked.prog.funcNamed Rows.fnExactPiecesRow.func = some 4 := by kernel_rfl
theorem closed : joinedFacts Try.pinned.checked.prog 4 Try.f4 Rows.fnExactPiecesSpec Rows.fnExactPiecesRow = true := by kernel_rfl
theorem over : Rows.fnExactPiecesRow.holds Try.pinned (OpenSpec.ofChange Rows.fnExactPiecesSpec) :=
  OpenClaim.holds_of_wide 4 Try.f4 rfl rfl rfl rfl rfl rfl rfl ⟨rfl, rfl, rfl, rfl, rfl⟩ rfl rfl rfl rfl rfl named Try.func4 closed
    (of_decide_eq_true (by kernel_rfl)) (by unfold Func.isWrapper; first | (rw [if_pos (by decide +kernel)]; kernel_rfl) | (rw [if_neg (by decide +kernel)]; exact ⟨rfl, rfl⟩))
    (fun os started H enc _ => lifted os started H enc)

end Go.Proofs.Ytnkjdojpegmlcaa.fnExactPieces
namespace Go.Proofs.Ytnkjdojpegmlcaa
theorem fnExactPieces_holds : Rows.FnExactPiecesSaid := fnExactPieces.over
#print axioms fnExactPieces_holds
end Go.Proofs.Ytnkjdojpegmlcaa
