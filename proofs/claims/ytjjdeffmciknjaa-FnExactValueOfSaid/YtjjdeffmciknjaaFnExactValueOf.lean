/- For every list of headers and name, ValueOf of the program answers what ValueOf of the specification answers, and writes into no argument; nothing that was there is changed. No condition. -/
import Derived.Test.YtjjdeffmciknjaaRows
import Derived.Test.YtjjdeffmciknjaaHVal
import Derived.WalkKit
import Derived.ProofKit
import Derived.OpenShut
import Derived.ShutString
import Derived.ChangeOld
import Derived.Below
namespace Go.Proofs.Ytjjdeffmciknjaa.fnExactValueOf
open Go.ChangeShapes Go.WideShapes Go.ChangeAt Go.RowKit
open Go.ChangeMaps (open_string shut_string)
open Plain
set_option linter.unusedVariables false

theorem own : ownKnob Try.prog.godebug = none := by kernel_rfl
theorem laidOut : laidOutB Try.prog = true := by kernel_rfl

set_option maxRecDepth 10000 in
set_option maxHeartbeats 4000000 in
theorem walk (a : Option Addr) (n c : Nat) (ls : List Hd) (nm : ByteArray) (w : World) (h : ArgRow 2 hdrL goodH w a n c ls) (hnm : nm.size ≤ maxLen) :
    Calls Try.prog 3 #[.slice a n c, .string nm] w fun e w' => e = .returned (.bool true) ∧ Below w.heap.size w w' := by
  have HD := hide (fun (W : World) (hW : Below w.heap.size w W) => (show ArgAt 2 hdrL W a ls from h.row.below hW))
  have HLEN := hide h.len
  have hle := h.le
  have hgood := h.good
  unfold maxLen at hnm hle
  have HSZ := hide (szHeaderS_calls a n c ls 1048576 w (unhide HLEN) (by omega) hgood (by decide) (unhide HD _ (Below.refl _ _)))
  obtain ⟨A, hA⟩ : ∃ A, n + totH ls = A := ⟨_, rfl⟩
  rw [hA] at HSZ
  by_cases hbn : 1048576 < nm.size
  · clear h HSZ HD hgood hA
    go_enter Try.func3, Try.ntmps3
    go_wp2_with fail
    go_ret
    exact ⟨rfl, Below.refl _ _⟩
  by_cases hbig : 1048576 < A
  · rw [purse_no (show ((1048576 : Nat) : Int) < (A : Int) by omega)] at HSZ
    clear h hA hgood
    go_enter Try.func3, Try.ntmps3
    go_wp2_with fail
    refine (unhide HSZ).mono ?_
    rintro e w1 ⟨rfl, hb1⟩
    have HB1 := hide hb1
    clear hb1
    go_wp2_with fail
    go_ret
    exact ⟨rfl, unhide HB1⟩
  · obtain ⟨r, hr⟩ : ∃ r : Nat, ((1048576 : Nat) : Int) - (A : Int) = (r : Int) := ⟨1048576 - A, by omega⟩
    rw [purse_yes (show ¬ ((1048576 : Nat) : Int) < (A : Int) by omega), hr] at HSZ
    have hn : n ≤ 1048576 := by omega
    have HTO := hide (fun (W : World) (hW : Below w.heap.size w W) => toHeaderS_calls a n c ls W (unhide HLEN) hn (unhide HD _ hW))
    have HSP := hide (fun (W : World) (g B : Nat) (hO : OwnR hdrE W B (.slice (some ⟨g, 0, none⟩) n n) ls) => spec_ValueOf _ n n ls nm W (unhide HLEN) hn hO.at)
    have HIM := hide (fun (W : World) (g B : Nat) (hO : OwnR hdrE W B (.slice (some ⟨g, 0, none⟩) n n) ls) => impl_ValueOf _ n n ls nm W (unhide HLEN) hn hO.at)
    obtain ⟨R, hR⟩ : ∃ R, valH ls nm = R := ⟨_, rfl⟩
    rw [hR] at HSP HIM
    unfold valV at HSP HIM
    obtain ⟨D, hD⟩ : ∃ D, R.getD ⟨#[]⟩ = D := ⟨_, rfl⟩
    obtain ⟨T, hT⟩ : ∃ T, R.isSome = T := ⟨_, rfl⟩
    rw [hD, hT] at HSP HIM
    clear h hbig hr hR hA hgood hD hT
    go_enter Try.func3, Try.ntmps3
    go_wp2_with fail
    refine (unhide HSZ).mono ?_
    rintro e w1 ⟨rfl, hb1⟩
    have HB1 := hide hb1
    clear hb1
    go_wp2_with fail
    refine (unhide HTO _ (unhide HB1)).mono ?_
    rintro e w2 ⟨g1, rfl, o1, hb2⟩
    have HB2 := hide (belOn (unhide HB1) hb2)
    have HA2 := hide o1
    clear hb2 o1
    go_wp2_with fail
    refine (unhide HSP w2 _ _ (unhide HA2)).mono ?_
    rintro e w3 ⟨rfl, hb3⟩
    have HB3 := hide (belOn (unhide HB2) hb3)
    clear hb3 HA2
    go_wp2_with fail
    refine (unhide HTO _ (unhide HB3)).mono ?_
    rintro e w4 ⟨g4, rfl, o1, hb4⟩
    have HB4 := hide (belOn (unhide HB3) hb4)
    have HA4 := hide o1
    clear hb4 o1
    go_wp2_with fail
    refine (unhide HIM w4 _ _ (unhide HA4)).mono ?_
    rintro e w6 ⟨rfl, hb6⟩
    have HB6 := hide (belOn (unhide HB4) hb6)
    have HA6 := hide ((unhide HA4).keep hb6).at
    clear hb6
    go_wp2_with fail
    refine (unhide HTO _ (unhide HB6)).mono ?_
    rintro e w7 ⟨g7, rfl, o1, hb7⟩
    have HB7 := hide (belOn (unhide HB6) hb7)
    have HA7 := hide o1.at
    have HA67 := hide ((unhide HA6).below hb7)
    clear hb7 o1
    go_wp2_with fail
    refine (eqHeaderS_calls _ _ _ _ n ls _ (unhide HLEN) (Nat.le_trans hn (by decide)) (unhide HA67) (unhide HA7)).mono ?_
    rintro e w8 ⟨rfl, hb8⟩
    have HB8 := hide (belOn (unhide HB7) hb8)
    clear hb8
    go_wp2_with fail
    go_ret
    exact ⟨rfl, unhide HB8⟩

set_option maxRecDepth 100000 in
theorem lifted (os : Os) (started : os.Started) (H : Type) (enc : TypeId × Value → H) :
    ReturnsInHanded {} Try.checked os 3 .any (Rows.fnExactValueOfSpec.pre6 enc Try.prog Try.f3 Rows.fnExactValueOfRow.domain false) (Rows.fnExactValueOfSpec.post enc Try.prog Try.f3 false true false false) := by
  refine returnsInHanded_of_change (C := Try.checked) own started (by kernel_rfl) Try.func3
    (ChangeSpec.witness6 (enc := enc) (C := Try.checked) false ⟨#[], #[.slice none 0 0, .string ByteArray.empty], []⟩ 8 (by kernel_rfl) (by kernel_rfl) (by kernel_rfl) (by kernel_rfl)) ?_
  intro W base args ds gs before hval0 hW hcnd _
  have hval : ∀ (j : Nat) t v, Try.f3.params[j]? = some t → args[j]? = some v → Value.okWide Try.prog W .any base t v := hval0
  have hW' := hW
  obtain ⟨p, q, hA0, hV, rfl, hfz, hnd⟩ := hW
  have hA : DataW.TrodAll enc Try.prog W 0 (fun _ => true) true Try.f3.params.toList args.toList ds p := hA0
  rw [Try.params3] at hA hval
  obtain ⟨v0, vs0, d0, ds0, p0, q0, hargs, rfl, rfl, h0, r0⟩ := trodAll_cons hA
  obtain ⟨v1, vs1, d1, ds1, p1, q1, rfl, rfl, rfl, h1, r1⟩ := trodAll_cons r0
  obtain ⟨rfl, rfl, rfl⟩ := trodAll_nil r1
  obtain rfl : args = #[v0, v1] := by cases args; simp_all
  obtain ⟨rfl, rfl⟩ := trodVars_none hV
  have k0 := h0
  have lt0 : ∀ x ∈ p0, x.block < W.heap.size := by obtain ⟨m, hm⟩ := k0; exact DataW.trod_lt m _ _ _ hm
  obtain ⟨b0, len0, cap0, rfl⟩ := okWide_slice Try.underlying22 (hval 0 22 v0 rfl rfl)
  obtain ⟨fuel0, hf0⟩ := h0
  obtain ⟨a0, n0, l0, z0, g0, w0⟩ := openArg 2 hdrL goodH Try.underlying22 (by kernel_rfl) (by decide) rdHdr (by simpa [Value.cells] using hf0)
  obtain ⟨rfl, rfl, rfl⟩ : b0 = a0 ∧ len0 = n0 ∧ cap0 = l0 := by simpa using g0
  have k1 := h1
  have lt1 : ∀ x ∈ p1, x.block < W.heap.size := by obtain ⟨m, hm⟩ := k1; exact DataW.trod_lt m _ _ _ hm
  obtain ⟨a1, rfl, e1, f1, w1⟩ := open_string Try.underlying9 (hval 1 9 v1 rfl rfl) h1
  clear hA0 hval0
  refine (walk b0 len0 cap0 z0 a1 W w0 w1).mono fun e W' ⟨he, bel⟩ => ?_
  subst he
  exact ⟨_, rfl, _, _, _, [], _, [], hW', trodAll_mk1 (shut_bool Try.underlying4 _), (trodAll_cons_mk (Below.trod laidOut (by kernel_rfl) (of_decide_eq_true (by kernel_rfl)) k0 bel lt0) (trodAll_cons_mk (Below.trod laidOut (by kernel_rfl) (of_decide_eq_true (by kernel_rfl)) k1 bel lt1) trodAll_mk0)), rfl, bel.frame _, fun h => by cases h⟩

theorem named : Try.pinned.checked.prog.funcNamed Rows.fnExactValueOfRow.func = some 3 := by kernel_rfl
theorem closed : joinedFacts Try.pinned.checked.prog 3 Try.f3 Rows.fnExactValueOfSpec Rows.fnExactValueOfRow = true := by kernel_rfl
theorem over : Rows.fnExactValueOfRow.holds Try.pinned (OpenSpec.ofChange Rows.fnExactValueOfSpec) :=
  OpenClaim.holds_of_wide 3 Try.f3 rfl rfl rfl rfl rfl rfl rfl ⟨rfl, rfl, rfl, rfl, rfl⟩ rfl rfl rfl rfl rfl named Try.func3 closed
    (of_decide_eq_true (by kernel_rfl)) (by unfold Func.isWrapper; first | (rw [if_pos (by decide +kernel)]; kernel_rfl) | (rw [if_neg (by decide +kernel)]; exact ⟨rfl, rfl⟩))
    (fun os started H enc _ => lifted os started H enc)

end Go.Proofs.Ytjjdeffmciknjaa.fnExactValueOf
namespace Go.Proofs.Ytjjdeffmciknjaa
theorem fnExactValueOf_holds : Rows.FnExactValueOfSaid := fnExactValueOf.over
#print axioms fnExactValueOf_holds
end Go.Proofs.Ytjjdeffmciknjaa
