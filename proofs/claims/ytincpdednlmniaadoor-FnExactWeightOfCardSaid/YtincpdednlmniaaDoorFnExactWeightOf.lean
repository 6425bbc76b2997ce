/- For every text and number, WeightOf of the program answers what WeightOf of the specification answers; nothing that was there is changed. The table of the rounds' words is as the program's text lays it. -/
import Derived.Test.YtincpdednlmniaaDoorRows
import Derived.Test.YtincpdednlmniaaDoorWgt
import Derived.Test.YtincpdednlmniaaDoorLaidX
import Derived.OpenVars
import Derived.Test.YtincpdednlmniaaDoorTie
import Derived.Test.YtincpdednlmniaaDoorCards
import Derived.LaidMore
import Derived.Lay
import Derived.SevenTiedAt
import Derived.Stop.Joined
import Derived.WalkKit
import Derived.ProofKit
import Derived.OpenShut
import Derived.ShutString
import Derived.ChangeOld
import Derived.Below
namespace Go.Proofs.YtincpdednlmniaaDoor.fnExactWeightOf
open Go.ChangeShapes Go.WideShapes Go.ChangeAt Go.RowKit
open Go.ChangeMaps (open_string shut_string)
open Plain
set_option linter.unusedVariables false

theorem own : ownKnob Tryd.prog.godebug = none := by kernel_rfl
theorem laidOut : laidOutB Tryd.prog = true := by kernel_rfl

theorem k_of_laid {W : World} (h : laidMetH Tryd.prog Rows.fnExactWeightOfRow.laid W) : KAt W := by
  rw [MakeChecks.laidMetH_plain _ _ _ (by kernel_rfl)] at h
  obtain ⟨ps, hlv, _, _⟩ := h
  exact kx_of_laid hlv 3 rfl

def wgV (d : ByteArray) (n : Int) : Value := if digB d && nodB n then .tuple #[.int .u64 (wt d n), .bool true] else .tuple #[.int .u64 0, .bool false]

set_option maxRecDepth 10000 in
theorem spec_WeightOf (d : ByteArray) (n : Int) (w : World) (hd : d.size ≤ 1048576) :
    Calls Tryd.prog 4 #[.string d, .int .i64 n] w fun e w' => e = .returned (wgV d n) ∧ Below w.heap.size w w' := by
  have HD := hide (fun W => spec_DigestOk d W (by omega))
  have HI := hide (fun W => l1In_calls n 1 50 W)
  unfold wgV
  cases h1 : digB d with
  | false =>
    rw [h1] at HD
    go_enter Tryd.func4, Tryd.ntmps4
    go_wp2_with fail
    refine (unhide HD _).mono ?_
    rintro e w1 ⟨rfl, rfl⟩
    go_wp2_with fail
    exact bodyPost_ret (v := .tuple #[.int .u64 0, .bool false]) (by simp [results, Tryd.results4, go_sem]) rfl ⟨rfl, Below.refl _ _⟩
  | true =>
    have h71 := digB_len71 h1
    rw [h1] at HD
    rw [show (decide (1 ≤ n) && decide (n ≤ 50)) = nodB n from rfl] at HI
    cases h2 : nodB n with
    | false =>
      rw [h2] at HI
      clear h1 h2 h71
      go_enter Tryd.func4, Tryd.ntmps4
      go_wp2_with fail
      refine (unhide HD _).mono ?_
      rintro e w1 ⟨rfl, rfl⟩
      go_wp2_with fail
      refine (unhide HI _).mono ?_
      rintro e w1 ⟨rfl, rfl⟩
      go_wp2_with fail
      exact bodyPost_ret (v := .tuple #[.int .u64 0, .bool false]) (by simp [results, Tryd.results4, go_sem]) rfl ⟨rfl, Below.refl _ _⟩
    | true =>
      rw [h2] at HI
      have h3 := (nodB_iff n).1 h2
      obtain ⟨N, rfl⟩ := Int.eq_ofNat_of_zero_le (show 0 ≤ n by omega)
      have HW := hide (fun W => l13Weight_calls d N W h71 (by omega) (by omega))
      generalize wt d N = R at HW ⊢
      clear h1 h2 h3 h71 hd
      go_enter Tryd.func4, Tryd.ntmps4
      go_wp2_with fail
      refine (unhide HD _).mono ?_
      rintro e w1 ⟨rfl, rfl⟩
      go_wp2_with fail
      refine (unhide HI _).mono ?_
      rintro e w1 ⟨rfl, rfl⟩
      go_wp2_with fail
      refine (unhide HW _).mono ?_
      rintro e w2 ⟨rfl, hb2⟩
      have HB2 := hide hb2
      clear hb2
      go_wp2_with fail
      exact bodyPost_ret (v := .tuple #[.int .u64 R, .bool true]) (by simp [results, Tryd.results4, go_sem]) rfl ⟨rfl, unhide HB2⟩

theorem weigher_calls (d : ByteArray) (w : World) :
    Calls Tryd.prog 11 #[.string d] w fun e w' => e = .returned (.func (.func 17) #[] #[.pointer (some ⟨w.heap.size, 0, none⟩)]) ∧ w' = w.alloc (.cells #[.string d] 9) := by
  go_enter Tryd.func11, Tryd.ntmps11
  go_wp2_with fail
  go_ret
  exact ⟨rfl, rfl⟩

set_option maxRecDepth 10000 in
theorem impl_WeightOf (d : ByteArray) (n : Int) (w : World) (hd : d.size ≤ 1048576) (hK : KAt w) :
    Calls Tryd.prog 5 #[.string d, .int .i64 n] w fun e w' => e = .returned (wgV d n) ∧ Below w.heap.size w w' := by
  have HD := hide (fun W => impl_DigestOk d W (by omega))
  have HI := hide (fun W => nodeIdW_calls n W)
  have h0 : 0 < w.heap.size := lt_of_cell (hK 0 (by omega))
  have HK := hide hK
  clear hK
  unfold wgV
  cases h1 : digB d with
  | false =>
    rw [h1] at HD
    go_enter Tryd.func5, Tryd.ntmps5
    go_wp2_with fail
    refine (unhide HD _).mono ?_
    rintro e w1 ⟨rfl, rfl⟩
    go_wp2_with fail
    exact bodyPost_ret (v := .tuple #[.int .u64 0, .bool false]) (by simp [results, Tryd.results5, go_sem]) rfl ⟨rfl, Below.refl _ _⟩
  | true =>
    have h71 := digB_len71 h1
    rw [h1] at HD
    cases h2 : nodB n with
    | false =>
      rw [h2] at HI
      clear h1 h2 h71
      go_enter Tryd.func5, Tryd.ntmps5
      go_wp2_with fail
      refine (unhide HD _).mono ?_
      rintro e w1 ⟨rfl, rfl⟩
      go_wp2_with fail
      refine (unhide HI _).mono ?_
      rintro e w1 ⟨rfl, rfl⟩
      go_wp2_with fail
      exact bodyPost_ret (v := .tuple #[.int .u64 0, .bool false]) (by simp [results, Tryd.results5, go_sem]) rfl ⟨rfl, Below.refl _ _⟩
    | true =>
      rw [h2] at HI
      have h3 := (nodB_iff n).1 h2
      obtain ⟨N, rfl⟩ := Int.eq_ofNat_of_zero_le (show 0 ≤ n by omega)
      have hK2 : KAt (w.alloc (.cells #[.string d] 9)) := (unhide HK).below (bel1D w _) h0
      have HW := hide (weigh_calls d N w.heap.size (w.alloc (.cells #[.string d] 9)) hK2 h71 (by omega) (by simp [go_sem]))
      have HG := hide (weigher_calls d w)
      generalize wt d N = R at HW ⊢
      clear h1 h2 h3 h71 hd hK2
      go_enter Tryd.func5, Tryd.ntmps5
      go_wp2_with fail
      refine (unhide HD _).mono ?_
      rintro e w1 ⟨rfl, rfl⟩
      go_wp2_with fail
      refine (unhide HI _).mono ?_
      rintro e w1 ⟨rfl, rfl⟩
      go_wp2_with fail
      refine (unhide HG).mono ?_
      rintro e w1 ⟨rfl, rfl⟩
      go_wp2_with fail
      refine (unhide HW).mono ?_
      rintro e w2 ⟨rfl, hb2⟩
      have HB2 := hide (belOnD (bel1D w _) hb2)
      clear hb2
      go_wp2_with fail
      exact bodyPost_ret (v := .tuple #[.int .u64 R, .bool true]) (by simp [results, Tryd.results5, go_sem]) rfl ⟨rfl, unhide HB2⟩

theorem walk (a0 : ByteArray) (a1 : Int) (w : World) (w0 : a0.size ≤ maxLen) (w1 : (Lit.int .i64 a1).wf = true) (hK : KAt w) :
    Calls Tryd.prog 3 #[.string a0, .int .i64 a1] w fun e w' => e = .returned (.bool true) ∧ Below w.heap.size w w' := by
  have h0 : 0 < w.heap.size := lt_of_cell (hK 0 (by omega))
  unfold maxLen at w0
  by_cases hbig : 1048576 < a0.size
  · go_enter Tryd.func3, Tryd.ntmps3
    go_wp2
    go_ret
    exact ⟨rfl, Below.refl _ _⟩
  · have HS := hide (spec_WeightOf a0 a1 w (by omega))
    have HI := hide (fun W (h : KAt W) => impl_WeightOf a0 a1 W (by omega) h)
    have HK := hide (fun W (hb : Below w.heap.size w W) => hK.below hb h0)
    obtain ⟨R, b, hR⟩ : ∃ R b, wgV a0 a1 = .tuple #[.int .u64 R, .bool b] := by unfold wgV; split <;> exact ⟨_, _, rfl⟩
    rw [hR] at HS HI
    clear hK hR
    go_enter Tryd.func3, Tryd.ntmps3
    go_wp2_with fail
    refine (unhide HS).mono ?_
    rintro e w2 ⟨rfl, hb2⟩
    have HB2 := hide hb2
    clear hb2
    go_wp2_with fail
    refine (unhide HI _ (unhide HK _ (unhide HB2))).mono ?_
    rintro e w3 ⟨rfl, hb3⟩
    have HB3 := hide (belOnD (unhide HB2) hb3)
    clear hb3
    go_wp2
    go_ret
    exact ⟨rfl, unhide HB3⟩

set_option maxRecDepth 100000 in
theorem lifted (os : Os) (started : os.Started) (H : Type) (enc : TypeId × Value → H) :
    ReturnsInHanded {} Tryd.checked os 3 .any (fun w args => (Rows.fnExactWeightOfSpec.pre enc Tryd.prog Tryd.f3 [] false w args ∧ laidMetH Tryd.prog Rows.fnExactWeightOfRow.laid w) ∧ sizedMet enc Tryd.prog Tryd.f3 (OpenSpec.ofChange Rows.fnExactWeightOfSpec) false w args)
      (Rows.fnExactWeightOfSpec.post enc Tryd.prog Tryd.f3 false true false false) := by
  refine returnsInHanded_of_change_and (C := Tryd.checked) (X := fun w _ => laidMetH Tryd.prog Rows.fnExactWeightOfRow.laid w) (fun _ _ _ hh h => h.of_heap hh) own started (by kernel_rfl) Tryd.func3
    (ChangeSpec.witness_shaped (enc := enc) (C := Tryd.checked) (os := os) (X := fun w _ => laidMetH Tryd.prog Rows.fnExactWeightOfRow.laid w) false (World.laidAll Tryd.prog os Rows.fnExactWeightOfRow.laid) #[.string ByteArray.empty, .int .i64 0] 8 (World.laidAll_os _ _ _)
      (World.shaped_of_ZipB (by kernel_rfl) (by kernel_rfl)) (by kernel_rfl) (by kernel_rfl) (by kernel_rfl)
      (by rw [MakeChecks.laidMetH_plain _ _ _ (by kernel_rfl)]; exact laidMet_laidAll _ (by kernel_rfl) (by kernel_rfl))) ?_
  intro W base args ds gs before hval0 hW _ _ hL _
  have hval : ∀ (j : Nat) t v, Tryd.f3.params[j]? = some t → args[j]? = some v → Value.okWide Tryd.prog W .any base t v := hval0
  have hW' := hW
  obtain ⟨p, q, hA0, hV, rfl, hfz, hnd⟩ := hW
  have hA : DataW.TrodAll enc Tryd.prog W 0 (fun _ => true) true Tryd.f3.params.toList args.toList ds p := hA0
  rw [Tryd.params3] at hA hval
  obtain ⟨v0, vs0, d0, ds0, p0, q0, hargs, rfl, rfl, h0, r0⟩ := trodAll_cons hA
  obtain ⟨v1, vs1, d1, ds1, p1, q1, rfl, rfl, rfl, h1, r1⟩ := trodAll_cons r0
  obtain ⟨rfl, rfl, rfl⟩ := trodAll_nil r1
  obtain rfl : args = #[v0, v1] := by cases args; simp_all
  have hV1 : DataW.TrodVars enc Tryd.prog W (fun _ => true) Rows.fnExactWeightOfSpec.vars gs q := hV
  obtain ⟨gl, hgl⟩ : ∃ l, gs = l ∧ l.length = 1 := ⟨gs, rfl, trodVars_len hV1⟩
  obtain ⟨gx, rfl⟩ : ∃ x, gs = [x] := by obtain ⟨rfl, h⟩ := hgl; match gs, h with | [x], _ => exact ⟨x, rfl⟩
  have k0 := h0
  have lt0 : ∀ x ∈ p0, x.block < W.heap.size := by obtain ⟨m, hm⟩ := k0; exact DataW.trod_lt m _ _ _ hm
  obtain ⟨a0, rfl, e0, f0, w0⟩ := open_string Tryd.underlying9 (hval 0 9 v0 rfl rfl) h0
  have k1 := h1
  have lt1 : ∀ x ∈ p1, x.block < W.heap.size := by obtain ⟨m, hm⟩ := k1; exact DataW.trod_lt m _ _ _ hm
  obtain ⟨a1, rfl, e1, f1, w1⟩ := open_int Tryd.underlying2 (hval 1 2 v1 rfl rfl) h1
  clear hA0 hval0
  refine (walk a0 a1 W w0 w1 (k_of_laid hL)).mono fun e W' ⟨he, bel⟩ => ?_
  subst he
  exact ⟨_, rfl, _, _, _, [], _, _, hW', trodAll_mk1 (shut_bool Tryd.underlying4 _), (trodAll_cons_mk (Below.trod laidOut (by kernel_rfl) (of_decide_eq_true (by kernel_rfl)) k0 bel lt0) (trodAll_cons_mk (Below.trod laidOut (by kernel_rfl) (of_decide_eq_true (by kernel_rfl)) k1 bel lt1) trodAll_mk0)), Below.trodVars laidOut bel (by kernel_rfl) hV1, bel.frame _, fun h => by cases h⟩

theorem named : Tryd.pinned.checked.prog.funcNamed Rows.fnExactWeightOfRow.func = some 3 := by kernel_rfl
theorem closed : joinedFacts Tryd.pinned.checked.prog 3 Tryd.f3 Rows.fnExactWeightOfSpec Rows.fnExactWeightOfRow = true := by kernel_rfl
theorem over : Rows.fnExactWeightOfRow.holds Tryd.pinned (OpenSpec.ofChange Rows.fnExactWeightOfSpec) :=
  OpenClaim.holds_of_wide 3 Tryd.f3 rfl rfl rfl rfl rfl rfl rfl ⟨rfl, rfl, rfl, rfl, rfl⟩ rfl rfl rfl rfl rfl named Tryd.func3 closed
    (of_decide_eq_true (by kernel_rfl)) (by unfold Func.isWrapper; first | (rw [if_pos (by decide +kernel)]; kernel_rfl) | (rw [if_neg (by decide +kernel)]; exact ⟨rfl, rfl⟩))
    (fun os started H enc _ => lifted os started H enc)

end Go.Proofs.YtincpdednlmniaaDoor.fnExactWeightOf
namespace Go.Proofs.YtincpdednlmniaaDoor
theorem fnExactWeightOf_holds : Rows.FnExactWeightOfCardSaid :=
  Claim7.holds_tied_plain_at .later [] [.data, .data, .data, .data] true Rows.fnExactWeightOfCard.stood.harness false
    fnExactWeightOf.over (fun _ h => by cases h) (by kernel_rfl) (fun _ h => by cases h) fnExactWeightOf_row_tie rfl ⟨rfl, rfl⟩ (by kernel_rfl) rfl
    (fun f fn hf hfn => by
      obtain rfl : f = 3 := Option.some.inj ((show Tryd.prog.funcNamed "loop.example/g00141/laws.FnExactWeightOf" = some 3 by kernel_rfl).symm.trans hf) |>.symm
      obtain rfl : fn = Tryd.f3 := (Option.some.inj (Tryd.func3.symm.trans hfn)).symm
      exact ⟨by kernel_rfl, fun j t ht => by
        rw [Tryd.params3] at ht
        have hm : t ∈ [9, 2] := by simpa using Array.mem_of_getElem? ht
        have hall : ([9, 2].all fun u => !Tryd.prog.wantsStandIn u) = true := by kernel_rfl
        exact (show Tryd.prog.wantsStandIn t = false by simpa using List.all_eq_true.1 hall t hm)⟩)
    (by kernel_rfl)
#print axioms fnExactWeightOf_holds
end Go.Proofs.YtincpdednlmniaaDoor
