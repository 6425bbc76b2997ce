/- For every code, of the ids that are drawn of it and of all other nodes one at most is a quorum of the configuration that is drawn of it, by the program, which answers of the drawn ids what the specification answers; nothing that was there is changed. No condition. -/
import Derived.Test.YtmmibkbodcfkkaaRows
import Derived.Test.YtmmibkbodcfkkaaDrwE
import Derived.Test.YtmmibkbodcfkkaaBig
import Derived.WalkKit
import Derived.ProofKit
import Derived.OpenShut
import Derived.ShutString
import Derived.ChangeOld
import Derived.Below
namespace Go.Proofs.Ytmmibkbodcfkkaa.fnQuorums
open Go.ChangeShapes Go.WideShapes Go.ChangeAt Go.RowKit
open Go.ChangeMaps (open_string shut_string)
open Plain
set_option linter.unusedVariables false

theorem own : ownKnob Try.prog.godebug = none := by kernel_rfl
theorem laidOut : laidOutB Try.prog = true := by kernel_rfl

set_option maxRecDepth 10000 in
set_option maxHeartbeats 8000000 in
theorem walk (a0 : Option Addr) (len0 cap0 : Nat) (z0 : List Int) (w : World) (w0 : IsRow .u8 w a0 len0 cap0 z0) :
    Calls Try.prog 6 #[.slice a0 len0 cap0] w fun e w' => e = .returned (.bool true) ∧ Below w.heap.size w w' := by
  have hlen := w0.len
  have H := hide w0
  clear w0
  by_cases hbig : len0 ≤ 1048576
  · have hd : decide (1048576 < (len0 : Int)) = false := by simp; omega
    go_enter Try.func6, Try.ntmps6
    go_wp2_with fail
    refine (big_calls a0 len0 cap0 _ hlen).mono ?_
    rintro e w1 ⟨rfl, rfl⟩
    rw [hd]
    go_wp2_with fail
    refine (DrawQuorum_calls a0 len0 cap0 z0 _ (unhide H) hbig).mono ?_
    rintro e w1 ⟨av, nv, cv, v, al, nl, cl, l, ai, ni, ci, ids, rfl, hOw, hb1⟩
    obtain ⟨W2, hW2⟩ : ∃ W2, W2 = w1.alloc (.cells #[.slice av nv cv, .slice al nl cl] 27) := ⟨_, rfl⟩
    have hb2 : Below w1.heap.size w1 W2 := by rw [hW2]; exact bel1 _ _
    have hlt : w1.heap.size < W2.heap.size := by rw [hW2]; simp
    have c0 : W2.cell? ⟨w1.heap.size, 0, none⟩ = some (.slice av nv cv) := by rw [hW2]; simp [go_sem]
    have c1 : W2.cell? ⟨w1.heap.size, 1, none⟩ = some (.slice al nl cl) := by rw [hW2]; simp [go_sem]
    have HC := hide (fun (W : World) (hW : Below W2.heap.size W2 W) => And.intro (bcl hW hlt c0) (bcl hW hlt c1))
    have HA := hide (fun (W : World) (hW : Below W2.heap.size W2 W) => And.intro ((unhide hOw).1.below (belOn hb2 hW)) ((unhide hOw).2.below (belOn hb2 hW)))
    have HB2 := hide (belOn hb1 hb2)
    have HW2 := hide hW2.symm
    clear hb1 hb2 hW2 hOw hlt
    go_wp2_with fail
    rw [unhide HW2]
    refine (impl_Quorum av nv cv v al nl cl l ai ni ci ids W2 (unhide HA _ (Below.refl _ _)).1 (unhide HA _ (Below.refl _ _)).2).mono ?_
    rintro e w3 ⟨rfl, hb3⟩
    obtain ⟨q0, q1⟩ := unhide HC _ hb3
    have HB3 := hide hb3
    obtain ⟨Q, hQ⟩ : ∃ Q, quoB v l ids = Q := ⟨_, rfl⟩
    rw [hQ]
    clear hb3 c0 c1
    go_wp2_with fail
    refine (spec_Quorum av nv cv v al nl cl l ai ni ci ids w3 (unhide HA _ (unhide HB3)).1 (unhide HA _ (unhide HB3)).2).mono ?_
    rintro e w4 ⟨rfl, hb4⟩
    rw [hQ]
    have HB4 := hide (belOn (unhide HB3) hb4)
    have HQ := hide hQ
    clear hb4 q0 q1 hQ
    go_wp2_with fail
    go_loopw [6, 7] (fun s6 s7 wr => ∃ (k : Nat) (os : List Int), s7 = .int .i64 ((k + 1 : Nat) : Int) ∧ k ≤ 50 ∧ os.length ≤ k ∧ w4.heap.size ≤ wr.heap.size ∧ Hid (OwnR i64E wr w4.heap.size s6 os) ∧ Hid (∀ x ∈ os, x ∉ ids) ∧ Hid (Below w4.heap.size w4 wr)) (fun _ s7 _ => 51 - (intOf s7).toNat)
    case atStart => exact ⟨0, [], rfl, by omega, by simp, by simp, hide (ownR_empty i64E _ _ (Nat.le_refl _)), hide (by simp), hide (bel1 _ _)⟩
    case round =>
      obtain ⟨k, os, rfl, hk, hos, hzr, HOr, HDr, HBr⟩ := hrel
      have HB5 := hide (belOn (unhide HB4) (unhide HBr))
      obtain ⟨ao, co, hvo⟩ := (unhide HOr).form
      subst hvo
      obtain ⟨q, hq⟩ : ∃ q, os.length = q := ⟨_, rfl⟩
      rw [hq] at HOr hos ⊢
      by_cases hkn : k < 50
      · obtain ⟨x, hx⟩ : ∃ x : Int, ((k + 1 : Nat) : Int) = x := ⟨_, rfl⟩
        rw [hx]
        have hx50 : x ≤ 50 := by omega
        have hx1 : IntKind.i64.wrap (x + 1) = x + 1 := by rw [IntKind.wrap_i64]; omega
        have HH := hide (hasInt_calls ai ni ci ids x wr (unhide HA _ (unhide HB5)).2)
        cases hm : decide (x ∈ ids) with
        | true =>
          rw [hm] at HH
          clear hm
          go_wp2_with fail
          refine (unhide HH).mono ?_
          rintro e w5 ⟨rfl, rfl⟩
          go_wp2_with fail
          go_roundw
          case rel => exact ⟨k + 1, os, by rw [show ((k + 1 + 1 : Nat) : Int) = x + 1 from by omega], by omega, by omega, hzr, HOr, HDr, HBr⟩
          case measure => simp [intOf]; omega
        | false =>
          rw [hm] at HH
          have hnm : x ∉ ids := by simpa using hm
          have hlen2 : os.length < 100000000 := by omega
          clear hm
          go_wp2_with fail
          refine (unhide HH).mono ?_
          rintro e w5 ⟨rfl, rfl⟩
          go_wp2_with (at_builtin; go_must (refine appR (e := i64E) rfl _ _ rfl (unhide HOr) rfl x rfl _ rfl rfl hlen2 hzr ?_); intro v' w6 hown6 hb6 hg6; obtain ⟨ao', co', hv'⟩ := hown6.form; subst hv')
          go_roundw
          case rel => exact ⟨k + 1, os ++ [x], by rw [show ((k + 1 + 1 : Nat) : Int) = x + 1 from by omega], by omega, by simp; omega, by have := hb6.size; omega, hide (by rw [show q + 1 = (os ++ [x]).length from by simp [hq]]; exact hown6), hide (fun y hy => by rcases List.mem_append.1 hy with h | h; exact unhide HDr y h; (obtain rfl := List.mem_singleton.1 h; exact hnm)), hide ((unhide HBr).trans hb6)⟩
          case measure => simp [intOf]; omega
      · obtain rfl : k = 50 := by omega
        obtain ⟨q0, q1⟩ := unhide HC _ (unhide HB5)
        cases Q with
        | false =>
          go_wp2_with fail
          go_ret
          exact ⟨rfl, belOn (unhide HB2) (unhide HB5)⟩
        | true =>
          have HF := hide (impl_Quorum av nv cv v al nl cl l ao q co os wr (unhide HA _ (unhide HB5)).1 ⟨(unhide HOr).at, hq, by omega⟩)
          rw [quo_once (unhide HDr) (unhide HQ)] at HF
          go_wp2_with fail
          refine (unhide HF).mono ?_
          rintro e w7 ⟨rfl, hb7⟩
          have HB7 := hide (belOn (belOn (unhide HB2) (unhide HB5)) hb7)
          clear hb7
          go_wp2_with fail
          go_ret
          exact ⟨rfl, unhide HB7⟩
  · have hd : decide (1048576 < (len0 : Int)) = true := by simp; omega
    go_enter Try.func6, Try.ntmps6
    go_wp2_with fail
    refine (big_calls a0 len0 cap0 _ hlen).mono ?_
    rintro e w1 ⟨rfl, rfl⟩
    rw [hd]
    go_wp2_with fail
    go_ret
    exact ⟨rfl, Below.refl _ _⟩

set_option maxRecDepth 100000 in
theorem lifted (os : Os) (started : os.Started) (H : Type) (enc : TypeId × Value → H) :
    ReturnsInHanded {} Try.checked os 6 .any (Rows.fnQuorumsSpec.pre6 enc Try.prog Try.f6 Rows.fnQuorumsRow.domain false) (Rows.fnQuorumsSpec.post enc Try.prog Try.f6 false true false false) := by
  refine returnsInHanded_of_change (C := Try.checked) own started (by kernel_rfl) Try.func6
    (ChangeSpec.witness6 (enc := enc) (C := Try.checked) false ⟨#[], #[.slice none 0 0], []⟩ 8 (by kernel_rfl) (by kernel_rfl) (by kernel_rfl) (by kernel_rfl)) ?_
  intro W base args ds gs before hval0 hW hcnd _
  have hval : ∀ (j : Nat) t v, Try.f6.params[j]? = some t → args[j]? = some v → Value.okWide Try.prog W .any base t v := hval0
  have hW' := hW
  obtain ⟨p, q, hA0, hV, rfl, hfz, hnd⟩ := hW
  have hA : DataW.TrodAll enc Try.prog W 0 (fun _ => true) true Try.f6.params.toList args.toList ds p := hA0
  rw [Try.params6] at hA hval
  obtain ⟨v0, vs0, d0, ds0, p0, q0, hargs, rfl, rfl, h0, r0⟩ := trodAll_cons hA
  obtain ⟨rfl, rfl, rfl⟩ := trodAll_nil r0
  obtain rfl : args = #[v0] := by cases args; simp_all
  obtain ⟨rfl, rfl⟩ := trodVars_none hV
  have k0 := h0
  have lt0 : ∀ x ∈ p0, x.block < W.heap.size := by obtain ⟨m, hm⟩ := k0; exact DataW.trod_lt m _ _ _ hm
  obtain ⟨a0, len0, cap0, rfl⟩ := okWide_slice Try.underlying36 (hval 0 36 v0 rfl rfl)
  obtain ⟨z0, w0⟩ : ∃ zs, IsRow .u8 W a0 len0 cap0 zs := by
    obtain ⟨fuel, hf⟩ := h0
    rcases open_ints Try.underlying36 Try.underlying5 (by kernel_rfl) hf with ⟨hcs, _⟩ | ⟨x, l, c, zs, hcs, _, hl, hm, hz, _, hcell, hwz⟩
    · simp [Value.cells] at hcs
      obtain ⟨rfl, rfl, rfl⟩ := hcs
      exact ⟨[], .inl ⟨rfl, rfl, rfl, rfl⟩⟩
    · simp [Value.cells] at hcs
      obtain ⟨rfl, rfl, rfl⟩ := hcs
      exact ⟨zs, .inr ⟨_, rfl, hl, hm, by simpa using hz, hcell, hwz⟩⟩
  clear hA0 hval0
  refine (walk a0 len0 cap0 z0 W w0).mono fun e W' ⟨he, bel⟩ => ?_
  subst he
  exact ⟨_, rfl, _, _, _, [], _, [], hW', trodAll_mk1 (shut_bool Try.underlying4 _), (trodAll_cons_mk (Below.trod laidOut (by kernel_rfl) (of_decide_eq_true (by kernel_rfl)) k0 bel lt0) trodAll_mk0), rfl, bel.frame _, fun h => by cases h⟩

theorem named : Try.pinned.checked.prog.funcNamed Rows.fnQuorumsRow.func = some 6 := by kernel_rfl
theorem closed : joinedFacts Try.pinned.checked.prog 6 Try.f6 Rows.fnQuorumsSpec Rows.fnQuorumsRow = true := by kernel_rfl
theorem over : Rows.fnQuorumsRow.holds Try.pinned (OpenSpec.ofChange Rows.fnQuorumsSpec) :=
  OpenClaim.holds_of_wide 6 Try.f6 rfl rfl rfl rfl rfl rfl rfl ⟨rfl, rfl, rfl, rfl, rfl⟩ rfl rfl rfl rfl rfl named Try.func6 closed
    (of_decide_eq_true (by kernel_rfl)) (by unfold Func.isWrapper; first | (rw [if_pos (by decide +kernel)]; kernel_rfl) | (rw [if_neg (by decide +kernel)]; exact ⟨rfl, rfl⟩))
    (fun os started H enc _ => lifted os started H enc)

end Go.Proofs.Ytmmibkbodcfkkaa.fnQuorums
namespace Go.Proofs.Ytmmibkbodcfkkaa
theorem fnQuorums_holds : Rows.FnQuorumsSaid := fnQuorums.over
#print axioms fnQuorums_holds
end Go.Proofs.Ytmmibkbodcfkkaa
