/- For every code, the digest of the text that is drawn of it has a digest's form, is the specification's, each digit is that of the word of the sum in which it stands, the text with a byte more has the same digest just where the specification's are the same, and abc has its well-known digest; nothing that was there is changed. The table of the rounds' words is as the program's text lays it. -/
import Derived.Test.YtlkkhhelonbcbaaDoorRows
import Derived.Test.YtlkkhhelonbcbaaDoorShaN
import Derived.Test.YtlkkhhelonbcbaaDoorDrawS
import Derived.Test.YtlkkhhelonbcbaaDoorBig
import Derived.Deep.QuietTactic
import Derived.BigQuiet
import Derived.Test.YtlkkhhelonbcbaaDoorTie
import Derived.Test.YtlkkhhelonbcbaaDoorCards
import Derived.Test.YtlkkhhelonbcbaaDoorLaid
import Derived.OpenVars
import Derived.SevenTiedAt
import Derived.WalkKit
import Derived.ProofKit
import Derived.OpenShut
import Derived.ShutString
import Derived.ChangeOld
import Derived.Below
namespace Go.Proofs.YtlkkhhelonbcbaaDoor.fnDigested
open Go.ChangeShapes Go.WideShapes Go.ChangeAt Go.RowKit
open Go.ChangeMaps (open_string shut_string)
open Plain
set_option linter.unusedVariables false

theorem own : ownKnob Tryd.prog.godebug = none := by kernel_rfl
theorem laidOut : laidOutB Tryd.prog = true := by kernel_rfl

theorem nib_quiet (d : ByteArray) (k y : Int) (w : World) (n : Nat) (hs : d.size ≤ 1000000000000) (hy : nibI d k = y) :
    Calls Tryd.prog 13 #[.string d, .int .i64 k] (w.drewN n) fun e w' => e = .returned (.int .i64 y) ∧ ∃ m, w' = w.drewN m := by
  subst hy
  exact (impl_Nibble d k _ hs).mono fun _ _ ⟨he, hm⟩ => ⟨he, n, hm.symm⟩

set_option maxRecDepth 10000 in
set_option maxHeartbeats 2000000 in
theorem walk (a0 : Option Addr) (len0 cap0 : Nat) (z0 : List Int) (w : World) (w0 : IsRow .u8 w a0 len0 cap0 z0) (hK : KAt w) :
    Calls Tryd.prog 3 #[.slice a0 len0 cap0] w fun e w' => e = .returned (.bool true) ∧ Below w.heap.size w w' := by
  have hlen := w0.len
  have h0 : 0 < w.heap.size := lt_of_cell (hK 0 (by omega))
  have H := hide w0
  have HK := hide hK
  clear w0 hK
  by_cases hbig : len0 ≤ 1048576
  · have hd : decide (1048576 < (len0 : Int)) = false := by simp; omega
    by_cases hbig2 : 2000 < len0
    · go_enter Tryd.func3, Tryd.ntmps3
      go_wp2_with fail
      refine (big_calls a0 len0 cap0 _ hlen).mono ?_
      rintro e w1 ⟨rfl, rfl⟩
      rw [hd]
      go_wp2
      go_ret
      exact ⟨rfl, Below.refl _ _⟩
    · go_enter Tryd.func3, Tryd.ntmps3
      go_wp2_with fail
      refine (big_calls a0 len0 cap0 _ hlen).mono ?_
      rintro e w1 ⟨rfl, rfl⟩
      rw [hd]
      go_wp2_with fail
      refine (DrawSum_calls a0 len0 cap0 z0 _ (unhide H) hbig).mono ?_
      rintro e w1 ⟨s, rfl, hs, hb1⟩
      have HK1 := hide ((unhide HK).below hb1 h0)
      have HB1 := hide hb1
      have hz1 := hb1.size
      have hs2 : (s ++ ⟨#[120]⟩).size ≤ 201 := by rw [ByteArray.size_append]; have : (⟨#[120]⟩ : ByteArray).size = 1 := rfl; omega
      clear hb1 HK H
      go_wp2_with fail
      refine (implDigest_calls s _ (unhide HK1) (by omega)).mono ?_
      rintro e w2 ⟨rfl, hb2⟩
      have HK2 := hide ((unhide HK1).below hb2 (by omega))
      have HB2 := hide ((unhide HB1).trans (hb2.mono hz1))
      have hz2 := (unhide HB2).size
      clear hb2 HK1 HB1
      go_wp2_with fail
      refine (Sum_calls s _ (unhide HK2) (by omega)).mono ?_
      rintro e w3 ⟨rfl, hW3, hb3, hl3⟩
      have HK3 := hide ((unhide HK2).below hb3 (by omega))
      have HB3 := hide ((unhide HB2).trans (hb3.mono hz2))
      have hz3 := (unhide HB3).size
      have HW3 := hide hW3
      clear hb3 hW3 HK2 HB2
      go_wp2_with fail
      refine (specDigest_calls s _ (by omega)).mono ?_
      rintro e w4 ⟨rfl, hb4⟩
      have HK4 := hide ((unhide HK3).below hb4 (by omega))
      have HB4 := hide ((unhide HB3).trans (hb4.mono hz3))
      have HW4 := hide ((unhide HW3).below hb4 hl3)
      have hl4 := Nat.lt_of_lt_of_le hl3 hb4.size
      have hz4 := (unhide HB4).size
      have hok : digB (digestB s) = true := digest_ok _ (hN_length _ _)
      have hsz := digestB_size s
      clear hb4 HK3 HB3 HW3
      go_wp2_with fail
      refine (impl_DigestOk (digestB s) _ (by omega)).mono ?_
      rintro e w5 ⟨rfl, rfl⟩
      rw [hok]
      go_wp2_with fail
      refine (implDigest_calls _ _ (unhide HK4) ?hsx).mono ?_
      case hsx => exact Nat.le_trans hs2 (by omega)
      rintro e w5 ⟨rfl, hb5⟩
      have HK5 := hide ((unhide HK4).below hb5 (by omega))
      have HB5 := hide ((unhide HB4).trans (hb5.mono hz4))
      have HW5 := hide ((unhide HW4).below hb5 hl4)
      have hl5 := Nat.lt_of_lt_of_le hl4 hb5.size
      have hz5 := (unhide HB5).size
      clear hb5 HK4 HB4 HW4
      go_wp2_with fail
      refine (specDigest_calls _ _ ?hsx).mono ?_
      case hsx => exact Nat.le_trans hs2 (by omega)
      rintro e w6 ⟨rfl, hb6⟩
      have HK6 := hide ((unhide HK5).below hb6 (by omega))
      have HB6 := hide ((unhide HB5).trans (hb6.mono hz5))
      have HW6 := hide ((unhide HW5).below hb6 hl5)
      have hl6 := Nat.lt_of_lt_of_le hl5 hb6.size
      have hz6 := (unhide HB6).size
      clear hb6 HK5 HB5 HW5
      go_wp2_with fail
      refine (specDigest_calls s _ (by omega)).mono ?_
      rintro e w7 ⟨rfl, hb7⟩
      have HK7 := hide ((unhide HK6).below hb7 (by omega))
      have HB7 := hide ((unhide HB6).trans (hb7.mono hz6))
      have HW7 := hide ((unhide HW6).below hb7 hl6)
      have hl7 := Nat.lt_of_lt_of_le hl6 hb7.size
      have hz7 := (unhide HB7).size
      clear hb7 HK6 HB6 HW6
      have hv8 : (sumL s).length = 8 := hN_length _ _
      have hvw : ∀ x ∈ sumL s, Word x := hN_word _ _
      have hnb : ∀ k : Nat, k < 64 → nibI (digestB s) k = (sumL s).getD (k / 8) 0 / 2 ^ (4 * (7 - k % 8)) % 16 := fun k hk => digest_nib _ (hN_length _ _) k hk
      have HNB := hide hnb
      have HVW := hide hvw
      have hsz9 : (digestB s).size ≤ 1000000000000 := by omega
      clear hnb hvw hok hsz hd
      generalize digestB s = d at HNB hsz9
      generalize sumL s = v at HW7 HNB HVW hv8
      go_wp2_with fail
      go_loopw [6] (fun i wr => ∃ (k : Nat), i = .int .i64 k ∧ k ≤ 64 ∧ Hid (Below w7.heap.size w7 wr)) (fun i _ => 64 - (intOf i).toNat)
      case atStart => exact ⟨0, rfl, by omega, Below.refl _ _⟩
      case round =>
        obtain ⟨k, rfl, hk, HB8⟩ := hrel
        by_cases hlt : k < 64
        · obtain ⟨p, hp⟩ : ∃ p, k / 8 = p := ⟨_, rfl⟩
          obtain ⟨r, hr⟩ : ∃ r, k % 8 = r := ⟨_, rfl⟩
          have hnb := unhide HNB k hlt
          rw [hp, hr] at hnb
          obtain ⟨q, hq⟩ : ∃ q, 4 * (7 - r) = q := ⟨_, rfl⟩
          rw [hq] at hnb
          have hp8 : p < 8 := by omega
          have hr8 : r < 8 := by omega
          have hc := ((unhide HW7).below (unhide HB8) hl7 p (by omega)).1
          obtain ⟨x0, x1⟩ := getD_word (unhide HVW) p
          generalize v.getD p 0 = x at hnb hc x0 x1
          obtain ⟨y0, y1⟩ := pow_bounds x q x0 x1
          rw [← and15 _ y0 y1] at hnb
          have hqi : 28 - 4 * (r : Int) = (q : Int) := by omega
          have hq28 : q ≤ 28 := by omega
          have ht1 : Int.tdiv (k : Int) 8 = (p : Int) := by rw [← hp]; rfl
          have ht2 : Int.tmod (k : Int) 8 = (r : Int) := by rw [← hr]; rfl
          have d0 : 0 ≤ bits .and .u32 (x / 2 ^ q) 15 := by rw [and15 _ y0 y1]; omega
          have d1 : bits .and .u32 (x / 2 ^ q) 15 < 16 := by rw [and15 _ y0 y1]; omega
          have i0 : (0 : Int) ≤ (k : Int) := by omega
          have i1 : (k : Int) < 64 := by omega
          have j0 : (0 : Int) ≤ (p : Int) := by omega
          have j1 : (p : Int) < 8 := by omega
          have l0 : (0 : Int) ≤ (r : Int) := by omega
          have l1 : (r : Int) < 8 := by omega
          have HN := hide hnb
          clear hnb hp hr hq
          go_wp2_with fail
          go_quiet ((go_at_call 13; exact nib_quiet _ _ _ _ _ hsz9 (unhide HN)))
          go_wp2_with fail
          go_roundw
          case rel => exact ⟨k + 1, by go_num, by omega, hide (below_drewN (unhide HB8) _)⟩
          case measure => simp [intOf]; omega
        · obtain rfl : k = 64 := by omega
          go_wp2_with fail
          refine (implDigest_calls _ _ ((unhide HK7).below (unhide HB8) (by omega)) ?hsx).mono ?_
          case hsx => exact of_decide_eq_true rfl
          rintro e w9 ⟨rfl, hb9⟩
          rw [abc_is]
          have hb := (unhide HB7).trans (((unhide HB8).trans (hb9.mono (unhide HB8).size)).mono hz7)
          clear hb9
          go_wp2_with fail
          go_ret
          exact ⟨rfl, hb⟩
  · have hd : decide (1048576 < (len0 : Int)) = true := by simp; omega
    go_enter Tryd.func3, Tryd.ntmps3
    go_wp2_with fail
    refine (big_calls a0 len0 cap0 _ hlen).mono ?_
    rintro e w1 ⟨rfl, rfl⟩
    rw [hd]
    go_wp2
    go_ret
    exact ⟨rfl, Below.refl _ _⟩

set_option maxRecDepth 100000 in
theorem lifted (os : Os) (started : os.Started) (H : Type) (enc : TypeId × Value → H) :
    ReturnsInHanded {} Tryd.checked os 3 .any (fun w args => (Rows.fnDigestedSpec.pre enc Tryd.prog Tryd.f3 [] false w args ∧ laidMetH Tryd.prog Rows.fnDigestedRow.laid w) ∧ sizedMet enc Tryd.prog Tryd.f3 (OpenSpec.ofChange Rows.fnDigestedSpec) false w args)
      (Rows.fnDigestedSpec.post enc Tryd.prog Tryd.f3 false true false false) := by
  refine returnsInHanded_of_change_and (C := Tryd.checked) (X := fun w _ => laidMetH Tryd.prog Rows.fnDigestedRow.laid w) (fun _ _ _ hh h => h.of_heap hh) own started (by kernel_rfl) Tryd.func3
    (ChangeSpec.witness_shaped (enc := enc) (C := Tryd.checked) (os := os) (X := fun w _ => laidMetH Tryd.prog Rows.fnDigestedRow.laid w) false (World.doorLaid Tryd.prog 400 os) #[.slice none 0 0] 8 rfl (World.shaped_of_RefB (by kernel_rfl) (by kernel_rfl)) (by kernel_rfl) (by kernel_rfl) (by kernel_rfl) (door_met os _)) ?_
  intro W base args ds gs before hval0 hW _ _ hL _
  have hval : ∀ (j : Nat) t v, Tryd.f3.params[j]? = some t → args[j]? = some v → Value.okWide Tryd.prog W .any base t v := hval0
  have hW' := hW
  obtain ⟨p, q, hA0, hV, rfl, hfz, hnd⟩ := hW
  have hA : DataW.TrodAll enc Tryd.prog W 0 (fun _ => true) true Tryd.f3.params.toList args.toList ds p := hA0
  rw [Tryd.params3] at hA hval
  obtain ⟨v0, vs0, d0, ds0, p0, q0, hargs, rfl, rfl, h0, r0⟩ := trodAll_cons hA
  obtain ⟨rfl, rfl, rfl⟩ := trodAll_nil r0
  obtain rfl : args = #[v0] := by cases args; simp_all
  have hV1 : DataW.TrodVars enc Tryd.prog W (fun _ => true) [roundName] gs q := hV
  obtain ⟨gg, gt, gcs, gf, gd, gp, rfl, -, -, -, -, -⟩ := trodVars_one hV1
  have k0 := h0
  have lt0 : ∀ x ∈ p0, x.block < W.heap.size := by obtain ⟨m, hm⟩ := k0; exact DataW.trod_lt m _ _ _ hm
  obtain ⟨a0, len0, cap0, rfl⟩ := okWide_slice Tryd.underlying22 (hval 0 22 v0 rfl rfl)
  obtain ⟨z0, w0⟩ : ∃ zs, IsRow .u8 W a0 len0 cap0 zs := by
    obtain ⟨fuel, hf⟩ := h0
    rcases open_ints Tryd.underlying22 Tryd.underlying5 (by kernel_rfl) hf with ⟨hcs, _⟩ | ⟨x, l, c, zs, hcs, _, hl, hm, hz, _, hcell, hwz⟩
    · simp [Value.cells] at hcs
      obtain ⟨rfl, rfl, rfl⟩ := hcs
      exact ⟨[], .inl ⟨rfl, rfl, rfl, rfl⟩⟩
    · simp [Value.cells] at hcs
      obtain ⟨rfl, rfl, rfl⟩ := hcs
      exact ⟨zs, .inr ⟨_, rfl, hl, hm, by simpa using hz, hcell, hwz⟩⟩
  clear hA0 hval0
  refine (walk a0 len0 cap0 z0 W w0 (k_of_laid hL)).mono fun e W' ⟨he, bel⟩ => ?_
  subst he
  exact ⟨_, rfl, _, _, _, [], _, _, hW', trodAll_mk1 (shut_bool Tryd.underlying4 _), (trodAll_cons_mk (Below.trod laidOut (by kernel_rfl) (of_decide_eq_true (by kernel_rfl)) k0 bel lt0) trodAll_mk0), Below.trodVars laidOut bel (by kernel_rfl) hV1, bel.frame _, fun h => by cases h⟩

theorem over : Rows.fnDigestedRow.holds Tryd.pinned (OpenSpec.ofChange Rows.fnDigestedSpec) :=
  OpenClaim.holds_of_wide 3 Tryd.f3 rfl rfl rfl rfl rfl rfl rfl ⟨rfl, rfl, rfl, rfl, rfl⟩ rfl rfl rfl rfl rfl (by kernel_rfl) Tryd.func3 (by kernel_rfl)
    (of_decide_eq_true (by kernel_rfl)) (by unfold Func.isWrapper; first | (rw [if_pos (by decide +kernel)]; kernel_rfl) | (rw [if_neg (by decide +kernel)]; exact ⟨rfl, rfl⟩))
    (fun os started H enc _ => lifted os started H enc)

end Go.Proofs.YtlkkhhelonbcbaaDoor.fnDigested
namespace Go.Proofs.YtlkkhhelonbcbaaDoor
theorem fnDigested_holds : Rows.FnDigestedCardSaid :=
  Claim7.holds_tied_plain_at .later [] [.data] true Rows.fnDigestedCard.stood.harness false
    fnDigested.over (fun _ h => by cases h) (by kernel_rfl) (fun _ h => by cases h) fnDigested_row_tie rfl ⟨rfl, rfl⟩ (by kernel_rfl) rfl
    (fun f fn hf hfn => by
      obtain rfl : f = 3 := Option.some.inj ((show Tryd.prog.funcNamed "loop.example/g00141/laws.FnDigested" = some 3 by kernel_rfl).symm.trans hf) |>.symm
      obtain rfl : fn = Tryd.f3 := (Option.some.inj (Tryd.func3.symm.trans hfn)).symm
      exact ⟨by kernel_rfl, fun j t ht => by
        rw [Tryd.params3] at ht
        have hm : t ∈ [22] := by simpa using Array.mem_of_getElem? ht
        have hall : ([22].all fun u => !Tryd.prog.wantsStandIn u) = true := by kernel_rfl
        exact (show Tryd.prog.wantsStandIn t = false by simpa using List.all_eq_true.1 hall t hm)⟩)
    (by kernel_rfl)
#print axioms fnDigested_holds
end Go.Proofs.YtlkkhhelonbcbaaDoor
