/- For every list of texts, every list of numbers, every list of lists of texts and every number, Spare of the program answers the copies and the flag that Spare of the specification answers, in memory of its own, behind a change of its arguments and behind another call too, and leaves its arguments as they were; nothing that was there is changed. The table of the rounds' words and the library's table of 64 places are as their texts lay them. -/
import Derived.Test.YtmicacoegkmklaaGreatDoorRows
import Derived.Test.YtmicacoegkmklaaGreatDoorSprW
import Derived.Test.YtmicacoegkmklaaGreatDoorRzT
import Derived.OpenVars
import Derived.Test.YtmicacoegkmklaaGreatDoorTie
import Derived.Test.YtmicacoegkmklaaGreatDoorCards
import Derived.LaidMore
import Derived.Lay
import Derived.SevenTiedAt
import Derived.Stop.Joined
import Derived.WalkKit
import Derived.ProofKit
import Derived.OpenShut
import Derived.ShutString
import Derived.ChangeOld
import Derived.Below
import Derived.SliceStrings
namespace Go.Proofs.YtmicacoegkmklaaGreatDoor.fnExactSpare
open Go.ChangeShapes Go.WideShapes Go.ChangeAt Go.RowKit
open Go.ChangeMaps (open_string shut_string)
open Plain
set_option linter.unusedVariables false

theorem own : ownKnob Tryz.prog.godebug = none := by kernel_rfl
theorem laidOut : laidOutB Tryz.prog = true := by kernel_rfl

theorem k_of_laid {W : World} (h : laidMetH Tryz.prog Rows.fnExactSpareRow.laid W) : KAt W ∧ TzAt W := by
  rw [MakeChecks.laidMetH_plain _ _ _ (by kernel_rfl)] at h
  obtain ⟨ps, hlv, _, _⟩ := h
  exact ⟨kx_of_laid hlv 3 rfl, tz_of_laid hlv 1 rfl⟩
theorem walk (ad : Option Addr) (nd cd : Nat) (ds : List ByteArray) (a1 : Option Addr) (n1 c1 : Nat) (ns : List Int) (a2 : Option Addr) (n2 c2 : Nat) (hs : List (List ByteArray)) (k : Int) (w : World) (hp : StrsRow w ad nd cd ds) (hv1 : ArgRow 1 intL goodI w a1 n1 c1 ns) (hv2 : StrssRow w a2 n2 c2 hs) (wk : (Lit.int .i64 k).wf = true) (hKT : KAt w ∧ TzAt w) :
    Calls Tryz.prog 4 #[.slice ad nd cd, .slice a1 n1 c1, .slice a2 n2 c2, .int .i64 k] w fun e w' => e = .returned (.bool true) ∧ Below w.heap.size w w' := walk0 ad nd cd ds a1 n1 c1 ns a2 n2 c2 hs k w hp hv1 hv2 wk hKT.1 hKT.2

set_option maxRecDepth 100000 in
theorem lifted (os : Os) (started : os.Started) (H : Type) (enc : TypeId × Value → H) :
    ReturnsInHanded {} Tryz.checked os 4 .any (fun w args => (Rows.fnExactSpareSpec.pre enc Tryz.prog Tryz.f4 [] false w args ∧ laidMetH Tryz.prog Rows.fnExactSpareRow.laid w) ∧ sizedMet enc Tryz.prog Tryz.f4 (OpenSpec.ofChange Rows.fnExactSpareSpec) false w args)
      (Rows.fnExactSpareSpec.post enc Tryz.prog Tryz.f4 false true false false) := by
  refine returnsInHanded_of_change_and (C := Tryz.checked) (X := fun w _ => laidMetH Tryz.prog Rows.fnExactSpareRow.laid w) (fun _ _ _ hh h => h.of_heap hh) own started (by kernel_rfl) Tryz.func4
    (ChangeSpec.witness_shaped (enc := enc) (C := Tryz.checked) (os := os) (X := fun w _ => laidMetH Tryz.prog Rows.fnExactSpareRow.laid w) false (World.laidAll Tryz.prog os Rows.fnExactSpareRow.laid) #[.slice none 0 0, .slice none 0 0, .slice none 0 0, .int .i64 0] 8 (World.laidAll_os _ _ _)
      (World.shaped_of_ZipB (by kernel_rfl) (by kernel_rfl)) (by kernel_rfl) (by kernel_rfl) (by kernel_rfl)
      (by rw [MakeChecks.laidMetH_plain _ _ _ (by kernel_rfl)]; exact laidMet_laidAll _ (by kernel_rfl) (by kernel_rfl))) ?_
  intro W base args ds gs before hval0 hW _ _ hL _
  have hval : ∀ (j : Nat) t v, Tryz.f4.params[j]? = some t → args[j]? = some v → Value.okWide Tryz.prog W .any base t v := hval0
  have hW' := hW
  obtain ⟨p, q, hA0, hV, rfl, hfz, hnd⟩ := hW
  have hA : DataW.TrodAll enc Tryz.prog W 0 (fun _ => true) true Tryz.f4.params.toList args.toList ds p := hA0
  rw [Tryz.params4] at hA hval
  obtain ⟨v0, vs0, d0, ds0, p0, q0, hargs, rfl, rfl, h0, r0⟩ := trodAll_cons hA
  obtain ⟨v1, vs1, d1, ds1, p1, q1, rfl, rfl, rfl, h1, r1⟩ := trodAll_cons r0
  obtain ⟨v2, vs2, d2, ds2, p2, q2, rfl, rfl, rfl, h2, r2⟩ := trodAll_cons r1
  obtain ⟨v3, vs3, d3, ds3, p3, q3, rfl, rfl, rfl, h3, r3⟩ := trodAll_cons r2
  obtain ⟨rfl, rfl, rfl⟩ := trodAll_nil r3
  obtain rfl : args = #[v0, v1, v2, v3] := by cases args; simp_all
  have hV1 : DataW.TrodVars enc Tryz.prog W (fun _ => true) Rows.fnExactSpareSpec.vars gs q := hV
  obtain ⟨gl, hgl⟩ : ∃ l, gs = l ∧ l.length = 1 := ⟨gs, rfl, trodVars_len hV1⟩
  obtain ⟨gx, rfl⟩ : ∃ x, gs = [x] := by obtain ⟨rfl, h⟩ := hgl; match gs, h with | [x], _ => exact ⟨x, rfl⟩
  have k0 := h0
  have lt0 : ∀ x ∈ p0, x.block < W.heap.size := by obtain ⟨m, hm⟩ := k0; exact DataW.trod_lt m _ _ _ hm
  obtain ⟨b0, len0, cap0, rfl⟩ := okWide_slice Tryz.underlying22 (hval 0 22 v0 rfl rfl)
  obtain ⟨z0, w0⟩ : ∃ zs, StrsRow W b0 len0 cap0 zs := by
    obtain ⟨fuel, hf⟩ := h0
    rcases open_strings Tryz.underlying22 Tryz.underlying9 (by kernel_rfl) (by simpa [Value.cells] using hf) with ⟨hcs, _⟩ | ⟨x, l, c, ss, hcs, _, hl, hm, hz, _, hcell, hsz⟩
    · simp at hcs
      obtain ⟨rfl, rfl, rfl⟩ := hcs
      exact ⟨[], rfl, Nat.zero_le _, fun _ h => by simp at h, StrsAt.nil _ _⟩
    · simp at hcs hz
      obtain ⟨rfl, rfl, rfl⟩ := hcs
      exact ⟨ss.take len0, by rw [List.length_take]; omega, Nat.le_trans hl hm, fun s hs => hsz s (List.mem_of_mem_take hs), StrsAt.of_cells (by omega) hcell⟩
  have k1 := h1
  have lt1 : ∀ x ∈ p1, x.block < W.heap.size := by obtain ⟨m, hm⟩ := k1; exact DataW.trod_lt m _ _ _ hm
  obtain ⟨b1, len1, cap1, rfl⟩ := okWide_slice Tryz.underlying23 (hval 1 23 v1 rfl rfl)
  obtain ⟨fuel1, hf1⟩ := h1
  obtain ⟨a1, n1, l1, z1, g1, w1⟩ := openArg 1 intL goodI Tryz.underlying23 (by kernel_rfl) (by decide) rdInt (by simpa [Value.cells] using hf1)
  obtain ⟨rfl, rfl, rfl⟩ : b1 = a1 ∧ len1 = n1 ∧ cap1 = l1 := by simpa using g1
  have k2 := h2
  have lt2 : ∀ x ∈ p2, x.block < W.heap.size := by obtain ⟨m, hm⟩ := k2; exact DataW.trod_lt m _ _ _ hm
  obtain ⟨b2, len2, cap2, rfl⟩ := okWide_slice Tryz.underlying24 (hval 2 24 v2 rfl rfl)
  obtain ⟨fuel2, hf2⟩ := h2
  obtain ⟨a2, n2, l2, z2, g2, y2⟩ := openArg 1 (fun z : Hd × List ByteArray => hdL z.1) (fun z => StrsRow W z.1.a z.1.n z.1.c z.2) Tryz.underlying24 (by kernel_rfl) (by decide) rdStrs (by simpa [Value.cells] using hf2)
  obtain ⟨rfl, rfl, rfl⟩ : b2 = a2 ∧ len2 = n2 ∧ cap2 = l2 := by simpa using g2
  have w2 := argSS y2
  have k3 := h3
  have lt3 : ∀ x ∈ p3, x.block < W.heap.size := by obtain ⟨m, hm⟩ := k3; exact DataW.trod_lt m _ _ _ hm
  obtain ⟨a3, rfl, e3, f3, w3⟩ := open_int Tryz.underlying2 (hval 3 2 v3 rfl rfl) h3
  clear hA0 hval0
  refine (walk b0 len0 cap0 z0 b1 len1 cap1 z1 b2 len2 cap2 (z2.map Prod.snd) a3 W w0 w1 w2 w3 (k_of_laid hL)).mono fun e W' ⟨he, bel⟩ => ?_
  subst he
  exact ⟨_, rfl, _, _, _, [], _, _, hW', trodAll_mk1 (shut_bool Tryz.underlying4 _), (trodAll_cons_mk (Below.trod laidOut (by kernel_rfl) (of_decide_eq_true (by kernel_rfl)) k0 bel lt0) (trodAll_cons_mk (Below.trod laidOut (by kernel_rfl) (of_decide_eq_true (by kernel_rfl)) k1 bel lt1) (trodAll_cons_mk (Below.trod laidOut (by kernel_rfl) (of_decide_eq_true (by kernel_rfl)) k2 bel lt2) (trodAll_cons_mk (Below.trod laidOut (by kernel_rfl) (of_decide_eq_true (by kernel_rfl)) k3 bel lt3) trodAll_mk0)))), Below.trodVars laidOut bel (by kernel_rfl) hV1, bel.frame _, fun h => by cases h⟩

theorem named : Tryz.pinned.checked.prog.funcNamed Rows.fnExactSpareRow.func = some 4 := by kernel_rfl
theorem closed : joinedFacts Tryz.pinned.checked.prog 4 Tryz.f4 Rows.fnExactSpareSpec Rows.fnExactSpareRow = true := by kernel_rfl
theorem over : Rows.fnExactSpareRow.holds Tryz.pinned (OpenSpec.ofChange Rows.fnExactSpareSpec) :=
  OpenClaim.holds_of_wide 4 Tryz.f4 rfl rfl rfl rfl rfl rfl rfl ⟨rfl, rfl, rfl, rfl, rfl⟩ rfl rfl rfl rfl rfl named Tryz.func4 closed
    (of_decide_eq_true (by kernel_rfl)) (by unfold Func.isWrapper; first | (rw [if_pos (by decide +kernel)]; kernel_rfl) | (rw [if_neg (by decide +kernel)]; exact ⟨rfl, rfl⟩))
    (fun os started H enc _ => lifted os started H enc)

end Go.Proofs.YtmicacoegkmklaaGreatDoor.fnExactSpare
namespace Go.Proofs.YtmicacoegkmklaaGreatDoor
theorem fnExactSpare_holds : Rows.FnExactSpareCardSaid :=
  Claim7.holds_tied_plain_at .later [] [.data, .data, .data, .data] true Rows.fnExactSpareCard.stood.harness false
    fnExactSpare.over (fun _ h => by cases h) (by kernel_rfl) (fun _ h => by cases h) fnExactSpare_row_tie rfl ⟨rfl, rfl⟩ (by kernel_rfl) rfl
    (fun f fn hf hfn => by
      obtain rfl : f = 4 := Option.some.inj ((show Tryz.prog.funcNamed "loop.example/g00141/laws.FnExactSpare" = some 4 by kernel_rfl).symm.trans hf) |>.symm
      obtain rfl : fn = Tryz.f4 := (Option.some.inj (Tryz.func4.symm.trans hfn)).symm
      exact ⟨by kernel_rfl, fun j t ht => by
        rw [Tryz.params4] at ht
        have hm : t ∈ [22, 23, 24, 2] := by simpa using Array.mem_of_getElem? ht
        have hall : ([22, 23, 24, 2].all fun u => !Tryz.prog.wantsStandIn u) = true := by kernel_rfl
        exact (show Tryz.prog.wantsStandIn t = false by simpa using List.all_eq_true.1 hall t hm)⟩)
    (by kernel_rfl)
#print axioms fnExactSpare_holds
end Go.Proofs.YtmicacoegkmklaaGreatDoor
