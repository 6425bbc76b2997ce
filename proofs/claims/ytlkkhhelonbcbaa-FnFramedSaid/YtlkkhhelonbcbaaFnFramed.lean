/- For every code, what is read of the bytes that are drawn of it are frames whose bytes these are, from the beginning, as the specification reads them; cut anywhere they are a beginning of these; nothing that was there is changed. No condition. -/
import Derived.Test.YtlkkhhelonbcbaaRows
import Derived.Test.YtlkkhhelonbcbaaDrawR
import Derived.Test.YtlkkhhelonbcbaaFrmS
import Derived.Test.YtlkkhhelonbcbaaRdT
import Derived.Test.YtlkkhhelonbcbaaWfI
import Derived.Test.YtlkkhhelonbcbaaBig
import Derived.WalkKit
import Derived.ProofKit
import Derived.OpenShut
import Derived.ShutString
import Derived.ChangeOld
import Derived.Below
namespace Go.Proofs.Ytlkkhhelonbcbaa.fnFramed
open Go.ChangeShapes Go.WideShapes Go.ChangeAt Go.RowKit
open Go.ChangeMaps (open_string shut_string)
open Plain
set_option linter.unusedVariables false

theorem own : ownKnob Try.prog.godebug = none := by kernel_rfl
theorem laidOut : laidOutB Try.prog = true := by kernel_rfl

theorem run_len (s : ByteArray) : ∀ (f p done : Nat), done ≤ 2000 → (run s f p done).1.length + done ≤ 2000 := by
  intro f
  induction f with
  | zero => intro p done h; simpa [run] using h
  | succ f ih =>
    intro p done h
    rw [run]
    split
    · simpa using h
    · split
      · simpa using h
      · split
        · simpa using h
        · have := ih (p + frN (s.extract p s.size)) (done + 1) (by omega)
          simp only [List.length_cons]
          omega
theorem readF_len (s : ByteArray) : (readF s).1.length ≤ 2000 := by
  have := run_len s 2001 0 0 (by omega)
  unfold readF
  omega

theorem run_body (s : ByteArray) : ∀ (f p done : Nat), ∀ x ∈ (run s f p done).1, x.2.size ≤ 20000 := by
  intro f
  induction f with
  | zero => intro p done x hx; simp [run] at hx
  | succ f ih =>
    intro p done x hx
    by_cases h1 : s.size ≤ p
    · rw [run_end s f p done h1] at hx; simp at hx
    · by_cases h2 : done = 2000
      · subst h2; rw [run_many s f p h1] at hx; simp at hx
      · by_cases h3 : frC (s.extract p s.size) = 0
        · rw [run_next s f p done h1 h2 h3] at hx
          rcases List.mem_cons.1 hx with rfl | hx
          · exact (write_back _ h3).2.2.2
          · exact ih _ _ x hx
        · rw [run_code s f p done h1 h2 h3] at hx; simp at hx
theorem read_body (s : ByteArray) : ∀ x ∈ (readF s).1, x.2.size ≤ 20000 := by
  unfold readF
  exact run_body s 2001 0 0

set_option maxRecDepth 10000 in
set_option maxHeartbeats 4000000 in
theorem walk (a0 : Option Addr) (len0 cap0 : Nat) (z0 : List Int) (w : World) (w0 : IsRow .u8 w a0 len0 cap0 z0) :
    Calls Try.prog 4 #[.slice a0 len0 cap0] w fun e w' => e = .returned (.bool true) ∧ Below w.heap.size w w' := by
  have hlen := w0.len
  have H := hide w0
  clear w0
  by_cases hbig : len0 ≤ 1048576
  · have hd : decide (1048576 < (len0 : Int)) = false := by simp; omega
    go_enter Try.func4, Try.ntmps4
    go_wp2_with fail
    refine (big_calls a0 len0 cap0 _ hlen).mono ?_
    rintro e w1 ⟨rfl, rfl⟩
    rw [hd]
    go_wp2_with fail
    refine (DrawReadFrames_calls a0 len0 cap0 z0 _ (unhide H) hbig).mono ?_
    rintro e w1 ⟨d, rfl, hds, hb1⟩
    have HB1 := hide hb1
    have hz1 := hb1.size
    have hfl := readF_len d
    have hIR := implRead_calls d
    have hSR := specRead_calls d
    have hcat := read_cat d
    have hcut := read_cut d
    have hbod := read_body d
    generalize readF d = x at hfl hIR hSR hcat hcut hbod
    obtain ⟨fs, pos, cd⟩ := x
    simp only at hfl hIR hSR hcat hcut hbod
    have HBOD := hide hbod
    clear hbod
    obtain ⟨hcat, hpos⟩ := hcat
    obtain ⟨n, hnn⟩ : ∃ n, fs.length = n := ⟨_, rfl⟩
    rw [hnn] at hfl
    have HNN := hide hnn
    have HIR := hide hIR
    have HSR := hide hSR
    have HCAT := hide hcat
    have HCUT := hide hcut
    clear hnn hIR hSR hcat hcut hb1 hd H
    go_wp2_with fail
    refine (unhide HSR _ (by omega)).mono ?_
    rintro e w2 ⟨v0, rfl, hO0, hb2⟩
    obtain ⟨fa, fc, rfl⟩ := ownF_form hO0
    have HF0 := hide (hO0.at rfl)
    rw [unhide HNN]
    have HB2 := hide ((unhide HB1).trans (hb2.mono hz1))
    have hz2 := (unhide HB2).size
    clear hb2 hO0 HB1 HSR
    go_wp2_with fail
    refine (unhide HIR _ (by omega)).mono ?_
    rintro e w3 ⟨v1, rfl, hO1, hb3⟩
    obtain ⟨ga, gc, rfl⟩ := ownF_form hO1
    have hgcap : n ≤ gc := by
      rcases hO1.2 with ⟨e, h0⟩ | ⟨g, cap, cur, e, hg, hc, hn, _⟩
      · rw [← unhide HNN, h0]; exact Nat.zero_le _
      · cases e; rw [← unhide HNN]; exact hn
    rw [unhide HNN]
    have HF3 := hide ((unhide HF0).below hb3)
    have HG3 := hide (hO1.at rfl)
    have HB3 := hide ((unhide HB2).trans (hb3.mono hz2))
    have hz3 := (unhide HB3).size
    clear hb3 hO1 HF0 HB2 HIR
    go_wp2_with fail
    refine (sameFrames_calls ga fa gc fc n fs w3 (unhide HNN) hfl (unhide HG3) (unhide HF3)).mono ?_
    rintro e w4 ⟨rfl, hb4⟩
    have HG4 := hide ((unhide HG3).below hb4)
    have HB4 := hide ((unhide HB3).trans (hb4.mono hz3))
    have hz4 := (unhide HB4).size
    clear hb4 HF3 HG3 HB3
    by_cases h2k : 2000 < d.size
    · have i0 : (2000 : Int) < (d.size : Int) := by omega
      go_wp2_with fail
      go_ret
      exact ⟨rfl, unhide HB4⟩
    · have i0 : (d.size : Int) ≤ 2000 := by omega
      go_wp2_with fail
      go_loopw [10, 11] (fun s i wr => ∃ (k : Nat), i = .int .i64 k ∧ s = .string (catF (fs.take k)) ∧ k ≤ n ∧ Hid (Below w4.heap.size w4 wr)) (fun _ i _ => n - (intOf i).toNat)
      case atStart => exact ⟨0, rfl, rfl, by omega, Below.refl _ _⟩
      case round =>
        obtain ⟨k, rfl, rfl, hk, HB5⟩ := hrel
        by_cases hlt : k < n
        · have hfk : k < fs.length := by rw [unhide HNN]; exact hlt
          obtain ⟨g, e1, l1, p1, p2, -, -⟩ := (unhide HG4).below (unhide HB5) k hfk
          have hnx := hide (catF_next fs k hfk)
          have hcs := catF_size (fs.take k)
          rw [List.length_take, unhide HNN, Nat.min_eq_left hk] at hcs
          have hbd := unhide HBOD _ (List.getElem_mem hfk)
          generalize (fs[k]).1 = kd at p1 hnx
          generalize (fs[k]).2 = bd at p2 hnx hbd
          have hfb := frameB_size kd bd
          clear HG4 hfk
          subst e1
          have i1 : (0 : Int) ≤ (k : Int) := by omega
          have i2 : (k : Int) < (n : Int) := by omega
          go_wp2_with fail
          refine (impl_WriteFrame kd bd _ (by omega)).mono ?_
          rintro e w5 ⟨rfl, hb5⟩
          have HB6 := hide ((unhide HB5).trans (hb5.mono (unhide HB5).size))
          clear hb5 HB5
          go_wp2_with fail
          go_roundw
          case rel => exact ⟨k + 1, by go_num, by rw [unhide hnx], by omega, HB6⟩
          case measure => simp [intOf]; omega
        · obtain rfl : k = n := by omega
          have hfull : fs.take k = fs := List.take_of_length_le (by rw [unhide HNN]; exact Nat.le_refl _)
          rw [hfull, unhide HCAT]
          obtain ⟨K, hKK⟩ : ∃ K, len0 % (d.size + 1) = K := ⟨_, rfl⟩
          have hKd : K ≤ d.size := by have := Nat.mod_lt len0 (show 0 < d.size + 1 by omega); omega
          have tK : Int.tmod (len0 : Int) ((d.size : Int) + 1) = (K : Int) := by rw [← hKK]; rfl
          have hnz : ¬ (d.size : Int) + 1 = 0 := by omega
          have j1 : (pos : Int) ≤ (d.size : Int) := by omega
          have j2 : (K : Int) ≤ (d.size : Int) := by omega
          obtain ⟨rest, hr1, hr2, hr3⟩ := unhide HCUT K hKd
          have hIR2 := implRead_calls (d.extract 0 K)
          have hes : (d.extract 0 K).size ≤ 30000 := by simp; omega
          generalize readF (d.extract 0 K) = x2 at hr1 hr2 hr3 hIR2
          obtain ⟨fs2, pos2, cd2⟩ := x2
          simp only at hr1 hr2 hr3 hIR2
          have HI2 := hide hIR2
          have HR1 := hide hr1
          obtain ⟨n2, hn2⟩ : ∃ n2, fs2.length = n2 := ⟨_, rfl⟩
          have hn2n : n2 ≤ k := by rw [← unhide HNN, hr1, List.length_append]; omega
          have HN2 := hide hn2
          clear hIR2 hr1 hn2 hKK
          go_wp2_with fail
          refine (unhide HI2 _ (by omega)).mono ?_
          rintro e w6 ⟨v6, rfl, hO6, hb6⟩
          obtain ⟨ha, hc, rfl⟩ := ownF_form hO6
          have HH6 := hide (hO6.at rfl)
          have hb46 := (unhide HB5).trans (hb6.mono (unhide HB5).size)
          have hG6 := (unhide HG4).below hb46
          rw [unhide HR1] at hG6
          have HG6 := hide hG6.pre
          have HB6 := hide ((unhide HB4).trans (hb46.mono hz4))
          rw [unhide HN2]
          have j3 : (n2 : Int) ≤ (gc : Int) := by omega
          have j4 : (n2 : Int) ≤ (k : Int) := by omega
          have j5 : (pos2 : Int) ≤ (K : Int) := by omega
          have j6 : (pos2 : Int) ≤ (pos : Int) := by omega
          clear hO6 hb6 hb46 hG6
          go_wp2_with fail
          refine (sameFrames_calls ha ga hc gc n2 fs2 w6 (unhide HN2) (by omega) (unhide HH6) (unhide HG6)).mono ?_
          rintro e w7 ⟨rfl, hb7⟩
          have hb := (unhide HB6).trans (hb7.mono (unhide HB6).size)
          clear hb7
          go_wp2_with fail
          go_ret
          exact ⟨rfl, hb⟩
  · have hd : decide (1048576 < (len0 : Int)) = true := by simp; omega
    go_enter Try.func4, Try.ntmps4
    go_wp2_with fail
    refine (big_calls a0 len0 cap0 _ hlen).mono ?_
    rintro e w1 ⟨rfl, rfl⟩
    rw [hd]
    go_wp2
    go_ret
    exact ⟨rfl, Below.refl _ _⟩

set_option maxRecDepth 100000 in
theorem lifted (os : Os) (started : os.Started) (H : Type) (enc : TypeId × Value → H) :
    ReturnsInHanded {} Try.checked os 4 .any (Rows.fnFramedSpec.pre6 enc Try.prog Try.f4 Rows.fnFramedRow.domain false) (Rows.fnFramedSpec.post enc Try.prog Try.f4 false true false false) := by
  refine returnsInHanded_of_change (C := Try.checked) own started (by kernel_rfl) Try.func4
    (ChangeSpec.witness6 (enc := enc) (C := Try.checked) false ⟨#[], #[.slice none 0 0], []⟩ 8 (by kernel_rfl) (by kernel_rfl) (by kernel_rfl) (by kernel_rfl)) ?_
  intro W base args ds gs before hval0 hW hcnd _
  have hval : ∀ (j : Nat) t v, Try.f4.params[j]? = some t → args[j]? = some v → Value.okWide Try.prog W .any base t v := hval0
  have hW' := hW
  obtain ⟨p, q, hA0, hV, rfl, hfz, hnd⟩ := hW
  have hA : DataW.TrodAll enc Try.prog W 0 (fun _ => true) true Try.f4.params.toList args.toList ds p := hA0
  rw [Try.params4] at hA hval
  obtain ⟨v0, vs0, d0, ds0, p0, q0, hargs, rfl, rfl, h0, r0⟩ := trodAll_cons hA
  obtain ⟨rfl, rfl, rfl⟩ := trodAll_nil r0
  obtain rfl : args = #[v0] := by cases args; simp_all
  obtain ⟨rfl, rfl⟩ := trodVars_none hV
  have k0 := h0
  have lt0 : ∀ x ∈ p0, x.block < W.heap.size := by obtain ⟨m, hm⟩ := k0; exact DataW.trod_lt m _ _ _ hm
  obtain ⟨a0, len0, cap0, rfl⟩ := okWide_slice Try.underlying22 (hval 0 22 v0 rfl rfl)
  obtain ⟨z0, w0⟩ : ∃ zs, IsRow .u8 W a0 len0 cap0 zs := by
    obtain ⟨fuel, hf⟩ := h0
    rcases open_ints Try.underlying22 Try.underlying5 (by kernel_rfl) hf with ⟨hcs, _⟩ | ⟨x, l, c, zs, hcs, _, hl, hm, hz, _, hcell, hwz⟩
    · simp [Value.cells] at hcs
      obtain ⟨rfl, rfl, rfl⟩ := hcs
      exact ⟨[], .inl ⟨rfl, rfl, rfl, rfl⟩⟩
    · simp [Value.cells] at hcs
      obtain ⟨rfl, rfl, rfl⟩ := hcs
      exact ⟨zs, .inr ⟨_, rfl, hl, hm, by simpa using hz, hcell, hwz⟩⟩
  clear hA0 hval0
  refine (walk a0 len0 cap0 z0 W w0).mono fun e W' ⟨he, bel⟩ => ?_
  subst he
  exact ⟨_, rfl, _, _, _, [], _, [], hW', trodAll_mk1 (shut_bool Try.underlying4 _), (trodAll_cons_mk (Below.trod laidOut (by kernel_rfl) (of_decide_eq_true (by kernel_rfl)) k0 bel lt0) trodAll_mk0), rfl, bel.frame _, fun h => by cases h⟩

theorem over : Rows.fnFramedRow.holds Try.pinned (OpenSpec.ofChange Rows.fnFramedSpec) :=
  OpenClaim.holds_of_wide 4 Try.f4 rfl rfl rfl rfl rfl rfl rfl ⟨rfl, rfl, rfl, rfl, rfl⟩ rfl rfl rfl rfl rfl (by kernel_rfl) Try.func4 (by kernel_rfl)
    (of_decide_eq_true (by kernel_rfl)) (by unfold Func.isWrapper; first | (rw [if_pos (by decide +kernel)]; kernel_rfl) | (rw [if_neg (by decide +kernel)]; exact ⟨rfl, rfl⟩))
    (fun os started H enc _ => lifted os started H enc)

end Go.Proofs.Ytlkkhhelonbcbaa.fnFramed
namespace Go.Proofs.Ytlkkhhelonbcbaa
theorem fnFramed_holds : Rows.FnFramedSaid := fnFramed.over
#print axioms fnFramed_holds
end Go.Proofs.Ytlkkhhelonbcbaa
