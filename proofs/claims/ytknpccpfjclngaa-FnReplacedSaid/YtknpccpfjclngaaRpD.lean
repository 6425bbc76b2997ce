/- What DrawReplace draws: a disk, a name, data. -/
import Derived.Test.YtknpccpfjclngaaCraD
import Derived.Test.YtknpccpfjclngaaGAD
import Derived.Deep.RegionLaw
import Derived.Deep.DeepCutAuto
namespace Go.Proofs.Ytknpccpfjclngaa
open Go.RowKit Plain
set_option linter.unusedVariables false

def Plain.nmsL : List ByteArray := [⟨#[118, 111, 116, 101]⟩, ⟨#[108, 111, 103]⟩, ⟨#[118, 111, 116, 101]⟩, ⟨#[]⟩]
def Plain.nmsV : Array Value := (nmsL.map Value.string).toArray
theorem nmsV_get (k : Nat) (h : k < 4) : nmsV[k]? = some (.string (nmsL.getD k ByteArray.empty)) := by
  match k, h with
  | 0, _ => rfl
  | 1, _ => rfl
  | 2, _ => rfl
  | 3, _ => rfl
theorem nms_size : ∀ k : Fin 4, (nmsL.getD k.val ByteArray.empty).size ≤ 4 := by decide +kernel
/-- What DrawReplace answers. -/
def Plain.RpD (w : World) (e : Ending) (w' : World) : Prop :=
  ∃ aL cL live aS cS safe aO cO ops nm dt, e = .returned (.tuple #[.agg #[.slice aL (List.length live) cL, .slice aS (List.length safe) cS, .slice aO (List.length ops) cO], .string nm, .string dt]) ∧ (RowAt fileE w' aL live ∧ RowAt fileE w' aS safe ∧ RowO dopE w' aO ops) ∧ (AdOk aL cL ∧ AdOk aS cS ∧ AdN aO cO) ∧ (FitF live ∧ FitF safe ∧ (∀ o ∈ ops, SmO o) ∧ live.length ≤ 1000 ∧ safe.length ≤ 1000 ∧ ops.length ≤ 200) ∧ (ByteArray.size nm ≤ 100 ∧ ByteArray.size dt ≤ 6) ∧ Below w.heap.size w w'

set_option maxRecDepth 10000 in
set_option maxHeartbeats 8000000 in
theorem DrawReplace_calls (a : Option Addr) (len cap : Nat) (zs : List Int) (w : World) (h : IsRow .u8 w a len cap zs) (hl : len ≤ 1048576) :
    Calls Try.prog 13 #[.slice a len cap] w (RpD w) := by
  obtain ⟨W0, hW0⟩ : ∃ W0, W0 = w.alloc (.cells #[.slice none 0 0, .slice none 0 0, .slice none 0 0] 27) := ⟨_, rfl⟩
  have hb0 : Below w.heap.size w W0 := by rw [hW0]; exact bel1 _ _
  have hs0 : W0.heap.size = w.heap.size + 1 := by rw [hW0]; simp
  have HN0 := hide (show NwK w.heap.size (.slice none 0 0) (.slice none 0 0) (.slice none 0 0) W0 from by rw [hW0]; exact NwK.new w _ _ _)
  have H0 := hide (isRow_belC h hb0)
  have HB0 := hide hb0
  have HW0 := hide hW0.symm
  clear h hW0 hb0
  go_enter Try.func13, Try.ntmps13
  go_wp2_with fail
  rw [unhide HW0]
  refine (open_calls a len cap zs W0 (unhide H0) hl).mono ?_
  rintro e w1 ⟨rfl, hR1, hb1⟩
  obtain ⟨R, hR⟩ : ∃ R, W0.heap.size = R := ⟨_, rfl⟩
  rw [hR] at hR1
  rw [hR]
  have HR1 := hide hR1
  have HB1 := hide (belOn (unhide HB0) hb1)
  have hz1 : R < w1.heap.size := hR1.lt
  have HN1 := hide ((unhide HN0).below hb1)
  clear hR1 hb1 HN0
  go_wp2_with fail
  refine (diskD_calls R a len cap zs w1 (unhide HR1)).mono ?_
  rintro e w2 ⟨aL, cL, live, aS, cS, safe, aO, cO, ops, rfl, ⟨r1, r2, r3⟩, ⟨ad1, ad2, ad3⟩, hfit, ⟨n1, n2, n3⟩, hR2, ho2⟩
  obtain ⟨W3, hW3⟩ : ∃ W3, W3 = w2.alloc (.cells #[.slice aL live.length cL, .slice aS safe.length cS, .slice aO ops.length cO] 27) := ⟨_, rfl⟩
  have hb3 : Below w2.heap.size w2 W3 := by rw [hW3]; exact bel1 _ _
  have hz2 := ho2.size
  have hs3 : W3.heap.size = w2.heap.size + 1 := by rw [hW3]; simp
  have HK3 := hide (show NwK w2.heap.size (.slice aL live.length cL) (.slice aS safe.length cS) (.slice aO ops.length cO) W3 from by rw [hW3]; exact NwK.new w2 _ _ _)
  have HN3 := hide (((unhide HN1).only ho2 (by omega)).below hb3)
  have HRW := hide (And.intro (r1.below hb3) (And.intro (r2.below hb3) (r3.below hb3)))
  have HNN := hide (And.intro n1 (And.intro n2 n3))
  have HAD := hide (And.intro ad1 (And.intro ad2 ad3))
  have HFT := hide hfit
  have hol : ops.length ≤ 200 := hfit.2.2.2.2.2
  have HR3 := hide (hR2.below hb3)
  have HB3 := hide ((unhide HB1).trans ((ho2.below (by show w.heap.size ≤ R; omega) (by omega)).trans (hb3.mono (by omega))))
  have HW3 := hide hW3.symm
  clear r1 r2 r3 ad1 ad2 ad3 hfit n1 n2 n3 hR2 ho2 hW3 hb3 HR1 HB1 HN1
  go_upto_region 3 with fail
  rw [unhide HW3]
  have hRB : R < W3.heap.size := by omega
  have hRn : w2.heap.size ≠ R := by omega
  have hRw : w.heap.size ≠ R := by omega
  have hRz : W3.heap.size ≠ R := by omega
  have hlD : w2.heap.size < W3.heap.size := by omega
  have hzw : w.heap.size ≤ W3.heap.size := by omega
  have hRw2 : w.heap.size ≤ R := by omega
  have hb4 := bel1 W3 (.cells nmsV 9)
  have HR4 := hide ((unhide HR3).below hb4)
  have HB4 := hide (belOn (unhide HB3) hb4)
  have HQ4 := hide ((KeepB.refl (B := W3.heap.size) (R := R) (W := W3) (Nat.le_refl _)).below hb4)
  have HS3 := hide hs3
  clear HR3 HB3 hs3 hb4
  go_wp2_with fail
  refine (below_calls R a len cap zs 4 _ (unhide HR4) (by omega) (by omega)).mono ?_
  rintro e w5 ⟨v, rfl, hv0, hv1, hR5, ho5⟩
  obtain ⟨K, rfl⟩ := Int.eq_ofNat_of_zero_le hv0
  have hK : K < 4 := by omega
  have hc : w5.cell? ⟨W3.heap.size, K, none⟩ = some (.string (nmsL.getD K ByteArray.empty)) := by
    rw [ho5.cell ⟨W3.heap.size, K, none⟩ (by simp) (by simp)]
    exact (cell_of_row _ _ K nmsV _ _ (show (W3.alloc _).heap[W3.heap.size]? = _ from (MapKept.heap_alloc W3 _).1)).trans (nmsV_get K hK)
  have hns := nms_size ⟨K, hK⟩
  simp only at hns
  generalize nmsL.getD K ByteArray.empty = s1 at hc hns
  have HQ5 := hide ((unhide HQ4).only ho5)
  have HR5 := hide hR5
  have HB5 := hide ((unhide HB4).trans (ho5.below (by show w.heap.size ≤ R; exact hRw2) (unhide HB4).size))
  clear hR5 ho5 HR4 HB4 HQ4
  go_wp2_with fail
  refine (once_calls R a len cap zs 12 w5 (unhide HR5) (by omega) (by omega)).mono ?_
  rintro e w6 ⟨b, rfl, hR6, ho6⟩
  have HQ6 := hide ((unhide HQ5).only ho6)
  have HR6 := hide hR6
  have HB6 := hide ((unhide HB5).trans (ho6.below (by show w.heap.size ≤ R; exact hRw2) (unhide HB5).size))
  clear hR6 ho6 HR5 HB5 HQ5 hc
  go_upto_if 18 with fail
  go_cut [7] (fun s7 wx => ∃ nm : ByteArray, s7 = .string nm ∧ nm.size ≤ 100 ∧ Hid (KeepB W3.heap.size R W3 wx) ∧ Hid (Rd wx R a len cap zs) ∧ Hid (Below w.heap.size w wx))
  case first =>
    cases b with
    | true =>
      go_wp2_with fail
      refine (below_calls R a len cap zs 4 w6 (unhide HR6) (by omega) (by omega)).mono ?_
      rintro e w7 ⟨v2, rfl, hw0, hw1, hR7, ho7⟩
      obtain ⟨n, hn⟩ : ∃ n : Nat, 95 + v2 = (n : Int) := ⟨(95 + v2).toNat, by omega⟩
      have hmk := make_bytesK n w7 (by omega)
      have hcv : (convert 22 9 (.slice (some ⟨w7.heap.size, 0, none⟩) n n)).run Try.prog (w7.alloc (.cells (zerosA n) 5)) = .ok (.string (strOfNums (List.replicate n 0))) (w7.alloc (.cells (zerosA n) 5)) :=
        run_convert_bytes_arg _ _ _ Try.underlying22 Try.underlying5 w7.heap.size 0 n n (List.replicate n 0) (by simp) (fun i hi => by
          rw [Nat.zero_add, cell_of_row _ _ i _ _ _ (show (w7.alloc (.cells (zerosA n) 5)).heap[w7.heap.size]? = _ from (MapKept.heap_alloc w7 _).1)]
          rw [zerosA_get n i hi]
          simp [hi, List.getD]) _ Try.underlying9
      obtain ⟨bb, hbb⟩ : ∃ bb, strOfNums (List.replicate n 0) = bb := ⟨_, rfl⟩
      have hbs : bb.size ≤ 100 := by rw [← hbb, strOfNums_size]; simp; omega
      rw [hbb] at hcv
      have hz7 : W3.heap.size ≤ w7.heap.size := Nat.le_trans (Nat.le_trans (unhide HQ6).lo (unhide HQ6).sz) ho7.size
      have HQ7 := hide (((unhide HQ6).only ho7).below ((Below.refl W3.heap.size w7).alloc hz7 (.cells (zerosA n) 5)))
      have HR7 := hide (hR7.below (bel1 w7 (.cells (zerosA n) 5)))
      have HB7 := hide (belOn ((unhide HB6).trans (ho7.below (by show w.heap.size ≤ R; exact hRw2) (unhide HB6).size)) (bel1 w7 (.cells (zerosA n) 5)))
      clear hR7 ho7 hbb HR6 HB6 HQ6
      go_wp2_with fail
      go_meet
      exact ⟨bb, rfl, hbs, HQ7, HR7, HB7⟩
    | false =>
      go_wp2_with fail
      go_meet
      exact ⟨s1, rfl, by omega, HQ6, HR6, HB6⟩
  case rest =>
  obtain ⟨w7, rfl⟩ : ∃ w7, w7 = wc := ⟨_, rfl⟩
  clear HQ6 HR6 HB6
  obtain ⟨nm, rfl, hnm, HQ, HR, HB⟩ := hcut
  have HQd := hide ((unhide HQ).below (belDrew (Below.refl W3.heap.size w7)))
  have HRd := hide ((unhide HR).below (belDrew (Below.refl _ _)))
  have HBd := hide ((unhide HB).trans (belDrew (Below.refl w.heap.size w7)))
  have q0 := (unhide HQd).cell (unhide HK3).c0 hlD hRn
  have q1 := (unhide HQd).cell (unhide HK3).c1 hlD hRn
  have q2 := (unhide HQd).cell (unhide HK3).c2 hlD hRn
  clear HQ HR HB
  go_upto_region 6 with fail
  go_region_law (first
    | (go_simp; go_at_call 39; refine (data_calls R a len cap zs w7.drew (unhide HRd)).mono ?_; rintro e w8 ⟨dt, rfl, hdt, hR8, ho8⟩; have HQ8 := hide ((unhide HQd).only ho8); have HB8 := hide ((unhide HBd).trans (ho8.below (by show w.heap.size ≤ R; exact hRw2) (unhide HBd).size)); have u0 := (unhide HQ8).cell (unhide HK3).c0 hlD hRn; have u1 := (unhide HQ8).cell (unhide HK3).c1 hlD hRn; have u2 := (unhide HQ8).cell (unhide HK3).c2 hlD hRn; have d0 := (unhide HQ8).cell (unhide HN3).c0 (unhide HN3).lt hRw; have d1 := (unhide HQ8).cell (unhide HN3).c1 (unhide HN3).lt hRw; have d2 := (unhide HQ8).cell (unhide HN3).c2 (unhide HN3).lt hRw; have f0 := (unhide HQ8).frz (unhide HN3).z0 (unhide HN3).lt hRw; have f1 := (unhide HQ8).frz (unhide HN3).z1 (unhide HN3).lt hRw; have f2 := (unhide HQ8).frz (unhide HN3).z2 (unhide HN3).lt hRw; clear hR8 ho8))
  all_goals (try go_wp2_with fail)
  all_goals refine bodyPost_ret (v := .tuple #[.agg #[.slice aL live.length cL, .slice aS safe.length cS, .slice aO ops.length cO], .string nm, .string dt]) (by simp [results, Try.results13, go_sem, d0, d1, d2]) rfl ?_
  all_goals
    obtain ⟨n1, n2, n3⟩ := unhide HNN
    obtain ⟨r1, r2, r3⟩ := unhide HRW
    have hQ := unhide HQ8
    exact ⟨aL, cL, live, aS, cS, safe, aO, cO, ops, nm, dt, rfl, ⟨RowAt.set3K (RowAt.kb r1 hQ (fun g hg => by have := n1 g hg; omega) rfl) (fun g hg => by have := n1 g hg; omega), RowAt.set3K (RowAt.kb r2 hQ (fun g hg => by have := n2 g hg; omega) rfl) (fun g hg => by have := n2 g hg; omega), rowO_set3 (RowO.kb r3 hQ (fun g hg => by have := n3 g hg; omega) rfl) (fun g hg => by have := n3 g hg; omega)⟩, unhide HAD, unhide HFT, ⟨hnm, hdt⟩, belSet3 (unhide HB8) (Nat.le_refl _)⟩
end Go.Proofs.Ytknpccpfjclngaa
