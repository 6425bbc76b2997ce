/- Many ops done on a disk, wherever they and the disk lie, by the program. -/
import Derived.Test.YtknpccpfjclngaaGAI
import Derived.Test.YtknpccpfjclngaaGAK
namespace Go.Proofs.Ytknpccpfjclngaa
open Go.RowKit Go.Maps Plain
set_option linter.unusedVariables false

set_option maxRecDepth 10000 in
set_option maxHeartbeats 16000000 in
theorem impl_doAllN (q1L : Option Addr) (nL cL : Nat) (live : List Fl) (q2S : Option Addr) (nS cS : Nat) (safe : List Fl) (q3O : Option Addr) (nO cO : Nat) (ops : List Dop) (a4 : Option Addr) (nX cX : Nat) (xs : List Dop) (w : World) (h : DiskN w q1L nL cL live q2S nS cS safe q3O nO cO ops)
    (hx : RowAt dopE w a4 xs) (hxn : xs.length = nX) (hx2 : nX ≤ 1000) (hxs : ∀ o ∈ xs, SmO o) :
    Calls Try.prog 44 #[.agg #[.slice q1L nL cL, .slice q2S nS cS, .slice q3O nO cO], .slice a4 nX cX] w (DskPost (fun v => .tuple #[v, .int .i64 (actC live safe ops xs)]) (actL live safe ops xs) (actS live safe ops) (actO live safe ops xs) w) := by
  obtain ⟨Wa, hWa⟩ : ∃ Wa, Wa = w.alloc (.cells #[.slice q1L nL cL, .slice q2S nS cS, .slice q3O nO cO] 27) := ⟨_, rfl⟩
  obtain ⟨W0, hW0⟩ : ∃ W0, W0 = Wa.alloc (.cells #[.slice none 0 0, .slice none 0 0, .slice none 0 0] 27) := ⟨_, rfl⟩
  have hba : Below w.heap.size w Wa := by rw [hWa]; exact bel1 _ _
  have hsa : Wa.heap.size = w.heap.size + 1 := by rw [hWa]; simp
  have hs0 : W0.heap.size = w.heap.size + 2 := by rw [hW0]; simp [hsa]
  have hb0 : Below Wa.heap.size Wa W0 := by rw [hW0]; exact bel1 _ _
  have c0 : W0.cell? ⟨w.heap.size, 0, none⟩ = some (.slice q1L nL cL) := bcl hb0 (by omega) (by rw [hWa]; simp [go_sem])
  have c1 : W0.cell? ⟨w.heap.size, 1, none⟩ = some (.slice q2S nS cS) := bcl hb0 (by omega) (by rw [hWa]; simp [go_sem])
  have c2 : W0.cell? ⟨w.heap.size, 2, none⟩ = some (.slice q3O nO cO) := bcl hb0 (by omega) (by rw [hWa]; simp [go_sem])
  have hr : ∀ i, i < 3 → W0.cell? ⟨w.heap.size + 1, i, none⟩ = some (.slice none 0 0) ∧ W0.frozen? ⟨w.heap.size + 1, i, none⟩ = false := by
    intro i hi
    rw [hW0, ← hsa]
    rcases i with _ | _ | _ | i
    all_goals first | omega | simp [go_sem]
  have HC := hide (fun (W : World) (hW : Below W0.heap.size W0 W) => And.intro (bcl hW (show w.heap.size < W0.heap.size by omega) c0) (And.intro (bcl hW (show w.heap.size < W0.heap.size by omega) c1) (bcl hW (show w.heap.size < W0.heap.size by omega) c2)))
  have HR := hide (fun (W : World) (hW : Below W0.heap.size W0 W) (i : Nat) (hi : i < 3) => And.intro (bcl hW (show w.heap.size + 1 < W0.heap.size by omega) (hr i hi).1) ((hW.frozen (p := ⟨w.heap.size + 1, i, none⟩) (show w.heap.size + 1 < W0.heap.size by omega)).trans (hr i hi).2))
  have HFIN := hide (fun (W : World) (hW : Below W0.heap.size W0 W) => belOn (belOn hba hb0) hW)
  have HD := hide (fun (W : World) (hW : Below W0.heap.size W0 W) => (h.below (belOn hba hb0)).below hW)
  have HX := hide (fun (W : World) (hW : Below W0.heap.size W0 W) => (hx.below (belOn hba hb0)).below hW)
  have HW0 := hide (show (w.alloc (.cells #[.slice q1L nL cL, .slice q2S nS cS, .slice q3O nO cO] 27)).alloc (.cells #[.slice none 0 0, .slice none 0 0, .slice none 0 0] 27) = W0 from by rw [hW0, hWa])
  have HCP := hide (fun (W : World) (hW : Below W0.heap.size W0 W) => copyOfDiskN_calls q1L nL cL live q2S nS cS safe q3O nO cO ops W (unhide HD _ hW))
  have HLL := hide h.ll
  have HLS := hide h.ls
  have HLO := hide h.lo
  have HLX := hide hxn
  have HSX := hide hxs
  have HFL := hide h.fl
  have HOK := hide (impl_DiskOkO q1L nL cL live q2S nS cS safe q3O nO cO ops W0 (unhide HD _ (Below.refl _ _)).toDiskO)
  have HS0 := hide hs0
  clear hba hb0 hWa hW0 hr h hsa hs0 hx hxn hxs
  obtain ⟨PC, hPC⟩ : ∃ x, actC live safe ops xs = x := ⟨_, rfl⟩
  obtain ⟨PL, hPL⟩ : ∃ x, actL live safe ops xs = x := ⟨_, rfl⟩
  obtain ⟨PS, hPS⟩ : ∃ x, actS live safe ops = x := ⟨_, rfl⟩
  obtain ⟨PO, hPO⟩ : ∃ x, actO live safe ops xs = x := ⟨_, rfl⟩
  rw [hPC, hPL, hPS, hPO]
  unfold actC at hPC
  unfold actL at hPL
  unfold actS at hPS
  unfold actO at hPO
  cases hd : diskB live safe ops with
  | false =>
    rw [hd] at HOK hPC hPL hPS hPO
    have HP := hide (And.intro hPC (And.intro hPL (And.intro hPS hPO)))
    clear hd hPC hPL hPS hPO
    go_enter Try.func44, Try.ntmps44
    go_wp2_with fail
    rw [unhide HW0]
    refine (unhide HOK).mono ?_
    rintro e w1 ⟨rfl, hb1⟩
    have HB1 := hide hb1
    obtain ⟨r0, z0⟩ := unhide HR _ hb1 0 (by decide)
    obtain ⟨r1, z1⟩ := unhide HR _ hb1 1 (by decide)
    obtain ⟨r2, z2⟩ := unhide HR _ hb1 2 (by decide)
    clear hb1 c0 c1 c2
    go_wp2_with fail
    refine bodyPost_ret (v := .tuple #[.agg #[.slice none 0 0, .slice none 0 0, .slice none 0 0], .int .i64 1]) (by simp [results, Try.results44, go_sem, r0, r1, r2]) rfl ?_
    obtain ⟨p1, p2, p3, p4⟩ := unhide HP
    have p1' : PC = 1 := p1.symm
    have p2' : PL = [] := p2.symm
    have p3' : PS = [] := p3.symm
    have p4' : PO = [] := p4.symm
    subst p1' p2' p3' p4'
    have hs0 := unhide HS0
    exact dskRet (B := w.heap.size + 2) (ownR_nil _ _ _) (ownR_nil _ _ _) (ownR_nil _ _ _) apartNil2 (by omega) (by omega) (unhide HFIN _ (unhide HB1))
  | true =>
    rw [hd] at HOK hPC hPL hPS hPO
    rw [unhide HLO] at hPC hPL hPO
    have hfs : filesB live = true := disk_liv2 hd
    have HFS := hide hfs
    obtain ⟨RA, hRA⟩ : ∃ x, goA live nO xs = x := ⟨_, rfl⟩
    rw [hRA] at hPC hPL hPO
    have HP := hide (And.intro hPC (And.intro hPL (And.intro hPS hPO)))
    have HRA := hide hRA
    have hn60 : nL ≤ 60 := by have h1 := (files_small hfs).1; rw [unhide HLL] at h1; exact h1
    clear hd hPC hPL hPS hPO hRA hfs
    go_enter Try.func44, Try.ntmps44
    go_wp2_with fail
    rw [unhide HW0]
    refine (unhide HOK).mono ?_
    rintro e w1 ⟨rfl, hb1⟩
    have HB1 := hide hb1
    obtain ⟨q0, q1, q2⟩ := unhide HC _ hb1
    have l0 : w.heap.size < w1.heap.size := lt_of_cell q0
    have HTB := hide (fun (W : World) (hW : Below W0.heap.size W0 W) => tableOf_calls q1L nL cL live W (unhide HLL) (by omega) (unhide HFL) (unhide HD _ hW).rl)
    have hs0 := unhide HS0
    have hz1 := hb1.size
    clear hb1 c0 c1 c2
    go_wp2_with fail
    go_region_held3 (fun w' => w'.cell? ⟨w.heap.size, 0, none⟩ = some (.slice q1L nL cL) ∧ w'.cell? ⟨w.heap.size, 1, none⟩ = some (.slice q2S nS cS) ∧ w'.cell? ⟨w.heap.size, 2, none⟩ = some (.slice q3O nO cO)) (go_keep) (first
      | (go_at_call 60; refine (unhide HCP _ (belDrew (belOn (unhide HB1) (bel1 _ _)))).mono ?_; rintro e w2 ⟨yL, kL, yS, kS, yO, kO, rfl, o1, o2, o3, ap, hb2⟩; have B2 : Below w1.heap.size w1 w2 := belOn (bel1 _ _) (bOfDrew hb2); have ne1 : ¬ w1.heap.size = w.heap.size := (by omega); have lk : (w1.alloc (.cells #[.slice none 0 0, .slice none 0 0, .slice none 0 0] 27)).drew.heap.size = w1.heap.size + 1 := (by show (w1.alloc _).heap.size = _; simp); have n0 : w2.cell? ⟨w1.heap.size, 0, none⟩ = some (.slice none 0 0) := bcl hb2 (by omega) (by simp [go_sem]); have n1 : w2.cell? ⟨w1.heap.size, 1, none⟩ = some (.slice none 0 0) := bcl hb2 (by omega) (by simp [go_sem]); have n2 : w2.cell? ⟨w1.heap.size, 2, none⟩ = some (.slice none 0 0) := bcl hb2 (by omega) (by simp [go_sem]); have i0 : w2.frozen? ⟨w1.heap.size, 0, none⟩ = false := (hb2.frozen (p := ⟨w1.heap.size, 0, none⟩) (show w1.heap.size < _ by omega)).trans (by simp [go_sem]); have i1 : w2.frozen? ⟨w1.heap.size, 1, none⟩ = false := (hb2.frozen (p := ⟨w1.heap.size, 1, none⟩) (show w1.heap.size < _ by omega)).trans (by simp [go_sem]); have i2 : w2.frozen? ⟨w1.heap.size, 2, none⟩ = false := (hb2.frozen (p := ⟨w1.heap.size, 2, none⟩) (show w1.heap.size < _ by omega)).trans (by simp [go_sem]); have q0' := bcl B2 l0 q0; have q1' := bcl B2 l0 q1; have q2' := bcl B2 l0 q2)
      | (go_at_call 60; refine (unhide HCP _ (belDrew (unhide HB1))).mono ?_; rintro e w2 ⟨yL, kL, yS, kS, yO, kO, rfl, o1, o2, o3, ap, hb2⟩; have B2 : Below w1.heap.size w1 w2 := bOfDrew hb2; have q0' := bcl B2 l0 q0; have q1' := bcl B2 l0 q1; have q2' := bcl B2 l0 q2)
      | (go_at_call 26; refine (unhide HTB _ (belOn (belOn (unhide HB1) B2) (bel1 _ _))).mono ?_; rintro e w3 ⟨b, m0, rfl, hbb, hm0, HT0, hb3⟩; have B3 : Below w1.heap.size w1 w3 := belOn (belOn B2 (bel1 _ _)) hb3; have K3 : Below w2.heap.size w2 w3 := belOn (bel1 _ _) hb3; have ne2 : ¬ w2.heap.size = w.heap.size := (by have := B2.size; omega); have lk : (w2.alloc (.cells #[.slice none 0 0, .slice none 0 0, .slice none 0 0] 27)).heap.size = w2.heap.size + 1 := (by simp); have u0 : w3.cell? ⟨w2.heap.size, 0, none⟩ = some (.slice none 0 0) := bcl hb3 (by omega) (by simp [go_sem]); have u1 : w3.cell? ⟨w2.heap.size, 1, none⟩ = some (.slice none 0 0) := bcl hb3 (by omega) (by simp [go_sem]); have u2 : w3.cell? ⟨w2.heap.size, 2, none⟩ = some (.slice none 0 0) := bcl hb3 (by omega) (by simp [go_sem]); have j0 : w3.frozen? ⟨w2.heap.size, 0, none⟩ = false := (hb3.frozen (p := ⟨w2.heap.size, 0, none⟩) (show w2.heap.size < _ by omega)).trans (by simp [go_sem]); have j1 : w3.frozen? ⟨w2.heap.size, 1, none⟩ = false := (hb3.frozen (p := ⟨w2.heap.size, 1, none⟩) (show w2.heap.size < _ by omega)).trans (by simp [go_sem]); have j2 : w3.frozen? ⟨w2.heap.size, 2, none⟩ = false := (hb3.frozen (p := ⟨w2.heap.size, 2, none⟩) (show w2.heap.size < _ by omega)).trans (by simp [go_sem]); have q0'' := bcl B3 l0 q0; have q1'' := bcl B3 l0 q1; have q2'' := bcl B3 l0 q2)
      | (go_at_call 26; refine (unhide HTB _ (belOn (unhide HB1) B2)).mono ?_; rintro e w3 ⟨b, m0, rfl, hbb, hm0, HT0, hb3⟩; have B3 : Below w1.heap.size w1 w3 := belOn B2 hb3; have K3 := hb3; have ln : w1.heap.size < w2.heap.size := lt_of_cell n0; have u0 := bcl hb3 ln n0; have u1 := bcl hb3 ln n1; have u2 := bcl hb3 ln n2; have j0 := (hb3.frozen (p := ⟨w1.heap.size, 0, none⟩) ln).trans i0; have j1 := (hb3.frozen (p := ⟨w1.heap.size, 1, none⟩) ln).trans i1; have j2 := (hb3.frozen (p := ⟨w1.heap.size, 2, none⟩) ln).trans i2; have q0'' := bcl B3 l0 q0; have q1'' := bcl B3 l0 q1; have q2'' := bcl B3 l0 q2)
      | (go_at_call 26; refine (unhide HTB _ (belOn (unhide HB1) B2)).mono ?_; rintro e w3 ⟨b, m0, rfl, hbb, hm0, HT0, hb3⟩; have B3 : Below w1.heap.size w1 w3 := belOn B2 hb3; have K3 := hb3; have q0'' := bcl B3 l0 q0; have q1'' := bcl B3 l0 q1; have q2'' := bcl B3 l0 q2))
    · have hlt3 := (unhide HT0).lt
      have hzd : w1.drew.heap.size = w1.heap.size := rfl
      have hz2 := B2.size
      have hz3 := K3.size
      have HNX := hide (show NxAt (w3.alloc (.cells #[.slice yL live.length kL, .slice yS safe.length kS, .slice yO ops.length kO] 27)) W0.heap.size b m0 w3.heap.size live (.slice yL live.length kL) yS kS yO kO safe (ops ++ xs.take 0) from by
        rw [show ops ++ xs.take 0 = ops from by simp]
        exact NxAt.mk2 (unhide HT0) (unhide HFS) (by omega) (by omega) ((o2.keep K3).le (by omega)) ((o3.keep K3).le (by omega)) ap.so (fun h => by have := (o2.bl _ h).2; omega) (fun h => by have := (o3.bl _ h).2; omega))
      have HB5 := hide (show Below W0.heap.size W0 (w3.alloc (.cells #[.slice yL live.length kL, .slice yS safe.length kS, .slice yO ops.length kO] 27)) from belOn (belOn (unhide HB1) B3) (bel1 _ _))
      obtain ⟨W5, hW5⟩ : ∃ W5, w3.alloc (.cells #[.slice yL live.length kL, .slice yS safe.length kS, .slice yO ops.length kO] 27) = W5 := ⟨_, rfl⟩
      rw [hW5] at HNX HB5 ⊢
      have hm60 : m0 ≤ 60 := by omega
      clear o1 o2 o3 ap hb2 B2 q0' q1' q2' hbb hm0 HT0 hb3 B3 K3 q0'' q1'' q2'' q0 q1 q2 hW5 hlt3 hzd
      go_wp2_with fail
      go_loopw [23] (fun i wr => ∃ (k m : Nat) (now : List Fl) (zO : Option Addr) (lO : Nat), i = .int .i64 k ∧ k ≤ nX ∧ m ≤ 60 + k ∧ Hid (NxAt wr W0.heap.size b m w3.heap.size now (.slice yL live.length kL) yS kS zO lO safe (ops ++ xs.take k)) ∧ Hid (goA now (nO + k) (xs.drop k) = RA) ∧ Hid (Below W0.heap.size W0 wr)) (fun i _ => nX - (intOf i).toNat)
      case atStart => exact ⟨0, m0, live, yO, kO, rfl, by omega, by omega, HNX, hide (unhide HRA), HB5⟩
      case round =>
        obtain ⟨k, m, now, zO, lO, rfl, hk, hm, HN, HG, HB⟩ := hrel
        have hos : (ops ++ xs.take k).length = nO + k := by rw [List.length_append, unhide HLO, List.length_take, unhide HLX]; omega
        have hNB : w3.heap.size < wr.heap.size := lt_of_cell (unhide HN).c0
        by_cases hkn : k < nX
        · have hkl : k < xs.length := by rw [unhide HLX]; exact hkn
          obtain ⟨g', e1, l1, p0, p1, p2, p3⟩ := (unhide HX _ (unhide HB)).dop k hkl
          subst e1
          have hsm := unhide HSX xs[k] (by simp)
          have hst := (goA_step now (nO + k) xs k hkl).symm.trans (unhide HG)
          have htk : ops ++ xs.take (k + 1) = (ops ++ xs.take k) ++ [xs[k]] := by rw [List.take_succ_eq_append_getElem hkl, List.append_assoc]
          generalize xs[k] = o at p0 p1 p2 p3 hsm hst htk
          have HCH := hide (fun W => changeOf_calls o W hsm.fit)
          have HAP := hide (fun (W : World) (hT : Tab W b m (tabF now)) (ho : formB o = true) => apply_calls b m now o W hT (files_ok (unhide HN).ok).2 ho (by omega) (small_fit (unhide HN).ok) hsm.fit)
          have HTF := hide (fun (W : World) (m : Nat) (ho : formB o = true) (hT : Tab W b m (tabF (doF now o).1)) => tooFull_do b m now o W (unhide HN).ok ho hsm hT)
          have HLIT := hide (fun (W : World) => dopLit W o)
          obtain ⟨V, hV⟩ : ∃ V, chV o = V := ⟨_, rfl⟩
          have hDV : dopV o = .agg #[.int .i64 o.kind, .string o.name, .string o.to, .string o.data] := rfl
          rw [hV, hDV] at HCH
          rw [hV] at HAP
          have HTK := hide htk
          generalize hfm : formB o = FB at HCH HAP HTF hst
          generalize doF now o = D at HAP HTF hst
          obtain ⟨kd, nm, to, dt⟩ := o
          simp only at p0 p1 p2 p3 HCH HLIT
          obtain ⟨nx, bb⟩ := D
          simp only at HAP HTF hst
          have HST := hide hst
          have i0 : (0 : Int) ≤ (k : Int) := by omega
          have i1 : (k : Int) < (nX : Int) := by omega
          obtain ⟨Wv, hWv⟩ : ∃ Wv, Wv = wr.alloc (.cells #[.int .i64 kd, .string nm, .string to, .string dt] 50) := ⟨_, rfl⟩
          have hbv : Below wr.heap.size wr Wv := by rw [hWv]; exact bel1 _ _
          have s0 : Wv.cell? ⟨wr.heap.size, 0, none⟩ = some (.int .i64 kd) := by rw [hWv]; simp [go_sem]
          have s1 : Wv.cell? ⟨wr.heap.size, 1, none⟩ = some (.string nm) := by rw [hWv]; simp [go_sem]
          have s2 : Wv.cell? ⟨wr.heap.size, 2, none⟩ = some (.string to) := by rw [hWv]; simp [go_sem]
          have s3 : Wv.cell? ⟨wr.heap.size, 3, none⟩ = some (.string dt) := by rw [hWv]; simp [go_sem]
          have HWv := hide hWv.symm
          have hlv : wr.heap.size < Wv.heap.size := lt_of_cell s0
          clear hsm hst hfm hV hDV hWv htk HG
          go_wp2_with fail
          rw [unhide HWv]
          refine (unhide HCH _).mono ?_
          rintro e w4 ⟨rfl, hb4⟩
          have HB4 := hide (belOn (belOn (unhide HB) hbv) hb4)
          have HN4 := hide ((unhide HN).below (belOn hbv hb4))
          have HT4 := hide (unhide HN4).tab
          have u0 := bcl hb4 hlv s0
          have u1 := bcl hb4 hlv s1
          have u2 := bcl hb4 hlv s2
          have u3 := bcl hb4 hlv s3
          have hbl : b < wr.heap.size := (unhide HN).tab.lt
          have hbW : W0.heap.size ≤ b := (unhide HN).bB
          have hl4 : wr.heap.size < w4.heap.size := lt_of_cell u0
          clear hb4 hbv s0 s1 s2 s3 p0 p1 p2 p3
          cases FB with
          | false =>
            clear u0 u1 u2 u3
            obtain ⟨q0, q1, q2⟩ := unhide HC _ (unhide HB4)
            have HRX := hide (show RA = (2, []) from by rw [← unhide HST]; rfl)
            go_wp2_with fail
            clear q0 q1 q2
            refine (unhide HCP _ (unhide HB4)).mono ?_
            rintro e wf ⟨aL, iL, aS, iS, aO, iO, rfl, o1, o2, o3, apf, hbf⟩
            have HBf := hide (belOn (unhide HB4) hbf)
            have HOf := hide (And.intro o1 (And.intro o2 (And.intro o3 apf)))
            obtain ⟨r0, z0⟩ := unhide HR _ (unhide HBf) 0 (by decide)
            obtain ⟨r1, z1⟩ := unhide HR _ (unhide HBf) 1 (by decide)
            obtain ⟨r2, z2⟩ := unhide HR _ (unhide HBf) 2 (by decide)
            clear o1 o2 o3 apf hbf
            go_wp2_with fail
            refine bodyPost_ret (v := .tuple #[.agg #[.slice aL live.length iL, .slice aS safe.length iS, .slice aO ops.length iO], .int .i64 2]) (by simp [results, Try.results44, go_sem, r0, r1, r2]) rfl ?_
            obtain ⟨p1, p2, p3, p4⟩ := unhide HP
            rw [unhide HRX] at p1 p2 p4
            have p1' : PC = 2 := p1.symm
            have p2' : PL = live := p2.symm
            have p3' : PS = safe := p3.symm
            have p4' : PO = ops := p4.symm
            subst p1' p2' p3' p4'
            obtain ⟨o1, o2, o3, apf⟩ := unhide HOf
            have hzz := (unhide HB4).size
            exact dskRet o1 o2 o3 apf (by omega) (by omega) (unhide HFIN _ (unhide HBf))
          | true =>
            go_wp2_with fail
            refine (unhide HAP w4 (unhide HT4) (by trivial)).mono ?_
            rintro e w5 ⟨rfl, HT5, ho5⟩
            have HO5 := hide ho5
            have HB5 := hide ((unhide HB4).trans (ho5.below (fun g o e => by cases e; exact hbW) (unhide HB4).size))
            have hne : ∀ o, some (⟨b, 0, none⟩ : Addr) ≠ some ⟨wr.heap.size, o, none⟩ := fun o e => by cases e; omega
            have v0 := (ho5.cell hl4 hne).trans u0
            have v1 := (ho5.cell hl4 hne).trans u1
            have v2 := (ho5.cell hl4 hne).trans u2
            have v3 := (ho5.cell hl4 hne).trans u3
            have x2 := grCell ho5.gr (Ne.symm (unhide HN4).bn) (unhide HN4).c2
            rw [hos] at x2
            have hl5 : wr.heap.size < w5.heap.size := lt_of_cell v0
            clear ho5 u0 u1 u2 u3 hne
            cases bb with
            | false =>
              clear v0 v1 v2 v3 x2
              obtain ⟨q0, q1, q2⟩ := unhide HC _ (unhide HB5)
              have HRX := hide (show RA = (3, []) from by rw [← unhide HST]; rfl)
              go_wp2_with fail
              clear q0 q1 q2
              refine (unhide HCP _ (unhide HB5)).mono ?_
              rintro e wf ⟨aL, iL, aS, iS, aO, iO, rfl, o1, o2, o3, apf, hbf⟩
              have HBf := hide (belOn (unhide HB5) hbf)
              have HOf := hide (And.intro o1 (And.intro o2 (And.intro o3 apf)))
              obtain ⟨r0, z0⟩ := unhide HR _ (unhide HBf) 0 (by decide)
              obtain ⟨r1, z1⟩ := unhide HR _ (unhide HBf) 1 (by decide)
              obtain ⟨r2, z2⟩ := unhide HR _ (unhide HBf) 2 (by decide)
              clear o1 o2 o3 apf hbf
              go_wp2_with fail
              refine bodyPost_ret (v := .tuple #[.agg #[.slice aL live.length iL, .slice aS safe.length iS, .slice aO ops.length iO], .int .i64 3]) (by simp [results, Try.results44, go_sem, r0, r1, r2]) rfl ?_
              obtain ⟨p1, p2, p3, p4⟩ := unhide HP
              rw [unhide HRX] at p1 p2 p4
              have p1' : PC = 3 := p1.symm
              have p2' : PL = live := p2.symm
              have p3' : PS = safe := p3.symm
              have p4' : PO = ops := p4.symm
              subst p1' p2' p3' p4'
              obtain ⟨o1, o2, o3, apf⟩ := unhide HOf
              have hzz := (unhide HB5).size
              exact dskRet o1 o2 o3 apf (by omega) (by omega) (unhide HFIN _ (unhide HBf))
            | true =>
              by_cases h200 : nO + k < 200
              · have g200 : ¬ (200 : Int) ≤ ((nO + k : Nat) : Int) := by omega
                go_wp2_with fail
                refine (unhide HTF w5 (m + 1) (by trivial) (unhide HT5)).mono ?_
                rintro e w6 ⟨rfl, hb6⟩
                have HB6 := hide (belOn (unhide HB5) hb6)
                have t0 := bcl hb6 hl5 v0
                have t1 := bcl hb6 hl5 v1
                have t2 := bcl hb6 hl5 v2
                have t3 := bcl hb6 hl5 v3
                have HK6 := hide hb6
                clear hb6 v0 v1 v2 v3 x2
                cases hfl : filesB nx with
                | false =>
                  clear t0 t1 t2 t3
                  obtain ⟨q0, q1, q2⟩ := unhide HC _ (unhide HB6)
                  have HRX := hide (show RA = (4, []) from by rw [← unhide HST, hfl, Bool.and_false]; rfl)
                  go_wp2_with fail
                  clear q0 q1 q2
                  refine (unhide HCP _ (unhide HB6)).mono ?_
                  rintro e wf ⟨aL, iL, aS, iS, aO, iO, rfl, o1, o2, o3, apf, hbf⟩
                  have HBf := hide (belOn (unhide HB6) hbf)
                  have HOf := hide (And.intro o1 (And.intro o2 (And.intro o3 apf)))
                  obtain ⟨r0, z0⟩ := unhide HR _ (unhide HBf) 0 (by decide)
                  obtain ⟨r1, z1⟩ := unhide HR _ (unhide HBf) 1 (by decide)
                  obtain ⟨r2, z2⟩ := unhide HR _ (unhide HBf) 2 (by decide)
                  clear o1 o2 o3 apf hbf
                  go_wp2_with fail
                  refine bodyPost_ret (v := .tuple #[.agg #[.slice aL live.length iL, .slice aS safe.length iS, .slice aO ops.length iO], .int .i64 4]) (by simp [results, Try.results44, go_sem, r0, r1, r2]) rfl ?_
                  obtain ⟨p1, p2, p3, p4⟩ := unhide HP
                  rw [unhide HRX] at p1 p2 p4
                  have p1' : PC = 4 := p1.symm
                  have p2' : PL = live := p2.symm
                  have p3' : PS = safe := p3.symm
                  have p4' : PO = ops := p4.symm
                  subst p1' p2' p3' p4'
                  obtain ⟨o1, o2, o3, apf⟩ := unhide HOf
                  have hzz := (unhide HB6).size
                  exact dskRet o1 o2 o3 apf (by omega) (by omega) (unhide HFIN _ (unhide HBf))
                | true =>
                  have HRX := hide (show goA nx (nO + (k + 1)) (xs.drop (k + 1)) = RA from by rw [← unhide HST, hfl, decide_eq_true h200]; rfl)
                  have HN6 := hide (((unhide HN4).applied (unhide HO5) (unhide HT5) hfl).below (unhide HK6))
                  have y0 := (unhide HN6).c2
                  have yz := (unhide HN6).z2
                  have hln : w3.heap.size < w6.heap.size := lt_of_cell y0
                  rw [hos] at y0
                  have hl6 : wr.heap.size < w6.heap.size := lt_of_cell t0
                  obtain ⟨Wl, hWl⟩ : ∃ Wl, Wl = w6.alloc (.cells #[.int .i64 kd, .string nm, .string to, .string dt] 50) := ⟨_, rfl⟩
                  have hbl6 : Below w6.heap.size w6 Wl := by rw [hWl]; exact bel1 _ _
                  have hll : w6.heap.size < Wl.heap.size := by rw [hWl]; simp
                  have HLT := hide (show RowAt dopE Wl (some ⟨w6.heap.size, 0, none⟩) [⟨kd, nm, to, dt⟩] from by rw [hWl]; exact (unhide HLIT w6).at)
                  have HOW := hide (show OwnR dopE Wl W0.heap.size (.slice zO (nO + k) lO) (ops ++ xs.take k) from by have := (unhide HN6).o.keep hbl6; rw [hos] at this; exact this)
                  have HBL := hide hbl6
                  have HWl := hide hWl.symm
                  have hWW := Nat.le_trans (unhide HB6).size hbl6.size
                  have hob := (unhide HN6).on
                  have HIN := hide (show ∀ g, (Value.slice zO (nO + k) lO).ownBlock = some g → inB zO g from fun g q => (unhide HOW).inb q)
                  have d2 := bcl hbl6 hln y0
                  have dz := (hbl6.frozen (p := ⟨w3.heap.size, 2, none⟩) hln).trans yz
                  clear hfl hWl hbl6 HST
                  have x0 : Wl.cell? ⟨wr.heap.size, 0, none⟩ = some (.int .i64 kd) := bcl (unhide HBL) hl6 t0
                  go_wp2_with (at_builtin; rw [unhide HWl]; go_must (refine appLd (e := dopE) rfl _ _ rfl (unhide HOW) rfl w6.heap.size 1 1 rfl rfl (unhide HLT) (by omega) (by rw [hos]; omega) (by omega) ?_); intro g7 c7 w7 ow7 gr7 li7; have y2 : w7.cell? ⟨w3.heap.size, 2, none⟩ = some (.slice zO (nO + k) lO) := (World.cell?_of_block (a := ⟨w3.heap.size, 2, none⟩) (gr7.block w3.heap.size (by omega) (fun q => hob (unhide HIN _ q.symm)))).trans d2; have yf : w7.frozen? ⟨w3.heap.size, 2, none⟩ = false := (World.frozen?_of_block (a := ⟨w3.heap.size, 2, none⟩) (gr7.block w3.heap.size (by omega) (fun q => hob (unhide HIN _ q.symm)))).trans dz)
                  have HNZ := hide ((unhide HN6).added (x := ⟨kd, nm, to, dt⟩) (unhide HBL) hll (by rw [hos]; exact gr7) ow7 (by rw [hos]; exact li7))
                  have HB7 := hide (((unhide HB6).trans ((unhide HBL).mono (unhide HB6).size)).trans (own_below (unhide HOW) gr7 hWW))
                  have hNW : W0.heap.size ≤ w3.heap.size := (unhide HN6).nB
                  rw [hos] at HNZ
                  clear gr7 ow7 li7 y2 yf
                  go_roundw
                  case rel => exact ⟨k + 1, m + 1, nx, some ⟨g7, 0, none⟩, c7, by go_num, by omega, by omega, hide (by rw [unhide HTK]; exact unhide HNZ), HRX, hide ((unhide HB7).setCell hNW _)⟩
                  case measure => simp [intOf]; omega
              · have g200 : (200 : Int) ≤ ((nO + k : Nat) : Int) := by omega
                clear v0 v1 v2 v3
                obtain ⟨q0, q1, q2⟩ := unhide HC _ (unhide HB5)
                have HRX := hide (show RA = (4, []) from by rw [← unhide HST, decide_eq_false h200]; rfl)
                go_wp2_with fail
                clear q0 q1 q2
                refine (unhide HCP _ (unhide HB5)).mono ?_
                rintro e wf ⟨aL, iL, aS, iS, aO, iO, rfl, o1, o2, o3, apf, hbf⟩
                have HBf := hide (belOn (unhide HB5) hbf)
                have HOf := hide (And.intro o1 (And.intro o2 (And.intro o3 apf)))
                obtain ⟨r0, z0⟩ := unhide HR _ (unhide HBf) 0 (by decide)
                obtain ⟨r1, z1⟩ := unhide HR _ (unhide HBf) 1 (by decide)
                obtain ⟨r2, z2⟩ := unhide HR _ (unhide HBf) 2 (by decide)
                clear o1 o2 o3 apf hbf
                go_wp2_with fail
                refine bodyPost_ret (v := .tuple #[.agg #[.slice aL live.length iL, .slice aS safe.length iS, .slice aO ops.length iO], .int .i64 4]) (by simp [results, Try.results44, go_sem, r0, r1, r2]) rfl ?_
                obtain ⟨p1, p2, p3, p4⟩ := unhide HP
                rw [unhide HRX] at p1 p2 p4
                have p1' : PC = 4 := p1.symm
                have p2' : PL = live := p2.symm
                have p3' : PS = safe := p3.symm
                have p4' : PO = ops := p4.symm
                subst p1' p2' p3' p4'
                obtain ⟨o1, o2, o3, apf⟩ := unhide HOf
                have hzz := (unhide HB5).size
                exact dskRet o1 o2 o3 apf (by omega) (by omega) (unhide HFIN _ (unhide HBf))
        · obtain rfl : k = nX := by omega
          have hG := unhide HG
          rw [List.drop_of_length_le (by rw [unhide HLX]; exact Nat.le_refl _)] at hG
          have HRX := hide (show RA = (0, now) from hG.symm)
          have hok := (unhide HN).ok
          have hnow := (files_small hok).1
          have HLI := hide (list_calls b m now wr (unhide HN).tab (files_ok hok).2 (by omega) (small_fit hok))
          clear hG HG hok
          go_wp2_with fail
          refine (unhide HLI).mono ?_
          rintro e w7 ⟨v7, rfl, hO7, hb7⟩
          obtain ⟨a7, c7, rfl⟩ := hO7.form
          have hn7 := (unhide HN).below hb7
          have HB7 := hide (belOn (unhide HB) hb7)
          have hNW : W0.heap.size ≤ w3.heap.size := hn7.nB
          have y0 := hn7.c0
          have y1 := hn7.c1
          have y2 := hn7.c2
          have yz := hn7.z0
          obtain ⟨r0, z0⟩ := unhide HR _ (unhide HB7) 0 (by decide)
          obtain ⟨r1, z1⟩ := unhide HR _ (unhide HB7) 1 (by decide)
          obtain ⟨r2, z2⟩ := unhide HR _ (unhide HB7) 2 (by decide)
          have HO7 := hide hO7
          have HN7 := hide hn7
          have HB7w := hide hb7
          have k0 : (w7.setCell ⟨w3.heap.size, 0, none⟩ (.slice a7 now.length c7)).cell? ⟨w3.heap.size, 0, none⟩ = some (.slice a7 now.length c7) := cell_set y0
          have k1 : (w7.setCell ⟨w3.heap.size, 0, none⟩ (.slice a7 now.length c7)).cell? ⟨w3.heap.size, 1, none⟩ = some (.slice yS safe.length kS) := (cell_off (.inr (by decide))).trans y1
          have k2 : (w7.setCell ⟨w3.heap.size, 0, none⟩ (.slice a7 now.length c7)).cell? ⟨w3.heap.size, 2, none⟩ = some (.slice zO (ops ++ xs.take k).length lO) := (cell_off (.inr (by decide))).trans y2
          have ner : w3.heap.size ≠ w.heap.size + 1 := by omega
          have k3 : (w7.setCell ⟨w3.heap.size, 0, none⟩ (.slice a7 now.length c7)).cell? ⟨w.heap.size + 1, 0, none⟩ = some (.slice none 0 0) := (cell_off (.inl ner)).trans r0
          have k4 : (w7.setCell ⟨w3.heap.size, 0, none⟩ (.slice a7 now.length c7)).cell? ⟨w.heap.size + 1, 1, none⟩ = some (.slice none 0 0) := (cell_off (.inl ner)).trans r1
          have k5 : (w7.setCell ⟨w3.heap.size, 0, none⟩ (.slice a7 now.length c7)).cell? ⟨w.heap.size + 1, 2, none⟩ = some (.slice none 0 0) := (cell_off (.inl ner)).trans r2
          clear hO7 hn7 hb7
          go_wp2_with fail
          refine bodyPost_ret (v := .tuple #[.agg #[.slice a7 now.length c7, .slice yS safe.length kS, .slice zO (nO + k) lO], .int .i64 0]) (by simp [results, Try.results44, go_sem, k3, k4, k5]) rfl ?_
          have htk : xs.take k = xs := List.take_of_length_le (by rw [unhide HLX]; exact Nat.le_refl _)
          obtain ⟨p1, p2, p3, p4⟩ := unhide HP
          rw [unhide HRX] at p1 p2 p4
          have p1' : PC = 0 := p1.symm
          have p2' : PL = now := p2.symm
          have p3' : PS = safe := p3.symm
          have p4' : PO = ops ++ xs.take k := by rw [htk]; exact p4.symm
          subst p1' p2' p3' p4'
          have st : w7.grownBy (w7.setCell ⟨w3.heap.size, 0, none⟩ (.slice a7 PL.length c7)) (some w3.heap.size) := (OnlyRow.set (g := w3.heap.size) (o := 0) 0 _).gr
          have hzr := (unhide HB).size
          have hfar : ∀ g, inB a7 g → wr.heap.size ≤ g := fun g h => ((unhide HO7).bl g h).1
          have hn0 := unhide HN
          have hfin := dskRet (f := fun v => .tuple #[v, .int .i64 0]) (B := W0.heap.size) (rb := w.heap.size + 1) (((unhide HO7).off st (fun h => by have := hfar _ h; omega)).le hzr) ((unhide HN7).s.off st (unhide HN7).sn) ((unhide HN7).o.off st (unhide HN7).on) ⟨fun g h1 h2 => by have := hfar g h1; have := (hn0.s.bl g h2).2; omega, fun g h1 h2 => by have := hfar g h1; have := (hn0.o.bl g h2).2; omega, hn0.so⟩ (by omega) (by omega) ((unhide HFIN _ (unhide HB7)).setCell (show w.heap.size ≤ w3.heap.size by omega) _)
          rw [hos] at hfin
          exact hfin
    · have hlt3 := (unhide HT0).lt
      have hzd : w1.drew.heap.size = w1.heap.size := rfl
      have hz2 := B2.size
      have hz3 := K3.size
      have HNX := hide (show NxAt (((w3.setCell ⟨w2.heap.size, 0, none⟩ (.slice yL live.length kL)).setCell ⟨w2.heap.size, 1, none⟩ (.slice yS safe.length kS)).setCell ⟨w2.heap.size, 2, none⟩ (.slice yO ops.length kO)) W0.heap.size b m0 w2.heap.size live (.slice yL live.length kL) yS kS yO kO safe (ops ++ xs.take 0) from by
        rw [show ops ++ xs.take 0 = ops from by simp]
        exact NxAt.mk1 (unhide HT0) (unhide HFS) (by omega) (by omega) (by omega) ((o2.keep K3).le (by omega)) ((o3.keep K3).le (by omega)) ap.so (fun h => by have := (o2.bl _ h).2; omega) (fun h => by have := (o3.bl _ h).2; omega) (fun h => by have := (o2.bl _ h).2; omega) (fun h => by have := (o3.bl _ h).2; omega) u0 u1 u2 j0 j2)
      have HB5 := hide (show Below W0.heap.size W0 (((w3.setCell ⟨w2.heap.size, 0, none⟩ (.slice yL live.length kL)).setCell ⟨w2.heap.size, 1, none⟩ (.slice yS safe.length kS)).setCell ⟨w2.heap.size, 2, none⟩ (.slice yO ops.length kO)) from (((belOn (unhide HB1) B3).setCell (show W0.heap.size ≤ w2.heap.size by omega) _).setCell (show W0.heap.size ≤ w2.heap.size by omega) _).setCell (show W0.heap.size ≤ w2.heap.size by omega) _)
      obtain ⟨W5, hW5⟩ : ∃ W5, ((w3.setCell ⟨w2.heap.size, 0, none⟩ (.slice yL live.length kL)).setCell ⟨w2.heap.size, 1, none⟩ (.slice yS safe.length kS)).setCell ⟨w2.heap.size, 2, none⟩ (.slice yO ops.length kO) = W5 := ⟨_, rfl⟩
      rw [hW5] at HNX HB5 ⊢
      have hm60 : m0 ≤ 60 := by omega
      clear o1 o2 o3 ap hb2 B2 q0' q1' q2' hbb hm0 HT0 hb3 B3 K3 q0'' q1'' q2'' q0 q1 q2 hW5 hlt3 hzd
      go_wp2_with fail
      go_loopw [23] (fun i wr => ∃ (k m : Nat) (now : List Fl) (zO : Option Addr) (lO : Nat), i = .int .i64 k ∧ k ≤ nX ∧ m ≤ 60 + k ∧ Hid (NxAt wr W0.heap.size b m w2.heap.size now (.slice yL live.length kL) yS kS zO lO safe (ops ++ xs.take k)) ∧ Hid (goA now (nO + k) (xs.drop k) = RA) ∧ Hid (Below W0.heap.size W0 wr)) (fun i _ => nX - (intOf i).toNat)
      case atStart => exact ⟨0, m0, live, yO, kO, rfl, by omega, by omega, HNX, hide (unhide HRA), HB5⟩
      case round =>
        obtain ⟨k, m, now, zO, lO, rfl, hk, hm, HN, HG, HB⟩ := hrel
        have hos : (ops ++ xs.take k).length = nO + k := by rw [List.length_append, unhide HLO, List.length_take, unhide HLX]; omega
        have hNB : w2.heap.size < wr.heap.size := lt_of_cell (unhide HN).c0
        by_cases hkn : k < nX
        · have hkl : k < xs.length := by rw [unhide HLX]; exact hkn
          obtain ⟨g', e1, l1, p0, p1, p2, p3⟩ := (unhide HX _ (unhide HB)).dop k hkl
          subst e1
          have hsm := unhide HSX xs[k] (by simp)
          have hst := (goA_step now (nO + k) xs k hkl).symm.trans (unhide HG)
          have htk : ops ++ xs.take (k + 1) = (ops ++ xs.take k) ++ [xs[k]] := by rw [List.take_succ_eq_append_getElem hkl, List.append_assoc]
          generalize xs[k] = o at p0 p1 p2 p3 hsm hst htk
          have HCH := hide (fun W => changeOf_calls o W hsm.fit)
          have HAP := hide (fun (W : World) (hT : Tab W b m (tabF now)) (ho : formB o = true) => apply_calls b m now o W hT (files_ok (unhide HN).ok).2 ho (by omega) (small_fit (unhide HN).ok) hsm.fit)
          have HTF := hide (fun (W : World) (m : Nat) (ho : formB o = true) (hT : Tab W b m (tabF (doF now o).1)) => tooFull_do b m now o W (unhide HN).ok ho hsm hT)
          have HLIT := hide (fun (W : World) => dopLit W o)
          obtain ⟨V, hV⟩ : ∃ V, chV o = V := ⟨_, rfl⟩
          have hDV : dopV o = .agg #[.int .i64 o.kind, .string o.name, .string o.to, .string o.data] := rfl
          rw [hV, hDV] at HCH
          rw [hV] at HAP
          have HTK := hide htk
          generalize hfm : formB o = FB at HCH HAP HTF hst
          generalize doF now o = D at HAP HTF hst
          obtain ⟨kd, nm, to, dt⟩ := o
          simp only at p0 p1 p2 p3 HCH HLIT
          obtain ⟨nx, bb⟩ := D
          simp only at HAP HTF hst
          have HST := hide hst
          have i0 : (0 : Int) ≤ (k : Int) := by omega
          have i1 : (k : Int) < (nX : Int) := by omega
          obtain ⟨Wv, hWv⟩ : ∃ Wv, Wv = wr.alloc (.cells #[.int .i64 kd, .string nm, .string to, .string dt] 50) := ⟨_, rfl⟩
          have hbv : Below wr.heap.size wr Wv := by rw [hWv]; exact bel1 _ _
          have s0 : Wv.cell? ⟨wr.heap.size, 0, none⟩ = some (.int .i64 kd) := by rw [hWv]; simp [go_sem]
          have s1 : Wv.cell? ⟨wr.heap.size, 1, none⟩ = some (.string nm) := by rw [hWv]; simp [go_sem]
          have s2 : Wv.cell? ⟨wr.heap.size, 2, none⟩ = some (.string to) := by rw [hWv]; simp [go_sem]
          have s3 : Wv.cell? ⟨wr.heap.size, 3, none⟩ = some (.string dt) := by rw [hWv]; simp [go_sem]
          have HWv := hide hWv.symm
          have hlv : wr.heap.size < Wv.heap.size := lt_of_cell s0
          clear hsm hst hfm hV hDV hWv htk HG
          go_wp2_with fail
          rw [unhide HWv]
          refine (unhide HCH _).mono ?_
          rintro e w4 ⟨rfl, hb4⟩
          have HB4 := hide (belOn (belOn (unhide HB) hbv) hb4)
          have HN4 := hide ((unhide HN).below (belOn hbv hb4))
          have HT4 := hide (unhide HN4).tab
          have u0 := bcl hb4 hlv s0
          have u1 := bcl hb4 hlv s1
          have u2 := bcl hb4 hlv s2
          have u3 := bcl hb4 hlv s3
          have hbl : b < wr.heap.size := (unhide HN).tab.lt
          have hbW : W0.heap.size ≤ b := (unhide HN).bB
          have hl4 : wr.heap.size < w4.heap.size := lt_of_cell u0
          clear hb4 hbv s0 s1 s2 s3 p0 p1 p2 p3
          cases FB with
          | false =>
            clear u0 u1 u2 u3
            obtain ⟨q0, q1, q2⟩ := unhide HC _ (unhide HB4)
            have HRX := hide (show RA = (2, []) from by rw [← unhide HST]; rfl)
            go_wp2_with fail
            clear q0 q1 q2
            refine (unhide HCP _ (unhide HB4)).mono ?_
            rintro e wf ⟨aL, iL, aS, iS, aO, iO, rfl, o1, o2, o3, apf, hbf⟩
            have HBf := hide (belOn (unhide HB4) hbf)
            have HOf := hide (And.intro o1 (And.intro o2 (And.intro o3 apf)))
            obtain ⟨r0, z0⟩ := unhide HR _ (unhide HBf) 0 (by decide)
            obtain ⟨r1, z1⟩ := unhide HR _ (unhide HBf) 1 (by decide)
            obtain ⟨r2, z2⟩ := unhide HR _ (unhide HBf) 2 (by decide)
            clear o1 o2 o3 apf hbf
            go_wp2_with fail
            refine bodyPost_ret (v := .tuple #[.agg #[.slice aL live.length iL, .slice aS safe.length iS, .slice aO ops.length iO], .int .i64 2]) (by simp [results, Try.results44, go_sem, r0, r1, r2]) rfl ?_
            obtain ⟨p1, p2, p3, p4⟩ := unhide HP
            rw [unhide HRX] at p1 p2 p4
            have p1' : PC = 2 := p1.symm
            have p2' : PL = live := p2.symm
            have p3' : PS = safe := p3.symm
            have p4' : PO = ops := p4.symm
            subst p1' p2' p3' p4'
            obtain ⟨o1, o2, o3, apf⟩ := unhide HOf
            have hzz := (unhide HB4).size
            exact dskRet o1 o2 o3 apf (by omega) (by omega) (unhide HFIN _ (unhide HBf))
          | true =>
            go_wp2_with fail
            refine (unhide HAP w4 (unhide HT4) (by trivial)).mono ?_
            rintro e w5 ⟨rfl, HT5, ho5⟩
            have HO5 := hide ho5
            have HB5 := hide ((unhide HB4).trans (ho5.below (fun g o e => by cases e; exact hbW) (unhide HB4).size))
            have hne : ∀ o, some (⟨b, 0, none⟩ : Addr) ≠ some ⟨wr.heap.size, o, none⟩ := fun o e => by cases e; omega
            have v0 := (ho5.cell hl4 hne).trans u0
            have v1 := (ho5.cell hl4 hne).trans u1
            have v2 := (ho5.cell hl4 hne).trans u2
            have v3 := (ho5.cell hl4 hne).trans u3
            have x2 := grCell ho5.gr (Ne.symm (unhide HN4).bn) (unhide HN4).c2
            rw [hos] at x2
            have hl5 : wr.heap.size < w5.heap.size := lt_of_cell v0
            clear ho5 u0 u1 u2 u3 hne
            cases bb with
            | false =>
              clear v0 v1 v2 v3 x2
              obtain ⟨q0, q1, q2⟩ := unhide HC _ (unhide HB5)
              have HRX := hide (show RA = (3, []) from by rw [← unhide HST]; rfl)
              go_wp2_with fail
              clear q0 q1 q2
              refine (unhide HCP _ (unhide HB5)).mono ?_
              rintro e wf ⟨aL, iL, aS, iS, aO, iO, rfl, o1, o2, o3, apf, hbf⟩
              have HBf := hide (belOn (unhide HB5) hbf)
              have HOf := hide (And.intro o1 (And.intro o2 (And.intro o3 apf)))
              obtain ⟨r0, z0⟩ := unhide HR _ (unhide HBf) 0 (by decide)
              obtain ⟨r1, z1⟩ := unhide HR _ (unhide HBf) 1 (by decide)
              obtain ⟨r2, z2⟩ := unhide HR _ (unhide HBf) 2 (by decide)
              clear o1 o2 o3 apf hbf
              go_wp2_with fail
              refine bodyPost_ret (v := .tuple #[.agg #[.slice aL live.length iL, .slice aS safe.length iS, .slice aO ops.length iO], .int .i64 3]) (by simp [results, Try.results44, go_sem, r0, r1, r2]) rfl ?_
              obtain ⟨p1, p2, p3, p4⟩ := unhide HP
              rw [unhide HRX] at p1 p2 p4
              have p1' : PC = 3 := p1.symm
              have p2' : PL = live := p2.symm
              have p3' : PS = safe := p3.symm
              have p4' : PO = ops := p4.symm
              subst p1' p2' p3' p4'
              obtain ⟨o1, o2, o3, apf⟩ := unhide HOf
              have hzz := (unhide HB5).size
              exact dskRet o1 o2 o3 apf (by omega) (by omega) (unhide HFIN _ (unhide HBf))
            | true =>
              by_cases h200 : nO + k < 200
              · have g200 : ¬ (200 : Int) ≤ ((nO + k : Nat) : Int) := by omega
                go_wp2_with fail
                refine (unhide HTF w5 (m + 1) (by trivial) (unhide HT5)).mono ?_
                rintro e w6 ⟨rfl, hb6⟩
                have HB6 := hide (belOn (unhide HB5) hb6)
                have t0 := bcl hb6 hl5 v0
                have t1 := bcl hb6 hl5 v1
                have t2 := bcl hb6 hl5 v2
                have t3 := bcl hb6 hl5 v3
                have HK6 := hide hb6
                clear hb6 v0 v1 v2 v3 x2
                cases hfl : filesB nx with
                | false =>
                  clear t0 t1 t2 t3
                  obtain ⟨q0, q1, q2⟩ := unhide HC _ (unhide HB6)
                  have HRX := hide (show RA = (4, []) from by rw [← unhide HST, hfl, Bool.and_false]; rfl)
                  go_wp2_with fail
                  clear q0 q1 q2
                  refine (unhide HCP _ (unhide HB6)).mono ?_
                  rintro e wf ⟨aL, iL, aS, iS, aO, iO, rfl, o1, o2, o3, apf, hbf⟩
                  have HBf := hide (belOn (unhide HB6) hbf)
                  have HOf := hide (And.intro o1 (And.intro o2 (And.intro o3 apf)))
                  obtain ⟨r0, z0⟩ := unhide HR _ (unhide HBf) 0 (by decide)
                  obtain ⟨r1, z1⟩ := unhide HR _ (unhide HBf) 1 (by decide)
                  obtain ⟨r2, z2⟩ := unhide HR _ (unhide HBf) 2 (by decide)
                  clear o1 o2 o3 apf hbf
                  go_wp2_with fail
                  refine bodyPost_ret (v := .tuple #[.agg #[.slice aL live.length iL, .slice aS safe.length iS, .slice aO ops.length iO], .int .i64 4]) (by simp [results, Try.results44, go_sem, r0, r1, r2]) rfl ?_
                  obtain ⟨p1, p2, p3, p4⟩ := unhide HP
                  rw [unhide HRX] at p1 p2 p4
                  have p1' : PC = 4 := p1.symm
                  have p2' : PL = live := p2.symm
                  have p3' : PS = safe := p3.symm
                  have p4' : PO = ops := p4.symm
                  subst p1' p2' p3' p4'
                  obtain ⟨o1, o2, o3, apf⟩ := unhide HOf
                  have hzz := (unhide HB6).size
                  exact dskRet o1 o2 o3 apf (by omega) (by omega) (unhide HFIN _ (unhide HBf))
                | true =>
                  have HRX := hide (show goA nx (nO + (k + 1)) (xs.drop (k + 1)) = RA from by rw [← unhide HST, hfl, decide_eq_true h200]; rfl)
                  have HN6 := hide (((unhide HN4).applied (unhide HO5) (unhide HT5) hfl).below (unhide HK6))
                  have y0 := (unhide HN6).c2
                  have yz := (unhide HN6).z2
                  have hln : w2.heap.size < w6.heap.size := lt_of_cell y0
                  rw [hos] at y0
                  have hl6 : wr.heap.size < w6.heap.size := lt_of_cell t0
                  obtain ⟨Wl, hWl⟩ : ∃ Wl, Wl = w6.alloc (.cells #[.int .i64 kd, .string nm, .string to, .string dt] 50) := ⟨_, rfl⟩
                  have hbl6 : Below w6.heap.size w6 Wl := by rw [hWl]; exact bel1 _ _
                  have hll : w6.heap.size < Wl.heap.size := by rw [hWl]; simp
                  have HLT := hide (show RowAt dopE Wl (some ⟨w6.heap.size, 0, none⟩) [⟨kd, nm, to, dt⟩] from by rw [hWl]; exact (unhide HLIT w6).at)
                  have HOW := hide (show OwnR dopE Wl W0.heap.size (.slice zO (nO + k) lO) (ops ++ xs.take k) from by have := (unhide HN6).o.keep hbl6; rw [hos] at this; exact this)
                  have HBL := hide hbl6
                  have HWl := hide hWl.symm
                  have hWW := Nat.le_trans (unhide HB6).size hbl6.size
                  have hob := (unhide HN6).on
                  have HIN := hide (show ∀ g, (Value.slice zO (nO + k) lO).ownBlock = some g → inB zO g from fun g q => (unhide HOW).inb q)
                  have d2 := bcl hbl6 hln y0
                  have dz := (hbl6.frozen (p := ⟨w2.heap.size, 2, none⟩) hln).trans yz
                  clear hfl hWl hbl6 HST
                  have x0 : Wl.cell? ⟨wr.heap.size, 0, none⟩ = some (.int .i64 kd) := bcl (unhide HBL) hl6 t0
                  go_wp2_with (at_builtin; rw [unhide HWl]; go_must (refine appLd (e := dopE) rfl _ _ rfl (unhide HOW) rfl w6.heap.size 1 1 rfl rfl (unhide HLT) (by omega) (by rw [hos]; omega) (by omega) ?_); intro g7 c7 w7 ow7 gr7 li7; have y2 : w7.cell? ⟨w2.heap.size, 2, none⟩ = some (.slice zO (nO + k) lO) := (World.cell?_of_block (a := ⟨w2.heap.size, 2, none⟩) (gr7.block w2.heap.size (by omega) (fun q => hob (unhide HIN _ q.symm)))).trans d2; have yf : w7.frozen? ⟨w2.heap.size, 2, none⟩ = false := (World.frozen?_of_block (a := ⟨w2.heap.size, 2, none⟩) (gr7.block w2.heap.size (by omega) (fun q => hob (unhide HIN _ q.symm)))).trans dz)
                  have HNZ := hide ((unhide HN6).added (x := ⟨kd, nm, to, dt⟩) (unhide HBL) hll (by rw [hos]; exact gr7) ow7 (by rw [hos]; exact li7))
                  have HB7 := hide (((unhide HB6).trans ((unhide HBL).mono (unhide HB6).size)).trans (own_below (unhide HOW) gr7 hWW))
                  have hNW : W0.heap.size ≤ w2.heap.size := (unhide HN6).nB
                  rw [hos] at HNZ
                  clear gr7 ow7 li7 y2 yf
                  go_roundw
                  case rel => exact ⟨k + 1, m + 1, nx, some ⟨g7, 0, none⟩, c7, by go_num, by omega, by omega, hide (by rw [unhide HTK]; exact unhide HNZ), HRX, hide ((unhide HB7).setCell hNW _)⟩
                  case measure => simp [intOf]; omega
              · have g200 : (200 : Int) ≤ ((nO + k : Nat) : Int) := by omega
                clear v0 v1 v2 v3
                obtain ⟨q0, q1, q2⟩ := unhide HC _ (unhide HB5)
                have HRX := hide (show RA = (4, []) from by rw [← unhide HST, decide_eq_false h200]; rfl)
                go_wp2_with fail
                clear q0 q1 q2
                refine (unhide HCP _ (unhide HB5)).mono ?_
                rintro e wf ⟨aL, iL, aS, iS, aO, iO, rfl, o1, o2, o3, apf, hbf⟩
                have HBf := hide (belOn (unhide HB5) hbf)
                have HOf := hide (And.intro o1 (And.intro o2 (And.intro o3 apf)))
                obtain ⟨r0, z0⟩ := unhide HR _ (unhide HBf) 0 (by decide)
                obtain ⟨r1, z1⟩ := unhide HR _ (unhide HBf) 1 (by decide)
                obtain ⟨r2, z2⟩ := unhide HR _ (unhide HBf) 2 (by decide)
                clear o1 o2 o3 apf hbf
                go_wp2_with fail
                refine bodyPost_ret (v := .tuple #[.agg #[.slice aL live.length iL, .slice aS safe.length iS, .slice aO ops.length iO], .int .i64 4]) (by simp [results, Try.results44, go_sem, r0, r1, r2]) rfl ?_
                obtain ⟨p1, p2, p3, p4⟩ := unhide HP
                rw [unhide HRX] at p1 p2 p4
                have p1' : PC = 4 := p1.symm
                have p2' : PL = live := p2.symm
                have p3' : PS = safe := p3.symm
                have p4' : PO = ops := p4.symm
                subst p1' p2' p3' p4'
                obtain ⟨o1, o2, o3, apf⟩ := unhide HOf
                have hzz := (unhide HB5).size
                exact dskRet o1 o2 o3 apf (by omega) (by omega) (unhide HFIN _ (unhide HBf))
        · obtain rfl : k = nX := by omega
          have hG := unhide HG
          rw [List.drop_of_length_le (by rw [unhide HLX]; exact Nat.le_refl _)] at hG
          have HRX := hide (show RA = (0, now) from hG.symm)
          have hok := (unhide HN).ok
          have hnow := (files_small hok).1
          have HLI := hide (list_calls b m now wr (unhide HN).tab (files_ok hok).2 (by omega) (small_fit hok))
          clear hG HG hok
          go_wp2_with fail
          refine (unhide HLI).mono ?_
          rintro e w7 ⟨v7, rfl, hO7, hb7⟩
          obtain ⟨a7, c7, rfl⟩ := hO7.form
          have hn7 := (unhide HN).below hb7
          have HB7 := hide (belOn (unhide HB) hb7)
          have hNW : W0.heap.size ≤ w2.heap.size := hn7.nB
          have y0 := hn7.c0
          have y1 := hn7.c1
          have y2 := hn7.c2
          have yz := hn7.z0
          obtain ⟨r0, z0⟩ := unhide HR _ (unhide HB7) 0 (by decide)
          obtain ⟨r1, z1⟩ := unhide HR _ (unhide HB7) 1 (by decide)
          obtain ⟨r2, z2⟩ := unhide HR _ (unhide HB7) 2 (by decide)
          have HO7 := hide hO7
          have HN7 := hide hn7
          have HB7w := hide hb7
          have k0 : (w7.setCell ⟨w2.heap.size, 0, none⟩ (.slice a7 now.length c7)).cell? ⟨w2.heap.size, 0, none⟩ = some (.slice a7 now.length c7) := cell_set y0
          have k1 : (w7.setCell ⟨w2.heap.size, 0, none⟩ (.slice a7 now.length c7)).cell? ⟨w2.heap.size, 1, none⟩ = some (.slice yS safe.length kS) := (cell_off (.inr (by decide))).trans y1
          have k2 : (w7.setCell ⟨w2.heap.size, 0, none⟩ (.slice a7 now.length c7)).cell? ⟨w2.heap.size, 2, none⟩ = some (.slice zO (ops ++ xs.take k).length lO) := (cell_off (.inr (by decide))).trans y2
          have ner : w2.heap.size ≠ w.heap.size + 1 := by omega
          have k3 : (w7.setCell ⟨w2.heap.size, 0, none⟩ (.slice a7 now.length c7)).cell? ⟨w.heap.size + 1, 0, none⟩ = some (.slice none 0 0) := (cell_off (.inl ner)).trans r0
          have k4 : (w7.setCell ⟨w2.heap.size, 0, none⟩ (.slice a7 now.length c7)).cell? ⟨w.heap.size + 1, 1, none⟩ = some (.slice none 0 0) := (cell_off (.inl ner)).trans r1
          have k5 : (w7.setCell ⟨w2.heap.size, 0, none⟩ (.slice a7 now.length c7)).cell? ⟨w.heap.size + 1, 2, none⟩ = some (.slice none 0 0) := (cell_off (.inl ner)).trans r2
          clear hO7 hn7 hb7
          go_wp2_with fail
          refine bodyPost_ret (v := .tuple #[.agg #[.slice a7 now.length c7, .slice yS safe.length kS, .slice zO (nO + k) lO], .int .i64 0]) (by simp [results, Try.results44, go_sem, k3, k4, k5]) rfl ?_
          have htk : xs.take k = xs := List.take_of_length_le (by rw [unhide HLX]; exact Nat.le_refl _)
          obtain ⟨p1, p2, p3, p4⟩ := unhide HP
          rw [unhide HRX] at p1 p2 p4
          have p1' : PC = 0 := p1.symm
          have p2' : PL = now := p2.symm
          have p3' : PS = safe := p3.symm
          have p4' : PO = ops ++ xs.take k := by rw [htk]; exact p4.symm
          subst p1' p2' p3' p4'
          have st : w7.grownBy (w7.setCell ⟨w2.heap.size, 0, none⟩ (.slice a7 PL.length c7)) (some w2.heap.size) := (OnlyRow.set (g := w2.heap.size) (o := 0) 0 _).gr
          have hzr := (unhide HB).size
          have hfar : ∀ g, inB a7 g → wr.heap.size ≤ g := fun g h => ((unhide HO7).bl g h).1
          have hn0 := unhide HN
          have hfin := dskRet (f := fun v => .tuple #[v, .int .i64 0]) (B := W0.heap.size) (rb := w.heap.size + 1) (((unhide HO7).off st (fun h => by have := hfar _ h; omega)).le hzr) ((unhide HN7).s.off st (unhide HN7).sn) ((unhide HN7).o.off st (unhide HN7).on) ⟨fun g h1 h2 => by have := hfar g h1; have := (hn0.s.bl g h2).2; omega, fun g h1 h2 => by have := hfar g h1; have := (hn0.o.bl g h2).2; omega, hn0.so⟩ (by omega) (by omega) ((unhide HFIN _ (unhide HB7)).setCell (show w.heap.size ≤ w2.heap.size by omega) _)
          rw [hos] at hfin
          exact hfin
    · have hlt3 := (unhide HT0).lt
      have hzd : w1.drew.heap.size = w1.heap.size := rfl
      have hz2 := B2.size
      have hz3 := K3.size
      have HNX := hide (show NxAt (((w3.setCell ⟨w1.heap.size, 0, none⟩ (.slice yL live.length kL)).setCell ⟨w1.heap.size, 1, none⟩ (.slice yS safe.length kS)).setCell ⟨w1.heap.size, 2, none⟩ (.slice yO ops.length kO)) W0.heap.size b m0 w1.heap.size live (.slice yL live.length kL) yS kS yO kO safe (ops ++ xs.take 0) from by
        rw [show ops ++ xs.take 0 = ops from by simp]
        exact NxAt.mk1 (unhide HT0) (unhide HFS) (by omega) (by omega) (by omega) ((o2.keep K3).le (by omega)) ((o3.keep K3).le (by omega)) ap.so (fun h => by have := (o2.bl _ h).2; omega) (fun h => by have := (o3.bl _ h).2; omega) (fun h => by have := (o2.bl _ h).1; omega) (fun h => by have := (o3.bl _ h).1; omega) u0 u1 u2 j0 j2)
      have HB5 := hide (show Below W0.heap.size W0 (((w3.setCell ⟨w1.heap.size, 0, none⟩ (.slice yL live.length kL)).setCell ⟨w1.heap.size, 1, none⟩ (.slice yS safe.length kS)).setCell ⟨w1.heap.size, 2, none⟩ (.slice yO ops.length kO)) from (((belOn (unhide HB1) B3).setCell (show W0.heap.size ≤ w1.heap.size by omega) _).setCell (show W0.heap.size ≤ w1.heap.size by omega) _).setCell (show W0.heap.size ≤ w1.heap.size by omega) _)
      obtain ⟨W5, hW5⟩ : ∃ W5, ((w3.setCell ⟨w1.heap.size, 0, none⟩ (.slice yL live.length kL)).setCell ⟨w1.heap.size, 1, none⟩ (.slice yS safe.length kS)).setCell ⟨w1.heap.size, 2, none⟩ (.slice yO ops.length kO) = W5 := ⟨_, rfl⟩
      rw [hW5] at HNX HB5 ⊢
      have hm60 : m0 ≤ 60 := by omega
      clear o1 o2 o3 ap hb2 B2 q0' q1' q2' hbb hm0 HT0 hb3 B3 K3 q0'' q1'' q2'' q0 q1 q2 hW5 hlt3 hzd
      go_wp2_with fail
      go_loopw [23] (fun i wr => ∃ (k m : Nat) (now : List Fl) (zO : Option Addr) (lO : Nat), i = .int .i64 k ∧ k ≤ nX ∧ m ≤ 60 + k ∧ Hid (NxAt wr W0.heap.size b m w1.heap.size now (.slice yL live.length kL) yS kS zO lO safe (ops ++ xs.take k)) ∧ Hid (goA now (nO + k) (xs.drop k) = RA) ∧ Hid (Below W0.heap.size W0 wr)) (fun i _ => nX - (intOf i).toNat)
      case atStart => exact ⟨0, m0, live, yO, kO, rfl, by omega, by omega, HNX, hide (unhide HRA), HB5⟩
      case round =>
        obtain ⟨k, m, now, zO, lO, rfl, hk, hm, HN, HG, HB⟩ := hrel
        have hos : (ops ++ xs.take k).length = nO + k := by rw [List.length_append, unhide HLO, List.length_take, unhide HLX]; omega
        have hNB : w1.heap.size < wr.heap.size := lt_of_cell (unhide HN).c0
        by_cases hkn : k < nX
        · have hkl : k < xs.length := by rw [unhide HLX]; exact hkn
          obtain ⟨g', e1, l1, p0, p1, p2, p3⟩ := (unhide HX _ (unhide HB)).dop k hkl
          subst e1
          have hsm := unhide HSX xs[k] (by simp)
          have hst := (goA_step now (nO + k) xs k hkl).symm.trans (unhide HG)
          have htk : ops ++ xs.take (k + 1) = (ops ++ xs.take k) ++ [xs[k]] := by rw [List.take_succ_eq_append_getElem hkl, List.append_assoc]
          generalize xs[k] = o at p0 p1 p2 p3 hsm hst htk
          have HCH := hide (fun W => changeOf_calls o W hsm.fit)
          have HAP := hide (fun (W : World) (hT : Tab W b m (tabF now)) (ho : formB o = true) => apply_calls b m now o W hT (files_ok (unhide HN).ok).2 ho (by omega) (small_fit (unhide HN).ok) hsm.fit)
          have HTF := hide (fun (W : World) (m : Nat) (ho : formB o = true) (hT : Tab W b m (tabF (doF now o).1)) => tooFull_do b m now o W (unhide HN).ok ho hsm hT)
          have HLIT := hide (fun (W : World) => dopLit W o)
          obtain ⟨V, hV⟩ : ∃ V, chV o = V := ⟨_, rfl⟩
          have hDV : dopV o = .agg #[.int .i64 o.kind, .string o.name, .string o.to, .string o.data] := rfl
          rw [hV, hDV] at HCH
          rw [hV] at HAP
          have HTK := hide htk
          generalize hfm : formB o = FB at HCH HAP HTF hst
          generalize doF now o = D at HAP HTF hst
          obtain ⟨kd, nm, to, dt⟩ := o
          simp only at p0 p1 p2 p3 HCH HLIT
          obtain ⟨nx, bb⟩ := D
          simp only at HAP HTF hst
          have HST := hide hst
          have i0 : (0 : Int) ≤ (k : Int) := by omega
          have i1 : (k : Int) < (nX : Int) := by omega
          obtain ⟨Wv, hWv⟩ : ∃ Wv, Wv = wr.alloc (.cells #[.int .i64 kd, .string nm, .string to, .string dt] 50) := ⟨_, rfl⟩
          have hbv : Below wr.heap.size wr Wv := by rw [hWv]; exact bel1 _ _
          have s0 : Wv.cell? ⟨wr.heap.size, 0, none⟩ = some (.int .i64 kd) := by rw [hWv]; simp [go_sem]
          have s1 : Wv.cell? ⟨wr.heap.size, 1, none⟩ = some (.string nm) := by rw [hWv]; simp [go_sem]
          have s2 : Wv.cell? ⟨wr.heap.size, 2, none⟩ = some (.string to) := by rw [hWv]; simp [go_sem]
          have s3 : Wv.cell? ⟨wr.heap.size, 3, none⟩ = some (.string dt) := by rw [hWv]; simp [go_sem]
          have HWv := hide hWv.symm
          have hlv : wr.heap.size < Wv.heap.size := lt_of_cell s0
          clear hsm hst hfm hV hDV hWv htk HG
          go_wp2_with fail
          rw [unhide HWv]
          refine (unhide HCH _).mono ?_
          rintro e w4 ⟨rfl, hb4⟩
          have HB4 := hide (belOn (belOn (unhide HB) hbv) hb4)
          have HN4 := hide ((unhide HN).below (belOn hbv hb4))
          have HT4 := hide (unhide HN4).tab
          have u0 := bcl hb4 hlv s0
          have u1 := bcl hb4 hlv s1
          have u2 := bcl hb4 hlv s2
          have u3 := bcl hb4 hlv s3
          have hbl : b < wr.heap.size := (unhide HN).tab.lt
          have hbW : W0.heap.size ≤ b := (unhide HN).bB
          have hl4 : wr.heap.size < w4.heap.size := lt_of_cell u0
          clear hb4 hbv s0 s1 s2 s3 p0 p1 p2 p3
          cases FB with
          | false =>
            clear u0 u1 u2 u3
            obtain ⟨q0, q1, q2⟩ := unhide HC _ (unhide HB4)
            have HRX := hide (show RA = (2, []) from by rw [← unhide HST]; rfl)
            go_wp2_with fail
            clear q0 q1 q2
            refine (unhide HCP _ (unhide HB4)).mono ?_
            rintro e wf ⟨aL, iL, aS, iS, aO, iO, rfl, o1, o2, o3, apf, hbf⟩
            have HBf := hide (belOn (unhide HB4) hbf)
            have HOf := hide (And.intro o1 (And.intro o2 (And.intro o3 apf)))
            obtain ⟨r0, z0⟩ := unhide HR _ (unhide HBf) 0 (by decide)
            obtain ⟨r1, z1⟩ := unhide HR _ (unhide HBf) 1 (by decide)
            obtain ⟨r2, z2⟩ := unhide HR _ (unhide HBf) 2 (by decide)
            clear o1 o2 o3 apf hbf
            go_wp2_with fail
            refine bodyPost_ret (v := .tuple #[.agg #[.slice aL live.length iL, .slice aS safe.length iS, .slice aO ops.length iO], .int .i64 2]) (by simp [results, Try.results44, go_sem, r0, r1, r2]) rfl ?_
            obtain ⟨p1, p2, p3, p4⟩ := unhide HP
            rw [unhide HRX] at p1 p2 p4
            have p1' : PC = 2 := p1.symm
            have p2' : PL = live := p2.symm
            have p3' : PS = safe := p3.symm
            have p4' : PO = ops := p4.symm
            subst p1' p2' p3' p4'
            obtain ⟨o1, o2, o3, apf⟩ := unhide HOf
            have hzz := (unhide HB4).size
            exact dskRet o1 o2 o3 apf (by omega) (by omega) (unhide HFIN _ (unhide HBf))
          | true =>
            go_wp2_with fail
            refine (unhide HAP w4 (unhide HT4) (by trivial)).mono ?_
            rintro e w5 ⟨rfl, HT5, ho5⟩
            have HO5 := hide ho5
            have HB5 := hide ((unhide HB4).trans (ho5.below (fun g o e => by cases e; exact hbW) (unhide HB4).size))
            have hne : ∀ o, some (⟨b, 0, none⟩ : Addr) ≠ some ⟨wr.heap.size, o, none⟩ := fun o e => by cases e; omega
            have v0 := (ho5.cell hl4 hne).trans u0
            have v1 := (ho5.cell hl4 hne).trans u1
            have v2 := (ho5.cell hl4 hne).trans u2
            have v3 := (ho5.cell hl4 hne).trans u3
            have x2 := grCell ho5.gr (Ne.symm (unhide HN4).bn) (unhide HN4).c2
            rw [hos] at x2
            have hl5 : wr.heap.size < w5.heap.size := lt_of_cell v0
            clear ho5 u0 u1 u2 u3 hne
            cases bb with
            | false =>
              clear v0 v1 v2 v3 x2
              obtain ⟨q0, q1, q2⟩ := unhide HC _ (unhide HB5)
              have HRX := hide (show RA = (3, []) from by rw [← unhide HST]; rfl)
              go_wp2_with fail
              clear q0 q1 q2
              refine (unhide HCP _ (unhide HB5)).mono ?_
              rintro e wf ⟨aL, iL, aS, iS, aO, iO, rfl, o1, o2, o3, apf, hbf⟩
              have HBf := hide (belOn (unhide HB5) hbf)
              have HOf := hide (And.intro o1 (And.intro o2 (And.intro o3 apf)))
              obtain ⟨r0, z0⟩ := unhide HR _ (unhide HBf) 0 (by decide)
              obtain ⟨r1, z1⟩ := unhide HR _ (unhide HBf) 1 (by decide)
              obtain ⟨r2, z2⟩ := unhide HR _ (unhide HBf) 2 (by decide)
              clear o1 o2 o3 apf hbf
              go_wp2_with fail
              refine bodyPost_ret (v := .tuple #[.agg #[.slice aL live.length iL, .slice aS safe.length iS, .slice aO ops.length iO], .int .i64 3]) (by simp [results, Try.results44, go_sem, r0, r1, r2]) rfl ?_
              obtain ⟨p1, p2, p3, p4⟩ := unhide HP
              rw [unhide HRX] at p1 p2 p4
              have p1' : PC = 3 := p1.symm
              have p2' : PL = live := p2.symm
              have p3' : PS = safe := p3.symm
              have p4' : PO = ops := p4.symm
              subst p1' p2' p3' p4'
              obtain ⟨o1, o2, o3, apf⟩ := unhide HOf
              have hzz := (unhide HB5).size
              exact dskRet o1 o2 o3 apf (by omega) (by omega) (unhide HFIN _ (unhide HBf))
            | true =>
              by_cases h200 : nO + k < 200
              · have g200 : ¬ (200 : Int) ≤ ((nO + k : Nat) : Int) := by omega
                go_wp2_with fail
                refine (unhide HTF w5 (m + 1) (by trivial) (unhide HT5)).mono ?_
                rintro e w6 ⟨rfl, hb6⟩
                have HB6 := hide (belOn (unhide HB5) hb6)
                have t0 := bcl hb6 hl5 v0
                have t1 := bcl hb6 hl5 v1
                have t2 := bcl hb6 hl5 v2
                have t3 := bcl hb6 hl5 v3
                have HK6 := hide hb6
                clear hb6 v0 v1 v2 v3 x2
                cases hfl : filesB nx with
                | false =>
                  clear t0 t1 t2 t3
                  obtain ⟨q0, q1, q2⟩ := unhide HC _ (unhide HB6)
                  have HRX := hide (show RA = (4, []) from by rw [← unhide HST, hfl, Bool.and_false]; rfl)
                  go_wp2_with fail
                  clear q0 q1 q2
                  refine (unhide HCP _ (unhide HB6)).mono ?_
                  rintro e wf ⟨aL, iL, aS, iS, aO, iO, rfl, o1, o2, o3, apf, hbf⟩
                  have HBf := hide (belOn (unhide HB6) hbf)
                  have HOf := hide (And.intro o1 (And.intro o2 (And.intro o3 apf)))
                  obtain ⟨r0, z0⟩ := unhide HR _ (unhide HBf) 0 (by decide)
                  obtain ⟨r1, z1⟩ := unhide HR _ (unhide HBf) 1 (by decide)
                  obtain ⟨r2, z2⟩ := unhide HR _ (unhide HBf) 2 (by decide)
                  clear o1 o2 o3 apf hbf
                  go_wp2_with fail
                  refine bodyPost_ret (v := .tuple #[.agg #[.slice aL live.length iL, .slice aS safe.length iS, .slice aO ops.length iO], .int .i64 4]) (by simp [results, Try.results44, go_sem, r0, r1, r2]) rfl ?_
                  obtain ⟨p1, p2, p3, p4⟩ := unhide HP
                  rw [unhide HRX] at p1 p2 p4
                  have p1' : PC = 4 := p1.symm
                  have p2' : PL = live := p2.symm
                  have p3' : PS = safe := p3.symm
                  have p4' : PO = ops := p4.symm
                  subst p1' p2' p3' p4'
                  obtain ⟨o1, o2, o3, apf⟩ := unhide HOf
                  have hzz := (unhide HB6).size
                  exact dskRet o1 o2 o3 apf (by omega) (by omega) (unhide HFIN _ (unhide HBf))
                | true =>
                  have HRX := hide (show goA nx (nO + (k + 1)) (xs.drop (k + 1)) = RA from by rw [← unhide HST, hfl, decide_eq_true h200]; rfl)
                  have HN6 := hide (((unhide HN4).applied (unhide HO5) (unhide HT5) hfl).below (unhide HK6))
                  have y0 := (unhide HN6).c2
                  have yz := (unhide HN6).z2
                  have hln : w1.heap.size < w6.heap.size := lt_of_cell y0
                  rw [hos] at y0
                  have hl6 : wr.heap.size < w6.heap.size := lt_of_cell t0
                  obtain ⟨Wl, hWl⟩ : ∃ Wl, Wl = w6.alloc (.cells #[.int .i64 kd, .string nm, .string to, .string dt] 50) := ⟨_, rfl⟩
                  have hbl6 : Below w6.heap.size w6 Wl := by rw [hWl]; exact bel1 _ _
                  have hll : w6.heap.size < Wl.heap.size := by rw [hWl]; simp
                  have HLT := hide (show RowAt dopE Wl (some ⟨w6.heap.size, 0, none⟩) [⟨kd, nm, to, dt⟩] from by rw [hWl]; exact (unhide HLIT w6).at)
                  have HOW := hide (show OwnR dopE Wl W0.heap.size (.slice zO (nO + k) lO) (ops ++ xs.take k) from by have := (unhide HN6).o.keep hbl6; rw [hos] at this; exact this)
                  have HBL := hide hbl6
                  have HWl := hide hWl.symm
                  have hWW := Nat.le_trans (unhide HB6).size hbl6.size
                  have hob := (unhide HN6).on
                  have HIN := hide (show ∀ g, (Value.slice zO (nO + k) lO).ownBlock = some g → inB zO g from fun g q => (unhide HOW).inb q)
                  have d2 := bcl hbl6 hln y0
                  have dz := (hbl6.frozen (p := ⟨w1.heap.size, 2, none⟩) hln).trans yz
                  clear hfl hWl hbl6 HST
                  have x0 : Wl.cell? ⟨wr.heap.size, 0, none⟩ = some (.int .i64 kd) := bcl (unhide HBL) hl6 t0
                  go_wp2_with (at_builtin; rw [unhide HWl]; go_must (refine appLd (e := dopE) rfl _ _ rfl (unhide HOW) rfl w6.heap.size 1 1 rfl rfl (unhide HLT) (by omega) (by rw [hos]; omega) (by omega) ?_); intro g7 c7 w7 ow7 gr7 li7; have y2 : w7.cell? ⟨w1.heap.size, 2, none⟩ = some (.slice zO (nO + k) lO) := (World.cell?_of_block (a := ⟨w1.heap.size, 2, none⟩) (gr7.block w1.heap.size (by omega) (fun q => hob (unhide HIN _ q.symm)))).trans d2; have yf : w7.frozen? ⟨w1.heap.size, 2, none⟩ = false := (World.frozen?_of_block (a := ⟨w1.heap.size, 2, none⟩) (gr7.block w1.heap.size (by omega) (fun q => hob (unhide HIN _ q.symm)))).trans dz)
                  have HNZ := hide ((unhide HN6).added (x := ⟨kd, nm, to, dt⟩) (unhide HBL) hll (by rw [hos]; exact gr7) ow7 (by rw [hos]; exact li7))
                  have HB7 := hide (((unhide HB6).trans ((unhide HBL).mono (unhide HB6).size)).trans (own_below (unhide HOW) gr7 hWW))
                  have hNW : W0.heap.size ≤ w1.heap.size := (unhide HN6).nB
                  rw [hos] at HNZ
                  clear gr7 ow7 li7 y2 yf
                  go_roundw
                  case rel => exact ⟨k + 1, m + 1, nx, some ⟨g7, 0, none⟩, c7, by go_num, by omega, by omega, hide (by rw [unhide HTK]; exact unhide HNZ), HRX, hide ((unhide HB7).setCell hNW _)⟩
                  case measure => simp [intOf]; omega
              · have g200 : (200 : Int) ≤ ((nO + k : Nat) : Int) := by omega
                clear v0 v1 v2 v3
                obtain ⟨q0, q1, q2⟩ := unhide HC _ (unhide HB5)
                have HRX := hide (show RA = (4, []) from by rw [← unhide HST, decide_eq_false h200]; rfl)
                go_wp2_with fail
                clear q0 q1 q2
                refine (unhide HCP _ (unhide HB5)).mono ?_
                rintro e wf ⟨aL, iL, aS, iS, aO, iO, rfl, o1, o2, o3, apf, hbf⟩
                have HBf := hide (belOn (unhide HB5) hbf)
                have HOf := hide (And.intro o1 (And.intro o2 (And.intro o3 apf)))
                obtain ⟨r0, z0⟩ := unhide HR _ (unhide HBf) 0 (by decide)
                obtain ⟨r1, z1⟩ := unhide HR _ (unhide HBf) 1 (by decide)
                obtain ⟨r2, z2⟩ := unhide HR _ (unhide HBf) 2 (by decide)
                clear o1 o2 o3 apf hbf
                go_wp2_with fail
                refine bodyPost_ret (v := .tuple #[.agg #[.slice aL live.length iL, .slice aS safe.length iS, .slice aO ops.length iO], .int .i64 4]) (by simp [results, Try.results44, go_sem, r0, r1, r2]) rfl ?_
                obtain ⟨p1, p2, p3, p4⟩ := unhide HP
                rw [unhide HRX] at p1 p2 p4
                have p1' : PC = 4 := p1.symm
                have p2' : PL = live := p2.symm
                have p3' : PS = safe := p3.symm
                have p4' : PO = ops := p4.symm
                subst p1' p2' p3' p4'
                obtain ⟨o1, o2, o3, apf⟩ := unhide HOf
                have hzz := (unhide HB5).size
                exact dskRet o1 o2 o3 apf (by omega) (by omega) (unhide HFIN _ (unhide HBf))
        · obtain rfl : k = nX := by omega
          have hG := unhide HG
          rw [List.drop_of_length_le (by rw [unhide HLX]; exact Nat.le_refl _)] at hG
          have HRX := hide (show RA = (0, now) from hG.symm)
          have hok := (unhide HN).ok
          have hnow := (files_small hok).1
          have HLI := hide (list_calls b m now wr (unhide HN).tab (files_ok hok).2 (by omega) (small_fit hok))
          clear hG HG hok
          go_wp2_with fail
          refine (unhide HLI).mono ?_
          rintro e w7 ⟨v7, rfl, hO7, hb7⟩
          obtain ⟨a7, c7, rfl⟩ := hO7.form
          have hn7 := (unhide HN).below hb7
          have HB7 := hide (belOn (unhide HB) hb7)
          have hNW : W0.heap.size ≤ w1.heap.size := hn7.nB
          have y0 := hn7.c0
          have y1 := hn7.c1
          have y2 := hn7.c2
          have yz := hn7.z0
          obtain ⟨r0, z0⟩ := unhide HR _ (unhide HB7) 0 (by decide)
          obtain ⟨r1, z1⟩ := unhide HR _ (unhide HB7) 1 (by decide)
          obtain ⟨r2, z2⟩ := unhide HR _ (unhide HB7) 2 (by decide)
          have HO7 := hide hO7
          have HN7 := hide hn7
          have HB7w := hide hb7
          have k0 : (w7.setCell ⟨w1.heap.size, 0, none⟩ (.slice a7 now.length c7)).cell? ⟨w1.heap.size, 0, none⟩ = some (.slice a7 now.length c7) := cell_set y0
          have k1 : (w7.setCell ⟨w1.heap.size, 0, none⟩ (.slice a7 now.length c7)).cell? ⟨w1.heap.size, 1, none⟩ = some (.slice yS safe.length kS) := (cell_off (.inr (by decide))).trans y1
          have k2 : (w7.setCell ⟨w1.heap.size, 0, none⟩ (.slice a7 now.length c7)).cell? ⟨w1.heap.size, 2, none⟩ = some (.slice zO (ops ++ xs.take k).length lO) := (cell_off (.inr (by decide))).trans y2
          have ner : w1.heap.size ≠ w.heap.size + 1 := by omega
          have k3 : (w7.setCell ⟨w1.heap.size, 0, none⟩ (.slice a7 now.length c7)).cell? ⟨w.heap.size + 1, 0, none⟩ = some (.slice none 0 0) := (cell_off (.inl ner)).trans r0
          have k4 : (w7.setCell ⟨w1.heap.size, 0, none⟩ (.slice a7 now.length c7)).cell? ⟨w.heap.size + 1, 1, none⟩ = some (.slice none 0 0) := (cell_off (.inl ner)).trans r1
          have k5 : (w7.setCell ⟨w1.heap.size, 0, none⟩ (.slice a7 now.length c7)).cell? ⟨w.heap.size + 1, 2, none⟩ = some (.slice none 0 0) := (cell_off (.inl ner)).trans r2
          clear hO7 hn7 hb7
          go_wp2_with fail
          refine bodyPost_ret (v := .tuple #[.agg #[.slice a7 now.length c7, .slice yS safe.length kS, .slice zO (nO + k) lO], .int .i64 0]) (by simp [results, Try.results44, go_sem, k3, k4, k5]) rfl ?_
          have htk : xs.take k = xs := List.take_of_length_le (by rw [unhide HLX]; exact Nat.le_refl _)
          obtain ⟨p1, p2, p3, p4⟩ := unhide HP
          rw [unhide HRX] at p1 p2 p4
          have p1' : PC = 0 := p1.symm
          have p2' : PL = now := p2.symm
          have p3' : PS = safe := p3.symm
          have p4' : PO = ops ++ xs.take k := by rw [htk]; exact p4.symm
          subst p1' p2' p3' p4'
          have st : w7.grownBy (w7.setCell ⟨w1.heap.size, 0, none⟩ (.slice a7 PL.length c7)) (some w1.heap.size) := (OnlyRow.set (g := w1.heap.size) (o := 0) 0 _).gr
          have hzr := (unhide HB).size
          have hfar : ∀ g, inB a7 g → wr.heap.size ≤ g := fun g h => ((unhide HO7).bl g h).1
          have hn0 := unhide HN
          have hfin := dskRet (f := fun v => .tuple #[v, .int .i64 0]) (B := W0.heap.size) (rb := w.heap.size + 1) (((unhide HO7).off st (fun h => by have := hfar _ h; omega)).le hzr) ((unhide HN7).s.off st (unhide HN7).sn) ((unhide HN7).o.off st (unhide HN7).on) ⟨fun g h1 h2 => by have := hfar g h1; have := (hn0.s.bl g h2).2; omega, fun g h1 h2 => by have := hfar g h1; have := (hn0.o.bl g h2).2; omega, hn0.so⟩ (by omega) (by omega) ((unhide HFIN _ (unhide HB7)).setCell (show w.heap.size ≤ w1.heap.size by omega) _)
          rw [hos] at hfin
          exact hfin
end Go.Proofs.Ytknpccpfjclngaa
