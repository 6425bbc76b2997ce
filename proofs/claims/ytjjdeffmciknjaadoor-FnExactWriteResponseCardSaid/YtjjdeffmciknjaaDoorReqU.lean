/- The specification's RequestOk, whole. -/
import Derived.Test.YtjjdeffmciknjaaDoorReqT
namespace Go.Proofs.YtjjdeffmciknjaaDoor
open Go.RowKit Plain
set_option linter.unusedVariables false

set_option maxRecDepth 10000 in
set_option maxHeartbeats 2000000 in
theorem l16Query_calls (a : Option Addr) (n c : Nat) (ls : List Hd) (w : World) (hn : ls.length = n) (hn2 : n ≤ 1048576) (hsm : smallH ls) (h : RowAt hdrE w a ls) :
    Calls Tryd.prog 21 #[.slice a n c] w fun e w' => e = .returned (.bool (fitB qrwB ls)) ∧ Below w.heap.size w w' := by
  have H := hide h
  have HN := hide hn
  have HSM := hide hsm
  have HE := hide (show fitB qrwB ls = (decide (n ≤ 20) && ls.all qrwB) from by rw [← hn]; rfl)
  obtain ⟨R, hR⟩ : ∃ R, ls.all qrwB = R := ⟨_, rfl⟩
  rw [hR] at HE
  rw [unhide HE]
  have HR := hide hR
  clear h hn hsm hR HE
  go_enter Tryd.func21, Tryd.ntmps21
  go_wp2_with fail
  go_loopw [3] (fun i wr => ∃ k : Nat, i = .int .i64 k ∧ k ≤ n ∧ Hid (R = (ls.drop k).all qrwB) ∧ Hid (Below w.heap.size w wr)) (fun i _ => n - (intOf i).toNat)
  case atStart => exact ⟨0, rfl, by omega, hide (by rw [List.drop_zero]; exact (unhide HR).symm), hide (Below.refl _ _)⟩
  case round =>
    obtain ⟨k, rfl, hk, HV, HB⟩ := hrel
    by_cases hlk : k < n
    · have hkl : k < ls.length := by rw [unhide HN]; exact hlk
      obtain ⟨g, e1, l1, p0, p1⟩ := ((unhide H).below (unhide HB)).hdr k hkl
      have HS := (unhide HV).trans (allH_step qrwB ls k hkl)
      have hsz := unhide HSM ls[k] (by simp)
      generalize ls[k] = x at p0 p1 HS hsz
      obtain ⟨y, z⟩ := x
      simp only at p0 p1
      have H1 := hide (fun W => l16Bytes_calls y ⟨#[38, 61, 35]⟩ 1 60 33 W hsz.1 (by decide) (by decide) (by decide) (by decide))
      have H2 := hide (fun W => l16Bytes_calls z ⟨#[38, 61, 35]⟩ 0 200 33 W hsz.2 (by decide) (by decide) (by decide) (by decide))
      rw [texB_ext low_qry] at H1 H2
      have hq : qrwB (y, z) = (texB 1 60 qryC y && texB 0 200 qryC z) := rfl
      rw [hq] at HS
      clear hq HV hkl hsz
      generalize texB 1 60 qryC y = b1 at H1 HS
      generalize texB 0 200 qryC z = b2 at H2 HS
      have HS2 := hide HS
      clear HS
      subst e1
      have i0 : (0 : Int) ≤ (k : Int) := by omega
      have i1 : (k : Int) < (n : Int) := by omega
      cases b1 with
      | false =>
        go_wp2_with fail
        refine (unhide H1 _).mono ?_
        rintro e w1 ⟨rfl, hb1⟩
        have HB1 := hide (belOn (unhide HB) hb1)
        clear hb1
        go_wp2_with fail
        go_ret
        exact ⟨by rw [unhide HS2]; simp, unhide HB1⟩
      | true =>
        go_wp2_with fail
        refine (unhide H1 _).mono ?_
        rintro e w1 ⟨rfl, hb1⟩
        have HB1 := hide (belOn (unhide HB) hb1)
        have q1 := bcl hb1 l1 p1
        clear hb1
        cases b2 with
        | false =>
          go_wp2_with fail
          refine (unhide H2 _).mono ?_
          rintro e w2 ⟨rfl, hb2⟩
          have HB2 := hide (belOn (unhide HB1) hb2)
          clear hb2
          go_wp2_with fail
          go_ret
          exact ⟨by rw [unhide HS2]; simp, unhide HB2⟩
        | true =>
          go_wp2_with fail
          refine (unhide H2 _).mono ?_
          rintro e w2 ⟨rfl, hb2⟩
          have HB2 := hide (belOn (unhide HB1) hb2)
          clear hb2
          go_wp2_with fail
          go_roundw
          case rel => exact ⟨k + 1, by go_num, by omega, hide ((unhide HS2).trans (by simp)), HB2⟩
          case measure => simp [intOf]; omega
    · have HF := hide ((unhide HV).trans (allH_end qrwB ls k (by rw [unhide HN]; omega)))
      go_wp2_with fail
      go_ret
      exact ⟨retB (by rw [unhide HF, Bool.eq_iff_iff]; simp; try omega), unhide HB⟩

set_option maxRecDepth 10000 in
set_option maxHeartbeats 2000000 in
theorem l16Headers_calls (a : Option Addr) (n c : Nat) (ls : List Hd) (w : World) (hn : ls.length = n) (hn2 : n ≤ 1048576) (hsm : smallH ls) (h : RowAt hdrE w a ls) :
    Calls Tryd.prog 22 #[.slice a n c] w fun e w' => e = .returned (.bool (fitB hrwB ls)) ∧ Below w.heap.size w w' := by
  have H := hide h
  have HN := hide hn
  have HSM := hide hsm
  have HE := hide (show fitB hrwB ls = (decide (n ≤ 20) && ls.all hrwB) from by rw [← hn]; rfl)
  obtain ⟨R, hR⟩ : ∃ R, ls.all hrwB = R := ⟨_, rfl⟩
  rw [hR] at HE
  rw [unhide HE]
  have HR := hide hR
  clear h hn hsm hR HE
  go_enter Tryd.func22, Tryd.ntmps22
  go_wp2_with fail
  go_loopw [3] (fun i wr => ∃ k : Nat, i = .int .i64 k ∧ k ≤ n ∧ Hid (R = (ls.drop k).all hrwB) ∧ Hid (Below w.heap.size w wr)) (fun i _ => n - (intOf i).toNat)
  case atStart => exact ⟨0, rfl, by omega, hide (by rw [List.drop_zero]; exact (unhide HR).symm), hide (Below.refl _ _)⟩
  case round =>
    obtain ⟨k, rfl, hk, HV, HB⟩ := hrel
    by_cases hlk : k < n
    · have hkl : k < ls.length := by rw [unhide HN]; exact hlk
      obtain ⟨g, e1, l1, p0, p1⟩ := ((unhide H).below (unhide HB)).hdr k hkl
      have HS := (unhide HV).trans (allH_step hrwB ls k hkl)
      have hsz := unhide HSM ls[k] (by simp)
      generalize ls[k] = x at p0 p1 HS hsz
      obtain ⟨y, z⟩ := x
      simp only at p0 p1
      have H1 := hide (fun W => l16Name_calls y W hsz.1)
      have H2 := hide (fun W => l16Value_calls z W hsz.2)
      have hq : hrwB (y, z) = (!(y.toList == clenL) && texB 1 60 nmeC y && valB z) := rfl
      rw [hq] at HS
      clear hq HV hkl hsz
      generalize texB 1 60 nmeC y = b1 at H1 HS
      generalize valB z = b2 at H2 HS
      unfold clenL at HS
      subst e1
      have i0 : (0 : Int) ≤ (k : Int) := by omega
      have i1 : (k : Int) < (n : Int) := by omega
      cases b1 with
      | false =>
        have HS2 := hide HS
        clear HS
        go_wp2_with (go_at_call 37; refine (unhide H1 _).mono ?_; rintro e w1 ⟨rfl, rfl⟩)
        go_ret
        exact ⟨by rw [unhide HS2]; simp, unhide HB⟩
      | true =>
        by_cases hcl : (y.toList == [99, 111, 110, 116, 101, 110, 116, 45, 108, 101, 110, 103, 116, 104]) = true
        · have HS2 := hide (show R = false from by rw [HS, hcl]; simp)
          clear HS
          go_wp2_with (go_at_call 37; refine (unhide H1 _).mono ?_; rintro e w1 ⟨rfl, rfl⟩)
          go_ret
          exact ⟨by rw [unhide HS2]; simp, unhide HB⟩
        · have hcl2 : (y.toList == [99, 111, 110, 116, 101, 110, 116, 45, 108, 101, 110, 103, 116, 104]) = false := by simpa using hcl
          rw [hcl2] at HS
          have HS2 := hide HS
          clear HS hcl
          cases b2 with
          | false =>
            go_wp2_with (first
              | (go_at_call 37; refine (unhide H1 _).mono ?_; rintro e w1 ⟨rfl, rfl⟩)
              | (go_at_call 38; refine (unhide H2 _).mono ?_; rintro e w2 ⟨rfl, hb2⟩))
            go_ret
            exact ⟨by rw [unhide HS2]; simp, belOn (unhide HB) hb2⟩
          | true =>
            go_wp2_with (first
              | (go_at_call 37; refine (unhide H1 _).mono ?_; rintro e w1 ⟨rfl, rfl⟩)
              | (go_at_call 38; refine (unhide H2 _).mono ?_; rintro e w2 ⟨rfl, hb2⟩))
            go_roundw
            case rel => exact ⟨k + 1, by go_num, by omega, hide ((unhide HS2).trans (by simp)), hide (belOn (unhide HB) hb2)⟩
            case measure => simp [intOf]; omega
    · have HF := hide ((unhide HV).trans (allH_end hrwB ls k (by rw [unhide HN]; omega)))
      go_wp2_with fail
      go_ret
      exact ⟨retB (by rw [unhide HF, Bool.eq_iff_iff]; simp; try omega), unhide HB⟩

set_option maxRecDepth 10000 in
set_option maxHeartbeats 2000000 in
theorem spec_RequestOk (m p : ByteArray) (aq : Option Addr) (nq cq : Nat) (qs : List Hd) (ah : Option Addr) (nh ch : Nat) (hs : List Hd) (bd : ByteArray) (w : World) (h : ReqAt w m p aq nq qs ah nh hs bd) :
    Calls Tryd.prog 7 #[.agg #[.string m, .string p, .slice aq nq cq, .slice ah nh ch, .string bd]] w fun e w' => e = .returned (.bool (reqB m p qs hs bd)) ∧ Below w.heap.size w w' := by
  obtain ⟨W0, hW0⟩ : ∃ W0, W0 = w.alloc (.cells #[.string m, .string p, .slice aq nq cq, .slice ah nh ch, .string bd] 29) := ⟨_, rfl⟩
  have hb0 : Below w.heap.size w W0 := by rw [hW0]; exact bel1 _ _
  have hlt : w.heap.size < W0.heap.size := by rw [hW0]; simp
  have c1 : W0.cell? ⟨w.heap.size, 1, none⟩ = some (.string p) := by rw [hW0]; simp [go_sem]
  have c2 : W0.cell? ⟨w.heap.size, 2, none⟩ = some (.slice aq nq cq) := by rw [hW0]; simp [go_sem]
  have c3 : W0.cell? ⟨w.heap.size, 3, none⟩ = some (.slice ah nh ch) := by rw [hW0]; simp [go_sem]
  have c4 : W0.cell? ⟨w.heap.size, 4, none⟩ = some (.string bd) := by rw [hW0]; simp [go_sem]
  have hA := h.below hb0
  have hs1 := h.sm
  have hs2 := h.sp
  have hs3 := h.sb
  have H1 := hide (fun W => l16Method_calls m W (by omega))
  have H2 := hide (l16Path_calls p W0 (by omega))
  have H3 := hide (fun W (hW : Below W0.heap.size W0 W) => l16Query_calls aq nq cq qs W hA.lq hA.bq hA.sq (hA.rq.below hW))
  have H4 := hide (fun W (hW : Below W0.heap.size W0 W) => l16Headers_calls ah nh ch hs W hA.lh hA.bh hA.sh (hA.rh.below hW))
  have HC := hide (fun (W : World) (hW : Below W0.heap.size W0 W) => And.intro (bcl hW hlt c2) (And.intro (bcl hW hlt c3) (bcl hW hlt c4)))
  have HE := hide (show reqB m p qs hs bd = (texB 1 10 capC m && pathB p && fitB qrwB qs && (fitB hrwB hs && decide (bd.size ≤ 20000))) from rfl)
  have HB := hide hb0
  have HW0 := hide hW0.symm
  generalize texB 1 10 capC m = b1 at H1 HE
  generalize pathB p = b2 at H2 HE
  generalize fitB qrwB qs = b3 at H3 HE
  generalize fitB hrwB hs = b4 at H4 HE
  rw [unhide HE]
  clear h HE hs1 hs2 hA hb0 hW0 hlt c1 c2 c3 c4
  cases b1 with
  | false =>
    go_enter Tryd.func7, Tryd.ntmps7
    go_wp2_with (go_at_call 19; refine (unhide H1 _).mono ?_; rintro e w1 ⟨rfl, rfl⟩)
    rw [unhide HW0]
    go_ret
    exact ⟨rfl, unhide HB⟩
  | true =>
    go_enter Tryd.func7, Tryd.ntmps7
    go_wp2_with (go_at_call 19; refine (unhide H1 _).mono ?_; rintro e w1 ⟨rfl, rfl⟩)
    rw [unhide HW0]
    refine (unhide H2).mono ?_
    rintro e w1 ⟨rfl, hb1⟩
    have HB1 := hide (belOn (unhide HB) hb1)
    obtain ⟨q2, q3, q4⟩ := unhide HC _ hb1
    have H5 := hide (unhide H3 _ hb1)
    have HX := hide hb1
    clear hb1 H2 H3
    cases b2 with
    | false =>
      go_wp2_with fail
      go_ret
      exact ⟨rfl, unhide HB1⟩
    | true =>
      go_wp2_with fail
      refine (unhide H5).mono ?_
      rintro e w2 ⟨rfl, hb2⟩
      have HB2 := hide (belOn (unhide HB1) hb2)
      have hb12 := belOn (unhide HX) hb2
      obtain ⟨r2, r3, r4⟩ := unhide HC _ hb12
      have H6 := hide (unhide H4 _ hb12)
      have HX2 := hide hb12
      clear hb12 hb2 H4 H5 HX q2 q3 q4
      cases b3 with
      | false =>
        go_wp2_with fail
        go_ret
        exact ⟨rfl, unhide HB2⟩
      | true =>
        go_wp2_with fail
        refine (unhide H6).mono ?_
        rintro e w3 ⟨rfl, hb3⟩
        have HB3 := hide (belOn (unhide HB2) hb3)
        obtain ⟨s2, s3, s4⟩ := unhide HC _ (belOn (unhide HX2) hb3)
        clear hb3 H6 HX2 r2 r3 r4
        cases b4 with
        | false =>
          go_wp2_with fail
          go_ret
          exact ⟨rfl, unhide HB3⟩
        | true =>
          go_wp2_with fail
          go_ret
          exact ⟨retB (by rw [Bool.eq_iff_iff]; simp; try omega), unhide HB3⟩
end Go.Proofs.YtjjdeffmciknjaaDoor
