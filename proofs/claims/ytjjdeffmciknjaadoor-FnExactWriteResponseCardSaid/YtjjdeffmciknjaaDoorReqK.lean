/- The program's RequestOk, whole. -/
import Derived.Test.YtjjdeffmciknjaaDoorFitI
namespace Go.Proofs.YtjjdeffmciknjaaDoor
open Go.RowKit Plain
set_option linter.unusedVariables false

theorem Plain.path_pref (p : ByteArray) : (decide (0 < p.size) && decide ((p.data.toList.headD 0).toNat = 47) && texB 1 400 pthC p) = pathB p := by
  unfold pathB
  by_cases h : 0 < p.size
  · rw [decide_eq_true h, Bool.true_and, Bool.and_comm]
  · rw [texB_no (.inl (by omega))]
    simp

/-- A Request's rows. -/
structure Plain.ReqAt (W : World) (m p : ByteArray) (aq : Option Addr) (nq : Nat) (qs : List Hd) (ah : Option Addr) (nh : Nat) (hs : List Hd) (bd : ByteArray) : Prop where
  lq : qs.length = nq
  lh : hs.length = nh
  bq : nq ≤ 1048576
  bh : nh ≤ 1048576
  sq : smallH qs
  sh : smallH hs
  sm : m.size ≤ 1000000000
  sp : p.size ≤ 1000000000
  sb : bd.size ≤ 1000000000
  rq : RowAt hdrE W aq qs
  rh : RowAt hdrE W ah hs
theorem Plain.ReqAt.below {W W' : World} {m p : ByteArray} {aq : Option Addr} {nq : Nat} {qs : List Hd} {ah : Option Addr} {nh : Nat} {hs : List Hd} {bd : ByteArray} (h : ReqAt W m p aq nq qs ah nh hs bd) (hb : Below W.heap.size W W') : ReqAt W' m p aq nq qs ah nh hs bd :=
  ⟨h.lq, h.lh, h.bq, h.bh, h.sq, h.sh, h.sm, h.sp, h.sb, h.rq.below hb, h.rh.below hb⟩

set_option maxRecDepth 10000 in
set_option maxHeartbeats 1000000 in
theorem askOk_calls (m p : ByteArray) (aq : Option Addr) (nq cq : Nat) (qs : List Hd) (ah : Option Addr) (nh ch : Nat) (hs : List Hd) (bd : ByteArray) (w : World) (h : ReqAt w m p aq nq qs ah nh hs bd) :
    Calls Tryd.prog 24 #[.agg #[.string m, .string p, .slice aq nq cq, .slice ah nh ch, .string bd]] w fun e w' => e = .returned (.bool (askB m p qs)) ∧ Below w.heap.size w w' := by
  have hs1 := h.sm
  have hs2 := h.sp
  have HB := hide (bel1 w (.cells #[.string m, .string p, .slice aq nq cq, .slice ah nh ch, .string bd] 29))
  have H1 := hide (fun W => textOk_cap m 1 10 W (by omega) (by decide) (by decide))
  have H2 := hide (fun W => prefix_calls p W (by omega))
  have H3 := hide (fun W => textOk_pth p 1 400 W (by omega) (by decide) (by decide))
  have H4 := hide (fits_qrw aq nq cq qs _ h.lq h.bq h.sq (h.rq.below (unhide HB)))
  have HE := hide (show askB m p qs = (texB 1 10 capC m && (decide (0 < p.size) && decide ((p.data.toList.headD 0).toNat = 47) && texB 1 400 pthC p) && fitB qrwB qs) from by rw [path_pref]; rfl)
  generalize texB 1 10 capC m = b1 at H1 HE
  generalize (decide (0 < p.size) && decide ((p.data.toList.headD 0).toNat = 47)) = b2 at H2 HE
  generalize texB 1 400 pthC p = b3 at H3 HE
  generalize fitB qrwB qs = b4 at H4 HE
  rw [unhide HE]
  clear h HE hs1 hs2
  have HB2 := hide (fun w1 hb => belOn (W' := w1) (unhide HB) hb)
  cases b1 with
  | false =>
    go_enter Tryd.func24, Tryd.ntmps24
    go_wp2_with (first
      | (go_at_call_of 40 m; refine (unhide H1 _).mono ?_; rintro e w1 ⟨rfl, rfl⟩))
    go_ret
    exact ⟨rfl, unhide HB⟩
  | true =>
    cases b2 with
    | false =>
      go_enter Tryd.func24, Tryd.ntmps24
      go_wp2_with (first
        | (go_at_call_of 40 m; refine (unhide H1 _).mono ?_; rintro e w1 ⟨rfl, rfl⟩)
        | (go_at_call 42; refine (unhide H2 _).mono ?_; rintro e w1 ⟨rfl, rfl⟩))
      go_ret
      exact ⟨rfl, unhide HB⟩
    | true =>
      cases b3 with
      | false =>
        go_enter Tryd.func24, Tryd.ntmps24
        go_wp2_with (first
          | (go_at_call_of 40 m; refine (unhide H1 _).mono ?_; rintro e w1 ⟨rfl, rfl⟩)
          | (go_at_call 42; refine (unhide H2 _).mono ?_; rintro e w1 ⟨rfl, rfl⟩)
          | (go_at_call_of 40 p; refine (unhide H3 _).mono ?_; rintro e w1 ⟨rfl, rfl⟩))
        go_ret
        exact ⟨rfl, unhide HB⟩
      | true =>
        go_enter Tryd.func24, Tryd.ntmps24
        go_wp2_with (first
          | (go_at_call_of 40 m; refine (unhide H1 _).mono ?_; rintro e w1 ⟨rfl, rfl⟩)
          | (go_at_call 42; refine (unhide H2 _).mono ?_; rintro e w1 ⟨rfl, rfl⟩)
          | (go_at_call_of 40 p; refine (unhide H3 _).mono ?_; rintro e w1 ⟨rfl, rfl⟩)
          | (go_at_call 44; refine (unhide H4).mono ?_; rintro e w1 ⟨rfl, hb1⟩))
        go_ret
        exact ⟨by simp, unhide HB2 _ hb1⟩

set_option maxRecDepth 10000 in
set_option maxHeartbeats 1000000 in
theorem impl_RequestOk (m p : ByteArray) (aq : Option Addr) (nq cq : Nat) (qs : List Hd) (ah : Option Addr) (nh ch : Nat) (hs : List Hd) (bd : ByteArray) (w : World) (h : ReqAt w m p aq nq qs ah nh hs bd) :
    Calls Tryd.prog 9 #[.agg #[.string m, .string p, .slice aq nq cq, .slice ah nh ch, .string bd]] w fun e w' => e = .returned (.bool (reqB m p qs hs bd)) ∧ Below w.heap.size w w' := by
  obtain ⟨W0, hW0⟩ : ∃ W0, W0 = w.alloc (.cells #[.string m, .string p, .slice aq nq cq, .slice ah nh ch, .string bd] 29) := ⟨_, rfl⟩
  have hb0 : Below w.heap.size w W0 := by rw [hW0]; exact bel1 _ _
  have hlt : w.heap.size < W0.heap.size := by rw [hW0]; simp
  have c3 : W0.cell? ⟨w.heap.size, 3, none⟩ = some (.slice ah nh ch) := by rw [hW0]; simp [go_sem]
  have c4 : W0.cell? ⟨w.heap.size, 4, none⟩ = some (.string bd) := by rw [hW0]; simp [go_sem]
  have hA := h.below hb0
  have hs3 := h.sb
  have H1 := hide (askOk_calls m p aq nq cq qs ah nh ch hs bd W0 hA)
  have H2 := hide (fun W (hW : Below W0.heap.size W0 W) => tailOk_calls ah nh ch hs bd W hA.lh hA.bh hA.sh (by omega) (hA.rh.below hW))
  have HC := hide (fun (W : World) (hW : Below W0.heap.size W0 W) => And.intro (bcl hW hlt c3) (bcl hW hlt c4))
  have HE := hide (show reqB m p qs hs bd = (askB m p qs && tailB hs bd) from rfl)
  have HB := hide hb0
  have HW0 := hide hW0.symm
  generalize askB m p qs = b1 at H1 HE
  generalize tailB hs bd = b2 at H2 HE
  rw [unhide HE]
  clear h HE hs3 hA hb0 hW0 hlt c3 c4
  cases b1 with
  | false =>
    go_enter Tryd.func9, Tryd.ntmps9
    go_wp2_with fail
    rw [unhide HW0]
    refine (unhide H1).mono ?_
    rintro e w1 ⟨rfl, hb1⟩
    have HB1 := hide (belOn (unhide HB) hb1)
    clear hb1
    go_wp2_with fail
    go_ret
    exact ⟨rfl, unhide HB1⟩
  | true =>
    go_enter Tryd.func9, Tryd.ntmps9
    go_wp2_with fail
    rw [unhide HW0]
    refine (unhide H1).mono ?_
    rintro e w1 ⟨rfl, hb1⟩
    have HB1 := hide (belOn (unhide HB) hb1)
    obtain ⟨q3, q4⟩ := unhide HC _ hb1
    have H3 := hide (unhide H2 _ hb1)
    clear hb1
    go_wp2_with fail
    refine (unhide H3).mono ?_
    rintro e w2 ⟨rfl, hb2⟩
    have HB2 := hide (belOn (unhide HB1) hb2)
    clear hb2
    go_wp2_with fail
    go_ret
    exact ⟨by simp, unhide HB2⟩
end Go.Proofs.YtjjdeffmciknjaaDoor
