/- The program's RequestOk, whole. -/
import Derived.Test.YtanekbifdedmeaaGreatDoorFitI
namespace Go.Proofs.YtanekbifdedmeaaGreatDoor
open Go.RowKit Plain
set_option linter.unusedVariables false

theorem Plain.path_pref (p : ByteArray) : (decide (0 < p.size) && decide ((p.data.toList.headD 0).toNat = 47) && texB 1 400 pthC p) = pathB p := by
  unfold pathB
  by_cases h : 0 < p.size
  · rw [decide_eq_true h, Bool.true_and, Bool.and_comm]
  · rw [texB_no (.inl (by omega))]
    simp

/-- A Request's rows. -/
structure Plain.ReqAt (W : World) (m p : ByteArray) (aq : Option Addr) (nq : Nat) (qs : List Hd) (ah : Option Addr) (nh : Nat) (hs : List Hd) (bd : ByteArray) : Prop where
  lq : qs.length = nq
  lh : hs.length = nh
  bq : nq ≤ 1048576
  bh : nh ≤ 1048576
  sq : smallH qs
  sh : smallH hs
  sm : m.size ≤ 1000000000
  sp : p.size ≤ 1000000000
  sb : bd.size ≤ 1000000000
  rq : RowAt hdrE W aq qs
  rh : RowAt hdrE W ah hs
theorem Plain.ReqAt.below {W W' : World} {m p : ByteArray} {aq : Option Addr} {nq : Nat} {qs : List Hd} {ah : Option Addr} {nh : Nat} {hs : List Hd} {bd : ByteArray} (h : ReqAt W m p aq nq qs ah nh hs bd) (hb : Below W.heap.size W W') : ReqAt W' m p aq nq qs ah nh hs bd :=
  ⟨h.lq, h.lh, h.bq, h.bh, h.sq, h.sh, h.sm, h.sp, h.sb, h.rq.below hb, h.rh.below hb⟩

set_option maxRecDepth 10000 in
set_option maxHeartbeats 1000000 in
theorem askOk_calls (m p : ByteArray) (aq : Option Addr) (nq cq : Nat) (qs : List Hd) (ah : Option Addr) (nh ch : Nat) (hs : List Hd) (bd : ByteArray) (w : World) (h : ReqAt w m p aq nq qs ah nh hs bd) :
    Calls Tryz.prog 36 #[.agg #[.string m, .string p, .slice aq nq cq, .slice ah nh ch, .string bd]] w fun e w' => e = .returned (.bool (askB m p qs)) ∧ Below w.heap.size w w' := by
  have hs1 := h.sm
  have hs2 := h.sp
  have HB := hide (bel1 w (.cells #[.string m, .string p, .slice aq nq cq, .slice ah nh ch, .string bd] 26))
  have H1 := hide (fun W => textOk_cap m 1 10 W (by omega) (by decide) (by decide))
  have H2 := hide (fun W => prefix_calls p W (by omega))
  have H3 := hide (fun W => textOk_pth p 1 400 W (by omega) (by decide) (by decide))
  have H4 := hide (fits_qrw aq nq cq qs _ h.lq h.bq h.sq (h.rq.below (unhide HB)))
  have HE := hide (show askB m p qs = (texB 1 10 capC m && (decide (0 < p.size) && decide ((p.data.toList.headD 0).toNat = 47) && texB 1 400 pthC p) && fitB qrwB qs) from by rw [path_pref]; rfl)
  generalize texB 1 10 capC m = b1 at H1 HE
  generalize (decide (0 < p.size) && decide ((p.data.toList.headD 0).toNat = 47)) = b2 at H2 HE
  generalize texB 1 400 pthC p = b3 at H3 HE
  generalize fitB qrwB qs = b4 at H4 HE
  rw [unhide HE]
  clear h HE hs1 hs2
  have HB2 := hide (fun w1 hb => belOn (W' := w1) (unhide HB) hb)
  cases b1 with
  | false =>
    go_enter Tryz.func36, Tryz.ntmps36
    go_wp2_with (first
      | (go_at_call_of 68 m; refine (unhide H1 _).mono ?_; rintro e w1 ⟨rfl, rfl⟩))
    go_ret
    exact ⟨rfl, unhide HB⟩
  | true =>
    cases b2 with
    | false =>
      go_enter Tryz.func36, Tryz.ntmps36
      go_wp2_with (first
        | (go_at_call_of 68 m; refine (unhide H1 _).mono ?_; rintro e w1 ⟨rfl, rfl⟩)
        | (go_at_call 70; refine (unhide H2 _).mono ?_; rintro e w1 ⟨rfl, rfl⟩))
      go_ret
      exact ⟨rfl, unhide HB⟩
    | true =>
      cases b3 with
      | false =>
        go_enter Tryz.func36, Tryz.ntmps36
        go_wp2_with (first
          | (go_at_call_of 68 m; refine (unhide H1 _).mono ?_; rintro e w1 ⟨rfl, rfl⟩)
          | (go_at_call 70; refine (unhide H2 _).mono ?_; rintro e w1 ⟨rfl, rfl⟩)
          | (go_at_call_of 68 p; refine (unhide H3 _).mono ?_; rintro e w1 ⟨rfl, rfl⟩))
        go_ret
        exact ⟨rfl, unhide HB⟩
      | true =>
        go_enter Tryz.func36, Tryz.ntmps36
        go_wp2_with (first
          | (go_at_call_of 68 m; refine (unhide H1 _).mono ?_; rintro e w1 ⟨rfl, rfl⟩)
          | (go_at_call 70; refine (unhide H2 _).mono ?_; rintro e w1 ⟨rfl, rfl⟩)
          | (go_at_call_of 68 p; refine (unhide H3 _).mono ?_; rintro e w1 ⟨rfl, rfl⟩)
          | (go_at_call 72; refine (unhide H4).mono ?_; rintro e w1 ⟨rfl, hb1⟩))
        go_ret
        exact ⟨by simp, unhide HB2 _ hb1⟩

end Go.Proofs.YtanekbifdedmeaaGreatDoor
