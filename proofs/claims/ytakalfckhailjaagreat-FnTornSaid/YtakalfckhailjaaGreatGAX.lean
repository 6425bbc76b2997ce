/- Texts of one kind, put together. -/
import Derived.Test.YtakalfckhailjaaGreatGAS
import Derived.Test.YtakalfckhailjaaGreatGAJ
import Derived.Test.YtakalfckhailjaaGreatGAE

/- Reading a file of a disk, by both programs. -/
namespace Go.Proofs.YtakalfckhailjaaGreat
open Go.RowKit Go.Maps Plain
set_option linter.unusedVariables false

namespace Plain
theorem disk_live {live safe : List Fl} {ops : List Dop} (h : diskB live safe ops = true) : filesB live = true := by
  unfold diskB at h
  rw [Bool.and_eq_true] at h
  exact h.1
/-- What is read under a name of a right disk. -/
noncomputable def fileF (live safe : List Fl) (ops : List Dop) (nm : ByteArray) : Option ByteArray := if diskB live safe ops = true then tabF live nm else none
def readV (r : Option ByteArray) : Value := .tuple #[.string (r.getD ⟨#[]⟩), .bool r.isSome]
end Plain

set_option maxRecDepth 10000 in
set_option maxHeartbeats 4000000 in
theorem impl_ReadFile (aL : Option Addr) (nL cL : Nat) (live : List Fl) (aS : Option Addr) (nS cS : Nat) (safe : List Fl) (aO : Option Addr) (nO cO : Nat) (ops : List Dop) (nm : ByteArray) (w : World) (h : DiskAt w aL nL cL live aS nS cS safe aO nO cO ops) (hs : nm.size ≤ 1000000000) :
    Calls Tryz.prog 85 #[.agg #[.slice aL nL cL, .slice aS nS cS, .slice aO nO cO], .string nm] w fun e w' => e = .returned (readV (fileF live safe ops nm)) ∧ Below w.heap.size w w' := by
  obtain ⟨W0, hW0⟩ : ∃ W0, W0 = w.alloc (.cells #[.slice aL nL cL, .slice aS nS cS, .slice aO nO cO] 27) := ⟨_, rfl⟩
  have hb0 : Below w.heap.size w W0 := by rw [hW0]; exact bel1 _ _
  have hlt : w.heap.size < W0.heap.size := by rw [hW0]; simp
  have c0 : W0.cell? ⟨w.heap.size, 0, none⟩ = some (.slice aL nL cL) := by rw [hW0]; simp [go_sem]
  have c1 : W0.cell? ⟨w.heap.size, 1, none⟩ = some (.slice aS nS cS) := by rw [hW0]; simp [go_sem]
  have c2 : W0.cell? ⟨w.heap.size, 2, none⟩ = some (.slice aO nO cO) := by rw [hW0]; simp [go_sem]
  have HD := hide (fun (W : World) (hW : Below W0.heap.size W0 W) => (h.below hb0).below hW)
  have HC := hide (fun (W : World) (hW : Below W0.heap.size W0 W) => And.intro (bcl hW hlt c0) (And.intro (bcl hW hlt c1) (bcl hW hlt c2)))
  have HFIN := hide (fun (W : World) (hW : Below W0.heap.size W0 W) => belOn hb0 hW)
  have HW0 := hide hW0.symm
  have hbl := h.bl
  have HH := hide h
  clear h hb0 hlt c0 c1 c2 hW0
  unfold fileF
  cases hd : diskB live safe ops with
  | false =>
    rw [if_neg (by simp)]
    have HX := hide hd
    clear hd
    go_enter Tryz.func85, Tryz.ntmps85
    go_wp2_with fail
    rw [unhide HW0]
    refine (impl_DiskOk aL nL cL live aS nS cS safe aO nO cO ops W0 (unhide HD _ (Below.refl _ _))).mono ?_
    rintro e w1 ⟨rfl, hb1⟩
    rw [unhide HX]
    have HB1 := hide (unhide HFIN _ hb1)
    clear hb1
    go_wp2_with fail
    go_ret2
    exact ⟨rfl, unhide HB1⟩
  | true =>
    rw [if_pos rfl]
    have HX := hide hd
    have hfl := disk_live hd
    have HRI := hide (files_ok hfl).2
    have hln := (files_small hfl).1
    have hfit := small_fit hfl
    rw [(unhide HH).ll] at hln
    clear hd hfl
    cases ht : tabF live nm with
    | none =>
      have hfa : fileAt (tabF live) nm = .agg #[.string ⟨#[]⟩, .string ⟨#[]⟩] := by unfold fileAt; rw [ht]
      have HLK := hide (fun (W : World) (b m : Nat) (hT : Tab W b m (tabF live)) => hT.look_ok (nm := nm) (by omega))
      rw [hfa, ht] at HLK
      simp only [Option.isSome] at HLK
      clear hfa ht
      go_enter Tryz.func85, Tryz.ntmps85
      go_wp2_with fail
      rw [unhide HW0]
      refine (impl_DiskOk aL nL cL live aS nS cS safe aO nO cO ops W0 (unhide HD _ (Below.refl _ _))).mono ?_
      rintro e w1 ⟨rfl, hb1⟩
      rw [unhide HX]
      have HB1 := hide hb1
      obtain ⟨q0, q1, q2⟩ := unhide HC _ hb1
      clear hb1
      go_wp2_with fail
      refine (tableOf_calls aL nL cL live w1 (unhide HH).ll (by omega) hfit (unhide HD _ (unhide HB1)).rl).mono ?_
      rintro e w2 ⟨b, m, rfl, hbb, hm, HT, hb2⟩
      have hlk := unhide HLK _ _ _ (unhide HT)
      have HB2 := hide (unhide HFIN _ (belOn (unhide HB1) hb2))
      clear hb2 hbb hm q0 q1 q2
      go_wp2_with fail
      go_ret2
      exact ⟨rfl, (unhide HB2).trans ((bel1 _ _).mono (unhide HB2).size)⟩
    | some d =>
      have hfa : fileAt (tabF live) nm = .agg #[.string nm, .string d] := by unfold fileAt; rw [ht]
      have HLK := hide (fun (W : World) (b m : Nat) (hT : Tab W b m (tabF live)) => hT.look_ok (nm := nm) (by omega))
      rw [hfa, ht] at HLK
      simp only [Option.isSome] at HLK
      clear hfa ht
      go_enter Tryz.func85, Tryz.ntmps85
      go_wp2_with fail
      rw [unhide HW0]
      refine (impl_DiskOk aL nL cL live aS nS cS safe aO nO cO ops W0 (unhide HD _ (Below.refl _ _))).mono ?_
      rintro e w1 ⟨rfl, hb1⟩
      rw [unhide HX]
      have HB1 := hide hb1
      obtain ⟨q0, q1, q2⟩ := unhide HC _ hb1
      clear hb1
      go_wp2_with fail
      refine (tableOf_calls aL nL cL live w1 (unhide HH).ll (by omega) hfit (unhide HD _ (unhide HB1)).rl).mono ?_
      rintro e w2 ⟨b, m, rfl, hbb, hm, HT, hb2⟩
      have hlk := unhide HLK _ _ _ (unhide HT)
      have HB2 := hide (unhide HFIN _ (belOn (unhide HB1) hb2))
      clear hb2 hbb hm q0 q1 q2
      go_wp2_with fail
      go_ret2
      exact ⟨rfl, (unhide HB2).trans ((bel1 _ _).mono (unhide HB2).size)⟩

set_option maxRecDepth 10000 in
set_option maxHeartbeats 4000000 in
theorem spec_ReadFile (aL : Option Addr) (nL cL : Nat) (live : List Fl) (aS : Option Addr) (nS cS : Nat) (safe : List Fl) (aO : Option Addr) (nO cO : Nat) (ops : List Dop) (nm : ByteArray) (w : World) (h : DiskAt w aL nL cL live aS nS cS safe aO nO cO ops) (hs : nm.size ≤ 1000000000) :
    Calls Tryz.prog 19 #[.agg #[.slice aL nL cL, .slice aS nS cS, .slice aO nO cO], .string nm] w fun e w' => e = .returned (readV (fileF live safe ops nm)) ∧ Below w.heap.size w w' := by
  obtain ⟨W0, hW0⟩ : ∃ W0, W0 = w.alloc (.cells #[.slice aL nL cL, .slice aS nS cS, .slice aO nO cO] 27) := ⟨_, rfl⟩
  have hb0 : Below w.heap.size w W0 := by rw [hW0]; exact bel1 _ _
  have hlt : w.heap.size < W0.heap.size := by rw [hW0]; simp
  have c0 : W0.cell? ⟨w.heap.size, 0, none⟩ = some (.slice aL nL cL) := by rw [hW0]; simp [go_sem]
  have c1 : W0.cell? ⟨w.heap.size, 1, none⟩ = some (.slice aS nS cS) := by rw [hW0]; simp [go_sem]
  have c2 : W0.cell? ⟨w.heap.size, 2, none⟩ = some (.slice aO nO cO) := by rw [hW0]; simp [go_sem]
  have HD := hide (fun (W : World) (hW : Below W0.heap.size W0 W) => (h.below hb0).below hW)
  have HC := hide (fun (W : World) (hW : Below W0.heap.size W0 W) => And.intro (bcl hW hlt c0) (And.intro (bcl hW hlt c1) (bcl hW hlt c2)))
  have HFIN := hide (fun (W : World) (hW : Below W0.heap.size W0 W) => belOn hb0 hW)
  have HW0 := hide hW0.symm
  have hbl := h.bl
  have HH := hide h
  clear h hb0 hlt c0 c1 c2 hW0
  unfold fileF
  cases hd : diskB live safe ops with
  | false =>
    rw [if_neg (by simp)]
    have HX := hide hd
    clear hd
    go_enter Tryz.func19, Tryz.ntmps19
    go_wp2_with fail
    rw [unhide HW0]
    refine (spec_DiskOk aL nL cL live aS nS cS safe aO nO cO ops W0 (unhide HD _ (Below.refl _ _))).mono ?_
    rintro e w1 ⟨rfl, hb1⟩
    rw [unhide HX]
    have HB1 := hide (unhide HFIN _ hb1)
    clear hb1
    go_wp2_with fail
    go_ret2
    exact ⟨rfl, unhide HB1⟩
  | true =>
    rw [if_pos rfl]
    have HX := hide hd
    have hfl := disk_live hd
    have HRI := hide (files_ok hfl).2
    have hln := (files_small hfl).1
    have hfit := small_fit hfl
    rw [(unhide HH).ll] at hln
    clear hd hfl
    cases ha : atF nm live with
    | none =>
      rw [tab_at_none (unhide HRI) ha]
      have HA := hide (fun (W : World) (hW : Below W0.heap.size W0 W) => l4At_calls aL nL cL live nm W (unhide HH).ll (by omega) (unhide HD _ hW).rl)
      rw [ha] at HA
      clear ha
      go_enter Tryz.func19, Tryz.ntmps19
      go_wp2_with fail
      rw [unhide HW0]
      refine (spec_DiskOk aL nL cL live aS nS cS safe aO nO cO ops W0 (unhide HD _ (Below.refl _ _))).mono ?_
      rintro e w1 ⟨rfl, hb1⟩
      rw [unhide HX]
      have HB1 := hide hb1
      obtain ⟨q0, q1, q2⟩ := unhide HC _ hb1
      clear hb1
      go_wp2_with fail
      refine (unhide HA _ (unhide HB1)).mono ?_
      rintro e w2 ⟨rfl, rfl⟩
      go_wp2_with fail
      go_ret2
      exact ⟨rfl, unhide HFIN _ (unhide HB1)⟩
    | some i =>
      obtain ⟨hi, hin⟩ := atF_lt nm live i ha
      rw [tab_at_some (unhide HRI) ha, List.getD_eq_getElem?_getD, List.getElem?_eq_getElem hi, Option.getD_some]
      have HA := hide (fun (W : World) (hW : Below W0.heap.size W0 W) => l4At_calls aL nL cL live nm W (unhide HH).ll (by omega) (unhide HD _ hW).rl)
      rw [ha] at HA
      have HV : atV (some i) = (i : Int) := rfl
      rw [HV] at HA
      have hil : i < nL := by rw [← (unhide HH).ll]; exact hi
      have HCD := hide (fun (W : World) (hW : Below W0.heap.size W0 W) => (unhide HD _ hW).rl.file i hi)
      have i0 : (0 : Int) ≤ (i : Int) := by omega
      have i1 : (i : Int) < (nL : Int) := by omega
      have i2 : ¬ (i : Int) < 0 := by omega
      clear ha hin HV
      generalize live[i] = f at HCD
      obtain ⟨fn, fd⟩ := f
      simp only at HCD
      go_enter Tryz.func19, Tryz.ntmps19
      go_wp2_with fail
      rw [unhide HW0]
      refine (spec_DiskOk aL nL cL live aS nS cS safe aO nO cO ops W0 (unhide HD _ (Below.refl _ _))).mono ?_
      rintro e w1 ⟨rfl, hb1⟩
      rw [unhide HX]
      have HB1 := hide hb1
      obtain ⟨q0, q1, q2⟩ := unhide HC _ hb1
      clear hb1
      go_wp2_with fail
      refine (unhide HA _ (unhide HB1)).mono ?_
      rintro e w2 ⟨rfl, rfl⟩
      obtain ⟨g, e1, l1, p0, p1⟩ := unhide HCD _ (unhide HB1)
      have HE1 := hide e1
      rw [e1] at q0
      clear e1
      go_wp2_with fail
      go_ret2
      exact ⟨rfl, unhide HFIN _ (unhide HB1)⟩
end Go.Proofs.YtakalfckhailjaaGreat


/- Which journals are right, by the specification. -/
namespace Go.Proofs.YtakalfckhailjaaGreat
open Go.RowKit Plain
set_option linter.unusedVariables false

set_option maxRecDepth 10000 in
set_option maxHeartbeats 8000000 in
theorem spec_JournalOk (t v : Int) (a : Option Addr) (n c : Nat) (es : List Ent) (w : World) (h : JouAt w a n c es) (hnc : n ≤ c) :
    Calls Tryz.prog 16 #[.agg #[.int .i64 t, .int .i64 v, .slice a n c]] w fun e w' => e = .returned (.bool (jouB t v es)) ∧ Below w.heap.size w w' := by
  obtain ⟨W0, hW0⟩ : ∃ W0, W0 = w.alloc (.cells #[.int .i64 t, .int .i64 v, .slice a n c] 34) := ⟨_, rfl⟩
  have hb0 : Below w.heap.size w W0 := by rw [hW0]; exact bel1 _ _
  have hlt : w.heap.size < W0.heap.size := by rw [hW0]; simp
  have c0 : W0.cell? ⟨w.heap.size, 0, none⟩ = some (.int .i64 t) := by rw [hW0]; simp [go_sem]
  have c1 : W0.cell? ⟨w.heap.size, 1, none⟩ = some (.int .i64 v) := by rw [hW0]; simp [go_sem]
  have c2 : W0.cell? ⟨w.heap.size, 2, none⟩ = some (.slice a n c) := by rw [hW0]; simp [go_sem]
  have HC := hide (fun (W : World) (hW : Below W0.heap.size W0 W) => And.intro (bcl hW hlt c0) (And.intro (bcl hW hlt c1) (bcl hW hlt c2)))
  have HFIN := hide (fun (W : World) (hW : Below W0.heap.size W0 W) => belOn hb0 hW)
  have HD := hide (fun (W : World) (hW : Below W0.heap.size W0 W) => (h.below hb0).below hW)
  have HW0 := hide hW0.symm
  have hbn := h.bn
  have HH := hide h
  clear hb0 hlt hW0 h
  unfold jouB
  unfold numB
  cases ht : (decide (0 ≤ t) && decide (t ≤ 1000000000000)) with
  | false =>
    have HT := hide ht
    clear ht c0 c1 c2
    go_enter Tryz.func16, Tryz.ntmps16
    go_wp2_with fail
    rw [unhide HW0]
    refine (l1In_calls t _ _ _).mono ?_
    rintro e w1 ⟨rfl, rfl⟩
    rw [unhide HT]
    go_wp2_with fail
    go_ret
    exact ⟨rfl, unhide HFIN _ (Below.refl _ _)⟩
  | true =>
    have HT := hide ht
    cases hv : (decide (0 ≤ v) && decide (v ≤ 1000000000000)) with
    | false =>
      have HV := hide hv
      clear ht hv
      go_enter Tryz.func16, Tryz.ntmps16
      go_wp2_with fail
      rw [unhide HW0]
      refine (l1In_calls t _ _ _).mono ?_
      rintro e w1 ⟨rfl, rfl⟩
      rw [unhide HT]
      go_wp2_with fail
      refine (l1In_calls v _ _ _).mono ?_
      rintro e w1 ⟨rfl, rfl⟩
      rw [unhide HV]
      go_wp2_with fail
      go_ret
      exact ⟨rfl, unhide HFIN _ (Below.refl _ _)⟩
    | true =>
      have HV := hide hv
      clear ht hv
      rw [Bool.and_self, Bool.true_and, (unhide HH).len]
      obtain ⟨R, hR⟩ : ∃ R, (decide (n ≤ 500) && okE t 0 es) = R := ⟨_, rfl⟩
      rw [hR]
      have HR := hide hR
      clear hR
      by_cases hn5 : n ≤ 500
      · go_enter Tryz.func16, Tryz.ntmps16
        go_wp2_with fail
        rw [unhide HW0]
        refine (l1In_calls t _ _ _).mono ?_
        rintro e w1 ⟨rfl, rfl⟩
        rw [unhide HT]
        go_wp2_with fail
        refine (l1In_calls v _ _ _).mono ?_
        rintro e w1 ⟨rfl, rfl⟩
        rw [unhide HV]
        go_wp2_with fail
        clear c0 c1 c2
        go_loopw [3] (fun i wr => ∃ k : Nat, i = .int .i64 k ∧ k ≤ n ∧ Hid (okE t (prevT es k) (es.drop k) = okE t 0 es) ∧ Hid (Below W0.heap.size W0 wr)) (fun i _ => n - (intOf i).toNat)
        case atStart => exact ⟨0, rfl, by omega, hide rfl, hide (Below.refl _ _)⟩
        case round =>
          obtain ⟨k, rfl, hk, HO, HB⟩ := hrel
          obtain ⟨q0, q1, q2⟩ := unhide HC _ (unhide HB)
          by_cases hkn : k < n
          · have hkl : k < es.length := by rw [(unhide HH).len]; exact hkn
            obtain ⟨g, e1, l1, p0, p1, p2⟩ := (unhide HD _ (unhide HB)).row.ex k hkl
            have hst := okE_step t es k hkl
            have hbs := (unhide HH).fit es[k] (by simp)
            have hprev : ∀ j, k = j + 1 → ∃ pt, prevT es k = pt ∧ wr.cell? ⟨g, j * 3, none⟩ = some (.int .i64 pt) := by
              intro j hj
              have hjl : j < es.length := by omega
              obtain ⟨g', e', l', r0, -, -⟩ := (unhide HD _ (unhide HB)).row.ex j hjl
              rw [e1] at e'
              obtain rfl : g = g' := by simpa using e'
              exact ⟨es[j].term, by rw [hj, prevT, List.getElem?_eq_getElem hjl]; rfl, r0⟩
            generalize hx : es[k] = x at p0 p1 p2 hst hbs
            obtain ⟨tm, kd, bd⟩ := x
            simp only at p0 p1 p2 hbs
            subst e1
            have i0 : (0 : Int) ≤ (k : Int) := by omega
            have i1 : (k : Int) < (n : Int) := by omega
            have HST := hide (hst.symm.trans (unhide HO))
            unfold folB at HST
            simp only at HST
            have hlw : w.heap.size < wr.heap.size := lt_of_cell q0
            obtain ⟨W1, hW1⟩ : ∃ W1, W1 = wr.alloc (.cells #[.int .i64 tm, .int .i64 kd, .string bd] 45) := ⟨_, rfl⟩
            have hb1 : Below wr.heap.size wr W1 := by rw [hW1]; exact bel1 _ _
            have r0 := bcl hb1 hlw q0
            have r2 := bcl hb1 hlw q2
            have s0 : W1.cell? ⟨wr.heap.size, 0, none⟩ = some (.int .i64 tm) := by rw [hW1]; simp [go_sem]
            have s1 : W1.cell? ⟨wr.heap.size, 1, none⟩ = some (.int .i64 kd) := by rw [hW1]; simp [go_sem]
            have s2 : W1.cell? ⟨wr.heap.size, 2, none⟩ = some (.string bd) := by rw [hW1]; simp [go_sem]
            have ls : wr.heap.size < W1.heap.size := lt_of_cell s0
            have lj : w.heap.size < W1.heap.size := lt_of_cell r0
            have NE : Nonempty (Grown W1) := ⟨⟨W1, Below.refl _ _⟩⟩
            have G0 := Grown.cell s0 ls
            have G1 := Grown.cell s1 ls
            have G2 := Grown.cell s2 ls
            have G3 := Grown.cell r0 lj
            have G4 := Grown.cell r2 lj
            have HB1 := hide (belOn (unhide HB) hb1)
            have HW1 := hide hW1.symm
            have HLE := hide (fun W => l5Entry_calls tm kd bd W (by omega))
            have HPR := hide hprev
            have HBC := hide hb1
            clear hst HO hx hb1 hW1 hprev hbs
            cases he : entB tm kd bd with
            | false =>
              have HX := hide (show R = false from by rw [← unhide HR, ← unhide HST, he]; simp)
              rw [he] at HLE
              clear HST he HPR
              go_wp2_with fail
              rw [unhide HW1]
              refine region_grown (by kernel_rfl) (by kernel_rfl) W1 (Below.refl _ _) ?_
              repeat (go_big_quiet_step (first | (go_at_call 55; exact calls_grown _ (unhide HLE _))))
              refine wpQuiet_nil ?_
              rintro _ ⟨y, rfl⟩
              all_goals (try go_wp2_with fail)
              all_goals (try go_ret)
              all_goals exact ⟨by rw [unhide HX]; rfl, unhide HFIN _ (belOn (unhide HB1) y.ok)⟩
            | true =>
              have ht1 := (entB_yes he).1
              rw [he] at HLE
              by_cases htt : t < tm
              · have HX := hide (show R = false from by rw [← unhide HR, ← unhide HST, he, decide_eq_false (show ¬ tm ≤ t by omega)]; simp)
                clear HST he HPR
                go_wp2_with fail
                rw [unhide HW1]
                refine region_grown (by kernel_rfl) (by kernel_rfl) W1 (Below.refl _ _) ?_
                repeat (go_big_quiet_step (first | (go_at_call 55; exact calls_grown _ (unhide HLE _))))
                refine wpQuiet_nil ?_
                rintro _ ⟨y, rfl⟩
                all_goals (try go_wp2_with fail)
                all_goals (try go_ret)
                all_goals exact ⟨by rw [unhide HX]; rfl, unhide HFIN _ (belOn (unhide HB1) y.ok)⟩
              · have hle : tm ≤ t := by omega
                rcases Nat.eq_zero_or_pos k with hk0 | hk0
                · have HX := hide (show okE t (prevT es (k + 1)) (es.drop (k + 1)) = okE t 0 es from by rw [← unhide HST, he, decide_eq_true hle, hk0, decide_eq_true (show prevT es 0 ≤ tm from by show (0 : Int) ≤ tm; omega)]; simp)
                  have hk1 : ¬ 0 < k := by omega
                  clear HST he HPR hk0 ht1 hle
                  go_wp2_with fail
                  rw [unhide HW1]
                  have hdt : decide (t < tm) = false := decide_eq_false (by omega)
                  refine region_grown (by kernel_rfl) (by kernel_rfl) W1 (Below.refl _ _) ?_
                  repeat (go_big_quiet_step (first | (go_at_call 55; exact calls_grown _ (unhide HLE _))))
                  refine wpQuiet_nil ?_
                  rintro _ ⟨y, rfl⟩
                  all_goals (try go_wp2_with fail)
                  all_goals exact ⟨⟨k + 1, by go_num, by omega, HX, hide (belOn (unhide HB1) y.ok)⟩, by simp [intOf]; omega⟩
                · obtain ⟨j, hkj⟩ : ∃ j, k = j + 1 := ⟨k - 1, by omega⟩
                  obtain ⟨pt, hpt, u0⟩ := unhide HPR j hkj
                  have hlg : g < wr.heap.size := lt_of_cell u0
                  have v0 := bcl (unhide HBC) hlg u0
                  have lg : g < W1.heap.size := lt_of_cell v0
                  have G5 := Grown.cell v0 lg
                  have j0 : (0 : Int) ≤ (j : Int) := by omega
                  have j1 : (j : Int) < (n : Int) := by omega
                  have jw : IntKind.i64.wrap ((k : Int) - 1) = (j : Int) := by rw [IntKind.wrap_i64]; omega
                  have hk1 : 0 < k := by omega
                  rw [hpt, he, decide_eq_true hle] at HST
                  by_cases hpp : tm < pt
                  · have HX := hide (show R = false from by rw [← unhide HR, ← unhide HST, decide_eq_false (show ¬ pt ≤ tm by omega)]; simp)
                    clear HST he HPR u0 hpt hkj ht1 hle hk0
                    go_wp2_with fail
                    rw [unhide HW1]
                    have hdt : decide (t < tm) = false := decide_eq_false (by omega)
                    refine region_grown (by kernel_rfl) (by kernel_rfl) W1 (Below.refl _ _) ?_
                    repeat (go_big_quiet_step (first | (go_at_call 55; exact calls_grown _ (unhide HLE _))))
                    refine wpQuiet_nil ?_
                    rintro _ ⟨y, rfl⟩
                    all_goals (try go_wp2_with fail)
                    all_goals (try go_ret)
                    all_goals exact ⟨by rw [unhide HX]; rfl, unhide HFIN _ (belOn (unhide HB1) y.ok)⟩
                  · have HX := hide (show okE t (prevT es (k + 1)) (es.drop (k + 1)) = okE t 0 es from by rw [← unhide HST, decide_eq_true (show pt ≤ tm by omega)]; simp)
                    clear HST he HPR u0 hpt hkj ht1 hle hk0
                    go_wp2_with fail
                    rw [unhide HW1]
                    have hdp : decide (tm < pt) = false := decide_eq_false (by omega)
                    have hdt : decide (t < tm) = false := decide_eq_false (by omega)
                    refine region_grown (by kernel_rfl) (by kernel_rfl) W1 (Below.refl _ _) ?_
                    repeat (go_big_quiet_step (first | (go_at_call 55; exact calls_grown _ (unhide HLE _))))
                    refine wpQuiet_nil ?_
                    rintro _ ⟨y, rfl⟩
                    all_goals (try go_wp2_with fail)
                    all_goals exact ⟨⟨k + 1, by go_num, by omega, HX, hide (belOn (unhide HB1) y.ok)⟩, by simp [intOf]; omega⟩
          · obtain rfl : k = n := by omega
            have hO := unhide HO
            rw [List.drop_of_length_le (by rw [(unhide HH).len]; exact Nat.le_refl _)] at hO
            have HX := hide (show R = true from by rw [← unhide HR, ← hO, decide_eq_true hn5]; rfl)
            clear hO HO
            go_wp2_with fail
            go_ret
            exact ⟨by rw [unhide HX]; rfl, unhide HFIN _ (unhide HB)⟩
      · have HX := hide (show R = false from by rw [← unhide HR, decide_eq_false hn5]; rfl)
        go_enter Tryz.func16, Tryz.ntmps16
        go_wp2_with fail
        rw [unhide HW0]
        refine (l1In_calls t _ _ _).mono ?_
        rintro e w1 ⟨rfl, rfl⟩
        rw [unhide HT]
        go_wp2_with fail
        refine (l1In_calls v _ _ _).mono ?_
        rintro e w1 ⟨rfl, rfl⟩
        rw [unhide HV]
        go_wp2_with fail
        go_ret
        exact ⟨by rw [unhide HX]; rfl, unhide HFIN _ (Below.refl _ _)⟩
end Go.Proofs.YtakalfckhailjaaGreat

