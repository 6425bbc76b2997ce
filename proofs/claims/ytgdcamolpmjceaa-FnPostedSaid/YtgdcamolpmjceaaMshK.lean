/- The program's mesh of a net; what goes from one node to another. -/
import Derived.Test.YtgdcamolpmjceaaMshJ
import Derived.Test.YtgdcamolpmjceaaIntR
namespace Go.Proofs.Ytgdcamolpmjceaa
open Go.RowKit Go.Maps Plain
open Go.ChangeMaps (setBlock heap_setBlock_same heap_setBlock_other)
set_option linter.unusedVariables false

namespace Plain
theorem wayF_len (ps : List Pkt) (f t : Int) : (wayF ps f t).length ≤ ps.length := List.length_filter_le _ _
end Plain
theorem make_ways (w : World) : (Instr.makeMap 51 none).run Try.prog w = .ok (.map (some w.heap.size)) (w.alloc (.map #[] 0)) := by
  simp [Instr.makeMap]
theorem Plain.MshAt.new (w : World) (nx : Int) (o : Obj) (W : World) (hW : W = ((w.alloc o).alloc (.map #[] 0)).alloc (.cells #[.int .i64 nx, .map (some (w.heap.size + 1))] 55)) : MshAt W w.heap.size (w.heap.size + 1 + 1) (w.heap.size + 1) 0 nx (wayF []) (fun _ _ => none) := by
  have hm := World.ownsMap_made (w.alloc o) Try.prog 53 hdElem
  have hs : (w.alloc o).heap.size = w.heap.size + 1 := by simp
  have hm2 : W.ownsMap Try.prog 53 hdElem (w.heap.size + 1) 0 (.map []) := by
    rw [hs] at hm
    obtain ⟨es, clock, q1, q2⟩ := hm
    refine ⟨es, clock, ?_, q2⟩
    rw [hW]
    exact ((bel1 _ _).block _ (by simp)).trans q1
  constructor
  · exact ⟨_, hm2, fun f t _ => rfl⟩
  · exact fun _ _ _ => rfl
  · exact fun f t y h => nomatch h
  · exact fun f t y h => nomatch h
  · exact fun f t f' t' y y' h => nomatch h
  · exact fun f t y h => nomatch h
  · omega
  · omega
  · omega
  · rw [hW]; simp [go_sem]
  · rw [hW]; simp [go_sem]
  · rw [hW]; simp [go_sem]
  · exact fun f t y h => nomatch h

set_option maxRecDepth 10000 in
set_option maxHeartbeats 4000000 in
theorem meshOf_calls (nx : Int) (a : Option Addr) (n c : Nat) (es : List Pkt) (w : World) (h : NetAt w a n c es) (hn : n ≤ 1000) (hw : ∀ e ∈ es, wfP e.src e.dst ∧ rgP e.src e.dst) :
    Calls Try.prog 22 #[.agg #[.int .i64 nx, .slice a n c]] w fun e w' => ∃ M b H, e = .returned (.pointer (some ⟨M, 0, none⟩)) ∧ MshAt w' w.heap.size M b n nx (wayF es) H ∧ Below w.heap.size w w' := by
  obtain ⟨W0, hW0⟩ : ∃ W0, W0 = ((w.alloc (.cells #[.int .i64 nx, .slice a n c] 26)).alloc (.map #[] 0)).alloc (.cells #[.int .i64 nx, .map (some (w.heap.size + 1))] 55) := ⟨_, rfl⟩
  have hM := MshAt.new w nx _ W0 hW0
  have hb0 : Below w.heap.size w W0 := by rw [hW0]; exact belOn (belOn (bel1 _ _) (bel1 _ _)) (bel1 _ _)
  have hm := make_ways (w.alloc (.cells #[.int .i64 nx, .slice a n c] 26))
  have HM := hide hM
  have HB0 := hide hb0
  have HD := hide h
  have HW := hide hw
  have HW0 := hide hW0.symm
  have hlen := h.len
  have hs1 : (w.alloc (.cells #[.int .i64 nx, .slice a n c] 26)).heap.size = w.heap.size + 1 := by simp
  rw [hs1] at hm
  have hs0 : w.heap.size < W0.heap.size := by rw [hW0]; simp; omega
  have c1 : W0.cell? ⟨w.heap.size, 1, none⟩ = some (.slice a n c) := by rw [hW0]; simp [go_sem]
  clear hM hb0 h hw hW0 hs1
  go_enter Try.func22, Try.ntmps22
  go_wp2_with fail
  rw [unhide HW0]
  clear hm c1
  go_loopw [14] (fun i wr => ∃ k : Nat, i = .int .i64 k ∧ k ≤ n ∧ Hid (∃ H, MshAt wr w.heap.size (w.heap.size + 1 + 1) (w.heap.size + 1) k nx (wayF (es.take k)) H) ∧ Hid (Below w.heap.size w wr)) (fun i _ => n - (intOf i).toNat)
  case atStart => exact ⟨0, rfl, by omega, hide ⟨_, unhide HM⟩, HB0⟩
  case round =>
    clear HM HB0
    obtain ⟨k, rfl, hk, HM, HB⟩ := hrel
    by_cases hkn : k < n
    · have hkl : k < es.length := by omega
      obtain ⟨g, e1, l1, p0, p1, p2, p3⟩ := ((unhide HD).below (unhide HB)).row.px k hkl
      have hsn : wayF (es.take (k + 1)) = addF (wayF (es.take k)) es[k] := by rw [List.take_succ_eq_append_getElem hkl, wayF_snoc]
      have hwx := unhide HW es[k] (by simp)
      generalize es[k] = x at p0 p1 p2 p3 hsn hwx
      obtain ⟨pi, fr, ds, bd⟩ := x
      simp only at p0 p1 p2 p3 hwx
      subst e1
      have i0 : (0 : Int) ≤ (k : Int) := by omega
      have i1 : (k : Int) < (n : Int) := by omega
      obtain ⟨H, hM⟩ := unhide HM
      obtain ⟨W1, hW1⟩ : ∃ W1, W1 = wr.alloc (.cells #[.int .i64 pi, .int .i64 fr, .int .i64 ds, .string bd] 34) := ⟨_, rfl⟩
      have hb1 : Below wr.heap.size wr W1 := by rw [hW1]; exact bel1 _ _
      have s0 : W1.cell? ⟨wr.heap.size, 0, none⟩ = some (.int .i64 pi) := by rw [hW1]; simp [go_sem]
      have s1 : W1.cell? ⟨wr.heap.size, 1, none⟩ = some (.int .i64 fr) := by rw [hW1]; simp [go_sem]
      have s2 : W1.cell? ⟨wr.heap.size, 2, none⟩ = some (.int .i64 ds) := by rw [hW1]; simp [go_sem]
      have s3 : W1.cell? ⟨wr.heap.size, 3, none⟩ = some (.string bd) := by rw [hW1]; simp [go_sem]
      have HP := hide (put_calls (hM.below hb1) pi fr ds bd hwx.1 hwx.2 (by omega) (by have := wayF_len (es.take k) fr ds; have : (es.take k).length ≤ k := List.length_take_le _ _; omega))
      rw [← hsn] at HP
      have HB1 := hide (belOn (unhide HB) hb1)
      have HW1 := hide hW1.symm
      clear hM HM hb1 hW1 hsn
      go_wp2_with fail
      rw [unhide HW1]
      go_wp2_with fail
      refine (unhide HP).mono ?_
      rintro e w2 ⟨rfl, hm2, hb2⟩
      have HB2 := hide ((unhide HB1).trans hb2)
      have HM2 := hide hm2
      clear hm2 hb2
      go_wp2_with fail
      go_roundw
      case rel => exact ⟨k + 1, by go_num, by omega, HM2, HB2⟩
      case measure => simp [intOf]; omega
    · obtain rfl : k = n := by omega
      have HF := hide (unhide HM)
      rw [List.take_of_length_le (by omega)] at HF
      go_wp2_with fail
      go_ret
      obtain ⟨H, hM⟩ := unhide HF
      exact ⟨_, _, H, rfl, hM, unhide HB⟩

/-- What a way's entry reads. -/
theorem Plain.MshAt.look {W : World} {B M b n : Nat} {nx : Int} {F : Int → Int → List Pkt} {H : Int → Int → Option (Nat × Nat)} (h : MshAt W B M b n nx F H) {f t : Int} (hp : wfP f t) :
    (Instr.lookup 51 (.map (some b)) (.agg #[.int .i64 f, .int .i64 t]) false).run Try.prog W = .ok (rowV H F f t) W := by
  obtain ⟨D, hD, hK⟩ := h.map
  obtain ⟨v, ps, hrun, hv⟩ := hD.lookup law_way Try.underlying51 (zeroS W) hdElem_nil (keyW_of hp)
  rw [hrun]
  have hx := hK f t hp
  unfold rowV
  cases hh : H f t with
  | none =>
    rw [hh] at hx
    rw [atKey_of_not_has hx] at hv
    rw [hdElem_none hv]
  | some y =>
    rw [hh] at hx
    rw [hx.2] at hv
    rw [hdElem_some hv]

namespace Plain
def btwL (nx : Int) (es : List Pkt) (f t : Int) : List Int := if netB nx es = true then (wayF es f t).map (·.id) else []
theorem netB_facts {t : Int} {es : List Pkt} (h : netB t es = true) : es.length ≤ 300 ∧ ∀ e ∈ es, wfP e.src e.dst ∧ rgP e.src e.dst := by
  unfold netB at h
  simp only [Bool.and_eq_true, decide_eq_true_eq] at h
  refine ⟨h.2.1, ?_⟩
  have hk : ∀ (l : List Pkt) (p : Int), okP t p l = true → ∀ e ∈ l, wfP e.src e.dst ∧ rgP e.src e.dst := by
    intro l
    induction l with
    | nil => intro p _ e he; simp at he
    | cons x l ih =>
      intro p hp e he
      rw [okP, Bool.and_eq_true] at hp
      rcases List.mem_cons.1 he with rfl | he
      · have h1 := hp.1
        unfold pktB endsB nodeB at h1
        simp only [Bool.and_eq_true, decide_eq_true_eq] at h1
        unfold wfP rgP
        exact ⟨⟨Go.WalkArith.wf_i64 ⟨by omega, by omega⟩, Go.WalkArith.wf_i64 ⟨by omega, by omega⟩⟩, by omega⟩
      · exact ih _ hp.2 e he
  exact hk es 0 h.2.2
end Plain

set_option maxRecDepth 10000 in
set_option maxHeartbeats 4000000 in
theorem impl_Between (nx : Int) (a : Option Addr) (n c : Nat) (es : List Pkt) (fr ds : Int) (w : World) (h : NetAt w a n c es) (hnc : n ≤ c) (hp : wfP fr ds) :
    Calls Try.prog 13 #[.agg #[.int .i64 nx, .slice a n c], .int .i64 fr, .int .i64 ds] w fun e w' => ∃ v, e = .returned v ∧ OwnR i64E w' w.heap.size v (btwL nx es fr ds) ∧ Below w.heap.size w w' := by
  obtain ⟨W0, hW0⟩ : ∃ W0, W0 = w.alloc (.cells #[.int .i64 nx, .slice a n c] 26) := ⟨_, rfl⟩
  have hb0 : Below w.heap.size w W0 := by rw [hW0]; exact bel1 _ _
  have hlt : w.heap.size < W0.heap.size := by rw [hW0]; simp
  have c0 : W0.cell? ⟨w.heap.size, 0, none⟩ = some (.int .i64 nx) := by rw [hW0]; simp [go_sem]
  have c1 : W0.cell? ⟨w.heap.size, 1, none⟩ = some (.slice a n c) := by rw [hW0]; simp [go_sem]
  have HN := hide (impl_NetOk nx a n c es W0 (h.below hb0) hnc)
  have HB0 := hide hb0
  have HW0 := hide hW0.symm
  cases hnet : netB nx es with
  | false =>
    have hbl : btwL nx es fr ds = [] := by unfold btwL; rw [if_neg (by rw [hnet]; decide)]
    rw [hbl]
    rw [hnet] at HN
    clear h hb0 hW0 hnet hbl
    go_enter Try.func13, Try.ntmps13
    go_wp2_with fail
    rw [unhide HW0]
    go_wp2_with fail
    refine (unhide HN).mono ?_
    rintro e w1 ⟨rfl, hb1⟩
    have HB1 := hide (belOn (unhide HB0) hb1)
    clear hb1
    go_wp2_with fail
    go_ret
    exact ⟨_, rfl, ownR_nil _ _ _, unhide HB1⟩
  | true =>
    have hbl : btwL nx es fr ds = (wayF es fr ds).map (·.id) := by unfold btwL; rw [if_pos hnet]
    rw [hbl]
    rw [hnet] at HN
    obtain ⟨f1, f2⟩ := netB_facts hnet
    have hl := h.len
    have HM := hide (fun (W : World) (hW : Below W0.heap.size W0 W) => meshOf_calls nx a n c es W ((h.below hb0).below hW) (by omega) f2)
    have HC0 := hide (fun (W : World) (hW : Below W0.heap.size W0 W) => And.intro (bcl hW hlt c0) (bcl hW hlt c1))
    have hwl := wayF_len es fr ds
    obtain ⟨L, hL⟩ : ∃ L, wayF es fr ds = L := ⟨_, rfl⟩
    have HL := hide hL
    rw [hL] at hwl ⊢
    clear h hb0 hW0 hnet hbl f2 hL
    go_enter Try.func13, Try.ntmps13
    go_wp2_with fail
    rw [unhide HW0]
    go_wp2_with fail
    refine (unhide HN).mono ?_
    rintro e w1 ⟨rfl, hb1⟩
    obtain ⟨q0, q1⟩ := unhide HC0 _ hb1
    have HB1 := hide (belOn (unhide HB0) hb1)
    have HM1 := hide (unhide HM _ hb1)
    clear hb1 c0 c1
    go_wp2_with fail
    refine (unhide HM1).mono ?_
    rintro e w2 ⟨M, b, H, rfl, hm, hb2⟩
    have HB2 := hide (belOn (unhide HB1) hb2)
    have m1 := hm.c1
    have hlk := hm.look hp
    have hro := hm.rowOf fr ds
    rw [unhide HL] at hro
    have HRO := hide hro
    generalize rowV H (wayF es) fr ds = rv at hlk HRO hro
    obtain ⟨ra, rc, rfl⟩ := hro.form
    have HAT := hide hro.at
    clear hm hb2 q0 q1 hro
    go_wp2_with fail
    have hw2 : w.heap.size ≤ w2.heap.size := (unhide HB2).size
    have HFIN := hide (fun (W : World) (hW : Below w2.heap.size w2 W) => belOn (unhide HB2) hW)
    have HR2 := hide (fun (W : World) (hW : Below w2.heap.size w2 W) => (unhide HAT).below hW)
    go_loopw [7, 23] (fun s i wr => ∃ k : Nat, i = .int .i64 k ∧ k ≤ L.length ∧ w2.heap.size ≤ wr.heap.size ∧ Hid (OwnR i64E wr w2.heap.size s ((L.take k).map (·.id))) ∧ Hid (Below w2.heap.size w2 wr)) (fun _ i _ => L.length - (intOf i).toNat)
    case atStart => exact ⟨0, rfl, by omega, Nat.le_refl _, hide (ownR_nil _ _ _), hide (Below.refl _ _)⟩
    case round =>
      clear HAT HB2
      obtain ⟨k, rfl, hk, hz, HS, HB⟩ := hrel
      have HAT := hide (unhide HR2 _ (unhide HB))
      obtain ⟨sa, sc, hv⟩ := (unhide HS).form
      subst hv
      have hlk2 : ((L.take k).map (·.id)).length = k := by rw [List.length_map, List.length_take]; omega
      rw [hlk2] at HS ⊢
      by_cases hkn : k < L.length
      · obtain ⟨g, e1, l1, p0, p1, p2, p3⟩ := (unhide HAT).px k hkn
        have htk : (L.take (k + 1)).map (·.id) = (L.take k).map (·.id) ++ [L[k].id] := by rw [List.take_succ_eq_append_getElem hkn, List.map_append]; rfl
        have HTK := hide htk
        generalize L[k] = x at p0 p1 p2 p3 HTK
        obtain ⟨pi, pf, pt, bd⟩ := x
        simp only at p0 p1 p2 p3 HTK
        subst e1
        have i0 : (0 : Int) ≤ (k : Int) := by omega
        have i1 : (k : Int) < (L.length : Int) := by omega
        obtain ⟨W1, hW1⟩ : ∃ W1, W1 = wr.alloc (.cells #[.int .i64 pi, .int .i64 pf, .int .i64 pt, .string bd] 34) := ⟨_, rfl⟩
        have hb1 : Below wr.heap.size wr W1 := by rw [hW1]; exact bel1 _ _
        have s0 : W1.cell? ⟨wr.heap.size, 0, none⟩ = some (.int .i64 pi) := by rw [hW1]; simp [go_sem]
        have HB1 := hide (belOn (unhide HB) hb1)
        have HS1 := hide ((unhide HS).keep hb1)
        have hz1 : w2.heap.size ≤ W1.heap.size := Nat.le_trans hz hb1.size
        have HW1 := hide hW1.symm
        have hlen : ((L.take k).map (·.id)).length < 100000000 := by omega
        rw [hW1] at HS1 hz1 HB1
        clear hW1 hb1 htk HS HAT HB s0 HW1
        go_wp2_with (at_builtin; go_must (refine appR (e := i64E) rfl _ _ rfl (unhide HS1) rfl pi rfl _ rfl (by simp) hlen hz1 ?_); intro v' w6 hown6 hb6 hg6; obtain ⟨a', c', hv'⟩ := hown6.form; subst hv')
        have hb7 : Below w2.heap.size w2 w6 := (unhide HB1).trans hb6
        go_roundw
        case rel => exact ⟨k + 1, by go_num, by omega, hb7.size, hide (by rw [unhide HTK, show k + 1 = ((L.take k).map (·.id) ++ [pi]).length from by rw [List.length_append, hlk2]; rfl]; exact hown6), hide hb7⟩
        case measure => simp [intOf]; omega
      · obtain rfl : k = L.length := by omega
        rw [List.take_length] at HS
        go_wp2_with fail
        go_ret
        exact ⟨_, rfl, (unhide HS).le hw2, unhide HFIN _ (unhide HB)⟩
end Go.Proofs.Ytgdcamolpmjceaa
