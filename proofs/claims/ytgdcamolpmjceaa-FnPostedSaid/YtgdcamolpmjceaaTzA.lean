/- Texts of one kind, put together. -/
import Derived.Test.YtgdcamolpmjceaaTakM

/- One packet deleted from a row, by the library. -/
namespace Go.Proofs.Ytgdcamolpmjceaa
open Go.RowKit Go.Maps Plain
set_option linter.unusedVariables false

theorem eqPkt_same (p : Pkt) (W : World) : (Go.binOp .eql 34 (.agg #[.int .i64 p.id, .int .i64 p.src, .int .i64 p.dst, .string p.body]) (.agg #[.int .i64 p.id, .int .i64 p.src, .int .i64 p.dst, .string p.body])).run Try.prog W = .ok (.bool true) W := by
  rw [run_eql_struct, run_equalIn_struct W 9999 34 _ _ (by kernel_rfl) (by kernel_rfl)]
  simp [go_sem, Try.underlying34, Program.fieldsOf, Try.underlying2, Try.underlying9]
theorem eqPkt_not (p q : Pkt) (W : World) (h : ¬ p.id = q.id) : (Go.binOp .eql 34 (.agg #[.int .i64 p.id, .int .i64 p.src, .int .i64 p.dst, .string p.body]) (.agg #[.int .i64 q.id, .int .i64 q.src, .int .i64 q.dst, .string q.body])).run Try.prog W = .ok (.bool false) W := by
  rw [run_eql_struct, run_equalIn_struct W 9999 34 _ _ (by kernel_rfl) (by kernel_rfl)]
  simp [go_sem, Try.underlying34, Program.fieldsOf, Try.underlying2, Try.underlying9, h]

/-- The packet that the closure holds lies in block G. -/
structure Plain.PkAt (G : Nat) (p : Pkt) (W : World) : Prop where
  c0 : W.cell? ⟨G, 0, none⟩ = some (.int .i64 p.id)
  c1 : W.cell? ⟨G, 1, none⟩ = some (.int .i64 p.src)
  c2 : W.cell? ⟨G, 2, none⟩ = some (.int .i64 p.dst)
  c3 : W.cell? ⟨G, 3, none⟩ = some (.string p.body)
theorem Plain.PkAt.gr {G : Nat} {p : Pkt} {W W' : World} (h : PkAt G p W) (hb : W'.heap[G]? = W.heap[G]?) : PkAt G p W' := ⟨(World.cell?_of_block (a := ⟨G, 0, none⟩) hb).trans h.c0, (World.cell?_of_block (a := ⟨G, 1, none⟩) hb).trans h.c1, (World.cell?_of_block (a := ⟨G, 2, none⟩) hb).trans h.c2, (World.cell?_of_block (a := ⟨G, 3, none⟩) hb).trans h.c3⟩

set_option maxRecDepth 10000 in
theorem closD_calls (q p : Pkt) (G : Nat) (W : World) (hG : PkAt G p W) (hqp : q.id = p.id → q = p) :
    Calls Try.prog 45 #[.agg #[.int .i64 q.id, .int .i64 q.src, .int .i64 q.dst, .string q.body], .pointer (some ⟨G, 0, none⟩)] W fun e w' => e = .returned (.bool (decide (q.id = p.id))) ∧ Below W.heap.size W w' := by
  obtain ⟨W1, hW1⟩ : ∃ W1, W1 = W.alloc (.cells #[.int .i64 q.id, .int .i64 q.src, .int .i64 q.dst, .string q.body] 34) := ⟨_, rfl⟩
  have hb1 : Below W.heap.size W W1 := by rw [hW1]; exact bel1 _ _
  have hGl : G < W.heap.size := lt_of_cell hG.c0
  obtain ⟨k0, k1, k2, k3⟩ := hG.gr (hb1.block G hGl)
  have HB1 := hide hb1
  rw [hW1] at HB1 k0 k1 k2 k3
  by_cases h : q.id = p.id
  · have := hqp h
    subst this
    rw [decide_eq_true rfl]
    have hr := eqPkt_same q W1
    rw [hW1] at hr
    clear hW1 hb1 hG hqp h
    go_enter Try.func45, Try.ntmps45
    go_wp2_with fail
    go_ret
    exact ⟨rfl, unhide HB1⟩
  · rw [decide_eq_false h]
    have hr := eqPkt_not q p W1 h
    rw [hW1] at hr
    clear hW1 hb1 hG hqp
    go_enter Try.func45, Try.ntmps45
    go_wp2_with fail
    go_ret
    exact ⟨rfl, unhide HB1⟩

/-- A packet written over another one. -/
def Plain.w4 (W : World) (g k : Nat) (y : Pkt) : World := (((W.setCell ⟨g, k * 4, none⟩ (.int .i64 y.id)).setCell ⟨g, k * 4 + 1, none⟩ (.int .i64 y.src)).setCell ⟨g, k * 4 + 2, none⟩ (.int .i64 y.dst)).setCell ⟨g, k * 4 + 3, none⟩ (.string y.body)
theorem OwnR.set4 {W : World} {B g n c : Nat} {xs : List Pkt} (h : OwnR pktE W B (.slice (some ⟨g, 0, none⟩) n c) xs) (hn : xs.length = n) (k : Nat) (hk : k < xs.length) (y : Pkt) : OwnR pktE (w4 W g k y) B (.slice (some ⟨g, 0, none⟩) n c) (xs.set k y) := by
  have hS0 := h.setJ hn k hk 0 (by decide) (.int .i64 y.id) ⟨y.id, xs[k].src, xs[k].dst, xs[k].body⟩ rfl
  have hS1 := hS0.setJ (by rw [List.length_set]; exact hn) k (by rw [List.length_set]; exact hk) 1 (by decide) (.int .i64 y.src) ⟨y.id, y.src, xs[k].dst, xs[k].body⟩ (by rw [List.getElem_set_self]; rfl)
  rw [List.set_set] at hS1
  have hS2 := hS1.setJ (by rw [List.length_set]; exact hn) k (by rw [List.length_set]; exact hk) 2 (by decide) (.int .i64 y.dst) ⟨y.id, y.src, y.dst, xs[k].body⟩ (by rw [List.getElem_set_self]; rfl)
  rw [List.set_set] at hS2
  have hS3 := hS2.setJ (by rw [List.length_set]; exact hn) k (by rw [List.length_set]; exact hk) 3 (by decide) (.string y.body) y (by rw [List.getElem_set_self]; rfl)
  rw [List.set_set] at hS3
  exact hS3
theorem Plain.w4_heap {W : World} {g k b : Nat} {y : Pkt} (h : g ≠ b) : (w4 W g k y).heap[b]? = W.heap[b]? := (heap_setN h).trans ((heap_setN h).trans ((heap_setN h).trans (heap_setN h)))
theorem Plain.w4_size (W : World) (g k : Nat) (y : Pkt) : (w4 W g k y).heap.size = W.heap.size := by simp [w4]
theorem Plain.w4_gr {W W' : World} {g k : Nat} {y : Pkt} (h : W.grownBy W' (some g)) : W.grownBy (w4 W' g k y) (some g) := ⟨h.os, h.tape, h.output, by rw [w4_size]; exact h.size, fun b hb hne => (w4_heap (fun e => hne (by rw [e]))).trans (h.block b hb hne)⟩
/-- What is known of a place of an own row. -/
theorem OwnR.place {W : World} {B g n c : Nat} {xs : List Pkt} (h : OwnR pktE W B (.slice (some ⟨g, 0, none⟩) n c) xs) (k : Nat) (hk : k < xs.length) : (W.cell? ⟨g, k * 4, none⟩ = some (.int .i64 xs[k].id) ∧ W.cell? ⟨g, k * 4 + 1, none⟩ = some (.int .i64 xs[k].src) ∧ W.cell? ⟨g, k * 4 + 2, none⟩ = some (.int .i64 xs[k].dst) ∧ W.cell? ⟨g, k * 4 + 3, none⟩ = some (.string xs[k].body)) ∧ W.frozen? ⟨g, k * 4, none⟩ = false ∧ W.frozen? ⟨g, k * 4 + 1, none⟩ = false ∧ W.frozen? ⟨g, k * 4 + 2, none⟩ = false ∧ W.frozen? ⟨g, k * 4 + 3, none⟩ = false := by
  obtain ⟨g', e1, _, hc⟩ := h.at k hk
  cases e1
  exact ⟨⟨(hc 0 (by decide)).1, (hc 1 (by decide)).1, (hc 2 (by decide)).1, (hc 3 (by decide)).1⟩, (hc 0 (by decide)).2, (hc 1 (by decide)).2, (hc 2 (by decide)).2, (hc 3 (by decide)).2⟩
theorem zeroPk (w : World) : (zeroValue 34).run Try.prog w = .ok (.agg #[.int .i64 0, .int .i64 0, .int .i64 0, .string ⟨#[]⟩]) w := by kernel_rfl
theorem clear_one {W : World} {B g n c k cc : Nat} {xs : List Pkt} (h : OwnR pktE W B (.slice (some ⟨g, 0, none⟩) n c) xs) (hk : k < xs.length) (ty : TypeId) : (Builtin.clear_ #[24] ty #[.slice (some ⟨g, k * 4, none⟩) 1 cc]).run Try.prog W = .ok (.tuple #[]) (w4 W g k zPkt) := by
  obtain ⟨⟨c0, c1, c2, c3⟩, z0, z1, z2, z3⟩ := h.place k hk
  have hst := run_storeCells_cells (P := Try.prog) g (k * 4) [.int .i64 0, .int .i64 0, .int .i64 0, .string ⟨#[]⟩] 0 W
    (fun j hj => by
      have hj4 : j < 4 := hj
      obtain rfl | rfl | rfl | rfl : j = 0 ∨ j = 1 ∨ j = 2 ∨ j = 3 := by omega
      all_goals simp [c0, c1, c2, c3])
    (fun j hj => by
      have hj4 : j < 4 := hj
      obtain rfl | rfl | rfl | rfl : j = 0 ∨ j = 1 ∨ j = 2 ∨ j = 3 := by omega
      all_goals simp [z0, z1, z2, z3])
    (by intro v hv; simp at hv; rcases hv with rfl | rfl <;> rfl)
  simp only [Nat.add_zero] at hst
  have hz : (Builtin.zeroCells (Value.agg #[.int .i64 0, .int .i64 0, .int .i64 0, .string ⟨#[]⟩]).cells 1).toList = [.int .i64 0, .int .i64 0, .int .i64 0, .string ⟨#[]⟩] := by kernel_rfl
  simp [Builtin.clear_, run_underlying Try.underlying24, hz, hst, World.setCells, w4, zPkt]
end Go.Proofs.Ytgdcamolpmjceaa


/- One packet deleted from a row: IndexFunc and DeleteFunc of the library. -/
namespace Go.Proofs.Ytgdcamolpmjceaa
open Go.RowKit Go.Maps Plain
set_option linter.unusedVariables false

set_option maxRecDepth 10000 in
set_option maxHeartbeats 4000000 in
theorem idxf_calls (a : Option Addr) (n c i G : Nat) (L : List Pkt) (p : Pkt) (w : World) (h : RowAt pktE w a L) (hn : L.length = n) (hn2 : n ≤ 1048576) (hG : PkAt G p w) (hi : i < L.length) (hip : L[i] = p) (hno : ∀ j (hj : j < L.length), j ≠ i → L[j].id ≠ p.id) :
    Calls Try.prog 49 #[.slice a n c, .func (.func 45) #[] #[.pointer (some ⟨G, 0, none⟩)]] w fun e w' => e = .returned (.int .i64 (i : Nat)) ∧ Below w.heap.size w w' := by
  have HH := hide h
  have hGl : G < w.heap.size := lt_of_cell hG.c0
  have HG := hide hG
  have HNO := hide hno
  have HIP := hide hip
  clear h hG hno hip
  go_enter Try.func49, Try.ntmps49
  go_wp2_with fail
  go_loopw [8] (fun s wr => ∃ k : Nat, s = .int .i64 k ∧ k ≤ i ∧ Hid (Below w.heap.size w wr)) (fun s _ => n - (intOf s).toNat)
  case atStart => exact ⟨0, rfl, by omega, hide (Below.refl _ _)⟩
  case round =>
    obtain ⟨k, rfl, hk, HB⟩ := hrel
    have hkl : k < L.length := by omega
    obtain ⟨g, e1, l1, p0, p1, p2, p3⟩ := ((unhide HH).below (unhide HB)).px k hkl
    have i0 : (0 : Int) ≤ (k : Int) := by omega
    have i1 : (k : Int) < (n : Int) := by omega
    by_cases hki : k = i
    · have HCL := hide (closD_calls L[k] p G wr ((unhide HG).gr ((unhide HB).block G hGl)) (fun _ => by subst hki; exact unhide HIP))
      have hid : L[k].id = p.id := by subst hki; rw [unhide HIP]
      rw [decide_eq_true hid] at HCL
      generalize L[k] = y at p0 p1 p2 p3 HCL
      obtain ⟨pi, fr, ds, bd⟩ := y
      simp only at p0 p1 p2 p3 HCL
      clear hid
      subst e1 hki
      go_wp2_with fail
      refine (unhide HCL).mono ?_
      rintro e w1 ⟨rfl, hb1⟩
      have HB1 := hide (belOn (unhide HB) hb1)
      clear hb1
      go_wp2_with fail
      go_ret
      exact ⟨rfl, unhide HB1⟩
    · have hne := unhide HNO k hkl hki
      have HCL := hide (closD_calls L[k] p G wr ((unhide HG).gr ((unhide HB).block G hGl)) (fun e => absurd e hne))
      rw [decide_eq_false hne] at HCL
      generalize L[k] = y at p0 p1 p2 p3 HCL
      obtain ⟨pi, fr, ds, bd⟩ := y
      simp only at p0 p1 p2 p3 HCL
      clear hne
      subst e1
      go_wp2_with fail
      refine (unhide HCL).mono ?_
      rintro e w1 ⟨rfl, hb1⟩
      have HB1 := hide (belOn (unhide HB) hb1)
      clear hb1
      go_wp2_with fail
      go_roundw
      case rel => exact ⟨k + 1, by go_num, by omega, HB1⟩
      case measure => simp [intOf]; omega

namespace Plain
/-- The row while one of its packets is being deleted. -/
def midP (L : List Pkt) (i q : Nat) : List Pkt := (L.eraseIdx i).take (q - 1) ++ L.drop (q - 1)
theorem midP_len (L : List Pkt) (i q : Nat) (hi : i < L.length) (h1 : i < q) (h2 : q ≤ L.length) : (midP L i q).length = L.length := by
  unfold midP
  rw [List.length_append, List.length_take, List.length_drop, List.length_eraseIdx_of_lt hi]
  omega
theorem midP_start (L : List Pkt) (i : Nat) : midP L i (i + 1) = L := by
  unfold midP
  rw [Nat.add_sub_cancel, List.eraseIdx_eq_take_drop_succ]
  by_cases h : i ≤ L.length
  · rw [List.take_append_of_le_length (by rw [List.length_take]; omega), List.take_take, Nat.min_self, List.take_append_drop]
  · rw [List.take_of_length_le (show L.length ≤ i by omega), List.drop_of_length_le (show L.length ≤ i + 1 by omega), List.drop_of_length_le (show L.length ≤ i by omega), List.append_nil, List.append_nil, List.take_of_length_le (by omega)]
theorem midP_get (L : List Pkt) (i q : Nat) (hi : i < L.length) (h1 : i < q) (h2 : q < L.length) (h3 : q < (midP L i q).length) : (midP L i q)[q] = L[q] := by
  have hl : ((L.eraseIdx i).take (q - 1)).length = q - 1 := by rw [List.length_take, List.length_eraseIdx_of_lt hi]; omega
  have e : (midP L i q)[q]? = L[q]? := by
    unfold midP
    rw [List.getElem?_append_right (by omega), List.getElem?_drop, hl]
    congr 1
    omega
  rw [List.getElem?_eq_getElem h3, List.getElem?_eq_getElem h2] at e
  exact Option.some.inj e
theorem midP_next (L : List Pkt) (i q : Nat) (hi : i < L.length) (h1 : i < q) (h2 : q < L.length) : (midP L i q).set (q - 1) L[q] = midP L i (q + 1) := by
  unfold midP
  have hl : ((L.eraseIdx i).take (q - 1)).length = q - 1 := by rw [List.length_take, List.length_eraseIdx_of_lt hi]; omega
  have hq : q - 1 < (L.eraseIdx i).length := by rw [List.length_eraseIdx_of_lt hi]; omega
  rw [List.set_append_right _ _ (by omega), hl, Nat.sub_self, List.drop_eq_getElem_cons (show q - 1 < L.length by omega), List.set_cons_zero, Nat.add_sub_cancel]
  have e2 : (L.eraseIdx i).take q = (L.eraseIdx i).take (q - 1) ++ [L[q]] := by
    obtain ⟨r, rfl⟩ : ∃ r, q = r + 1 := ⟨q - 1, by omega⟩
    rw [Nat.add_sub_cancel, List.take_succ_eq_append_getElem (by simpa using hq)]
    congr 2
    rw [List.getElem_eraseIdx_of_ge _ (by omega)]
  rw [e2, List.append_assoc, show q - 1 + 1 = q by omega]
  rfl
theorem midP_end (L : List Pkt) (i : Nat) (hi : i < L.length) : ((midP L i L.length).set (L.length - 1) zPkt).take (L.length - 1) = L.take i ++ L.drop (i + 1) := by
  have hl : ((L.eraseIdx i).take (L.length - 1)).length = L.length - 1 := by rw [List.length_take, List.length_eraseIdx_of_lt hi]; omega
  unfold midP
  rw [List.set_append_right _ _ (by omega), List.take_append_of_le_length (by omega), List.take_of_length_le (by omega), ← List.eraseIdx_eq_take_drop_succ, List.take_of_length_le (by rw [List.length_eraseIdx_of_lt hi]; omega)]
end Plain

set_option maxRecDepth 10000 in
set_option maxHeartbeats 4000000 in
theorem delf_calls (B g n c i G : Nat) (L : List Pkt) (p : Pkt) (w : World) (h : OwnR pktE w B (.slice (some ⟨g, 0, none⟩) n c) L) (hn2 : n ≤ 1048576) (hG : PkAt G p w) (hGg : G ≠ g) (hi : i < L.length) (hip : L[i] = p) (hno : ∀ j (hj : j < L.length), j ≠ i → L[j].id ≠ p.id) :
    Calls Try.prog 44 #[.slice (some ⟨g, 0, none⟩) n c, .func (.func 45) #[] #[.pointer (some ⟨G, 0, none⟩)]] w fun e w' => e = .returned (.slice (some ⟨g, 0, none⟩) (n - 1) c) ∧ OwnR pktE w' B (.slice (some ⟨g, 0, none⟩) (n - 1) c) (L.take i ++ L.drop (i + 1)) ∧ w.grownBy w' (some g) := by
  obtain ⟨_, _, hf⟩ := h.form
  have hn : L.length = n := by injection hf with _ q _; exact q.symm
  have hnc : n ≤ c := by
    rcases h.2 with ⟨q, _⟩ | ⟨g', cap', cur, q, _, _, q2, _⟩
    · cases q
    · injection q with _ _ q3
      omega
  have hgl := (World.ownsRow.lt h g rfl).2
  have HIX := hide (idxf_calls (some ⟨g, 0, none⟩) n c i G L p w h.at hn hn2 hG hi hip hno)
  have hGl : G < w.heap.size := lt_of_cell hG.c0
  have HH := hide h
  have HG := hide hG
  have HNO := hide hno
  have hm1 : ¬ (i : Int) = -1 := by omega
  clear h hG hno hip hf
  go_enter Try.func44, Try.ntmps44
  go_wp2_with fail
  refine (unhide HIX).mono ?_
  rintro e w1 ⟨rfl, hb1⟩
  have HO1 := hide ((unhide HH).keep hb1)
  have HG1 := hide (show w.grownBy w1 (some g) from ⟨hb1.os, hb1.tape, hb1.output, hb1.size, fun k hk _ => hb1.block k hk⟩)
  clear hb1
  go_wp2_with fail
  rw [show ((i : Int) == -1) = false from by rw [beq_eq_false_iff_ne]; exact hm1]
  go_loopw [5, 6] (fun s5 s6 wr => ∃ Q q : Nat, s5 = .int .i64 Q ∧ s6 = .int .i64 q ∧ Hid (q = Q + 1) ∧ i ≤ Q ∧ q ≤ n ∧ Q < n ∧ Hid (OwnR pktE wr B (.slice (some ⟨g, 0, none⟩) n c) (midP L i q)) ∧ Hid (w.grownBy wr (some g))) (fun _ s6 _ => n - (intOf s6).toNat)
  case atStart => exact ⟨i, i + 1, rfl, by go_num, hide rfl, by omega, by omega, by omega, hide (by rw [midP_start]; exact unhide HO1), HG1⟩
  case round =>
    clear HO1 HG1
    obtain ⟨Q, q, rfl, rfl, HQ, hiQ, hqn, hQn, HO, HGR⟩ := hrel
    have hzr := (unhide HGR).size
    by_cases hq : q < n
    · have hql : q < L.length := by omega
      have hiq : i < q := by have := unhide HQ; omega
      have hml := midP_len L i q hi hiq (by omega)
      have hqm : q < (midP L i q).length := by omega
      have hQm : Q < (midP L i q).length := by omega
      obtain ⟨⟨p0, p1, p2, p3⟩, -⟩ := (unhide HO).place q hqm
      obtain ⟨⟨r0, r1, r2, r3⟩, z0, z1, z2, z3⟩ := (unhide HO).place Q hQm
      rw [midP_get L i q hi hiq hql hqm] at p0 p1 p2 p3
      have hne := unhide HNO q hql (by omega)
      have HCL := hide (fun (W : World) (hW : W.heap[G]? = wr.heap[G]?) => closD_calls L[q] p G W ((unhide HG).gr (hW.trans ((unhide HGR).block G hGl (fun e => hGg (Option.some.inj e))))) (fun e => absurd e hne))
      rw [decide_eq_false hne] at HCL
      have hnx := midP_next L i q hi hiq hql
      rw [show q - 1 = Q by have := unhide HQ; omega] at hnx
      have HS := hide (fun (W : World) (hW : OwnR pktE W B (.slice (some ⟨g, 0, none⟩) n c) (midP L i q)) => hW.set4 (by omega) Q hQm L[q])
      rw [hnx] at HS
      generalize L[q] = y at p0 p1 p2 p3 HCL HS
      obtain ⟨pi, fr, ds, bd⟩ := y
      simp only at p0 p1 p2 p3 HCL
      generalize (midP L i q)[Q] = y2 at r0 r1 r2 r3
      have i0 : (0 : Int) ≤ (q : Int) := by omega
      have i1 : (q : Int) < (n : Int) := by omega
      have i2 : (0 : Int) ≤ (Q : Int) := by omega
      have i3 : (Q : Int) < (n : Int) := by omega
      obtain ⟨W1, hW1⟩ : ∃ W1, W1 = wr.alloc (.cells #[.int .i64 pi, .int .i64 fr, .int .i64 ds, .string bd] 34) := ⟨_, rfl⟩
      have hb1 : Below wr.heap.size wr W1 := by rw [hW1]; exact bel1 _ _
      have s0 : W1.cell? ⟨wr.heap.size, 0, none⟩ = some (.int .i64 pi) := by rw [hW1]; simp [go_sem]
      have s1 : W1.cell? ⟨wr.heap.size, 1, none⟩ = some (.int .i64 fr) := by rw [hW1]; simp [go_sem]
      have s2 : W1.cell? ⟨wr.heap.size, 2, none⟩ = some (.int .i64 ds) := by rw [hW1]; simp [go_sem]
      have s3 : W1.cell? ⟨wr.heap.size, 3, none⟩ = some (.string bd) := by rw [hW1]; simp [go_sem]
      have hz1 : W1.heap.size = wr.heap.size + 1 := by rw [hW1]; simp
      have HC1 := hide (unhide HCL W1 (hb1.block G (by omega)))
      have HW1 := hide hW1.symm
      have HBB := hide hb1
      clear hne hnx hml hqm hQm hW1 hb1 HCL
      go_wp2_with fail
      rw [unhide HW1]
      refine (unhide HC1).mono ?_
      rintro e w2 ⟨rfl, hb2⟩
      have hb12 := belOn (unhide HBB) hb2
      have t0 := bcl hb2 (show wr.heap.size < W1.heap.size by omega) s0
      have t1 := bcl hb2 (show wr.heap.size < W1.heap.size by omega) s1
      have t2 := bcl hb2 (show wr.heap.size < W1.heap.size by omega) s2
      have t3 := bcl hb2 (show wr.heap.size < W1.heap.size by omega) s3
      have hgr : g < wr.heap.size := by omega
      have a0 := bcl hb12 hgr r0
      have a1 := bcl hb12 hgr r1
      have a2 := bcl hb12 hgr r2
      have a3 := bcl hb12 hgr r3
      have y0 := (hb12.frozen (p := ⟨g, Q * 4, none⟩) hgr).trans z0
      have y1 := (hb12.frozen (p := ⟨g, Q * 4 + 1, none⟩) hgr).trans z1
      have y2 := (hb12.frozen (p := ⟨g, Q * 4 + 2, none⟩) hgr).trans z2
      have y3 := (hb12.frozen (p := ⟨g, Q * 4 + 3, none⟩) hgr).trans z3
      have HO2 := hide ((unhide HO).keep hb12)
      have HG2 := hide (show w.grownBy w2 (some g) from ⟨hb12.os.trans (unhide HGR).os, hb12.tape.trans (unhide HGR).tape, hb12.output.trans (unhide HGR).output, Nat.le_trans (unhide HGR).size hb12.size, fun k hk hne => (hb12.block k (by omega)).trans ((unhide HGR).block k hk hne)⟩)
      clear hb2 hb12 p0 p1 p2 p3 r0 r1 r2 r3 z0 z1 z2 z3 s0 s1 s2 s3
      go_wp2_with fail
      go_roundw
      case rel => exact ⟨Q + 1, q + 1, by go_num, by go_num, hide (by rw [unhide HQ]), by omega, by omega, by have := unhide HQ; omega, hide (unhide HS w2 (unhide HO2)), hide (w4_gr (k := Q) (y := ⟨pi, fr, ds, bd⟩) (unhide HG2))⟩
      case measure => simp [intOf]; omega
    · obtain rfl : q = n := by omega
      have hql : Q + 1 = L.length := by have := unhide HQ; omega
      have hml := midP_len L i q hi (by omega) (by omega)
      have hcl := clear_one (k := Q) (cc := c - Q) (unhide HO) (by omega)
      have hend := midP_end L i hi
      have hQe : L.length - 1 = Q := by omega
      rw [hQe, hn] at hend
      have HF := hide (((unhide HO).set4 (by omega) Q (by omega) zPkt).cutP (m := Q) (by omega))
      rw [hend] at HF
      have HGF := hide (w4_gr (k := Q) (y := zPkt) (unhide HGR))
      have hq1 : q - 1 = Q := by omega
      have HQ1 := hide hq1
      have i2 : (0 : Int) ≤ (Q : Int) := by omega
      have i3 : (Q : Int) ≤ (q : Int) := by omega
      have i4 : (Q : Int) ≤ (c : Int) := by omega
      have hqQ : q - Q = 1 := by omega
      have hcQ : ¬ c = Q := by omega
      clear hml hend hQe hq1
      go_wp2_with fail
      go_ret
      exact ⟨by rw [unhide HQ1]; rfl, by rw [unhide HQ1]; exact unhide HF, unhide HGF⟩
end Go.Proofs.Ytgdcamolpmjceaa


/- A packet dropped from a mesh, by the program. -/
namespace Go.Proofs.Ytgdcamolpmjceaa
open Go.RowKit Go.Maps Plain
set_option linter.unusedVariables false

namespace Plain
def swpF (F : Int → Int → List Pkt) (f0 t0 : Int) (L : List Pkt) (f t : Int) : List Pkt := if f0 = f ∧ t0 = t then L else F f t
theorem way_drop {es : List Pkt} {p : Pkt} (hr : RisP es) (hp : p ∈ es) : wayF (dropI es p.id) = swpF (wayF es) p.src p.dst (dropI (wayF es p.src p.dst) p.id) := by
  funext f t
  have e : wayF (dropI es p.id) f t = dropI (wayF es f t) p.id := by
    unfold wayF dropI
    rw [List.filter_filter, List.filter_filter]
    exact List.filter_congr fun q _ => Bool.and_comm _ _
  rw [e]
  unfold swpF
  by_cases h : p.src = f ∧ p.dst = t
  · rw [if_pos h, h.1, h.2]
  · rw [if_neg h]
    unfold dropI
    rw [List.filter_eq_self]
    intro q hq
    simp only [Bool.not_eq_true', decide_eq_false_iff_not]
    intro hid
    unfold wayF at hq
    rw [List.mem_filter] at hq
    have := hr.inj hq.1 hp hid
    subst this
    exact h (by simpa using hq.2)
end Plain
theorem Plain.MshAt.swap {W w2 V : World} {B M b n n' : Nat} {nx : Int} {F : Int → Int → List Pkt} {H : Int → Int → Option (Nat × Nat)} (h : MshAt W B M b n nx F H) {f0 t0 : Int} (hp : wfP f0 t0) {y : Nat × Nat} (hy : H f0 t0 = some y) {L : List Pkt} {D : DataW Unit} (hK : ∀ f t, wfP f t → match H f t with
    | none => Maps.has D (keyW f t) = false
    | some y => Maps.has D (keyW f t) = true ∧ ∀ z, D.atKey (keyW f t) z = hdD y.1 (F f t).length y.2) (hDm : IsMap D)
    (g2 : W.grownBy w2 (some y.1)) (g3 : w2.grownBy V (some b)) (own : OwnR pktE w2 B (.slice (some ⟨y.1, 0, none⟩) L.length y.2) L) (hmap : V.ownsMap Try.prog 53 hdElem b n' (D.put (keyW f0 t0) (hdD y.1 L.length y.2))) :
    MshAt V B M b n' nx (swpF F f0 t0 L) H := by
  have hl := h.lt
  have hs := g2.size
  have hoff := h.off _ _ _ hy
  have hblk : ∀ k, k < W.heap.size → k ≠ b → k ≠ y.1 → V.heap[k]? = W.heap[k]? := fun k hk h1 h2 => (g3.block k (by omega) (fun e => h1 (Option.some.inj e))).trans (g2.block k hk (fun e => h2 (Option.some.inj e)))
  have hM := hblk M hl.1 h.Mb (fun e => hoff.2 e.symm)
  have hlt : ∀ f t z, H f t = some z → z.1 < W.heap.size := fun f t z hz => (h.blk (f := f) (t := t) (k := z.1) (by unfold rowV; rw [hz]; rfl)).1
  refine ⟨⟨_, hmap, fun f t hft => ?_⟩, ?_, h.wf, ?_, h.apart, h.off, h.Mb, h.BM, h.Bb, (World.cell?_of_block (a := ⟨M, 0, none⟩) hM).trans h.c0, (World.cell?_of_block (a := ⟨M, 1, none⟩) hM).trans h.c1, (World.frozen?_of_block (a := ⟨M, 0, none⟩) hM).trans h.z0, h.rng⟩
  · unfold swpF
    by_cases e : f0 = f ∧ t0 = t
    · obtain ⟨rfl, rfl⟩ := e
      rw [hy]
      simp only [and_self, if_true]
      exact ⟨has_put_same hDm (keyW_ok _ _) _, fun z => atKey_put_same hDm (keyW_ok _ _) _ z⟩
    · have hne : keyW f t ≠ keyW f0 t0 := fun q => e (by have := keyW_inj hft hp q; exact ⟨this.1.symm, this.2.symm⟩)
      simp only [if_neg e]
      have hx := hK f t hft
      cases hh : H f t with
      | none => rw [hh] at hx; exact (has_put_other hne _).trans hx
      | some z => rw [hh] at hx; exact ⟨(has_put_other hne _).trans hx.1, fun u => (atKey_put_other hne _ u).trans (hx.2 u)⟩
  · intro f t hn
    unfold swpF
    by_cases e : f0 = f ∧ t0 = t
    · rw [e.1, e.2, hn] at hy; cases hy
    · rw [if_neg e]; exact h.nil f t hn
  · intro f t z hz
    unfold swpF
    by_cases e : f0 = f ∧ t0 = t
    · obtain ⟨rfl, rfl⟩ := e
      rw [hy] at hz
      cases hz
      simp only [and_self, if_true]
      exact own.otherN (fun k hk => g3.block k (World.ownsRow.lt own k hk).2 (fun q => hoff.1 (by have := own_blkN hk; rw [this]; exact Option.some.inj q)))
    · rw [if_neg e]
      refine (h.row f t z hz).otherN (fun k hk => ?_)
      have := own_blkN hk
      subst this
      exact hblk _ (hlt f t z hz) (h.off f t z hz).1 (fun q => e (by have := h.apart _ _ _ _ _ _ hz hy q; exact ⟨this.1.symm, this.2.symm⟩))

set_option maxRecDepth 10000 in
set_option maxHeartbeats 4000000 in
theorem drop_calls {W : World} {B M b n : Nat} {nx : Int} {es : List Pkt} {H : Int → Int → Option (Nat × Nat)} (h : MshAt W B M b n nx (wayF es) H) (hr : RisP es) (pi fr ds : Int) (bd : ByteArray) (hp : (⟨pi, fr, ds, bd⟩ : Pkt) ∈ es) (hwp : wfP fr ds) (hn : n < 100000) (hl : es.length ≤ 100000) :
    Calls Try.prog 36 #[.pointer (some ⟨M, 0, none⟩), .agg #[.int .i64 pi, .int .i64 fr, .int .i64 ds, .string bd]] W fun e w' => e = .returned (.tuple #[]) ∧ (∃ H', MshAt w' B M b (n + 1) nx (wayF (dropI es pi)) H') ∧ Below B W w' := by
  obtain ⟨W1, hW1⟩ : ∃ W1, W1 = (W.alloc (.cells #[.int .i64 pi, .int .i64 fr, .int .i64 ds, .string bd] 34)).alloc (.cells #[.int .i64 fr, .int .i64 ds] 53) := ⟨_, rfl⟩
  have hlt := h.lt
  have hz : W1.heap.size = W.heap.size + 2 := by rw [hW1]; simp
  have hb1 : Below W.heap.size W W1 := by rw [hW1]; exact belOn (bel1 _ _) (bel1 _ _)
  have h1 := h.below hb1
  have hPk : PkAt W.heap.size ⟨pi, fr, ds, bd⟩ W1 := ⟨by rw [hW1]; simp [go_sem], by rw [hW1]; simp [go_sem], by rw [hW1]; simp [go_sem], by rw [hW1]; simp [go_sem]⟩
  have b0 : W1.cell? ⟨W.heap.size + 1, 0, none⟩ = some (.int .i64 fr) := by rw [hW1]; simp [go_sem]
  have b1 : W1.cell? ⟨W.heap.size + 1, 1, none⟩ = some (.int .i64 ds) := by rw [hW1]; simp [go_sem]
  have hmem : (⟨pi, fr, ds, bd⟩ : Pkt) ∈ wayF es fr ds := by unfold wayF; rw [List.mem_filter]; exact ⟨hp, by simp⟩
  obtain ⟨y, hy⟩ : ∃ y, H fr ds = some y := by
    cases hh : H fr ds with
    | none => rw [h.nil _ _ hh] at hmem; cases hmem
    | some y => exact ⟨y, rfl⟩
  obtain ⟨i, hi, hip⟩ := List.mem_iff_getElem.1 hmem
  have hrw : RisP (wayF es fr ds) := hr.sublist List.filter_sublist
  have hno : ∀ j (hj : j < (wayF es fr ds).length), j ≠ i → (wayF es fr ds)[j].id ≠ pi := fun j hj hji he => by
    rcases Nat.lt_or_gt_of_ne hji with q | q
    · have := (List.pairwise_iff_getElem.1 hrw) j i hj hi q; rw [hip, he] at this; simp at this
    · have := (List.pairwise_iff_getElem.1 hrw) i j hi hj q; rw [hip, he] at this; simp at this
  have hdr := drop_at hrw hi (show (wayF es fr ds)[i].id = pi by rw [hip])
  have hfin := way_drop hr hp
  simp only at hfin
  rw [hfin]
  have hlw := wayF_len es fr ds
  obtain ⟨D, hD, hK⟩ := h1.map
  have hlook := h1.look hwp
  have hrv : rowV H (wayF es) fr ds = .slice (some ⟨y.1, 0, none⟩) (wayF es fr ds).length y.2 := by unfold rowV; rw [hy]
  rw [hrv] at hlook
  have hoff := h.off _ _ _ hy
  have hyl := (h.blk (f := fr) (t := ds) (k := y.1) (by rw [hrv]; rfl)).1
  have hDF := delf_calls B y.1 (wayF es fr ds).length y.2 i W.heap.size (wayF es fr ds) ⟨pi, fr, ds, bd⟩ W1.drew (h1.row fr ds y hy) (by omega) (hPk.gr rfl) (by omega) hi hip hno
  rw [← hdr] at hDF
  have hdl : (dropI (wayF es fr ds) pi).length = (wayF es fr ds).length - 1 := by rw [hdr, List.length_append, List.length_take, List.length_drop]; omega
  rw [← hdl] at hDF
  have HEND := hide (fun (w2 : World) (ho : OwnR pktE w2 B (.slice (some ⟨y.1, 0, none⟩) (dropI (wayF es fr ds) pi).length y.2) (dropI (wayF es fr ds) pi)) (hg : W1.drew.grownBy w2 (some y.1)) =>
    show ∃ V, (Instr.mapUpdate 51 (.map (some b)) (.agg #[.int .i64 fr, .int .i64 ds]) (.slice (some ⟨y.1, 0, none⟩) (dropI (wayF es fr ds) pi).length y.2)).run Try.prog w2 = .ok () V ∧ (∃ H', MshAt V B M b (n + 1) nx (swpF (wayF es) fr ds (dropI (wayF es fr ds) pi)) H') ∧ Below B W V ∧ w2.grownBy V (some b) from by
      have hD2 : w2.ownsMap Try.prog 53 hdElem b n D := by
        obtain ⟨es0, clock, q1, q2⟩ := hD
        exact ⟨es0, clock, (hg.block b (show b < W1.heap.size by omega) (fun e => hoff.1 (Option.some.inj e).symm)).trans q1, q2⟩
      obtain ⟨V, u1, u2, u3⟩ := hD2.update law_way Try.underlying51 (by unfold maxLen; omega) (keyW_of hwp) (hdElem_mk y.1 (dropI (wayF es fr ds) pi).length y.2)
      have hg' : W1.grownBy w2 (some y.1) := ⟨hg.os, hg.tape, hg.output, hg.size, hg.block⟩
      have hm := h1.swap hwp hy hK hD2.isMap hg' u3 ho u2
      have hs1 : W1.heap.size ≤ w2.heap.size := hg.size
      have hs2 := u3.size
      have hBM := h.BM
      have hBb := h.Bb
      refine ⟨V, u1, ⟨_, hm⟩, ⟨u3.os.trans (hg'.os.trans hb1.os), u3.tape.trans (hg'.tape.trans hb1.tape), u3.output.trans (hg'.output.trans hb1.output), by omega, fun k hk => ?_⟩, u3⟩
      have hky : k ≠ y.1 := by
        rcases (h.row _ _ _ hy).2 with ⟨q, _⟩ | ⟨g, cap, cur, q, q1, _⟩
        · cases q
        · have := own_blkN (g := y.1) (g' := g) (by rw [q]; rfl)
          omega
      exact (u3.block k (by omega) (fun e => by have := Option.some.inj e; omega)).trans ((hg'.block k (by omega) (fun e => hky (Option.some.inj e))).trans (hb1.block k (by omega))))
  have P1 := fun (X : World) (hX : PS M W.heap.size W1 X) => (World.cell?_of_block (a := ⟨M, 1, none⟩) (hX M (.inl rfl))).trans h1.c1
  have B0 := fun (X : World) (hX : PS M W.heap.size W1 X) => (World.cell?_of_block (a := ⟨W.heap.size + 1, 0, none⟩) (hX _ (.inr (.inr rfl)))).trans b0
  have B1 := fun (X : World) (hX : PS M W.heap.size W1 X) => (World.cell?_of_block (a := ⟨W.heap.size + 1, 1, none⟩) (hX _ (.inr (.inr rfl)))).trans b1
  have HPS0 := hide (show PS M W.heap.size W1 W1.drew from fun k hk => rfl)
  have HPS1 := hide (fun (w2 : World) (hg : W1.drew.grownBy w2 (some y.1)) => show PS M W.heap.size W1 w2 from fun k hk => hg.block k (show k < W1.heap.size by omega) (fun e => by have := Option.some.inj e; omega))
  have HPS2 := hide (fun (w2 V : World) (h2 : PS M W.heap.size W1 w2) (hs : W1.heap.size ≤ w2.heap.size) (hg : w2.grownBy V (some b)) => show PS M W.heap.size W1 V from fun k hk => (hg.block k (by omega) (fun e => by have := Option.some.inj e; have := h.Mb; omega)).trans (h2 k hk))
  have HDF := hide hDF
  have hlook2 : (Instr.lookup 51 (.map (some b)) (.agg #[.int .i64 fr, .int .i64 ds]) false).run Try.prog W1.drew = .ok (.slice (some ⟨y.1, 0, none⟩) (wayF es fr ds).length y.2) W1.drew := by
    have := (h1.below (belDrw (Below.refl _ W1))).look hwp
    rw [hrv] at this
    exact this
  have HW1 := hide hW1.symm
  generalize (dropI (wayF es fr ds) pi).length = L2 at HDF HEND
  generalize (wayF es fr ds).length = L1 at HDF hlook2
  generalize dropI (wayF es fr ds) pi = DL at HDF HEND ⊢
  clear hlook hW1 hb1 h1 h hK hD hmem hno hdr hfin hip hi hrw hp hDF hdl hr hPk b0 b1
  go_enter Try.func36, Try.ntmps36
  go_wp2_with fail
  rw [unhide HW1]
  go_region_held3 (fun w' => PS M W.heap.size W1 w') (first | with_reducible exact unhide HPS0 | with_reducible exact unhide HPS1 _ (by assumption) | with_reducible exact unhide HPS2 _ _ (by assumption) (by assumption) (by assumption)) (first | (go_at_call 44; refine (unhide HDF).mono ?_; rintro e w2 ⟨rfl, ho2, hg2⟩; obtain ⟨V, hup, hM3, hB3, hg3⟩ := unhide HEND w2 ho2 hg2; have hs3 : W1.heap.size ≤ w2.heap.size := hg2.size))
  all_goals (try go_wp2_with fail)
  all_goals ((try simp only [Exit.inBlock, Exit.then]); refine bodyPost_end (results_none rfl _ _ _) rfl ?_)
  all_goals exact ⟨rfl, by assumption, by assumption⟩
end Go.Proofs.Ytgdcamolpmjceaa


/- A packet searched for by its id, by the program. -/
namespace Go.Proofs.Ytgdcamolpmjceaa
open Go.RowKit Go.Maps Plain
set_option linter.unusedVariables false

set_option maxRecDepth 10000 in
theorem closT_calls (p : Pkt) (id : Int) (W : World) :
    Calls Try.prog 34 #[.agg #[.int .i64 p.id, .int .i64 p.src, .int .i64 p.dst, .string p.body], .int .i64 id] W fun e w' => e = .returned (.int .i64 (cmpZ p.id id)) ∧ Below W.heap.size W w' := by
  have HI := hide (fun W => cmpI_calls p.id id W)
  have HB := hide (bel1 W (.cells #[.int .i64 p.id, .int .i64 p.src, .int .i64 p.dst, .string p.body] 34))
  generalize cmpZ p.id id = c2 at HI ⊢
  go_enter Try.func34, Try.ntmps34
  go_wp2_with fail
  refine (unhide HI _).mono ?_
  rintro e w1 ⟨rfl, rfl⟩
  go_wp2_with fail
  go_ret
  exact ⟨rfl, unhide HB⟩

namespace Plain
/-- Where a search ends. -/
def BsP (es : List Pkt) (id : Int) (i : Nat) : Prop := i ≤ es.length ∧ (∀ j (h : j < es.length), j < i → es[j].id < id) ∧ ∀ j (h : j < es.length), i ≤ j → id ≤ es[j].id
def bsB (es : List Pkt) (id : Int) (i : Nat) : Bool := match es[i]? with
  | none => false
  | some p => decide (p.id = id)
end Plain

set_option maxRecDepth 10000 in
set_option maxHeartbeats 4000000 in
theorem bsf_calls (a : Option Addr) (n c : Nat) (es : List Pkt) (id : Int) (w : World) (h : RowAt pktE w a es) (hn : es.length = n) (hn2 : n ≤ 1048576) (hr : RisP es) :
    Calls Try.prog 33 #[.slice a n c, .int .i64 id, .func (.func 34) #[] #[]] w fun e w' => ∃ i, e = .returned (.tuple #[.int .i64 (i : Nat), .bool (bsB es id i)]) ∧ BsP es id i ∧ Below w.heap.size w w' := by
  have HH := hide h
  have hri := fun (x y : Nat) (hx : x < es.length) (hy : y < es.length) (hxy : x < y) => (List.pairwise_iff_getElem.1 hr) x y hx hy hxy
  have HRI := hide hri
  clear h hr hri
  go_enter Try.func33, Try.ntmps33
  go_wp2_with fail
  go_loopw [9, 10] (fun s9 s10 wr => ∃ i j : Nat, s9 = .int .i64 i ∧ s10 = .int .i64 j ∧ i ≤ j ∧ j ≤ n ∧ Hid (∀ q (hq : q < es.length), q < i → es[q].id < id) ∧ Hid (∀ q (hq : q < es.length), j ≤ q → id ≤ es[q].id) ∧ Hid (Below w.heap.size w wr)) (fun s9 s10 _ => (intOf s10).toNat - (intOf s9).toNat)
  case atStart => exact ⟨0, n, rfl, rfl, by omega, by omega, hide (fun q _ hq => by omega), hide (fun q h1 hq => by omega), hide (Below.refl _ _)⟩
  case round =>
    obtain ⟨i, j, rfl, rfl, hij, hjn, HL, HG, HB⟩ := hrel
    by_cases hlt : i < j
    · obtain ⟨m, hm⟩ : ∃ m, (i + j) / 2 = m := ⟨_, rfl⟩
      have him : i ≤ m := by omega
      have hmj : m < j := by omega
      have hml : m < es.length := by omega
      obtain ⟨g, e1, l1, p0, p1, p2, p3⟩ := ((unhide HH).below (unhide HB)).px m hml
      have hlo := fun (q : Nat) (hq : q < es.length) (h1 : q < m) => unhide HRI q m hq hml h1
      have hhi := fun (q : Nat) (hq : q < es.length) (h1 : m < q) => unhide HRI m q hml hq h1
      have HCL := hide (closT_calls es[m] id wr)
      obtain ⟨y, HEQ⟩ : ∃ y, es[m] = y := ⟨_, rfl⟩
      rw [HEQ] at p0 p1 p2 p3 HCL
      have hlo := fun (q : Nat) (hq : q < es.length) (h1 : q < m) => by have := hlo q hq h1; rw [HEQ] at this; exact this
      have hhi := fun (q : Nat) (hq : q < es.length) (h1 : m < q) => by have := hhi q hq h1; rw [HEQ] at this; exact this
      have HEQ := congrArg Pkt.id HEQ
      obtain ⟨pi, fr, ds, bd⟩ := y
      simp only at p0 p1 p2 p3 hlo hhi HCL HEQ
      subst e1
      have i0 : (0 : Int) ≤ (m : Int) := by omega
      have i1 : (m : Int) < (n : Int) := by omega
      have i2 : (i : Int) < (j : Int) := by omega
      have hw : IntKind.i64.wrap ((i : Int) + (j : Int)) = (i : Int) + (j : Int) := by rw [IntKind.wrap_i64]; omega
      by_cases hc : pi < id
      · have hcz : cmpZ pi id = -1 := by unfold cmpZ; rw [if_pos hc]
        rw [hcz] at HCL
        have HL2 := hide (show ∀ q (hq : q < es.length), q < m + 1 → es[q].id < id from fun q hq h1 => by
          rcases Nat.lt_or_ge q m with h2 | h2
          · have := hlo q hq h2; omega
          · obtain rfl : q = m := by omega
            have := HEQ; omega)
        clear hlo hhi HEQ hcz
        go_wp2_with fail
        refine (unhide HCL).mono ?_
        rintro e w1 ⟨rfl, hb1⟩
        have HB1 := hide (belOn (unhide HB) hb1)
        clear hb1
        go_wp2_with fail
        go_roundw
        case rel => exact ⟨m + 1, j, by go_num, rfl, by omega, hjn, HL2, HG, HB1⟩
        case measure => simp [intOf]; omega
      · have hcz : cmpZ pi id = if id < pi then 1 else 0 := by unfold cmpZ; rw [if_neg hc]
        obtain ⟨cz, hcz2⟩ : ∃ cz : Int, cmpZ pi id = cz ∧ 0 ≤ cz := ⟨_, rfl, by rw [hcz]; split <;> omega⟩
        rw [hcz2.1] at HCL
        have hcz3 := hcz2.2
        have HG2 := hide (show ∀ q (hq : q < es.length), m ≤ q → id ≤ es[q].id from fun q hq h1 => by
          rcases Nat.lt_or_ge m q with h2 | h2
          · have := hhi q hq h2; omega
          · obtain rfl : q = m := by omega
            have := HEQ; omega)
        clear hlo hhi HEQ hcz hcz2
        go_wp2_with fail
        refine (unhide HCL).mono ?_
        rintro e w1 ⟨rfl, hb1⟩
        have HB1 := hide (belOn (unhide HB) hb1)
        clear hb1
        go_wp2_with fail
        go_roundw
        case rel => exact ⟨i, m, rfl, by go_num, by omega, by omega, HL, HG2, HB1⟩
        case measure => simp [intOf]; omega
    · obtain rfl : i = j := by omega
      have HP := hide (show BsP es id i from ⟨by omega, unhide HL, unhide HG⟩)
      by_cases hin : i < n
      · have hil : i < es.length := by omega
        obtain ⟨g, e1, l1, p0, p1, p2, p3⟩ := ((unhide HH).below (unhide HB)).px i hil
        have HCL := hide (closT_calls es[i] id wr)
        have hbs : bsB es id i = decide (es[i].id = id) := by unfold bsB; rw [List.getElem?_eq_getElem hil]
        have hge := unhide HG i hil (Nat.le_refl _)
        generalize es[i] = y at p0 p1 p2 p3 HCL hbs hge
        obtain ⟨pi, fr, ds, bd⟩ := y
        simp only at p0 p1 p2 p3 HCL hbs hge
        subst e1
        have i0 : (0 : Int) ≤ (i : Int) := by omega
        have i1 : (i : Int) < (n : Int) := by omega
        have HBS := hide hbs
        by_cases he : pi = id
        · have hcz : cmpZ pi id = 0 := by unfold cmpZ; rw [if_neg (by omega), if_neg (by omega)]
          rw [hcz] at HCL
          have HX := hide (show bsB es id i = true from by rw [unhide HBS]; exact decide_eq_true he)
          clear hbs hcz
          subst he
          go_wp2_with fail
          refine (unhide HCL).mono ?_
          rintro e w1 ⟨rfl, hb1⟩
          have HB1 := hide (belOn (unhide HB) hb1)
          clear hb1
          go_wp2_with fail
          go_ret2
          exact ⟨i, by rw [unhide HX]; rfl, unhide HP, unhide HB1⟩
        · have hcz : cmpZ pi id = 1 := by unfold cmpZ; rw [if_neg (by omega), if_pos (by omega)]
          rw [hcz] at HCL
          have HX := hide (show bsB es id i = false from by rw [unhide HBS]; exact decide_eq_false he)
          clear hbs hcz
          go_wp2_with fail
          refine (unhide HCL).mono ?_
          rintro e w1 ⟨rfl, hb1⟩
          have HB1 := hide (belOn (unhide HB) hb1)
          clear hb1
          go_wp2_with fail
          go_ret2
          exact ⟨i, by rw [unhide HX]; rfl, unhide HP, unhide HB1⟩
      · have HX := hide (show bsB es id i = false from by unfold bsB; rw [List.getElem?_eq_none (by omega)])
        go_wp2_with fail
        go_ret2
        exact ⟨i, by rw [unhide HX]; rfl, unhide HP, unhide HB⟩
end Go.Proofs.Ytgdcamolpmjceaa

