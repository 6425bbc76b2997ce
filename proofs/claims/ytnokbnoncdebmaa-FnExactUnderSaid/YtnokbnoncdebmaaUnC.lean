/- The keys under a branch, by the program. -/
import Derived.Test.YtnokbnoncdebmaaUnB
namespace Go.Proofs.Ytnokbnoncdebmaa
open Go.RowKit Go.Maps Plain
set_option linter.unusedVariables false

theorem listBuild {ops : Array Oper} {rest : List Oper} {o : Oper} {a : Act} {w : World} {Q : Exit → Act → World → Prop} (hgd : o.guard = none) (y : Operand) (ho : o.op = .buildSlice 41 1 #[(0, y)])
    (cs : Array Value) (hy : a.eval y = .agg cs) (hs : cs.size = 32)
    (h : wpList Try.prog ops Q rest (a.put o.dst (.slice (some ⟨w.heap.size, 0, none⟩) 1 1)) (w.alloc (.cells cs 46))) : wpList Try.prog ops Q (o :: rest) a w := by
  refine wpList_plain hgd fun K hK => ?_
  obtain ⟨i0, hi, hz0, hz1, hz2⟩ := info_parts keyE.hinfo
  have hz3 : i0.size = 32 := hz1
  have hrun := run_buildSlice (P := Try.prog) w 41 46 1 #[(0, .agg cs)] cs i0 keyE.zero Try.underlying41 hi hz0 (by rw [hz3]; decide) (by rw [hz3]; decide) (by
    rw [hz3]
    exact fillK _ cs hs (by simp))
  unfold Oper.wp execOp
  simp only [ho, Sem.run_bind, List.map_toArray, List.map_cons, List.map_nil, hy, hrun, Result.andThen_ok]
  exact hK _ _ h

set_option maxRecDepth 100000 in
set_option maxHeartbeats 2000000 in
theorem under_calls (n v : Nat) (hn : n ≤ 2) (hv : v < 256) (a : Option Addr) (m c : Nat) (ks : List (List UInt8)) (w : World) (hr : RowAt keyE w a ks) (hm : ks.length = m) (hm2 : m ≤ 100000) (h32 : ∀ x ∈ ks, x.length = 32) :
    Calls Try.prog 23 #[brV n v, .slice a m c] w fun e w' => ∃ u, e = .returned u ∧ OwnR keyE w' w.heap.size u (ks.filter (hoB n v)) ∧ Below w.heap.size w w' := by
  have HLN := hide hm
  have H32 := hide h32
  obtain ⟨W0, hW0⟩ : ∃ W0, w.alloc (.cells #[.int .i64 (n : Int), .int .u8 (v : Int)] 37) = W0 := ⟨_, rfl⟩
  have hrow0 : W0.heap[w.heap.size]? = some (.cells #[.int .i64 (n : Int), .int .u8 (v : Int)] 37 (0, 0)) := by rw [← hW0]; exact heap_alloc_new _ _
  have hb0 : Below w.heap.size w W0 := by rw [← hW0]; exact (Below.refl _ _).alloc (Nat.le_refl _) _
  have hl0 : w.heap.size < W0.heap.size := by rw [← hW0]; simp
  have HD := hide (fun (W : World) (hW : Below W0.heap.size W0 W) => (hr.below hb0).below hW)
  have HC0 := hide (fun (W : World) (hW : Below W0.heap.size W0 W) => (show W.cell? ⟨w.heap.size, 0, none⟩ = some (.int .i64 (n : Int)) from by rw [cell_of_row _ _ 0 _ _ _ ((hW.block _ hl0).trans hrow0)]; rfl))
  have HC1 := hide (fun (W : World) (hW : Below W0.heap.size W0 W) => (show W.cell? ⟨w.heap.size, 1, none⟩ = some (.int .u8 (v : Int)) from by rw [cell_of_row _ _ 1 _ _ _ ((hW.block _ hl0).trans hrow0)]; rfl))
  have HW := hide hW0
  have HB0 := hide hb0
  have HBR := hide (show brV n v = .agg #[.int .i64 (n : Int), .int .u8 (v : Int)] from rfl)
  rw [unhide HBR]
  clear hr hm h32 hrow0 hb0 hW0
  go_enter Try.func23, Try.ntmps23
  go_wp2_with fail
  rw [unhide HW]
  go_loopw [5, 7, 10] (fun s5 _ s10 wr => ∃ (i : Nat) (ta : Option Addr) (tc tn : Nat), s10 = .int .i64 i ∧ s5 = .slice ta tn tc ∧ i ≤ m ∧ Hid (OwnR keyE wr W0.heap.size (.slice ta tn tc) ((ks.take i).filter (hoB n v))) ∧ Hid (Below W0.heap.size W0 wr)) (fun _ _ s10 _ => m - (intOf s10).toNat)
  case atStart => exact ⟨0, none, 0, 0, rfl, rfl, by omega, hide (ownR_nil _ _ _), hide (Below.refl _ _)⟩
  case round =>
    obtain ⟨i, ta, tc, tn, rfl, rfl, hi, HO, HB⟩ := hrel
    by_cases hlt : i < m
    · have hil : i < ks.length := by rw [unhide HLN]; exact hlt
      obtain ⟨g, rfl, hgl, hrg⟩ := keyRange (unhide HD wr (unhide HB)) i hil
      have hx32 := unhide H32 ks[i] (List.getElem_mem _)
      have HNX := hide (show (ks.take (i + 1)).filter (hoB n v) = (ks.take i).filter (hoB n v) ++ (if hoB n v ks[i] = true then [ks[i]] else []) from by
        rw [List.take_succ_eq_append_getElem hil, List.filter_append]
        cases h9 : hoB n v ks[i] <;> simp [h9])
      have hfl : ((ks.take i).filter (hoB n v)).length ≤ i := Nat.le_trans (List.length_filter_le _ _) (by rw [List.length_take]; omega)
      have HHO := hide (fun W => holds_calls n v ks[i] W hn hv hx32)
      rw [unhide HBR] at HHO
      generalize ks[i] = x at hrg HNX HHO
      have hinx := infX x
      have hiny : (Try.prog.info? 46).map (·.size) = some (encK x).length := by rw [encK_len]; exact infoK
      have h32x := s32X x
      have honx := oneX x
      have i0 : (0 : Int) ≤ (i : Int) := by omega
      have i1 : (i : Int) < (m : Int) := by omega
      have hBz := (unhide HB).size
      obtain ⟨r, h9⟩ : ∃ r, hoB n v x = r := ⟨_, rfl⟩
      rw [h9] at HNX HHO
      clear h9
      go_wp2_with (first
        | (refine wpList_load_mid rfl 46 (.tmp 12) rfl g (i * 32) rfl (encK x) _ hrg Try.underlying46 rfl hiny ?_)
        | (refine wpList_store_any rfl 46 (.tmp 7) (.tmp 13) rfl wr.heap.size (encK x).toArray rfl rfl 46 _ (heap_alloc_new wr _) hinx h32x honx ?_; intro w3 hrow3 hgr3 hsz3; have HB3 := hide (show Below wr.heap.size wr w3 from ((Below.refl _ wr).alloc (Nat.le_refl _) _).trans ((Below.refl _ _).grown hgr3 (by simp) (fun k e => by cases e; exact Nat.le_refl _))); have p0 := unhide HC0 w3 ((unhide HB).trans ((unhide HB3).mono hBz)); have p1 := unhide HC1 w3 ((unhide HB).trans ((unhide HB3).mono hBz)))
        | (refine wpList_load_row rfl 46 (.tmp 7) rfl wr.heap.size rfl 46 (encK x).toArray (0, 0) _ hrow3 Try.underlying46 rfl hinx ?_))
      have hwl3 : wr.heap.size < w3.heap.size := (Array.getElem?_eq_some_iff.1 hrow3).1
      have hrow3k := hrow3
      clear hgr3 hsz3 hrg p0 p1 hrow3
      refine (unhide HHO _).mono ?_
      rintro e w4 ⟨rfl, hb4⟩
      have hrow4 : w4.heap[wr.heap.size]? = some (.cells (encK x).toArray 46 (0, 0)) := (hb4.block _ hwl3).trans hrow3k
      have hb5 := (unhide HB3).trans (hb4.mono (unhide HB3).size)
      have HO4 := hide ((unhide HO).keep hb5)
      have HB4 := hide ((unhide HB).trans (hb5.mono hBz))
      have hB4 := (unhide HB4).size
      clear hb4 hb5 HO HB3 hrow3k
      cases r with
      | false =>
        rw [if_neg (by simp), List.append_nil] at HNX
        go_wp2_with fail
        go_roundw
        case rel => exact ⟨i + 1, ta, tc, tn, by go_num, rfl, by omega, hide (by rw [unhide HNX]; exact unhide HO4), HB4⟩
        case measure => simp [intOf]; omega
      | true =>
        rw [if_pos rfl] at HNX
        go_wp2_with (first
          | (refine wpList_load_row rfl 46 (.tmp 7) rfl wr.heap.size rfl 46 (encK x).toArray (0, 0) _ hrow4 Try.underlying46 rfl hinx ?_)
          | (refine listBuild rfl (.tmp 18) rfl (encK x).toArray rfl h32x.symm ?_)
          | (at_builtin; refine appR (e := keyE) rfl (.tmp 17) (.tmp 19) rfl (unhide HO4) rfl x rfl _ rfl rfl (by omega) hB4 ?_; intro v5 w5 hO5 hb5 _; obtain ⟨a5, c5, rfl⟩ := hO5.form; have HO5 := hide hO5; have HB5 := hide ((unhide HB4).trans hb5); clear hO5 hb5))
        go_roundw
        case rel => exact ⟨i + 1, a5, c5, _, by go_num, rfl, by omega, hide (by rw [unhide HNX]; simpa using unhide HO5), HB5⟩
        case measure => simp [intOf]; omega
    · obtain rfl : i = m := by omega
      have hO := unhide HO
      rw [List.take_of_length_le (by rw [unhide HLN]; exact Nat.le_refl _)] at hO
      have HX := hide (OwnR.le hO (Nat.le_of_lt hl0))
      clear hO HO
      go_wp2_with fail
      go_ret
      exact ⟨_, rfl, unhide HX, (unhide HB0).trans ((unhide HB).mono (Nat.le_of_lt hl0))⟩
end Go.Proofs.Ytnokbnoncdebmaa
