/- Texts of one kind, put together. -/
import Derived.Test.YtldgkpnlplfopaaGreatDoorKzA
import Derived.Deep.QuietTactic
import Derived.BigQuiet
import Derived.Deep.RegionHeld3

/- Branches, by the program. -/
namespace Go.Proofs.YtldgkpnlplfopaaGreatDoor
open Go.RowKit Go.Maps Plain
set_option linter.unusedVariables false

namespace Plain
def brV (n v : Nat) : Value := .agg #[.int .i64 (n : Int), .int .u8 (v : Int)]
theorem or8 : ∀ a b : Fin 16, bits BinOp.or IntKind.u8 (IntKind.u8.wrap ((a.val : Int) * 16)) (b.val : Int) = ((a.val * 16 + b.val : Nat) : Int) := by decide +kernel
/-- A branch holds a key. -/
def hoB (n v : Nat) (x : List UInt8) : Bool := decide ((x.getD 0 0).toNat / 2 ^ (4 * (2 - n)) = v)
end Plain

set_option maxRecDepth 10000 in
set_option maxHeartbeats 1000000 in
theorem behind_calls (n v x : Nat) (w : World) (hn : n ≤ 2) (hv : v < 16) (hx : x < 16) :
    Calls Tryz.prog 53 #[brV n v, .int .u8 (x : Int)] w fun e w' => e = .returned (brV (n + 1) (v * 16 + x)) ∧ Below w.heap.size w w' := by
  have ho := or8 ⟨v, hv⟩ ⟨x, hx⟩
  obtain ⟨z, hz⟩ : ∃ z : Nat, v * 16 + x = z := ⟨_, rfl⟩
  simp only [hz] at ho
  obtain ⟨y, hy⟩ : ∃ y, IntKind.u8.wrap ((v : Int) * 16) = y := ⟨_, rfl⟩
  rw [hy] at ho
  rw [hz]
  have hn1 : IntKind.i64.wrap ((n : Int) + 1) = (n : Int) + 1 := by rw [IntKind.wrap_i64]; omega
  unfold brV
  go_enter Tryz.func53, Tryz.ntmps53
  go_wp2_with fail
  exact bodyPost_ret (v := .agg #[.int .i64 ((n : Int) + 1), .int .u8 (z : Int)]) (by simp [results, Tryz.results53, go_sem]) rfl ⟨by rw [show ((n + 1 : Nat) : Int) = (n : Int) + 1 from by omega], ((Below.refl _ _).alloc (Nat.le_refl _) _).alloc (by simp) _⟩

set_option maxRecDepth 10000 in
set_option maxHeartbeats 1000000 in
theorem holds_calls (n v : Nat) (x : List UInt8) (w : World) (hn : n ≤ 2) (hv : v < 256) (hx : x.length = 32) :
    Calls Tryz.prog 64 #[brV n v, .agg (encK x).toArray] w fun e w' => e = .returned (.bool (hoB n v x)) ∧ Below w.heap.size w w' := by
  obtain ⟨b, hb⟩ : ∃ b : Nat, (x.getD 0 0).toNat = b := ⟨_, rfl⟩
  have hbl : b < 256 := by rw [← hb]; exact (x.getD 0 0).toNat_lt
  have he : ((encK x).toArray)[0]? = some (.int .u8 (b : Int)) := by
    unfold encK
    rw [padK_id hx, ← hb]
    simp [hx, List.getD]
  obtain ⟨W0, hW0⟩ : ∃ W0, (w.alloc (.cells #[.int .i64 (n : Int), .int .u8 (v : Int)] 56)).alloc (.cells (encK x).toArray 63) = W0 := ⟨_, rfl⟩
  have hb0 : W0.heap[w.heap.size]? = some (.cells #[.int .i64 (n : Int), .int .u8 (v : Int)] 56 (0, 0)) := by
    rw [← hW0, heap_alloc_old _ _ (by simp)]
    exact heap_alloc_new _ _
  have hb1 : W0.heap[w.heap.size + 1]? = some (.cells (encK x).toArray 63 (0, 0)) := by
    have h0 : (w.alloc (.cells #[.int .i64 (n : Int), .int .u8 (v : Int)] 56)).heap.size = w.heap.size + 1 := by simp
    rw [← hW0, ← h0]
    exact heap_alloc_new _ _
  have c0 : W0.cell? ⟨w.heap.size, 0, none⟩ = some (.int .i64 (n : Int)) := by rw [cell_of_row _ _ 0 _ _ _ hb0]; rfl
  have c1 : W0.cell? ⟨w.heap.size, 1, none⟩ = some (.int .u8 (v : Int)) := by rw [cell_of_row _ _ 1 _ _ _ hb0]; rfl
  have c2 : W0.cell? ⟨w.heap.size + 1, 0, none⟩ = some (.int .u8 (b : Int)) := by rw [cell_of_row _ _ 0 _ _ _ hb1]; exact he
  have HB := hide (show Below w.heap.size w W0 from by rw [← hW0]; exact ((Below.refl _ _).alloc (Nat.le_refl _) _).alloc (by simp) _)
  have HW := hide hW0
  unfold hoB
  rw [hb]
  clear hW0 hb0 hb1 he hb hx
  obtain ⟨m, hm⟩ : ∃ m : Nat, 2 - n = m := ⟨_, rfl⟩
  obtain ⟨k, hk⟩ : ∃ k : Nat, 4 * m = k := ⟨_, rfl⟩
  rw [hm, hk]
  have e1 : (2 : Int) - (n : Int) = (m : Int) := by omega
  have e2 : (4 : Int) * (m : Int) = (k : Int) := by omega
  have w1 : IntKind.i64.wrap (m : Int) = (m : Int) := by rw [IntKind.wrap_i64]; omega
  have w2 : IntKind.i64.wrap (k : Int) = (k : Int) := by rw [IntKind.wrap_i64]; omega
  have k0 : (0 : Int) ≤ (k : Int) := by omega
  have k8 : (k : Int) ≤ 8 := by omega
  obtain ⟨q, hq, hq2⟩ : ∃ q : Nat, b / 2 ^ k = q ∧ (b : Int) / 2 ^ k = (q : Int) := ⟨_, rfl, by simp⟩
  rw [hq]
  have hdq : decide ((q : Int) = (v : Int)) = decide (q = v) := by rw [decide_eq_decide]; omega
  clear hq hm hk
  unfold brV
  go_enter Tryz.func64, Tryz.ntmps64
  go_wp2_with fail
  rw [unhide HW]
  go_quiet (fail)
  go_wp2_with fail
  go_ret
  exact ⟨by rw [← hdq]; rfl, belQS (unhide HB) _⟩
end Go.Proofs.YtldgkpnlplfopaaGreatDoor


/- The keys under a branch, by the program. -/
namespace Go.Proofs.YtldgkpnlplfopaaGreatDoor
open Go.RowKit Go.Maps Plain
set_option linter.unusedVariables false

theorem listBuild {ops : Array Oper} {rest : List Oper} {o : Oper} {a : Act} {w : World} {Q : Exit → Act → World → Prop} (hgd : o.guard = none) (y : Operand) (ho : o.op = .buildSlice 53 1 #[(0, y)])
    (cs : Array Value) (hy : a.eval y = .agg cs) (hs : cs.size = 32)
    (h : wpList Tryz.prog ops Q rest (a.put o.dst (.slice (some ⟨w.heap.size, 0, none⟩) 1 1)) (w.alloc (.cells cs 63))) : wpList Tryz.prog ops Q (o :: rest) a w := by
  refine wpList_plain hgd fun K hK => ?_
  obtain ⟨i0, hi, hz0, hz1, hz2⟩ := info_parts keyE.hinfo
  have hz3 : i0.size = 32 := hz1
  have hrun := run_buildSlice (P := Tryz.prog) w 53 63 1 #[(0, .agg cs)] cs i0 keyE.zero Tryz.underlying53 hi hz0 (by rw [hz3]; decide) (by rw [hz3]; decide) (by
    rw [hz3]
    exact fillK _ cs hs (by simp))
  unfold Oper.wp execOp
  simp only [ho, Sem.run_bind, List.map_toArray, List.map_cons, List.map_nil, hy, hrun, Result.andThen_ok]
  exact hK _ _ h

set_option maxRecDepth 100000 in
set_option maxHeartbeats 2000000 in
theorem under_calls (n v : Nat) (hn : n ≤ 2) (hv : v < 256) (a : Option Addr) (m c : Nat) (ks : List (List UInt8)) (w : World) (hr : RowAt keyE w a ks) (hm : ks.length = m) (hm2 : m ≤ 100000) (h32 : ∀ x ∈ ks, x.length = 32) :
    Calls Tryz.prog 47 #[brV n v, .slice a m c] w fun e w' => ∃ u, e = .returned u ∧ OwnR keyE w' w.heap.size u (ks.filter (hoB n v)) ∧ Below w.heap.size w w' := by
  have HLN := hide hm
  have H32 := hide h32
  obtain ⟨W0, hW0⟩ : ∃ W0, w.alloc (.cells #[.int .i64 (n : Int), .int .u8 (v : Int)] 56) = W0 := ⟨_, rfl⟩
  have hrow0 : W0.heap[w.heap.size]? = some (.cells #[.int .i64 (n : Int), .int .u8 (v : Int)] 56 (0, 0)) := by rw [← hW0]; exact heap_alloc_new _ _
  have hb0 : Below w.heap.size w W0 := by rw [← hW0]; exact (Below.refl _ _).alloc (Nat.le_refl _) _
  have hl0 : w.heap.size < W0.heap.size := by rw [← hW0]; simp
  have HD := hide (fun (W : World) (hW : Below W0.heap.size W0 W) => (hr.below hb0).below hW)
  have HC0 := hide (fun (W : World) (hW : Below W0.heap.size W0 W) => (show W.cell? ⟨w.heap.size, 0, none⟩ = some (.int .i64 (n : Int)) from by rw [cell_of_row _ _ 0 _ _ _ ((hW.block _ hl0).trans hrow0)]; rfl))
  have HC1 := hide (fun (W : World) (hW : Below W0.heap.size W0 W) => (show W.cell? ⟨w.heap.size, 1, none⟩ = some (.int .u8 (v : Int)) from by rw [cell_of_row _ _ 1 _ _ _ ((hW.block _ hl0).trans hrow0)]; rfl))
  have HW := hide hW0
  have HB0 := hide hb0
  have HBR := hide (show brV n v = .agg #[.int .i64 (n : Int), .int .u8 (v : Int)] from rfl)
  rw [unhide HBR]
  clear hr hm h32 hrow0 hb0 hW0
  go_enter Tryz.func47, Tryz.ntmps47
  go_wp2_with fail
  rw [unhide HW]
  go_loopw [5, 7, 10] (fun s5 _ s10 wr => ∃ (i : Nat) (ta : Option Addr) (tc tn : Nat), s10 = .int .i64 i ∧ s5 = .slice ta tn tc ∧ i ≤ m ∧ Hid (OwnR keyE wr W0.heap.size (.slice ta tn tc) ((ks.take i).filter (hoB n v))) ∧ Hid (Below W0.heap.size W0 wr)) (fun _ _ s10 _ => m - (intOf s10).toNat)
  case atStart => exact ⟨0, none, 0, 0, rfl, rfl, by omega, hide (ownR_nil _ _ _), hide (Below.refl _ _)⟩
  case round =>
    obtain ⟨i, ta, tc, tn, rfl, rfl, hi, HO, HB⟩ := hrel
    by_cases hlt : i < m
    · have hil : i < ks.length := by rw [unhide HLN]; exact hlt
      obtain ⟨g, rfl, hgl, hrg⟩ := keyRange (unhide HD wr (unhide HB)) i hil
      have hx32 := unhide H32 ks[i] (List.getElem_mem _)
      have HNX := hide (show (ks.take (i + 1)).filter (hoB n v) = (ks.take i).filter (hoB n v) ++ (if hoB n v ks[i] = true then [ks[i]] else []) from by
        rw [List.take_succ_eq_append_getElem hil, List.filter_append]
        cases h9 : hoB n v ks[i] <;> simp [h9])
      have hfl : ((ks.take i).filter (hoB n v)).length ≤ i := Nat.le_trans (List.length_filter_le _ _) (by rw [List.length_take]; omega)
      have HHO := hide (fun W => holds_calls n v ks[i] W hn hv hx32)
      rw [unhide HBR] at HHO
      generalize ks[i] = x at hrg HNX HHO
      have hinx := infX x
      have hiny : (Tryz.prog.info? 63).map (·.size) = some (encK x).length := by rw [encK_len]; exact infoK
      have h32x := s32X x
      have honx := oneX x
      have i0 : (0 : Int) ≤ (i : Int) := by omega
      have i1 : (i : Int) < (m : Int) := by omega
      have hBz := (unhide HB).size
      obtain ⟨r, h9⟩ : ∃ r, hoB n v x = r := ⟨_, rfl⟩
      rw [h9] at HNX HHO
      clear h9
      go_wp2_with (first
        | (refine wpList_load_mid rfl 63 (.tmp 12) rfl g (i * 32) rfl (encK x) _ hrg Tryz.underlying63 rfl hiny ?_)
        | (refine wpList_store_any rfl 63 (.tmp 7) (.tmp 13) rfl wr.heap.size (encK x).toArray rfl rfl 63 _ (heap_alloc_new wr _) hinx h32x honx ?_; intro w3 hrow3 hgr3 hsz3; have HB3 := hide (show Below wr.heap.size wr w3 from ((Below.refl _ wr).alloc (Nat.le_refl _) _).trans ((Below.refl _ _).grown hgr3 (by simp) (fun k e => by cases e; exact Nat.le_refl _))); have p0 := unhide HC0 w3 ((unhide HB).trans ((unhide HB3).mono hBz)); have p1 := unhide HC1 w3 ((unhide HB).trans ((unhide HB3).mono hBz)))
        | (refine wpList_load_row rfl 63 (.tmp 7) rfl wr.heap.size rfl 63 (encK x).toArray (0, 0) _ hrow3 Tryz.underlying63 rfl hinx ?_))
      have hwl3 : wr.heap.size < w3.heap.size := (Array.getElem?_eq_some_iff.1 hrow3).1
      have hrow3k := hrow3
      clear hgr3 hsz3 hrg p0 p1 hrow3
      refine (unhide HHO _).mono ?_
      rintro e w4 ⟨rfl, hb4⟩
      have hrow4 : w4.heap[wr.heap.size]? = some (.cells (encK x).toArray 63 (0, 0)) := (hb4.block _ hwl3).trans hrow3k
      have hb5 := (unhide HB3).trans (hb4.mono (unhide HB3).size)
      have HO4 := hide ((unhide HO).keep hb5)
      have HB4 := hide ((unhide HB).trans (hb5.mono hBz))
      have hB4 := (unhide HB4).size
      clear hb4 hb5 HO HB3 hrow3k
      cases r with
      | false =>
        rw [if_neg (by simp), List.append_nil] at HNX
        go_wp2_with fail
        go_roundw
        case rel => exact ⟨i + 1, ta, tc, tn, by go_num, rfl, by omega, hide (by rw [unhide HNX]; exact unhide HO4), HB4⟩
        case measure => simp [intOf]; omega
      | true =>
        rw [if_pos rfl] at HNX
        go_wp2_with (first
          | (refine wpList_load_row rfl 63 (.tmp 7) rfl wr.heap.size rfl 63 (encK x).toArray (0, 0) _ hrow4 Tryz.underlying63 rfl hinx ?_)
          | (refine listBuild rfl (.tmp 18) rfl (encK x).toArray rfl h32x.symm ?_)
          | (at_builtin; refine appR (e := keyE) rfl (.tmp 17) (.tmp 19) rfl (unhide HO4) rfl x rfl _ rfl rfl (by omega) hB4 ?_; intro v5 w5 hO5 hb5 _; obtain ⟨a5, c5, rfl⟩ := hO5.form; have HO5 := hide hO5; have HB5 := hide ((unhide HB4).trans hb5); clear hO5 hb5))
        go_roundw
        case rel => exact ⟨i + 1, a5, c5, _, by go_num, rfl, by omega, hide (by rw [unhide HNX]; simpa using unhide HO5), HB5⟩
        case measure => simp [intOf]; omega
    · obtain rfl : i = m := by omega
      have hO := unhide HO
      rw [List.take_of_length_le (by rw [unhide HLN]; exact Nat.le_refl _)] at hO
      have HX := hide (OwnR.le hO (Nat.le_of_lt hl0))
      clear hO HO
      go_wp2_with fail
      go_ret
      exact ⟨_, rfl, unhide HX, (unhide HB0).trans ((unhide HB).mono (Nat.le_of_lt hl0))⟩
end Go.Proofs.YtldgkpnlplfopaaGreatDoor


/- A branch read, by the program. -/
namespace Go.Proofs.YtldgkpnlplfopaaGreatDoor
open Go.RowKit Go.Maps Plain
set_option linter.unusedVariables false

namespace Plain
def brN (l : List UInt8) : Nat := l.foldl (fun a c => a * 16 + (hexI c.toNat).toNat) 0
theorem brN_next (l : List UInt8) (i : Nat) (h : i < l.length) : brN (l.take (i + 1)) = brN (l.take i) * 16 + (hexI l[i].toNat).toNat := by
  unfold brN
  rw [List.take_succ_eq_append_getElem h, List.foldl_append]
  rfl
/-- What readBranch answers. -/
def brA (p : ByteArray) (r : Bool) : Value := if r then brV p.size (brN p.data.toList) else brV 0 0
theorem row2_set {W : World} {M : Nat} {x y : Value} {t : TypeId} (h : W.heap[M]? = some (.cells #[x, y] t (0, 0))) (x' y' : Value) : ((W.setCell ⟨M, 0, none⟩ x').setCell ⟨M, 1, none⟩ y').heap[M]? = some (.cells #[x', y'] t (0, 0)) := by
  have h1 := Go.heap_setCell_same W M 0 _ _ x' h
  exact Go.heap_setCell_same _ M 1 _ _ y' h1
theorem row2_far {W : World} {M b : Nat} {o : Obj} (h : W.heap[M]? = some o) (hne : M ≠ b) (x' y' : Value) : ((W.setCell ⟨b, 0, none⟩ x').setCell ⟨b, 1, none⟩ y').heap[M]? = some o := (Go.heap_setCell_other _ ⟨b, 1, none⟩ M y' hne).trans ((Go.heap_setCell_other W ⟨b, 0, none⟩ M x' hne).trans h)
end Plain
theorem infoB : (Tryz.prog.info? 56).map (·.size) = some 2 := by kernel_rfl

set_option maxRecDepth 10000 in
set_option maxHeartbeats 2000000 in
theorem readBranch_calls (p : ByteArray) (w : World) (hp : p.size ≤ 1000000000) :
    Calls Tryz.prog 30 #[.string p] w fun e w' => e = .returned (.tuple #[brA p (prB p), .bool (prB p)]) ∧ Below w.heap.size w w' := by
  obtain ⟨W0, hW0⟩ : ∃ W0, (w.alloc (.cells #[.int .i64 0, .int .u8 0] 56)).alloc (.cells #[.int .i64 0, .int .u8 0] 56) = W0 := ⟨_, rfl⟩
  have hr0 : W0.heap[w.heap.size]? = some (.cells #[.int .i64 0, .int .u8 0] 56 (0, 0)) := by
    rw [← hW0, heap_alloc_old _ _ (by simp)]
    exact heap_alloc_new _ _
  have hr1 : W0.heap[w.heap.size + 1]? = some (.cells #[.int .i64 0, .int .u8 0] 56 (0, 0)) := by
    have h0 : (w.alloc (.cells #[.int .i64 0, .int .u8 0] 56)).heap.size = w.heap.size + 1 := by simp
    rw [← hW0, ← h0]
    exact heap_alloc_new _ _
  have HB0 := hide (show Below w.heap.size w W0 from by rw [← hW0]; exact ((Below.refl _ _).alloc (Nat.le_refl _) _).alloc (by simp) _)
  have HW := hide hW0
  clear hW0
  by_cases hbig : (2 : Int) < (p.size : Int)
  · have hpb : prB p = false := by unfold prB; rw [decide_eq_false (by omega), Bool.and_false]
    rw [hpb]
    have c0 : W0.cell? ⟨w.heap.size, 0, none⟩ = some (.int .i64 0) := by rw [cell_of_row _ _ 0 _ _ _ hr0]; rfl
    have c1 : W0.cell? ⟨w.heap.size, 1, none⟩ = some (.int .u8 0) := by rw [cell_of_row _ _ 1 _ _ _ hr0]; rfl
    have f0 := frozen_of_row W0 w.heap.size 0 _ _ hr0
    have f1 := frozen_of_row W0 w.heap.size 1 _ _ hr0
    have HR := hide hr0
    clear hr0 hr1 hpb
    go_enter Tryz.func30, Tryz.ntmps30
    go_wp2_with fail
    rw [unhide HW]
    go_wp2_with fail
    exact bodyPost_ret (v := .tuple #[.agg #[.int .i64 0, .int .u8 0], .bool false]) (results_cell_tmp_row (fn := Tryz.f30) (p := 2) (u := 3) (ty := 56) (by kernel_rfl) _ _ w.heap.size _ _ (0, 0) _ rfl (unhide HR) Tryz.underlying56 rfl infoB) rfl ⟨rfl, unhide HB0⟩
  have hps : p.size ≤ 2 := by omega
  obtain ⟨R, hR⟩ : ∃ R, hexFrom p 0 = R := ⟨_, rfl⟩
  have HR := hide hR
  have hpb : prB p = R := by unfold prB; rw [decide_eq_true (by omega), Bool.and_true, hR]
  rw [hpb]
  have HR0 := hide hr0
  have HR1 := hide (show W0.heap[w.heap.size + 1]? = some (.cells #[.int .i64 ((0 : Nat) : Int), .int .u8 ((brN (p.data.toList.take 0) : Nat) : Int)] 56 (0, 0)) from hr1)
  clear hR hpb hr0 hr1
  go_enter Tryz.func30, Tryz.ntmps30
  go_wp2_with fail
  rw [unhide HW]
  go_loopw [5, 6, 13] (fun _ _ s13 wr => ∃ (i v : Nat), s13 = .int .i64 i ∧ i ≤ p.size ∧ Hid (v = brN (p.data.toList.take i)) ∧ Hid (v < 16 ^ i) ∧ Hid (hexFrom p i = R) ∧ Hid (wr.heap[w.heap.size]? = some (.cells #[.int .i64 0, .int .u8 0] 56 (0, 0))) ∧ Hid (wr.heap[w.heap.size + 1]? = some (.cells #[.int .i64 (i : Int), .int .u8 (v : Int)] 56 (0, 0))) ∧ Hid (Below w.heap.size w wr)) (fun _ _ s13 _ => p.size - (intOf s13).toNat)
  case atStart => exact ⟨0, _, rfl, by omega, hide rfl, hide (by simp [brN]), HR, HR0, HR1, HB0⟩
  case round =>
    clear HR HR0 HR1 HB0 HW
    obtain ⟨i, v, rfl, hi, HV, HL, HO, HR0, HR1, HB⟩ := hrel
    have c0 : wr.cell? ⟨w.heap.size, 0, none⟩ = some (.int .i64 0) := by rw [cell_of_row _ _ 0 _ _ _ (unhide HR0)]; rfl
    have c1 : wr.cell? ⟨w.heap.size, 1, none⟩ = some (.int .u8 0) := by rw [cell_of_row _ _ 1 _ _ _ (unhide HR0)]; rfl
    have f0 := frozen_of_row wr w.heap.size 0 _ _ (unhide HR0)
    have f1 := frozen_of_row wr w.heap.size 1 _ _ (unhide HR0)
    have d0 : wr.cell? ⟨w.heap.size + 1, 0, none⟩ = some (.int .i64 (i : Int)) := by rw [cell_of_row _ _ 0 _ _ _ (unhide HR1)]; rfl
    have d1 : wr.cell? ⟨w.heap.size + 1, 1, none⟩ = some (.int .u8 (v : Int)) := by rw [cell_of_row _ _ 1 _ _ _ (unhide HR1)]; rfl
    have hl1 : w.heap.size + 1 < wr.heap.size := (Array.getElem?_eq_some_iff.1 (unhide HR1)).1
    by_cases hlt : i < p.size
    · have hst := unhide HO
      rw [hexFrom_step p i hlt] at hst
      have hpl : i < p.data.toList.length := by simpa using hlt
      have hnx := brN_next p.data.toList i hpl
      have hpe : p.data.toList[i] = p[i] := by simp [ByteArray.getElem_eq_getElem_data]
      rw [hpe] at hnx
      obtain ⟨q, hq, hq2⟩ : ∃ q : Nat, p[i].toNat = q ∧ q < 256 := ⟨_, rfl, p[i].toNat_lt⟩
      rw [hq] at hst hnx
      have hi1 : (i : Int) < (p.size : Int) := by omega
      have i0 : (0 : Int) ≤ (i : Int) := by omega
      have HV2 := hide (fun W => impl_hexValue (q : Int) W (by omega) (by omega))
      have hxb := hexI_bounds (q : Int)
      generalize hexI (q : Int) = y at HV2 hst hxb hnx
      by_cases hy : y < 0
      · rw [decide_eq_false (by omega)] at hst
        have HX := hide (show R = false from by rw [← hst]; rfl)
        clear hst HO hnx
        go_wp2_with fail
        refine (unhide HV2 _).mono ?_
        rintro e w2 ⟨rfl, rfl⟩
        go_wp2_with fail
        exact bodyPost_ret (v := .tuple #[.agg #[.int .i64 0, .int .u8 0], .bool false]) (results_cell_tmp_row (fn := Tryz.f30) (p := 2) (u := 3) (ty := 56) (by kernel_rfl) _ _ w.heap.size _ _ (0, 0) _ rfl (row2_set (unhide HR0) _ _) Tryz.underlying56 rfl infoB) rfl ⟨by rw [unhide HX]; rfl, ((unhide HB).setCell (p := ⟨w.heap.size, 0, none⟩) (Nat.le_refl _) _).setCell (p := ⟨w.heap.size, 1, none⟩) (Nat.le_refl _) _⟩
      · rw [decide_eq_true (by omega), Bool.true_and] at hst
        have HX := hide hst
        obtain ⟨z, hz, hz2⟩ : ∃ z : Nat, y = (z : Int) ∧ z < 16 := ⟨y.toNat, by omega, by omega⟩
        subst hz
        have hv16 : v < 16 := by
          have h1 := unhide HL
          have h2 : i ≤ 1 := by omega
          obtain rfl | rfl : i = 0 ∨ i = 1 := by omega
          · simp at h1; omega
          · simpa using h1
        have HNV := hide (show v * 16 + z = brN (p.data.toList.take (i + 1)) from by rw [hnx, ← unhide HV]; simp)
        have HNL := hide (show v * 16 + z < 16 ^ (i + 1) from by have := unhide HL; rw [Nat.pow_succ]; omega)
        have HBH := hide (fun W => behind_calls i v z W (by omega) hv16 hz2)
        unfold brV at HBH
        have hzw : IntKind.u8.wrap (z : Int) = (z : Int) := by simp [IntKind.wrap, IntKind.bits, IntKind.signed]; omega
        have z0 : ¬ ((z : Int) < 0) := by omega
        clear hst HO hnx hy HL
        generalize v * 16 + z = v2 at HNV HNL HBH
        go_wp2_with fail
        refine (unhide HV2 _).mono ?_
        rintro e w2 ⟨rfl, rfl⟩
        go_wp2_with fail
        refine (unhide HBH _).mono ?_
        rintro e w3 ⟨rfl, hb3⟩
        have HR03 := hide ((hb3.block w.heap.size (by omega)).trans (unhide HR0))
        have HR13 := hide ((hb3.block (w.heap.size + 1) (by omega)).trans (unhide HR1))
        have HB3 := hide ((unhide HB).trans (hb3.mono (by omega)))
        have x0 : w3.cell? ⟨w.heap.size + 1, 0, none⟩ = some (.int .i64 (i : Int)) := by rw [cell_of_row _ _ 0 _ _ _ (unhide HR13)]; rfl
        have x1 : w3.cell? ⟨w.heap.size + 1, 1, none⟩ = some (.int .u8 (v : Int)) := by rw [cell_of_row _ _ 1 _ _ _ (unhide HR13)]; rfl
        have g0 := frozen_of_row w3 (w.heap.size + 1) 0 _ _ (unhide HR13)
        have g1 := frozen_of_row w3 (w.heap.size + 1) 1 _ _ (unhide HR13)
        clear hb3 c0 c1 f0 f1 d0 d1
        go_wp2_with fail
        go_roundw
        case rel => exact ⟨i + 1, v2, by go_num, by omega, HNV, HNL, HX, hide (row2_far (unhide HR03) (by omega) _ _), hide (row2_set (unhide HR13) _ _), hide (((unhide HB3).setCell (p := ⟨w.heap.size + 1, 0, none⟩) (by simp) _).setCell (p := ⟨w.heap.size + 1, 1, none⟩) (by simp) _)⟩
        case measure => simp [intOf]; omega
    · obtain rfl : i = p.size := by omega
      have hO := unhide HO
      rw [hexFrom_end _ _ (Nat.le_refl _)] at hO
      have HX := hide hO.symm
      have hv := unhide HV
      rw [List.take_of_length_le (by simp)] at hv
      have HVV := hide hv
      have HRR := hide (row2_set (unhide HR0) (.int .i64 (p.size : Int)) (.int .u8 (v : Int)))
      clear hO HO hv
      go_wp2_with fail
      exact bodyPost_ret (v := .tuple #[.agg #[.int .i64 (p.size : Int), .int .u8 (v : Int)], .bool true]) (results_cell_tmp_row (fn := Tryz.f30) (p := 2) (u := 3) (ty := 56) (by kernel_rfl) _ _ w.heap.size _ _ (0, 0) _ rfl (unhide HRR) Tryz.underlying56 rfl infoB) rfl ⟨by rw [unhide HX, unhide HVV]; rfl, ((unhide HB).setCell (p := ⟨w.heap.size, 0, none⟩) (Nat.le_refl _) _).setCell (p := ⟨w.heap.size, 1, none⟩) (Nat.le_refl _) _⟩
end Go.Proofs.YtldgkpnlplfopaaGreatDoor


/- Which keys lie under a branch: the mathematics. -/
namespace Go.Proofs.YtldgkpnlplfopaaGreatDoor
open Go.RowKit Go.Maps Plain
set_option linter.unusedVariables false

namespace Plain
theorem ho_pre (l pl : List UInt8) (h : HexL l) (hp : HexL pl) (hl : 2 ≤ l.length) (hk : pl.length ≤ 2) : decide (((kyP l).getD 0 0).toNat / 2 ^ (4 * (2 - pl.length)) = brN pl) = (l.take pl.length == pl) := by
  match l, hl, h with
  | c0 :: c1 :: r, _, h =>
    have h0 := h c0 (by simp)
    have h1 := h c1 (by simp)
    have n1 := by1_nat h0 h1
    have e0 := hexI_bounds (c0.toNat : Int)
    have e1 := hexI_bounds (c1.toNat : Int)
    rw [kyP, show (by1 c0 c1 :: kyP r).getD 0 0 = by1 c0 c1 from rfl]
    match pl, hk, hp with
    | [], _, _ =>
      have : (by1 c0 c1).toNat / 256 = 0 := by omega
      simp [brN, this]
    | [a], _, hp =>
      have ha := hp a (by simp)
      have q := hexI_lt h0 ha
      have : (by1 c0 c1).toNat / 16 = (hexI c0.toNat).toNat := by omega
      rw [Bool.eq_iff_iff]
      simp [brN, this, ← q.2]
      omega
    | [a, b], _, hp =>
      have ha := hp a (by simp)
      have hb := hp b (by simp)
      have q := hexI_lt h0 ha
      have q2 := hexI_lt h1 hb
      have f0 := hexI_bounds (a.toNat : Int)
      have f1 := hexI_bounds (b.toNat : Int)
      rw [Bool.eq_iff_iff]
      simp [brN, ← q.2, ← q2.2]
      omega
    | _ :: _ :: _ :: _, hk, _ => simp at hk
theorem prB_hex {p : ByteArray} (h : prB p = true) : p.size ≤ 2 ∧ HexL p.data.toList := by
  unfold prB at h
  rw [Bool.and_eq_true] at h
  have h2 := of_decide_eq_true h.2
  refine ⟨by omega, fun c hc => ?_⟩
  have h3 := h.1
  unfold hexFrom at h3
  rw [List.drop_zero, List.all_eq_true] at h3
  exact of_decide_eq_true (h3 c hc)
theorem hold_pre {p s : ByteArray} (hp : prB p = true) (hs : digB s = true) : hoB p.size (brN p.data.toList) (kyL s) = preB p s := by
  obtain ⟨p1, p2⟩ := prB_hex hp
  obtain ⟨a1, a2, a3, a4⟩ := digB_form hs
  have := ho_pre (s.data.toList.drop 7) p.data.toList a4 p2 (by omega) (by simpa using p1)
  unfold hoB preB
  rw [kyL_P a1]
  rw [show p.data.toList.length = p.size from by simp] at this
  rw [this, ByteArray.toList_eq, ByteArray.toList_eq]
  congr 1
  simp [List.extract_eq_take_drop]
theorem brN_lt {p : ByteArray} (hp : prB p = true) : brN p.data.toList < 256 := by
  obtain ⟨p1, p2⟩ := prB_hex hp
  have hl : p.data.toList.length ≤ 2 := by simpa using p1
  generalize p.data.toList = l at hl
  match l, hl with
  | [], _ => simp [brN]
  | [a], _ => have := hexI_bounds (a.toNat : Int); simp [brN]; omega
  | [a, b], _ => have := hexI_bounds (a.toNat : Int); have := hexI_bounds (b.toNat : Int); simp [brN]; omega
  | _ :: _ :: _ :: _, h => simp at h
theorem filt_map {p : ByteArray} {ls : List ByteArray} (hp : prB p = true) (hs : ∀ s ∈ ls, digB s = true) : ((ls.map kyL).filter (hoB p.size (brN p.data.toList))) = (ls.filter (preB p)).map kyL := by
  rw [List.filter_map]
  congr 1
  apply List.filter_congr
  intro s h
  exact hold_pre hp (hs s h)
end Plain
end Go.Proofs.YtldgkpnlplfopaaGreatDoor


/- Under by the program. -/
namespace Go.Proofs.YtldgkpnlplfopaaGreatDoor
open Go.RowKit Go.Maps Plain
set_option linter.unusedVariables false

end Go.Proofs.YtldgkpnlplfopaaGreatDoor
