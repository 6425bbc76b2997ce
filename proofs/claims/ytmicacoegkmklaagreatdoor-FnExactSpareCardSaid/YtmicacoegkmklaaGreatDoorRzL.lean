/- Texts of one kind, put together. -/
import Derived.Test.YtmicacoegkmklaaGreatDoorShaT
import Derived.Test.YtmicacoegkmklaaGreatDoorDig
import Derived.Deep.RegionHeld3
import Derived.Laws.ResultCell
import Derived.Test.YtmicacoegkmklaaGreatDoorRzE
import Derived.Test.YtmicacoegkmklaaGreatDoorRis
import Derived.Maps.Own
import Derived.DeepKeys4
import Derived.Deep.QuietTactic
import Derived.BigQuiet

/- A digest as its bytes, by the program: that there are 32 of them. -/
namespace Go.Proofs.YtmicacoegkmklaaGreatDoor
open Go.RowKit Plain
set_option linter.unusedVariables false

namespace Plain
/-- Thirty-two bytes. -/
def Key (xs : List Int) : Prop := xs.length = 32 ∧ ∀ x ∈ xs, 0 ≤ x ∧ x < 256
def keyC (xs : List Int) : Array Value := (xs.map (Value.int .u8)).toArray
/-- Block M holds them. -/
def KeyB (W : World) (M : Nat) (xs : List Int) : Prop := W.heap[M]? = some (.cells (keyC xs) 90 (0, 0))
theorem keyC_size {xs : List Int} (h : Key xs) : (keyC xs).size = 32 := by simp [keyC, h.1]
theorem keyC_one (xs : List Int) : (keyC xs).all (·.oneCell') = true := by simp [keyC]; intro i hi; rfl
def zeroK : List Int := List.replicate 32 0
theorem zeroK_key : Key zeroK := ⟨by simp [zeroK], fun x hx => by rw [List.eq_of_mem_replicate hx]; decide⟩
theorem Key.set {xs : List Int} (h : Key xs) (i : Nat) (y : Int) (h0 : 0 ≤ y) (h1 : y < 256) : Key (xs.set i y) := ⟨by rw [List.length_set]; exact h.1, fun x hx => by
  rcases List.mem_or_eq_of_mem_set hx with h2 | h2
  · exact h.2 x h2
  · rw [h2]; exact ⟨h0, h1⟩⟩
theorem KeyB.lt {W : World} {M : Nat} {xs : List Int} (h : KeyB W M xs) : M < W.heap.size := (Array.getElem?_eq_some_iff.1 h).1
theorem KeyB.below {W W' : World} {M B : Nat} {xs : List Int} (h : KeyB W M xs) (hb : Below B W W') (hB : M < B) : KeyB W' M xs := (hb.block M hB).trans h
theorem KeyB.cell {W : World} {M : Nat} {xs : List Int} (h : KeyB W M xs) (i : Nat) (hi : i < xs.length) : W.cell? ⟨M, i, none⟩ = some (.int .u8 xs[i]) := by
  rw [cell_of_row W M i _ _ _ h]
  simp [keyC, hi]
theorem KeyB.frozen {W : World} {M : Nat} {xs : List Int} (h : KeyB W M xs) (i : Nat) : W.frozen? ⟨M, i, none⟩ = false := frozen_of_row W M i _ _ h
theorem KeyB.set {W : World} {M : Nat} {xs : List Int} (h : KeyB W M xs) (i : Nat) (y : Int) : KeyB (W.setCell ⟨M, i, none⟩ (.int .u8 y)) M (xs.set i y) := by
  have := Go.heap_setCell_same W M i _ _ (.int .u8 y) h
  unfold KeyB keyC at *
  rw [this, List.map_set]
  simp
theorem KeyB.far {W : World} {M b i : Nat} {xs : List Int} (h : KeyB W M xs) (hne : b ≠ M) (u : Value) : KeyB (W.setCell ⟨b, i, none⟩ u) M xs := (Go.heap_setCell_other W ⟨b, i, none⟩ M u (fun e => hne e.symm)).trans h
theorem u8_range (x : Int) : 0 ≤ IntKind.u8.wrap x ∧ IntKind.u8.wrap x < 256 := by
  simp [IntKind.wrap, IntKind.bits, IntKind.signed]
  omega
end Plain

theorem zeroK_cells : (#[.int .u8 0, .int .u8 0, .int .u8 0, .int .u8 0, .int .u8 0, .int .u8 0, .int .u8 0, .int .u8 0, .int .u8 0, .int .u8 0, .int .u8 0, .int .u8 0, .int .u8 0, .int .u8 0, .int .u8 0, .int .u8 0, .int .u8 0, .int .u8 0, .int .u8 0, .int .u8 0, .int .u8 0, .int .u8 0, .int .u8 0, .int .u8 0, .int .u8 0, .int .u8 0, .int .u8 0, .int .u8 0, .int .u8 0, .int .u8 0, .int .u8 0, .int .u8 0] : Array Value) = keyC zeroK := by kernel_rfl
theorem infoK : (Tryz.prog.info? 90).map (·.size) = some 32 := by kernel_rfl

theorem results_cell_tmp_row {P : Program} {fn : Func} {p u : Tmp} {ty : TypeId} (h : fn.results = #[.cell p ty, .tmp u]) (tmps : Array Value) (w : World) (g : Nat) (t : TypeId) (cs : Array Value) (fr : Nat × Nat) (d : TypeDesc)
    (hp : tmps.getD p undef = .pointer (some ⟨g, 0, none⟩)) (hg : w.heap[g]? = some (.cells cs t fr))
    (hu : P.underlying ty = some d) (hd : (match d with | .struct _ | .array _ _ => true | _ => false) = true) (hi : (P.info? ty).map (·.size) = some cs.size) :
    (results fn tmps).run P w = .ok (.tuple #[.agg cs, tmps.getD u undef]) w := by
  rw [results_cell_tmp h, hp]
  simp [asAddr, run_loadVar_row w g t ty cs fr d hg hu hd hi, Result.andThen]

set_option maxRecDepth 10000 in
set_option maxHeartbeats 4000000 in
theorem keyOf_calls (d : ByteArray) (w : World) (hd : d.size ≤ 1000000000000) :
    Calls Tryz.prog 53 #[.string d] w fun e w' => ∃ xs, e = .returned (.tuple #[.agg (keyC xs), .bool (digB d)]) ∧ Key xs ∧ Below w.heap.size w w' := by
  have HD := hide (fun W => impl_DigestOk d W hd)
  obtain ⟨W0, hW0⟩ : ∃ W0, W0 = (w.alloc (.cells #[.int .u8 0, .int .u8 0, .int .u8 0, .int .u8 0, .int .u8 0, .int .u8 0, .int .u8 0, .int .u8 0, .int .u8 0, .int .u8 0, .int .u8 0, .int .u8 0, .int .u8 0, .int .u8 0, .int .u8 0, .int .u8 0, .int .u8 0, .int .u8 0, .int .u8 0, .int .u8 0, .int .u8 0, .int .u8 0, .int .u8 0, .int .u8 0, .int .u8 0, .int .u8 0, .int .u8 0, .int .u8 0, .int .u8 0, .int .u8 0, .int .u8 0, .int .u8 0] 90)).alloc (.cells #[.int .u8 0, .int .u8 0, .int .u8 0, .int .u8 0, .int .u8 0, .int .u8 0, .int .u8 0, .int .u8 0, .int .u8 0, .int .u8 0, .int .u8 0, .int .u8 0, .int .u8 0, .int .u8 0, .int .u8 0, .int .u8 0, .int .u8 0, .int .u8 0, .int .u8 0, .int .u8 0, .int .u8 0, .int .u8 0, .int .u8 0, .int .u8 0, .int .u8 0, .int .u8 0, .int .u8 0, .int .u8 0, .int .u8 0, .int .u8 0, .int .u8 0, .int .u8 0] 90) := ⟨_, rfl⟩
  have HB0 := hide (show Below w.heap.size w W0 from by rw [hW0]; exact ((Below.refl _ _).alloc (Nat.le_refl _) _).alloc (by simp) _)
  have hz0 : w.heap.size + 1 < W0.heap.size := by rw [hW0]; simp
  have HM1 := hide (show KeyB W0 (w.heap.size + 1) zeroK from by
    unfold KeyB
    rw [hW0, ← zeroK_cells]
    exact heap_alloc2_new _ _ _)
  have HM0 := hide (show KeyB W0 w.heap.size zeroK from by
    unfold KeyB
    rw [hW0, ← zeroK_cells, heap_alloc_old _ _ (by simp)]
    exact heap_alloc_new _ _)
  have HW0 := hide hW0.symm
  clear hW0
  have HIK := hide (fun (xs : List Int) (h : Key xs) => (show (Tryz.prog.info? 90).map (·.size) = some (keyC xs).size from by rw [keyC_size h]; exact infoK))
  cases hb : digB d with
  | false =>
    rw [hb] at HD
    clear hb
    have HI := hide (unhide HIK zeroK zeroK_key)
    go_enter Tryz.func53, Tryz.ntmps53
    go_wp2_with fail
    rw [unhide HW0]
    refine (unhide HD _).mono ?_
    rintro e w1 ⟨rfl, rfl⟩
    go_wp2_with (first
      | (refine wpList_load_row rfl 90 (.tmp 4) rfl (w.heap.size + 1) rfl 90 (keyC zeroK) (0, 0) _ (unhide HM1) Tryz.underlying90 rfl (unhide HI) ?_)
      | (refine wpList_store_any rfl 90 (.tmp 2) (.tmp 10) rfl w.heap.size (keyC zeroK) rfl rfl 90 _ (unhide HM0) (unhide HI) rfl (keyC_one _) ?_; intro w3 hrow3 hgr3 hsz3))
    have HB3 := hide ((unhide HB0).trans ((Below.refl _ _).grown hgr3 (by omega) (fun i hi => by simp at hi; omega)))
    have HR3 := hide hrow3
    clear hgr3 hsz3 hrow3
    go_wp2_with fail
    exact bodyPost_ret (v := .tuple #[.agg (keyC zeroK), .bool false]) (results_cell_tmp_row (fn := Tryz.f53) (p := 2) (u := 3) (ty := 90) (by kernel_rfl) _ _ w.heap.size _ _ (0, 0) _ rfl (unhide HR3) Tryz.underlying90 rfl (unhide HI)) rfl ⟨zeroK, rfl, zeroK_key, unhide HB3⟩
  | true =>
    rw [hb] at HD
    have h71 : d.size = 71 := by
      by_cases h1 : d.size = 71
      · exact h1
      · rw [digB_size h1] at hb; cases hb
    have hsl : (7 : Int) ≤ (d.size : Int) := by omega
    obtain ⟨t, ht⟩ : ∃ t, t = d.extract 7 71 := ⟨_, rfl⟩
    have htz : t.size = 64 := by rw [ht, ByteArray.size_extract]; omega
    have HT := hide ht
    clear hb ht hd
    go_enter Tryz.func53, Tryz.ntmps53
    go_wp2_with fail
    rw [unhide HW0]
    refine (unhide HD _).mono ?_
    rintro e w1 ⟨rfl, rfl⟩
    go_wp2_with fail
    rw [← unhide HT]
    go_loopw [13] (fun s13 wr => ∃ (i : Nat) (xs : List Int), s13 = .int .i64 i ∧ i ≤ 32 ∧ w.heap.size + 1 < wr.heap.size ∧ Hid (Key xs) ∧ Hid (KeyB wr (w.heap.size + 1) xs) ∧ Hid (KeyB wr w.heap.size zeroK) ∧ Hid (Below w.heap.size w wr)) (fun s13 _ => 32 - (intOf s13).toNat)
    case atStart => exact ⟨0, zeroK, rfl, by omega, hz0, hide zeroK_key, HM1, HM0, HB0⟩
    case round =>
      clear HM1 HM0 HB0 hz0 HW0
      obtain ⟨i, xs, rfl, hi, hz, HX, HM1, HM0, HB⟩ := hrel
      by_cases hi32 : i < 32
      · have hxl : i < xs.length := by rw [(unhide HX).1]; exact hi32
        have hc := (unhide HM1).cell i hxl
        have hf := (unhide HM1).frozen i
        obtain ⟨k2, hk2⟩ : ∃ k2 : Nat, 2 * i = k2 := ⟨_, rfl⟩
        have e2 : 2 * (i : Int) = (k2 : Int) := by omega
        have b2 : k2 < t.size := by omega
        obtain ⟨k3, hk3⟩ : ∃ k3 : Nat, k2 + 1 = k3 := ⟨_, rfl⟩
        have e3 : (k2 : Int) + 1 = (k3 : Int) := by omega
        have b3 : k3 < t.size := by omega
        have c2 : (k2 : Int) < (t.size : Int) := by omega
        have c3 : (k3 : Int) < (t.size : Int) := by omega
        have c4 : IntKind.i64.wrap (k2 : Int) = (k2 : Int) := by rw [IntKind.wrap_i64]; omega
        have c5 : IntKind.i64.wrap (k3 : Int) = (k3 : Int) := by rw [IntKind.wrap_i64]; omega
        obtain ⟨q2, hq2, q2b⟩ : ∃ q2 : Nat, t[k2].toNat = q2 ∧ q2 < 256 := ⟨_, rfl, t[k2].toNat_lt⟩
        obtain ⟨q3, hq3, q3b⟩ : ∃ q3 : Nat, t[k3].toNat = q3 ∧ q3 < 256 := ⟨_, rfl, t[k3].toNat_lt⟩
        have x2 := hexI_bounds (q2 : Int)
        have x3 := hexI_bounds (q3 : Int)
        have HV2 := hide (fun W => impl_hexValue (q2 : Int) W (by omega) (by omega))
        have HV3 := hide (fun W => impl_hexValue (q3 : Int) W (by omega) (by omega))
        generalize hexI (q2 : Int) = y2 at HV2 x2
        generalize hexI (q3 : Int) = y3 at HV3 x3
        clear hk2 hk3
        obtain ⟨y4, e4⟩ : ∃ y4, IntKind.i64.wrap (y2 * 16) = y4 := ⟨_, rfl⟩
        obtain ⟨y5, e5⟩ : ∃ y5, bits BinOp.or IntKind.i64 y4 y3 = y5 := ⟨_, rfl⟩
        obtain ⟨z, e6, hzb⟩ : ∃ z, IntKind.u8.wrap y5 = z ∧ 0 ≤ z ∧ z < 256 := ⟨_, rfl, u8_range _⟩
        have e7 : y5 % 256 = z := by rw [← e6]; simp [IntKind.wrap, IntKind.bits, IntKind.signed]
        have i0 : (0 : Int) ≤ (i : Int) := by omega
        have i1 : (i : Int) < 32 := by omega
        generalize xs[i] = old at hc
        go_wp2_with fail
        go_region_held3 (fun _ => True) (exact trivial) (first
          | (go_at_call_of 68 q2; refine (unhide HV2 _).mono ?_; rintro e w1 ⟨rfl, rfl⟩)
          | (go_at_call_of 68 q3; refine (unhide HV3 _).mono ?_; rintro e w1 ⟨rfl, rfl⟩))
        all_goals
          go_wp2_with fail
          go_roundw
          case rel => exact ⟨i + 1, xs.set i z, by go_num, by omega, by simpa using hz, hide ((unhide HX).set i z hzb.1 hzb.2), hide (show KeyB (wr.drew.setCell ⟨w.heap.size + 1, i, none⟩ (.int .u8 z)) (w.heap.size + 1) (xs.set i z) from KeyB.set (W := wr.drew) (unhide HM1) i z), hide (show KeyB (wr.drew.setCell ⟨w.heap.size + 1, i, none⟩ (.int .u8 z)) w.heap.size zeroK from KeyB.far (W := wr.drew) (unhide HM0) (by omega) _), hide ((unhide HB).drew.setCell (p := ⟨w.heap.size + 1, i, none⟩) (by simp) _)⟩
          case measure => simp [intOf]; omega
      · obtain rfl : i = 32 := by omega
        have HI := hide (unhide HIK xs (unhide HX))
        have HSZ := hide (show (keyC zeroK).size = (keyC xs).size from by rw [keyC_size zeroK_key, keyC_size (unhide HX)])
        go_wp2_with (first
          | (refine wpList_load_row rfl 90 (.tmp 4) rfl (w.heap.size + 1) rfl 90 (keyC xs) (0, 0) _ (unhide HM1) Tryz.underlying90 rfl (unhide HI) ?_)
          | (refine wpList_store_any rfl 90 (.tmp 2) (.tmp 33) rfl w.heap.size (keyC xs) rfl rfl 90 _ (unhide HM0) (unhide HI) (unhide HSZ) (keyC_one _) ?_; intro w3 hrow3 hgr3 hsz3))
        have HB3 := hide ((unhide HB).trans ((Below.refl _ _).grown hgr3 (by omega) (fun i hi => by simp at hi; omega)))
        have HR3 := hide hrow3
        clear hgr3 hsz3 hrow3
        go_wp2_with fail
        exact bodyPost_ret (v := .tuple #[.agg (keyC xs), .bool true]) (results_cell_tmp_row (fn := Tryz.f53) (p := 2) (u := 3) (ty := 90) (by kernel_rfl) _ _ w.heap.size _ _ (0, 0) _ rfl (unhide HR3) Tryz.underlying90 rfl (unhide HI)) rfl ⟨xs, rfl, unhide HX, unhide HB3⟩
end Go.Proofs.YtmicacoegkmklaaGreatDoor


/- Sets of digests: when they are right, by both. -/
namespace Go.Proofs.YtmicacoegkmklaaGreatDoor
open Go.RowKit Go.Maps Plain
set_option linter.unusedVariables false

namespace Plain
theorem mapM_some {α β : Type} (f : α → Option β) (g : α → β) : ∀ l : List α, (∀ x ∈ l, f x = some (g x)) → l.mapM f = some (l.map g)
  | [], _ => rfl
  | x :: l, h => by
    rw [List.mapM_cons, h x (by simp), mapM_some f g l fun y hy => h y (by simp [hy])]
    rfl
end Plain

theorem laidOutS : laidOutB Tryz.prog = true := by kernel_rfl
theorem cellsK : Tryz.prog.cellsOf 90 = 32 := by kernel_rfl
theorem cellsU8 : Tryz.prog.cellsOf 5 = 1 := by kernel_rfl
theorem keyedK : Keyed Tryz.prog 90 := Keyed.of_law (deep_law_laid laidOutS (m := 3) (by omega) (of_decide_eq_true (by kernel_rfl)) (by kernel_rfl) (by kernel_rfl))
theorem keyLits_u8 (d : Nat) (n : Int) (h : 0 ≤ n ∧ n < 256) : Tryz.prog.keyLits (d + 1) 5 [.int .u8 n] = some [.int .u8 n] := by
  unfold Program.keyLits
  rw [Tryz.underlying5]
  have : (Lit.int .u8 n).wf = true := by simp [Lit.wf, IntKind.min, IntKind.max, IntKind.bits, IntKind.signed]; omega
  simp [this]
theorem keyLits_K (d : Nat) (xs : List Int) (h : Key xs) : ∃ ls, Tryz.prog.keyLits (d + 2) 90 (xs.map (Value.int .u8)) = some ls := by
  unfold Program.keyLits
  rw [Tryz.underlying90]
  simp only
  rw [if_pos (by rw [List.length_map, h.1, cellsK])]
  have := mapM_some (fun i => Tryz.prog.keyLits (d + 1) 5 (((xs.map (Value.int .u8)).drop (i * Tryz.prog.cellsOf 5)).take (Tryz.prog.cellsOf 5))) (fun i => [Lit.int .u8 (xs.getD i 0)]) (List.range 32) (fun i hi => by
    have hi2 : i < xs.length := by rw [h.1]; exact List.mem_range.1 hi
    have e : ((xs.map (Value.int .u8)).drop (i * Tryz.prog.cellsOf 5)).take (Tryz.prog.cellsOf 5) = [.int .u8 xs[i]] := by
      rw [cellsU8, Nat.mul_one, List.drop_eq_getElem_cons (by simpa using hi2)]
      simp
    rw [e, keyLits_u8 d _ (h.2 _ (by simp))]
    simp [List.getD, List.getElem?_eq_getElem hi2])
  rw [this]
  exact ⟨_, rfl⟩
theorem keyOf_K (xs : List Int) (h : Key xs) : ∃ kl, keyOf Tryz.prog 90 (.agg (keyC xs)) = some kl := by
  have h1 : (Tryz.prog.keyType 90 && (Value.agg (keyC xs)).formed Tryz.prog 90) = true := by
    rw [Bool.and_eq_true]
    refine ⟨by kernel_rfl, ?_⟩
    simp [Value.formed, Tryz.underlying90, cellsK, keyC_size h]
  obtain ⟨m, hm⟩ : ∃ m, Tryz.prog.types.size = m + 1 := ⟨Tryz.prog.types.size - 1, by have : 0 < Tryz.prog.types.size := of_decide_eq_true (by kernel_rfl); omega⟩
  obtain ⟨ls, hls⟩ := keyLits_K m xs h
  unfold keyOf
  rw [Tryz.underlying90]
  simp only
  rw [if_pos h1, hm]
  refine ⟨.string (keyBytes ls), ?_⟩
  · rw [show (Value.agg (keyC xs)).cells.toList = xs.map (Value.int .u8) from by simp [Value.cells, keyC], hls]
    rfl

namespace Plain
def ltO : Option ByteArray → ByteArray → Bool
  | none, _ => true
  | some q, s => Op.bytesLess q.toList s.toList
theorem le_not (s q : ByteArray) (b : Bool) (h : Op.bytesLess q.toList s.toList = b) : (Op.bytesLess s.toList q.toList || s.toList == q.toList) = !b := by
  cases b with
  | true =>
    have h1 := (less_ltB q s).1 h
    have h2 : Op.bytesLess s.toList q.toList = false := by
      rw [Bool.eq_false_iff]
      exact fun h3 => ltB_irrefl _ (ltB_trans h1 ((less_ltB s q).1 h3))
    have h3 : (s.toList == q.toList) = false := by
      rw [Bool.eq_false_iff]
      intro h4
      rw [(beq_bytes s q).1 h4] at h1
      exact ltB_irrefl _ h1
    rw [h2, h3]
    rfl
  | false =>
    have h1 : ¬ ltB q s := fun h2 => by rw [(less_ltB q s).2 h2] at h; cases h
    by_cases h2 : s = q
    · have := (beq_bytes s q).2 h2
      rw [this, Bool.or_true]
      rfl
    · have := (less_ltB s q).2 (ltB_tri h1 (fun e => h2 e.symm))
      rw [this]
      rfl
def okS : Option ByteArray → List ByteArray → Bool
  | _, [] => true
  | p, s :: r => (digB s && ltO p s) && okS (some s) r
def prevS (ls : List ByteArray) : Nat → Option ByteArray
  | 0 => none
  | k + 1 => ls[k]?
theorem okS_step (ls : List ByteArray) (k : Nat) (h : k < ls.length) : okS (prevS ls k) (ls.drop k) = ((digB ls[k] && ltO (prevS ls k) ls[k]) && okS (prevS ls (k + 1)) (ls.drop (k + 1))) := by
  rw [List.drop_eq_getElem_cons h, okS, prevS, List.getElem?_eq_getElem h]
def setB (ls : List ByteArray) : Bool := decide (ls.length ≤ 200) && okS none ls
/-- Texts in memory. -/
structure TxtsAt (W : World) (a : Option Addr) (n : Nat) (ls : List ByteArray) : Prop where
  row : RowAt strE W a ls
  len : ls.length = n
  bn : n ≤ 1048576
  fit : ∀ s ∈ ls, s.size ≤ 1000000000
theorem TxtsAt.below {W W' : World} {a : Option Addr} {n : Nat} {ls : List ByteArray} (h : TxtsAt W a n ls) (hb : Below W.heap.size W W') : TxtsAt W' a n ls := ⟨h.row.below hb, h.len, h.bn, h.fit⟩
/-- What stands in a map of digests does not matter here. -/
def anyR : Value → Option (DataW Unit × List MemPlace) := fun _ => some (.agg [], [])
end Plain

theorem make_set (w : World) : (Instr.makeMap 74 none).run Tryz.prog w = .ok (.map (some w.heap.size)) (w.alloc (.map #[] 0)) := by
  simp [Instr.makeMap]
theorem keyB_new {w : World} {xs : List Int} : KeyB (w.alloc (.cells (keyC xs) 90)) w.heap.size xs := heap_alloc_new _ _

set_option maxRecDepth 10000 in
set_option maxHeartbeats 4000000 in
theorem readSet_calls (a : Option Addr) (n c : Nat) (ls : List ByteArray) (w : World) (h : TxtsAt w a n ls) :
    Calls Tryz.prog 43 #[.slice a n c] w fun e w' => ∃ m, e = .returned (.tuple #[m, .bool (setB ls)]) ∧ Below w.heap.size w w' := by
  have hbn := h.bn
  have HLN := hide h.len
  by_cases hbig : (200 : Int) < (n : Int)
  · have HX := hide (show setB ls = false from by unfold setB; rw [decide_eq_false (by have := h.len; omega)]; rfl)
    clear h
    go_enter Tryz.func43, Tryz.ntmps43
    go_wp2_with fail
    exact bodyPost_ret (v := .tuple #[.map none, .bool false]) (by simp [results, Tryz.results43, go_sem]) rfl ⟨_, by rw [unhide HX], Below.refl _ _⟩
  have HD := hide (fun (W : World) (hW : Below w.heap.size w W) => h.below hW)
  have HFIT := hide h.fit
  obtain ⟨R, hR⟩ : ∃ R, setB ls = R := ⟨_, rfl⟩
  have HR := hide (show okS none ls = R from by rw [← hR]; unfold setB; rw [decide_eq_true (by have := h.len; omega)]; rfl)
  rw [hR]
  clear h hR
  have HM0 := hide (World.ownsMap_made (H := Unit) w Tryz.prog 90 anyR)
  have HB0 := hide (show Below w.heap.size w (w.alloc (.map #[] 0)) from (Below.refl _ _).alloc (Nat.le_refl _) _)
  have hmk := make_set w
  go_enter Tryz.func43, Tryz.ntmps43
  go_wp2_with fail
  clear hmk
  go_loopw [15] (fun s15 wr => ∃ (k : Nat) (D : DataW Unit), s15 = .int .i64 k ∧ k ≤ n ∧ w.heap.size < wr.heap.size ∧ Hid (okS (prevS ls k) (ls.drop k) = R) ∧ Hid (wr.ownsMap Tryz.prog 90 anyR w.heap.size k D) ∧ Hid (Below w.heap.size w wr)) (fun s15 _ => n - (intOf s15).toNat)
  case atStart => exact ⟨0, _, rfl, by omega, by simp, HR, HM0, HB0⟩
  case round =>
    clear HM0 HB0
    obtain ⟨k, D, rfl, hk, hz, HO, HM, HB⟩ := hrel
    by_cases hkn : k < n
    · have hkl : k < ls.length := by rw [unhide HLN]; exact hkn
      obtain ⟨g, e1, l1, p0, -⟩ := (unhide HD wr (unhide HB)).row.str k hkl
      have hst := okS_step ls k hkl
      rw [unhide HO] at hst
      have hsz := unhide HFIT ls[k] (by simp)
      have HPV := hide (fun (j : Nat) (hj : k = j + 1) (W : World) (hW : Below w.heap.size w W) => (show ∃ q g', prevS ls k = some q ∧ a = some ⟨g', 0, none⟩ ∧ W.cell? ⟨g', j, none⟩ = some (.string q) from by
        subst hj
        have hjl : j < ls.length := by omega
        obtain ⟨g', e1, l1, p0, -⟩ := (unhide HD W hW).row.str j hjl
        exact ⟨ls[j], g', by rw [prevS, List.getElem?_eq_getElem hjl], e1, p0⟩))
      have HP0 := hide (show k = 0 → prevS ls k = none from fun h => by subst h; rfl)
      generalize ls[k] = s at p0 hst hsz
      have HKY := hide (keyOf_calls s wr (by omega))
      generalize prevS ls k = pv at hst HPV HP0
      subst e1
      have HST := hide hst
      have i0 : (0 : Int) ≤ (k : Int) := by omega
      have i1 : (k : Int) < (n : Int) := by omega
      clear hst HO
      cases hdg : digB s with
      | false =>
        rw [hdg] at HKY
        have HX := hide (show R = false from by rw [unhide HST, hdg]; rfl)
        clear hdg
        go_wp2_with fail
        refine (unhide HKY).mono ?_
        rintro e w1 ⟨xs, rfl, hkx, hb1⟩
        have HI := hide (show (Tryz.prog.info? 90).map (·.size) = some (keyC xs).size from by rw [keyC_size hkx]; exact infoK)
        have HS32 := hide (show (32 : Nat) = (keyC xs).size from (keyC_size hkx).symm)
        have HB1 := hide ((unhide HB).trans (hb1.mono (Nat.le_of_lt hz)))
        have hz1 := hb1.size
        clear hb1
        go_wp2_with (refine wpList_store_any rfl 90 (.tmp 7) (.tmp 23) rfl w1.heap.size (keyC xs) rfl rfl 90 _ (heap_alloc_new w1 _) (unhide HI) (unhide HS32) (keyC_one _) ?_; intro w3 hrow3 hgr3 hsz3)
        have HB3 := hide ((unhide HB1).trans (((Below.refl _ _).alloc (by omega) _).trans ((Below.refl _ _).grown hgr3 (by simp; omega) (fun i hi => by simp at hi; omega))))
        clear hgr3 hsz3 hrow3
        go_wp2_with fail
        exact bodyPost_ret (v := .tuple #[.map none, .bool false]) (by simp [results, Tryz.results43, go_sem]) rfl ⟨_, by rw [unhide HX], unhide HB3⟩
      | true =>
        rw [hdg] at HKY
        have HX := hide (show R = (ltO pv s && okS (prevS ls (k + 1)) (ls.drop (k + 1))) from by rw [unhide HST, hdg]; rfl)
        clear hdg HST
        obtain ⟨lt, hlt⟩ : ∃ lt, ltO pv s = lt := ⟨_, rfl⟩
        have HLT := hide hlt
        rw [hlt] at HX
        clear hlt
        go_wp2_with fail
        refine (unhide HKY).mono ?_
        rintro e w1 ⟨xs, rfl, hkx, hb1⟩
        have HI := hide (show (Tryz.prog.info? 90).map (·.size) = some (keyC xs).size from by rw [keyC_size hkx]; exact infoK)
        have HS32 := hide (show (32 : Nat) = (keyC xs).size from (keyC_size hkx).symm)
        have HB1 := hide ((unhide HB).trans (hb1.mono (Nat.le_of_lt hz)))
        have hz1 := hb1.size
        have HM1 := hide ((unhide HM).kept (row := none) ⟨hb1.os, hb1.tape, hb1.output, hb1.size, fun i hi _ => hb1.block i hi⟩ (by simp))
        obtain ⟨kl, hkl2⟩ := keyOf_K xs hkx
        have HKL := hide hkl2
        clear hb1 hkl2 HM
        by_cases hk0 : k = 0
        · subst hk0
          have hpv := unhide HP0 rfl
          subst hpv
          obtain rfl : lt = true := (unhide HLT).symm
          go_wp2_with (first
            | (refine wpList_store_any rfl 90 (.tmp 7) (.tmp 23) rfl w1.heap.size (keyC xs) rfl rfl 90 _ (heap_alloc_new w1 _) (unhide HI) (unhide HS32) (keyC_one _) ?_; intro w3 hrow3 hgr3 hsz3; have HG3 := hide (And.intro hgr3 hsz3); have HM3 := hide (((unhide HM1).alloc (.cells _ 90)).kept hgr3 (by simp; omega)))
            | (refine wpList_load_row rfl 90 (.tmp 7) rfl w1.heap.size rfl 90 (keyC xs) (0, 0) _ hrow3 Tryz.underlying90 rfl (unhide HI) ?_)
            | (at_mapUpdate; refine wpList_mapUpdate_own _ rfl _ _ _ 74 rfl 90 93 keyedK Tryz.underlying74 anyR w.heap.size 0 D rfl (unhide HM3) (by unfold maxLen; omega) _ _ kl rfl rfl (unhide HKL) (.agg []) [] rfl ?_; intro w4 hown4 hgr4))
          have HB4 := hide (((unhide HB1).trans ((((Below.refl _ _).alloc (by omega) _)).trans ((Below.refl _ _).grown (unhide HG3).1 (by simp; omega) (fun i hi => by simp at hi; omega)))).trans ((Below.refl _ _).grown hgr4 (by have := (unhide HG3).2; simp at this; omega) (fun i hi => by simp at hi; omega)))
          have hz4 := hgr4.size
          have hz3 := (unhide HG3).2
          have HO4 := hide hown4
          have HX2 := hide (show okS (prevS ls (0 + 1)) (ls.drop (0 + 1)) = R from by rw [unhide HX, Bool.true_and])
          clear hgr4 hown4 hrow3 hsz3 hgr3
          go_roundw
          case rel => exact ⟨0 + 1, _, by go_num, by omega, by simp at hz3; omega, HX2, HO4, HB4⟩
          case measure => simp [intOf]; omega
        · obtain ⟨j, hj⟩ : ∃ j, k = j + 1 := ⟨k - 1, by omega⟩
          have HPW := hide (fun (W : World) (hW : Below w.heap.size w W) => unhide HPV j hj W hW)
          obtain ⟨q, g', hpq, hga, -⟩ := unhide HPW wr (unhide HB)
          cases hga
          have HPC := hide (fun (W : World) (hW : Below w.heap.size w W) => (show W.cell? ⟨g, j, none⟩ = some (.string q) from by
            obtain ⟨q', g2, h1, h2, h3⟩ := unhide HPW W hW
            cases h2
            rw [hpq] at h1
            cases h1
            exact h3))
          have hlt := unhide HLT
          rw [hpq] at hlt
          change Op.bytesLess q.toList s.toList = lt at hlt
          subst hj
          have j0 : (0 : Int) ≤ (j : Int) := by omega
          have j1 : (j : Int) < (n : Int) := by omega
          have j2 : (0 : Int) < ((j + 1 : Nat) : Int) := by omega
          have hle := le_not s q lt hlt
          clear HPV HP0 HPW hpq HLT hlt
          cases lt with
          | false =>
            rw [Bool.not_false] at hle
            have HXF := hide (show R = false from by rw [unhide HX]; rfl)
            go_wp2_with (refine wpList_store_any rfl 90 (.tmp 7) (.tmp 23) rfl w1.heap.size (keyC xs) rfl rfl 90 _ (heap_alloc_new w1 _) (unhide HI) (unhide HS32) (keyC_one _) ?_; intro w3 hrow3 hgr3 hsz3; have HB3 := hide ((unhide HB1).trans (((Below.refl _ _).alloc (by omega) _).trans ((Below.refl _ _).grown hgr3 (by simp; omega) (fun i hi => by simp at hi; omega)))); have hpc := unhide HPC w3 (unhide HB3))
            exact bodyPost_ret (v := .tuple #[.map none, .bool false]) (by simp [results, Tryz.results43, go_sem]) rfl ⟨_, by rw [unhide HXF], unhide HB3⟩
          | true =>
            rw [Bool.not_true] at hle
            go_wp2_with (first
              | (refine wpList_store_any rfl 90 (.tmp 7) (.tmp 23) rfl w1.heap.size (keyC xs) rfl rfl 90 _ (heap_alloc_new w1 _) (unhide HI) (unhide HS32) (keyC_one _) ?_; intro w3 hrow3 hgr3 hsz3; have HG3 := hide (And.intro hgr3 hsz3); have HB3 := hide ((unhide HB1).trans (((Below.refl _ _).alloc (by omega) _).trans ((Below.refl _ _).grown hgr3 (by simp; omega) (fun i hi => by simp at hi; omega)))); have hpc := unhide HPC w3 (unhide HB3); have HM3 := hide (((unhide HM1).alloc (.cells _ 90)).kept hgr3 (by simp; omega)))
              | (refine wpList_load_row rfl 90 (.tmp 7) rfl w1.heap.size rfl 90 (keyC xs) (0, 0) _ hrow3 Tryz.underlying90 rfl (unhide HI) ?_)
              | (at_mapUpdate; refine wpList_mapUpdate_own _ rfl _ _ _ 74 rfl 90 93 keyedK Tryz.underlying74 anyR w.heap.size (j + 1) D rfl (unhide HM3) (by unfold maxLen; omega) _ _ kl rfl rfl (unhide HKL) (.agg []) [] rfl ?_; intro w4 hown4 hgr4))
            have HB4 := hide (((unhide HB1).trans ((((Below.refl _ _).alloc (by omega) _)).trans ((Below.refl _ _).grown (unhide HG3).1 (by simp; omega) (fun i hi => by simp at hi; omega)))).trans ((Below.refl _ _).grown hgr4 (by have := (unhide HG3).2; simp at this; omega) (fun i hi => by simp at hi; omega)))
            have hz4 := hgr4.size
            have hz3 := (unhide HG3).2
            have HO4 := hide hown4
            have HX2 := hide (show okS (prevS ls (j + 1 + 1)) (ls.drop (j + 1 + 1)) = R from by rw [unhide HX, Bool.true_and])
            clear hgr4 hown4 hrow3 hsz3 hgr3
            go_roundw
            case rel => exact ⟨j + 1 + 1, _, by go_num, by omega, by simp at hz3; omega, HX2, HO4, HB4⟩
            case measure => simp [intOf]; omega
    · obtain rfl : k = n := by omega
      have hO := unhide HO
      rw [List.drop_of_length_le (by rw [unhide HLN]; exact Nat.le_refl _)] at hO
      have HX := hide (show R = true from hO.symm)
      clear hO HO
      go_wp2_with fail
      exact bodyPost_ret (v := .tuple #[.map (some w.heap.size), .bool true]) (by simp [results, Tryz.results43, go_sem]) rfl ⟨_, by rw [unhide HX], unhide HB⟩
end Go.Proofs.YtmicacoegkmklaaGreatDoor


/- Sets of digests: when they are right, by the specification. -/
namespace Go.Proofs.YtmicacoegkmklaaGreatDoor
open Go.RowKit Plain
set_option linter.unusedVariables false

namespace Plain
def risS : Option ByteArray → List ByteArray → Bool
  | _, [] => true
  | p, s :: r => ltO p s && risS (some s) r
theorem risS_step (ls : List ByteArray) (k : Nat) (h : k < ls.length) : risS (prevS ls k) (ls.drop k) = (ltO (prevS ls k) ls[k] && risS (prevS ls (k + 1)) (ls.drop (k + 1))) := by
  rw [List.drop_eq_getElem_cons h, risS, prevS, List.getElem?_eq_getElem h]
theorem okS_split : ∀ (l : List ByteArray) (p : Option ByteArray), okS p l = (risS p l && l.all digB)
  | [], _ => rfl
  | s :: r, p => by
    rw [okS, okS_split r, risS, List.all_cons]
    cases digB s <;> cases ltO p s <;> simp
theorem belQS {B : Nat} {w w' : World} (h : Below B w w') (k : Nat) : Below B w (w'.drewN k) := ⟨h.os, h.tape, h.output, h.size, h.block⟩
end Plain

set_option maxRecDepth 10000 in
set_option maxHeartbeats 2000000 in
theorem l1Rises_calls (a : Option Addr) (n c : Nat) (ls : List ByteArray) (w : World) (h : TxtsAt w a n ls) :
    Calls Tryz.prog 49 #[.slice a n c] w fun e w' => e = .returned (.bool (risS none ls)) ∧ Below w.heap.size w w' := by
  have HLN := hide h.len
  have hbn := h.bn
  have HD := hide (fun (W : World) (hW : Below w.heap.size w W) => h.below hW)
  obtain ⟨R, hR⟩ : ∃ R, risS none ls = R := ⟨_, rfl⟩
  have HR := hide (show (if n = 0 then true else risS (prevS ls 1) (ls.drop 1)) = R from by
    rw [← hR]
    cases ls with
    | nil => rw [if_pos (by have := h.len; simp at this; omega)]; rfl
    | cons s r => rw [if_neg (by have := h.len; simp at this; omega)]; simp [risS, ltO, prevS])
  rw [hR]
  clear h hR
  go_enter Tryz.func49, Tryz.ntmps49
  go_wp2_with fail
  by_cases hn0 : n = 0
  · subst hn0
    have hr := unhide HR
    rw [if_pos rfl] at hr
    have HX := hide hr.symm
    clear hr HR
    refine wp_loop_rounds 1 ?_
    rw [rounds_succ]
    go_wp2_with fail
    go_ret
    exact ⟨by rw [unhide HX]; rfl, Below.refl _ _⟩
  have hr := unhide HR
  rw [if_neg hn0] at hr
  have HR2 := hide hr
  clear hr HR
  go_loopw [3] (fun s3 wr => ∃ (k : Nat), s3 = .int .i64 ((k + 1 : Nat) : Int) ∧ k + 1 ≤ n ∧ Hid (risS (prevS ls (k + 1)) (ls.drop (k + 1)) = R) ∧ Hid (Below w.heap.size w wr)) (fun s3 _ => n - (intOf s3).toNat)
  case atStart => exact ⟨0, rfl, by omega, HR2, hide (Below.refl _ _)⟩
  case round =>
    clear HR2
    obtain ⟨k, rfl, hk, HO, HB⟩ := hrel
    by_cases hkn : k + 1 < n
    · have hkl : k + 1 < ls.length := by rw [unhide HLN]; exact hkn
      have hkl0 : k < ls.length := by omega
      obtain ⟨g, e1, l1, p1, -⟩ := (unhide HD wr (unhide HB)).row.str (k + 1) hkl
      obtain ⟨g', e2, l2, p0, -⟩ := (unhide HD wr (unhide HB)).row.str k hkl0
      have hst := risS_step ls (k + 1) hkl
      rw [unhide HO, show prevS ls (k + 1) = some ls[k] from by rw [prevS, List.getElem?_eq_getElem hkl0]] at hst
      generalize ls[k + 1] = s at p1 hst
      generalize ls[k] = q at p0 hst
      subst e1
      cases e2
      change R = (Op.bytesLess q.toList s.toList && _) at hst
      obtain ⟨lt, hlt⟩ : ∃ lt, Op.bytesLess q.toList s.toList = lt := ⟨_, rfl⟩
      rw [hlt] at hst
      have hle := le_not s q lt hlt
      have HST := hide hst
      have j0 : (0 : Int) ≤ (k : Int) := by omega
      have j1 : (k : Int) < (n : Int) := by omega
      have i0 : (0 : Int) ≤ ((k + 1 : Nat) : Int) := by omega
      have i1 : ((k + 1 : Nat) : Int) < (n : Int) := by omega
      clear hst hlt HO
      cases lt with
      | true =>
        rw [Bool.not_true] at hle
        have HX := hide (show risS (prevS ls (k + 1 + 1)) (ls.drop (k + 1 + 1)) = R from by rw [unhide HST, Bool.true_and])
        go_wp2_with fail
        go_quiet (fail)
        go_wp2_with fail
        go_roundw
        case rel => exact ⟨k + 1, by go_num, by omega, HX, hide (belQS (unhide HB) _)⟩
        case measure => simp [intOf]; omega
      | false =>
        rw [Bool.not_false] at hle
        have HX := hide (show R = false from by rw [unhide HST]; rfl)
        go_wp2_with fail
        go_quiet (fail)
        go_wp2_with fail
        go_ret
        exact ⟨by rw [unhide HX]; rfl, belQS (unhide HB) _⟩
    · obtain rfl : k + 1 = n := by omega
      have hO := unhide HO
      rw [List.drop_of_length_le (by rw [unhide HLN]; exact Nat.le_refl _)] at hO
      have HX := hide (show R = true from hO.symm)
      clear hO HO
      go_wp2_with fail
      go_ret
      exact ⟨by rw [unhide HX]; rfl, unhide HB⟩

set_option maxRecDepth 10000 in
set_option maxHeartbeats 2000000 in
theorem l7Set_calls (a : Option Addr) (n c : Nat) (ls : List ByteArray) (w : World) (h : TxtsAt w a n ls) :
    Calls Tryz.prog 38 #[.slice a n c] w fun e w' => e = .returned (.bool (setB ls)) ∧ Below w.heap.size w w' := by
  have HLN := hide h.len
  have hbn := h.bn
  have HD := hide (fun (W : World) (hW : Below w.heap.size w W) => h.below hW)
  have HFIT := hide h.fit
  have HRI := hide (l1Rises_calls a n c ls w h)
  by_cases hbig : (200 : Int) < (n : Int)
  · have HX := hide (show setB ls = false from by unfold setB; rw [decide_eq_false (by have := h.len; omega)]; rfl)
    clear h
    go_enter Tryz.func38, Tryz.ntmps38
    go_wp2_with fail
    go_ret
    exact ⟨by rw [unhide HX]; rfl, Below.refl _ _⟩
  have hsb : setB ls = (risS none ls && ls.all digB) := by unfold setB; rw [decide_eq_true (by have := h.len; omega), okS_split]; rfl
  rw [hsb]
  clear h hsb
  cases hr : risS none ls with
  | false =>
    rw [hr] at HRI
    clear hr
    go_enter Tryz.func38, Tryz.ntmps38
    go_wp2_with fail
    refine (unhide HRI).mono ?_
    rintro e w1 ⟨rfl, hb1⟩
    have HB := hide hb1
    clear hb1
    go_wp2_with fail
    go_ret
    exact ⟨rfl, unhide HB⟩
  | true =>
    rw [hr] at HRI
    rw [Bool.true_and]
    obtain ⟨R, hR⟩ : ∃ R, ls.all digB = R := ⟨_, rfl⟩
    have HR := hide hR
    rw [hR]
    clear hr hR
    go_enter Tryz.func38, Tryz.ntmps38
    go_wp2_with fail
    refine (unhide HRI).mono ?_
    rintro e w1 ⟨rfl, hb1⟩
    have HB1 := hide hb1
    clear hb1
    go_wp2_with fail
    go_loopw [3] (fun s3 wr => ∃ (k : Nat), s3 = .int .i64 k ∧ k ≤ n ∧ Hid ((ls.drop k).all digB = R) ∧ Hid (Below w.heap.size w wr)) (fun s3 _ => n - (intOf s3).toNat)
    case atStart => exact ⟨0, rfl, by omega, HR, HB1⟩
    case round =>
      clear HR HB1
      obtain ⟨k, rfl, hk, HO, HB⟩ := hrel
      by_cases hkn : k < n
      · have hkl : k < ls.length := by rw [unhide HLN]; exact hkn
        obtain ⟨g, e1, l1, p0, -⟩ := (unhide HD wr (unhide HB)).row.str k hkl
        have hst := unhide HO
        rw [List.drop_eq_getElem_cons hkl, List.all_cons] at hst
        have hsz := unhide HFIT ls[k] (by simp)
        generalize ls[k] = s at p0 hst hsz
        have HDG := hide (spec_DigestOk s wr (by omega))
        subst e1
        have i0 : (0 : Int) ≤ (k : Int) := by omega
        have i1 : (k : Int) < (n : Int) := by omega
        have HST := hide hst
        clear hst HO
        cases hd : digB s with
        | false =>
          rw [hd] at HDG
          have HX := hide (show R = false from by rw [← unhide HST, hd]; rfl)
          clear hd
          go_wp2_with fail
          refine (unhide HDG).mono ?_
          rintro e w2 ⟨rfl, rfl⟩
          go_wp2_with fail
          go_ret
          exact ⟨by rw [unhide HX]; rfl, unhide HB⟩
        | true =>
          rw [hd] at HDG
          have HX := hide (show (ls.drop (k + 1)).all digB = R from by rw [← unhide HST, hd]; rfl)
          clear hd
          go_wp2_with fail
          refine (unhide HDG).mono ?_
          rintro e w2 ⟨rfl, rfl⟩
          go_wp2_with fail
          go_roundw
          case rel => exact ⟨k + 1, by go_num, by omega, HX, HB⟩
          case measure => simp [intOf]; omega
      · obtain rfl : k = n := by omega
        have hO := unhide HO
        rw [List.drop_of_length_le (by rw [unhide HLN]; exact Nat.le_refl _)] at hO
        have HX := hide (show R = true from hO.symm)
        clear hO HO
        go_wp2_with fail
        go_ret
        exact ⟨by rw [unhide HX]; rfl, unhide HB⟩
end Go.Proofs.YtmicacoegkmklaaGreatDoor

