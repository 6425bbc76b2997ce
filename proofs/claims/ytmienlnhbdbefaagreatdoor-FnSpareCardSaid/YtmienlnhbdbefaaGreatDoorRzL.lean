/- Texts of one kind, put together. -/
import Derived.Test.YtmienlnhbdbefaaGreatDoorShaT
import Derived.Test.YtmienlnhbdbefaaGreatDoorRzE
import Derived.Deep.RegionHeld3
import Derived.Laws.ResultCell
import Derived.Test.YtmienlnhbdbefaaGreatDoorDzB
import Derived.Maps.Own
import Derived.DeepKeys4
import Derived.Test.YtmienlnhbdbefaaGreatDoorDzA
import Derived.Deep.QuietTactic
import Derived.BigQuiet
import Derived.SliceStrings
import Derived.Maps.AppendAt

/- A digest as its bytes, by the program: that there are 32 of them. -/
namespace Go.Proofs.YtmienlnhbdbefaaGreatDoor
open Go.RowKit Plain
set_option linter.unusedVariables false

namespace Plain
/-- Thirty-two bytes. -/
def Key (xs : List Int) : Prop := xs.length = 32 ∧ ∀ x ∈ xs, 0 ≤ x ∧ x < 256
def keyC (xs : List Int) : Array Value := (xs.map (Value.int .u8)).toArray
/-- Block M holds them. -/
def KeyB (W : World) (M : Nat) (xs : List Int) : Prop := W.heap[M]? = some (.cells (keyC xs) 92 (0, 0))
theorem keyC_size {xs : List Int} (h : Key xs) : (keyC xs).size = 32 := by simp [keyC, h.1]
theorem keyC_one (xs : List Int) : (keyC xs).all (·.oneCell') = true := by simp [keyC]; intro i hi; rfl
def zeroK : List Int := List.replicate 32 0
theorem zeroK_key : Key zeroK := ⟨by simp [zeroK], fun x hx => by rw [List.eq_of_mem_replicate hx]; decide⟩
theorem Key.set {xs : List Int} (h : Key xs) (i : Nat) (y : Int) (h0 : 0 ≤ y) (h1 : y < 256) : Key (xs.set i y) := ⟨by rw [List.length_set]; exact h.1, fun x hx => by
  rcases List.mem_or_eq_of_mem_set hx with h2 | h2
  · exact h.2 x h2
  · rw [h2]; exact ⟨h0, h1⟩⟩
theorem KeyB.lt {W : World} {M : Nat} {xs : List Int} (h : KeyB W M xs) : M < W.heap.size := (Array.getElem?_eq_some_iff.1 h).1
theorem KeyB.below {W W' : World} {M B : Nat} {xs : List Int} (h : KeyB W M xs) (hb : Below B W W') (hB : M < B) : KeyB W' M xs := (hb.block M hB).trans h
theorem KeyB.cell {W : World} {M : Nat} {xs : List Int} (h : KeyB W M xs) (i : Nat) (hi : i < xs.length) : W.cell? ⟨M, i, none⟩ = some (.int .u8 xs[i]) := by
  rw [cell_of_row W M i _ _ _ h]
  simp [keyC, hi]
theorem KeyB.frozen {W : World} {M : Nat} {xs : List Int} (h : KeyB W M xs) (i : Nat) : W.frozen? ⟨M, i, none⟩ = false := frozen_of_row W M i _ _ h
theorem KeyB.set {W : World} {M : Nat} {xs : List Int} (h : KeyB W M xs) (i : Nat) (y : Int) : KeyB (W.setCell ⟨M, i, none⟩ (.int .u8 y)) M (xs.set i y) := by
  have := Go.heap_setCell_same W M i _ _ (.int .u8 y) h
  unfold KeyB keyC at *
  rw [this, List.map_set]
  simp
theorem KeyB.far {W : World} {M b i : Nat} {xs : List Int} (h : KeyB W M xs) (hne : b ≠ M) (u : Value) : KeyB (W.setCell ⟨b, i, none⟩ u) M xs := (Go.heap_setCell_other W ⟨b, i, none⟩ M u (fun e => hne e.symm)).trans h
theorem u8_range (x : Int) : 0 ≤ IntKind.u8.wrap x ∧ IntKind.u8.wrap x < 256 := by
  simp [IntKind.wrap, IntKind.bits, IntKind.signed]
  omega
end Plain

theorem zeroK_cells : (#[.int .u8 0, .int .u8 0, .int .u8 0, .int .u8 0, .int .u8 0, .int .u8 0, .int .u8 0, .int .u8 0, .int .u8 0, .int .u8 0, .int .u8 0, .int .u8 0, .int .u8 0, .int .u8 0, .int .u8 0, .int .u8 0, .int .u8 0, .int .u8 0, .int .u8 0, .int .u8 0, .int .u8 0, .int .u8 0, .int .u8 0, .int .u8 0, .int .u8 0, .int .u8 0, .int .u8 0, .int .u8 0, .int .u8 0, .int .u8 0, .int .u8 0, .int .u8 0] : Array Value) = keyC zeroK := by kernel_rfl
theorem infoK : (Tryz.prog.info? 92).map (·.size) = some 32 := by kernel_rfl

theorem results_cell_tmp_row {P : Program} {fn : Func} {p u : Tmp} {ty : TypeId} (h : fn.results = #[.cell p ty, .tmp u]) (tmps : Array Value) (w : World) (g : Nat) (t : TypeId) (cs : Array Value) (fr : Nat × Nat) (d : TypeDesc)
    (hp : tmps.getD p undef = .pointer (some ⟨g, 0, none⟩)) (hg : w.heap[g]? = some (.cells cs t fr))
    (hu : P.underlying ty = some d) (hd : (match d with | .struct _ | .array _ _ => true | _ => false) = true) (hi : (P.info? ty).map (·.size) = some cs.size) :
    (results fn tmps).run P w = .ok (.tuple #[.agg cs, tmps.getD u undef]) w := by
  rw [results_cell_tmp h, hp]
  simp [asAddr, run_loadVar_row w g t ty cs fr d hg hu hd hi, Result.andThen]

set_option maxRecDepth 10000 in
set_option maxHeartbeats 4000000 in
theorem keyOf_calls (d : ByteArray) (w : World) (hd : d.size ≤ 1000000000000) :
    Calls Tryz.prog 49 #[.string d] w fun e w' => ∃ xs, e = .returned (.tuple #[.agg (keyC xs), .bool (digB d)]) ∧ Key xs ∧ Below w.heap.size w w' := by
  have HD := hide (fun W => impl_DigestOk d W hd)
  obtain ⟨W0, hW0⟩ : ∃ W0, W0 = (w.alloc (.cells #[.int .u8 0, .int .u8 0, .int .u8 0, .int .u8 0, .int .u8 0, .int .u8 0, .int .u8 0, .int .u8 0, .int .u8 0, .int .u8 0, .int .u8 0, .int .u8 0, .int .u8 0, .int .u8 0, .int .u8 0, .int .u8 0, .int .u8 0, .int .u8 0, .int .u8 0, .int .u8 0, .int .u8 0, .int .u8 0, .int .u8 0, .int .u8 0, .int .u8 0, .int .u8 0, .int .u8 0, .int .u8 0, .int .u8 0, .int .u8 0, .int .u8 0, .int .u8 0] 92)).alloc (.cells #[.int .u8 0, .int .u8 0, .int .u8 0, .int .u8 0, .int .u8 0, .int .u8 0, .int .u8 0, .int .u8 0, .int .u8 0, .int .u8 0, .int .u8 0, .int .u8 0, .int .u8 0, .int .u8 0, .int .u8 0, .int .u8 0, .int .u8 0, .int .u8 0, .int .u8 0, .int .u8 0, .int .u8 0, .int .u8 0, .int .u8 0, .int .u8 0, .int .u8 0, .int .u8 0, .int .u8 0, .int .u8 0, .int .u8 0, .int .u8 0, .int .u8 0, .int .u8 0] 92) := ⟨_, rfl⟩
  have HB0 := hide (show Below w.heap.size w W0 from by rw [hW0]; exact ((Below.refl _ _).alloc (Nat.le_refl _) _).alloc (by simp) _)
  have hz0 : w.heap.size + 1 < W0.heap.size := by rw [hW0]; simp
  have HM1 := hide (show KeyB W0 (w.heap.size + 1) zeroK from by
    unfold KeyB
    rw [hW0, ← zeroK_cells]
    exact heap_alloc2_new _ _ _)
  have HM0 := hide (show KeyB W0 w.heap.size zeroK from by
    unfold KeyB
    rw [hW0, ← zeroK_cells, heap_alloc_old _ _ (by simp)]
    exact heap_alloc_new _ _)
  have HW0 := hide hW0.symm
  clear hW0
  have HIK := hide (fun (xs : List Int) (h : Key xs) => (show (Tryz.prog.info? 92).map (·.size) = some (keyC xs).size from by rw [keyC_size h]; exact infoK))
  cases hb : digB d with
  | false =>
    rw [hb] at HD
    clear hb
    have HI := hide (unhide HIK zeroK zeroK_key)
    go_enter Tryz.func49, Tryz.ntmps49
    go_wp2_with fail
    rw [unhide HW0]
    refine (unhide HD _).mono ?_
    rintro e w1 ⟨rfl, rfl⟩
    go_wp2_with (first
      | (refine wpList_load_row rfl 92 (.tmp 4) rfl (w.heap.size + 1) rfl 92 (keyC zeroK) (0, 0) _ (unhide HM1) Tryz.underlying92 rfl (unhide HI) ?_)
      | (refine wpList_store_any rfl 92 (.tmp 2) (.tmp 10) rfl w.heap.size (keyC zeroK) rfl rfl 92 _ (unhide HM0) (unhide HI) rfl (keyC_one _) ?_; intro w3 hrow3 hgr3 hsz3))
    have HB3 := hide ((unhide HB0).trans ((Below.refl _ _).grown hgr3 (by omega) (fun i hi => by simp at hi; omega)))
    have HR3 := hide hrow3
    clear hgr3 hsz3 hrow3
    go_wp2_with fail
    exact bodyPost_ret (v := .tuple #[.agg (keyC zeroK), .bool false]) (results_cell_tmp_row (fn := Tryz.f49) (p := 2) (u := 3) (ty := 92) (by kernel_rfl) _ _ w.heap.size _ _ (0, 0) _ rfl (unhide HR3) Tryz.underlying92 rfl (unhide HI)) rfl ⟨zeroK, rfl, zeroK_key, unhide HB3⟩
  | true =>
    rw [hb] at HD
    have h71 : d.size = 71 := by
      by_cases h1 : d.size = 71
      · exact h1
      · rw [digB_size h1] at hb; cases hb
    have hsl : (7 : Int) ≤ (d.size : Int) := by omega
    obtain ⟨t, ht⟩ : ∃ t, t = d.extract 7 71 := ⟨_, rfl⟩
    have htz : t.size = 64 := by rw [ht, ByteArray.size_extract]; omega
    have HT := hide ht
    clear hb ht hd
    go_enter Tryz.func49, Tryz.ntmps49
    go_wp2_with fail
    rw [unhide HW0]
    refine (unhide HD _).mono ?_
    rintro e w1 ⟨rfl, rfl⟩
    go_wp2_with fail
    rw [← unhide HT]
    go_loopw [13] (fun s13 wr => ∃ (i : Nat) (xs : List Int), s13 = .int .i64 i ∧ i ≤ 32 ∧ w.heap.size + 1 < wr.heap.size ∧ Hid (Key xs) ∧ Hid (KeyB wr (w.heap.size + 1) xs) ∧ Hid (KeyB wr w.heap.size zeroK) ∧ Hid (Below w.heap.size w wr)) (fun s13 _ => 32 - (intOf s13).toNat)
    case atStart => exact ⟨0, zeroK, rfl, by omega, hz0, hide zeroK_key, HM1, HM0, HB0⟩
    case round =>
      clear HM1 HM0 HB0 hz0 HW0
      obtain ⟨i, xs, rfl, hi, hz, HX, HM1, HM0, HB⟩ := hrel
      by_cases hi32 : i < 32
      · have hxl : i < xs.length := by rw [(unhide HX).1]; exact hi32
        have hc := (unhide HM1).cell i hxl
        have hf := (unhide HM1).frozen i
        obtain ⟨k2, hk2⟩ : ∃ k2 : Nat, 2 * i = k2 := ⟨_, rfl⟩
        have e2 : 2 * (i : Int) = (k2 : Int) := by omega
        have b2 : k2 < t.size := by omega
        obtain ⟨k3, hk3⟩ : ∃ k3 : Nat, k2 + 1 = k3 := ⟨_, rfl⟩
        have e3 : (k2 : Int) + 1 = (k3 : Int) := by omega
        have b3 : k3 < t.size := by omega
        have c2 : (k2 : Int) < (t.size : Int) := by omega
        have c3 : (k3 : Int) < (t.size : Int) := by omega
        have c4 : IntKind.i64.wrap (k2 : Int) = (k2 : Int) := by rw [IntKind.wrap_i64]; omega
        have c5 : IntKind.i64.wrap (k3 : Int) = (k3 : Int) := by rw [IntKind.wrap_i64]; omega
        obtain ⟨q2, hq2, q2b⟩ : ∃ q2 : Nat, t[k2].toNat = q2 ∧ q2 < 256 := ⟨_, rfl, t[k2].toNat_lt⟩
        obtain ⟨q3, hq3, q3b⟩ : ∃ q3 : Nat, t[k3].toNat = q3 ∧ q3 < 256 := ⟨_, rfl, t[k3].toNat_lt⟩
        have x2 := hexI_bounds (q2 : Int)
        have x3 := hexI_bounds (q3 : Int)
        have HV2 := hide (fun W => impl_hexValue (q2 : Int) W (by omega) (by omega))
        have HV3 := hide (fun W => impl_hexValue (q3 : Int) W (by omega) (by omega))
        generalize hexI (q2 : Int) = y2 at HV2 x2
        generalize hexI (q3 : Int) = y3 at HV3 x3
        clear hk2 hk3
        obtain ⟨y4, e4⟩ : ∃ y4, IntKind.i64.wrap (y2 * 16) = y4 := ⟨_, rfl⟩
        obtain ⟨y5, e5⟩ : ∃ y5, bits BinOp.or IntKind.i64 y4 y3 = y5 := ⟨_, rfl⟩
        obtain ⟨z, e6, hzb⟩ : ∃ z, IntKind.u8.wrap y5 = z ∧ 0 ≤ z ∧ z < 256 := ⟨_, rfl, u8_range _⟩
        have e7 : y5 % 256 = z := by rw [← e6]; simp [IntKind.wrap, IntKind.bits, IntKind.signed]
        have i0 : (0 : Int) ≤ (i : Int) := by omega
        have i1 : (i : Int) < 32 := by omega
        generalize xs[i] = old at hc
        go_wp2_with fail
        go_region_held3 (fun _ => True) (exact trivial) (first
          | (go_at_call_of 34 q2; refine (unhide HV2 _).mono ?_; rintro e w1 ⟨rfl, rfl⟩)
          | (go_at_call_of 34 q3; refine (unhide HV3 _).mono ?_; rintro e w1 ⟨rfl, rfl⟩))
        all_goals
          go_wp2_with fail
          go_roundw
          case rel => exact ⟨i + 1, xs.set i z, by go_num, by omega, by simpa using hz, hide ((unhide HX).set i z hzb.1 hzb.2), hide (show KeyB (wr.drew.setCell ⟨w.heap.size + 1, i, none⟩ (.int .u8 z)) (w.heap.size + 1) (xs.set i z) from KeyB.set (W := wr.drew) (unhide HM1) i z), hide (show KeyB (wr.drew.setCell ⟨w.heap.size + 1, i, none⟩ (.int .u8 z)) w.heap.size zeroK from KeyB.far (W := wr.drew) (unhide HM0) (by omega) _), hide ((unhide HB).drew.setCell (p := ⟨w.heap.size + 1, i, none⟩) (by simp) _)⟩
          case measure => simp [intOf]; omega
      · obtain rfl : i = 32 := by omega
        have HI := hide (unhide HIK xs (unhide HX))
        have HSZ := hide (show (keyC zeroK).size = (keyC xs).size from by rw [keyC_size zeroK_key, keyC_size (unhide HX)])
        go_wp2_with (first
          | (refine wpList_load_row rfl 92 (.tmp 4) rfl (w.heap.size + 1) rfl 92 (keyC xs) (0, 0) _ (unhide HM1) Tryz.underlying92 rfl (unhide HI) ?_)
          | (refine wpList_store_any rfl 92 (.tmp 2) (.tmp 33) rfl w.heap.size (keyC xs) rfl rfl 92 _ (unhide HM0) (unhide HI) (unhide HSZ) (keyC_one _) ?_; intro w3 hrow3 hgr3 hsz3))
        have HB3 := hide ((unhide HB).trans ((Below.refl _ _).grown hgr3 (by omega) (fun i hi => by simp at hi; omega)))
        have HR3 := hide hrow3
        clear hgr3 hsz3 hrow3
        go_wp2_with fail
        exact bodyPost_ret (v := .tuple #[.agg (keyC xs), .bool true]) (results_cell_tmp_row (fn := Tryz.f49) (p := 2) (u := 3) (ty := 92) (by kernel_rfl) _ _ w.heap.size _ _ (0, 0) _ rfl (unhide HR3) Tryz.underlying92 rfl (unhide HI)) rfl ⟨xs, rfl, unhide HX, unhide HB3⟩
end Go.Proofs.YtmienlnhbdbefaaGreatDoor


/- Sets of digests: when they are right, by both. -/
namespace Go.Proofs.YtmienlnhbdbefaaGreatDoor
open Go.RowKit Go.Maps Plain
set_option linter.unusedVariables false

namespace Plain
theorem mapM_some {α β : Type} (f : α → Option β) (g : α → β) : ∀ l : List α, (∀ x ∈ l, f x = some (g x)) → l.mapM f = some (l.map g)
  | [], _ => rfl
  | x :: l, h => by
    rw [List.mapM_cons, h x (by simp), mapM_some f g l fun y hy => h y (by simp [hy])]
    rfl
end Plain

theorem laidOutS : laidOutB Tryz.prog = true := by kernel_rfl
theorem cellsK : Tryz.prog.cellsOf 92 = 32 := by kernel_rfl
theorem cellsU8 : Tryz.prog.cellsOf 5 = 1 := by kernel_rfl
theorem keyedK : Keyed Tryz.prog 92 := Keyed.of_law (deep_law_laid laidOutS (m := 3) (by omega) (of_decide_eq_true (by kernel_rfl)) (by kernel_rfl) (by kernel_rfl))
theorem keyLits_u8 (d : Nat) (n : Int) (h : 0 ≤ n ∧ n < 256) : Tryz.prog.keyLits (d + 1) 5 [.int .u8 n] = some [.int .u8 n] := by
  unfold Program.keyLits
  rw [Tryz.underlying5]
  have : (Lit.int .u8 n).wf = true := by simp [Lit.wf, IntKind.min, IntKind.max, IntKind.bits, IntKind.signed]; omega
  simp [this]
theorem keyLits_K (d : Nat) (xs : List Int) (h : Key xs) : ∃ ls, Tryz.prog.keyLits (d + 2) 92 (xs.map (Value.int .u8)) = some ls := by
  unfold Program.keyLits
  rw [Tryz.underlying92]
  simp only
  rw [if_pos (by rw [List.length_map, h.1, cellsK])]
  have := mapM_some (fun i => Tryz.prog.keyLits (d + 1) 5 (((xs.map (Value.int .u8)).drop (i * Tryz.prog.cellsOf 5)).take (Tryz.prog.cellsOf 5))) (fun i => [Lit.int .u8 (xs.getD i 0)]) (List.range 32) (fun i hi => by
    have hi2 : i < xs.length := by rw [h.1]; exact List.mem_range.1 hi
    have e : ((xs.map (Value.int .u8)).drop (i * Tryz.prog.cellsOf 5)).take (Tryz.prog.cellsOf 5) = [.int .u8 xs[i]] := by
      rw [cellsU8, Nat.mul_one, List.drop_eq_getElem_cons (by simpa using hi2)]
      simp
    rw [e, keyLits_u8 d _ (h.2 _ (by simp))]
    simp [List.getD, List.getElem?_eq_getElem hi2])
  rw [this]
  exact ⟨_, rfl⟩
theorem keyOf_K (xs : List Int) (h : Key xs) : ∃ kl, keyOf Tryz.prog 92 (.agg (keyC xs)) = some kl := by
  have h1 : (Tryz.prog.keyType 92 && (Value.agg (keyC xs)).formed Tryz.prog 92) = true := by
    rw [Bool.and_eq_true]
    refine ⟨by kernel_rfl, ?_⟩
    simp [Value.formed, Tryz.underlying92, cellsK, keyC_size h]
  obtain ⟨m, hm⟩ : ∃ m, Tryz.prog.types.size = m + 1 := ⟨Tryz.prog.types.size - 1, by have : 0 < Tryz.prog.types.size := of_decide_eq_true (by kernel_rfl); omega⟩
  obtain ⟨ls, hls⟩ := keyLits_K m xs h
  unfold keyOf
  rw [Tryz.underlying92]
  simp only
  rw [if_pos h1, hm]
  refine ⟨.string (keyBytes ls), ?_⟩
  · rw [show (Value.agg (keyC xs)).cells.toList = xs.map (Value.int .u8) from by simp [Value.cells, keyC], hls]
    rfl

namespace Plain
def ltO : Option ByteArray → ByteArray → Bool
  | none, _ => true
  | some q, s => Op.bytesLess q.toList s.toList
theorem le_not (s q : ByteArray) (b : Bool) (h : Op.bytesLess q.toList s.toList = b) : (Op.bytesLess s.toList q.toList || s.toList == q.toList) = !b := by
  cases b with
  | true =>
    have h1 := (less_ltB q s).1 h
    have h2 : Op.bytesLess s.toList q.toList = false := by
      rw [Bool.eq_false_iff]
      exact fun h3 => ltB_irrefl _ (ltB_trans h1 ((less_ltB s q).1 h3))
    have h3 : (s.toList == q.toList) = false := by
      rw [Bool.eq_false_iff]
      intro h4
      rw [(beq_bytes s q).1 h4] at h1
      exact ltB_irrefl _ h1
    rw [h2, h3]
    rfl
  | false =>
    have h1 : ¬ ltB q s := fun h2 => by rw [(less_ltB q s).2 h2] at h; cases h
    by_cases h2 : s = q
    · have := (beq_bytes s q).2 h2
      rw [this, Bool.or_true]
      rfl
    · have := (less_ltB s q).2 (ltB_tri h1 (fun e => h2 e.symm))
      rw [this]
      rfl
def okS : Option ByteArray → List ByteArray → Bool
  | _, [] => true
  | p, s :: r => (digB s && ltO p s) && okS (some s) r
def prevS (ls : List ByteArray) : Nat → Option ByteArray
  | 0 => none
  | k + 1 => ls[k]?
theorem okS_step (ls : List ByteArray) (k : Nat) (h : k < ls.length) : okS (prevS ls k) (ls.drop k) = ((digB ls[k] && ltO (prevS ls k) ls[k]) && okS (prevS ls (k + 1)) (ls.drop (k + 1))) := by
  rw [List.drop_eq_getElem_cons h, okS, prevS, List.getElem?_eq_getElem h]
def setB (ls : List ByteArray) : Bool := decide (ls.length ≤ 200) && okS none ls
/-- Texts in memory. -/
structure TxtsAt (W : World) (a : Option Addr) (n : Nat) (ls : List ByteArray) : Prop where
  row : RowAt strE W a ls
  len : ls.length = n
  bn : n ≤ 1048576
  fit : ∀ s ∈ ls, s.size ≤ 1000000000
theorem TxtsAt.below {W W' : World} {a : Option Addr} {n : Nat} {ls : List ByteArray} (h : TxtsAt W a n ls) (hb : Below W.heap.size W W') : TxtsAt W' a n ls := ⟨h.row.below hb, h.len, h.bn, h.fit⟩
/-- What stands in a map of digests does not matter here. -/
def anyR : Value → Option (DataW Unit × List MemPlace) := fun _ => some (.agg [], [])
end Plain

theorem make_set (w : World) : (Instr.makeMap 67 none).run Tryz.prog w = .ok (.map (some w.heap.size)) (w.alloc (.map #[] 0)) := by
  simp [Instr.makeMap]
theorem keyB_new {w : World} {xs : List Int} : KeyB (w.alloc (.cells (keyC xs) 92)) w.heap.size xs := heap_alloc_new _ _

set_option maxRecDepth 10000 in
set_option maxHeartbeats 4000000 in
theorem readSet_calls (a : Option Addr) (n c : Nat) (ls : List ByteArray) (w : World) (h : TxtsAt w a n ls) :
    Calls Tryz.prog 30 #[.slice a n c] w fun e w' => ∃ m, e = .returned (.tuple #[m, .bool (setB ls)]) ∧ Below w.heap.size w w' := by
  have hbn := h.bn
  have HLN := hide h.len
  by_cases hbig : (200 : Int) < (n : Int)
  · have HX := hide (show setB ls = false from by unfold setB; rw [decide_eq_false (by have := h.len; omega)]; rfl)
    clear h
    go_enter Tryz.func30, Tryz.ntmps30
    go_wp2_with fail
    exact bodyPost_ret (v := .tuple #[.map none, .bool false]) (by simp [results, Tryz.results30, go_sem]) rfl ⟨_, by rw [unhide HX], Below.refl _ _⟩
  have HD := hide (fun (W : World) (hW : Below w.heap.size w W) => h.below hW)
  have HFIT := hide h.fit
  obtain ⟨R, hR⟩ : ∃ R, setB ls = R := ⟨_, rfl⟩
  have HR := hide (show okS none ls = R from by rw [← hR]; unfold setB; rw [decide_eq_true (by have := h.len; omega)]; rfl)
  rw [hR]
  clear h hR
  have HM0 := hide (World.ownsMap_made (H := Unit) w Tryz.prog 92 anyR)
  have HB0 := hide (show Below w.heap.size w (w.alloc (.map #[] 0)) from (Below.refl _ _).alloc (Nat.le_refl _) _)
  have hmk := make_set w
  go_enter Tryz.func30, Tryz.ntmps30
  go_wp2_with fail
  clear hmk
  go_loopw [15] (fun s15 wr => ∃ (k : Nat) (D : DataW Unit), s15 = .int .i64 k ∧ k ≤ n ∧ w.heap.size < wr.heap.size ∧ Hid (okS (prevS ls k) (ls.drop k) = R) ∧ Hid (wr.ownsMap Tryz.prog 92 anyR w.heap.size k D) ∧ Hid (Below w.heap.size w wr)) (fun s15 _ => n - (intOf s15).toNat)
  case atStart => exact ⟨0, _, rfl, by omega, by simp, HR, HM0, HB0⟩
  case round =>
    clear HM0 HB0
    obtain ⟨k, D, rfl, hk, hz, HO, HM, HB⟩ := hrel
    by_cases hkn : k < n
    · have hkl : k < ls.length := by rw [unhide HLN]; exact hkn
      obtain ⟨g, e1, l1, p0, -⟩ := (unhide HD wr (unhide HB)).row.str k hkl
      have hst := okS_step ls k hkl
      rw [unhide HO] at hst
      have hsz := unhide HFIT ls[k] (by simp)
      have HPV := hide (fun (j : Nat) (hj : k = j + 1) (W : World) (hW : Below w.heap.size w W) => (show ∃ q g', prevS ls k = some q ∧ a = some ⟨g', 0, none⟩ ∧ W.cell? ⟨g', j, none⟩ = some (.string q) from by
        subst hj
        have hjl : j < ls.length := by omega
        obtain ⟨g', e1, l1, p0, -⟩ := (unhide HD W hW).row.str j hjl
        exact ⟨ls[j], g', by rw [prevS, List.getElem?_eq_getElem hjl], e1, p0⟩))
      have HP0 := hide (show k = 0 → prevS ls k = none from fun h => by subst h; rfl)
      generalize ls[k] = s at p0 hst hsz
      have HKY := hide (keyOf_calls s wr (by omega))
      generalize prevS ls k = pv at hst HPV HP0
      subst e1
      have HST := hide hst
      have i0 : (0 : Int) ≤ (k : Int) := by omega
      have i1 : (k : Int) < (n : Int) := by omega
      clear hst HO
      cases hdg : digB s with
      | false =>
        rw [hdg] at HKY
        have HX := hide (show R = false from by rw [unhide HST, hdg]; rfl)
        clear hdg
        go_wp2_with fail
        refine (unhide HKY).mono ?_
        rintro e w1 ⟨xs, rfl, hkx, hb1⟩
        have HI := hide (show (Tryz.prog.info? 92).map (·.size) = some (keyC xs).size from by rw [keyC_size hkx]; exact infoK)
        have HS32 := hide (show (32 : Nat) = (keyC xs).size from (keyC_size hkx).symm)
        have HB1 := hide ((unhide HB).trans (hb1.mono (Nat.le_of_lt hz)))
        have hz1 := hb1.size
        clear hb1
        go_wp2_with (refine wpList_store_any rfl 92 (.tmp 7) (.tmp 23) rfl w1.heap.size (keyC xs) rfl rfl 92 _ (heap_alloc_new w1 _) (unhide HI) (unhide HS32) (keyC_one _) ?_; intro w3 hrow3 hgr3 hsz3)
        have HB3 := hide ((unhide HB1).trans (((Below.refl _ _).alloc (by omega) _).trans ((Below.refl _ _).grown hgr3 (by simp; omega) (fun i hi => by simp at hi; omega))))
        clear hgr3 hsz3 hrow3
        go_wp2_with fail
        exact bodyPost_ret (v := .tuple #[.map none, .bool false]) (by simp [results, Tryz.results30, go_sem]) rfl ⟨_, by rw [unhide HX], unhide HB3⟩
      | true =>
        rw [hdg] at HKY
        have HX := hide (show R = (ltO pv s && okS (prevS ls (k + 1)) (ls.drop (k + 1))) from by rw [unhide HST, hdg]; rfl)
        clear hdg HST
        obtain ⟨lt, hlt⟩ : ∃ lt, ltO pv s = lt := ⟨_, rfl⟩
        have HLT := hide hlt
        rw [hlt] at HX
        clear hlt
        go_wp2_with fail
        refine (unhide HKY).mono ?_
        rintro e w1 ⟨xs, rfl, hkx, hb1⟩
        have HI := hide (show (Tryz.prog.info? 92).map (·.size) = some (keyC xs).size from by rw [keyC_size hkx]; exact infoK)
        have HS32 := hide (show (32 : Nat) = (keyC xs).size from (keyC_size hkx).symm)
        have HB1 := hide ((unhide HB).trans (hb1.mono (Nat.le_of_lt hz)))
        have hz1 := hb1.size
        have HM1 := hide ((unhide HM).kept (row := none) ⟨hb1.os, hb1.tape, hb1.output, hb1.size, fun i hi _ => hb1.block i hi⟩ (by simp))
        obtain ⟨kl, hkl2⟩ := keyOf_K xs hkx
        have HKL := hide hkl2
        clear hb1 hkl2 HM
        by_cases hk0 : k = 0
        · subst hk0
          have hpv := unhide HP0 rfl
          subst hpv
          obtain rfl : lt = true := (unhide HLT).symm
          go_wp2_with (first
            | (refine wpList_store_any rfl 92 (.tmp 7) (.tmp 23) rfl w1.heap.size (keyC xs) rfl rfl 92 _ (heap_alloc_new w1 _) (unhide HI) (unhide HS32) (keyC_one _) ?_; intro w3 hrow3 hgr3 hsz3; have HG3 := hide (And.intro hgr3 hsz3); have HM3 := hide (((unhide HM1).alloc (.cells _ 92)).kept hgr3 (by simp; omega)))
            | (refine wpList_load_row rfl 92 (.tmp 7) rfl w1.heap.size rfl 92 (keyC xs) (0, 0) _ hrow3 Tryz.underlying92 rfl (unhide HI) ?_)
            | (at_mapUpdate; refine wpList_mapUpdate_own _ rfl _ _ _ 67 rfl 92 95 keyedK Tryz.underlying67 anyR w.heap.size 0 D rfl (unhide HM3) (by unfold maxLen; omega) _ _ kl rfl rfl (unhide HKL) (.agg []) [] rfl ?_; intro w4 hown4 hgr4))
          have HB4 := hide (((unhide HB1).trans ((((Below.refl _ _).alloc (by omega) _)).trans ((Below.refl _ _).grown (unhide HG3).1 (by simp; omega) (fun i hi => by simp at hi; omega)))).trans ((Below.refl _ _).grown hgr4 (by have := (unhide HG3).2; simp at this; omega) (fun i hi => by simp at hi; omega)))
          have hz4 := hgr4.size
          have hz3 := (unhide HG3).2
          have HO4 := hide hown4
          have HX2 := hide (show okS (prevS ls (0 + 1)) (ls.drop (0 + 1)) = R from by rw [unhide HX, Bool.true_and])
          clear hgr4 hown4 hrow3 hsz3 hgr3
          go_roundw
          case rel => exact ⟨0 + 1, _, by go_num, by omega, by simp at hz3; omega, HX2, HO4, HB4⟩
          case measure => simp [intOf]; omega
        · obtain ⟨j, hj⟩ : ∃ j, k = j + 1 := ⟨k - 1, by omega⟩
          have HPW := hide (fun (W : World) (hW : Below w.heap.size w W) => unhide HPV j hj W hW)
          obtain ⟨q, g', hpq, hga, -⟩ := unhide HPW wr (unhide HB)
          cases hga
          have HPC := hide (fun (W : World) (hW : Below w.heap.size w W) => (show W.cell? ⟨g, j, none⟩ = some (.string q) from by
            obtain ⟨q', g2, h1, h2, h3⟩ := unhide HPW W hW
            cases h2
            rw [hpq] at h1
            cases h1
            exact h3))
          have hlt := unhide HLT
          rw [hpq] at hlt
          change Op.bytesLess q.toList s.toList = lt at hlt
          subst hj
          have j0 : (0 : Int) ≤ (j : Int) := by omega
          have j1 : (j : Int) < (n : Int) := by omega
          have j2 : (0 : Int) < ((j + 1 : Nat) : Int) := by omega
          have hle := le_not s q lt hlt
          clear HPV HP0 HPW hpq HLT hlt
          cases lt with
          | false =>
            rw [Bool.not_false] at hle
            have HXF := hide (show R = false from by rw [unhide HX]; rfl)
            go_wp2_with (refine wpList_store_any rfl 92 (.tmp 7) (.tmp 23) rfl w1.heap.size (keyC xs) rfl rfl 92 _ (heap_alloc_new w1 _) (unhide HI) (unhide HS32) (keyC_one _) ?_; intro w3 hrow3 hgr3 hsz3; have HB3 := hide ((unhide HB1).trans (((Below.refl _ _).alloc (by omega) _).trans ((Below.refl _ _).grown hgr3 (by simp; omega) (fun i hi => by simp at hi; omega)))); have hpc := unhide HPC w3 (unhide HB3))
            exact bodyPost_ret (v := .tuple #[.map none, .bool false]) (by simp [results, Tryz.results30, go_sem]) rfl ⟨_, by rw [unhide HXF], unhide HB3⟩
          | true =>
            rw [Bool.not_true] at hle
            go_wp2_with (first
              | (refine wpList_store_any rfl 92 (.tmp 7) (.tmp 23) rfl w1.heap.size (keyC xs) rfl rfl 92 _ (heap_alloc_new w1 _) (unhide HI) (unhide HS32) (keyC_one _) ?_; intro w3 hrow3 hgr3 hsz3; have HG3 := hide (And.intro hgr3 hsz3); have HB3 := hide ((unhide HB1).trans (((Below.refl _ _).alloc (by omega) _).trans ((Below.refl _ _).grown hgr3 (by simp; omega) (fun i hi => by simp at hi; omega)))); have hpc := unhide HPC w3 (unhide HB3); have HM3 := hide (((unhide HM1).alloc (.cells _ 92)).kept hgr3 (by simp; omega)))
              | (refine wpList_load_row rfl 92 (.tmp 7) rfl w1.heap.size rfl 92 (keyC xs) (0, 0) _ hrow3 Tryz.underlying92 rfl (unhide HI) ?_)
              | (at_mapUpdate; refine wpList_mapUpdate_own _ rfl _ _ _ 67 rfl 92 95 keyedK Tryz.underlying67 anyR w.heap.size (j + 1) D rfl (unhide HM3) (by unfold maxLen; omega) _ _ kl rfl rfl (unhide HKL) (.agg []) [] rfl ?_; intro w4 hown4 hgr4))
            have HB4 := hide (((unhide HB1).trans ((((Below.refl _ _).alloc (by omega) _)).trans ((Below.refl _ _).grown (unhide HG3).1 (by simp; omega) (fun i hi => by simp at hi; omega)))).trans ((Below.refl _ _).grown hgr4 (by have := (unhide HG3).2; simp at this; omega) (fun i hi => by simp at hi; omega)))
            have hz4 := hgr4.size
            have hz3 := (unhide HG3).2
            have HO4 := hide hown4
            have HX2 := hide (show okS (prevS ls (j + 1 + 1)) (ls.drop (j + 1 + 1)) = R from by rw [unhide HX, Bool.true_and])
            clear hgr4 hown4 hrow3 hsz3 hgr3
            go_roundw
            case rel => exact ⟨j + 1 + 1, _, by go_num, by omega, by simp at hz3; omega, HX2, HO4, HB4⟩
            case measure => simp [intOf]; omega
    · obtain rfl : k = n := by omega
      have hO := unhide HO
      rw [List.drop_of_length_le (by rw [unhide HLN]; exact Nat.le_refl _)] at hO
      have HX := hide (show R = true from hO.symm)
      clear hO HO
      go_wp2_with fail
      exact bodyPost_ret (v := .tuple #[.map (some w.heap.size), .bool true]) (by simp [results, Tryz.results30, go_sem]) rfl ⟨_, by rw [unhide HX], unhide HB⟩
end Go.Proofs.YtmienlnhbdbefaaGreatDoor


/- Worlds that differ in some blocks alone; rows that lie elsewhere. -/
namespace Go.Proofs.YtmienlnhbdbefaaGreatDoor
open Go.RowKit Plain
set_option linter.unusedVariables false

namespace Plain
/-- Nothing has changed but blocks of which p is so, and new blocks. -/
structure OnlyP (p : Nat → Prop) (w w' : World) : Prop where
  os : w'.os = w.os
  tape : w'.tape = w.tape
  output : w'.output = w.output
  size : w.heap.size ≤ w'.heap.size
  block : ∀ k, k < w.heap.size → ¬ p k → w'.heap[k]? = w.heap[k]?
theorem OnlyP.of {p : Nat → Prop} {w w' : World} (h : Below w.heap.size w w') : OnlyP p w w' := ⟨h.os, h.tape, h.output, h.size, fun k hk _ => h.block k hk⟩
theorem OnlyP.row {p : Nat → Prop} {a : Option Addr} {w w' : World} (h : OnlyRow a w w') (hp : ∀ g o, a = some ⟨g, o, none⟩ → p g) : OnlyP p w w' := ⟨h.os, h.tape, h.output, h.size, fun k hk hn => h.block k hk fun o e => hn (hp k o e)⟩
theorem OnlyP.trans {p : Nat → Prop} {u v w : World} (h : OnlyP p u v) (h2 : OnlyP p v w) : OnlyP p u w :=
  ⟨h2.os.trans h.os, h2.tape.trans h.tape, h2.output.trans h.output, Nat.le_trans h.size h2.size, fun k hk hne => (h2.block k (Nat.lt_of_lt_of_le hk h.size) hne).trans (h.block k hk hne)⟩
theorem OnlyP.below {p : Nat → Prop} {w w' : World} {B : Nat} (h : OnlyP p w w') (hB : ∀ g, p g → B ≤ g) (hBw : B ≤ w.heap.size) : Below B w w' :=
  ⟨h.os, h.tape, h.output, h.size, fun k hk => h.block k (Nat.lt_of_lt_of_le hk hBw) (fun e => by have := hB k e; omega)⟩
/-- The block that a slice lies in. -/
def inB (a : Option Addr) (g : Nat) : Prop := ∃ o, a = some ⟨g, o, none⟩
end Plain
theorem RowAt.offP {α : Type} {e : Elem α} {p : Nat → Prop} {w w' : World} {a : Option Addr} {xs : List α} (h : RowAt e w a xs) (ho : OnlyP p w w') (hne : ∀ g, inB a g → ¬ p g) : RowAt e w' a xs := fun i hi => by
  obtain ⟨g, e1, hl, hc⟩ := h i hi
  have hb := ho.block g hl (hne g ⟨0, e1⟩)
  exact ⟨g, e1, Nat.lt_of_lt_of_le hl ho.size, fun j hj => ⟨(World.cell?_of_block (a := ⟨g, i * e.n + j, none⟩) hb).trans (hc j hj).1, (World.frozen?_of_block (a := ⟨g, i * e.n + j, none⟩) hb).trans (hc j hj).2⟩⟩
theorem RowAt.offR {α : Type} {e : Elem α} {w w' : World} {a b : Option Addr} {xs : List α} (h : RowAt e w a xs) (ho : OnlyRow b w w') (hne : ∀ g, inB a g → ¬ inB b g) : RowAt e w' a xs := h.offP (OnlyP.row (p := inB b) ho fun g o e => ⟨o, e⟩) hne
theorem OwnR.bl {α : Type} {e : Elem α} {w : World} {B n c : Nat} {a : Option Addr} {ls : List α} (h : OwnR e w B (.slice a n c) ls) : ∀ g, inB a g → B ≤ g ∧ g < w.heap.size := by
  rintro g ⟨o, rfl⟩
  exact World.ownsRow.lt h g rfl
end Go.Proofs.YtmienlnhbdbefaaGreatDoor


/- Rows of rows of texts, as the exact laws copy, measure, compare and mark them. -/
namespace Go.Proofs.YtmienlnhbdbefaaGreatDoor
open Go.RowKit Plain
set_option linter.unusedVariables false

namespace Plain
/-- A row's head. -/
structure Hd where
  a : Option Addr
  n : Nat
  c : Nat
def hdL (h : Hd) : List Value := [.slice h.a h.n h.c]
/-- The slice at a holds the rows xs of texts. -/
def HavAt (W : World) (a : Option Addr) (n : Nat) (xs : List (List ByteArray)) : Prop := xs.length = n ∧ n ≤ 1048576 ∧ ∀ i (h : i < xs.length), ∃ g ai ci, a = some ⟨g, 0, none⟩ ∧ g < W.heap.size ∧ W.cell? ⟨g, i, none⟩ = some (.slice ai xs[i].length ci) ∧ TxtsAt W ai xs[i].length xs[i]
theorem HavAt.below {W W' : World} {a : Option Addr} {n : Nat} {xs : List (List ByteArray)} (h : HavAt W a n xs) (hb : Below W.heap.size W W') : HavAt W' a n xs :=
  ⟨h.1, h.2.1, fun i hi => by
    obtain ⟨g, ai, ci, e, l, hc, ht⟩ := h.2.2 i hi
    exact ⟨g, ai, ci, e, Nat.lt_of_lt_of_le l hb.size, (hb.cell (p := ⟨g, i, none⟩) l).trans hc, ht.below hb⟩⟩
/-- An argument that is a slice of slices of texts. -/
def StrssRow (W : World) (a : Option Addr) (n c : Nat) (xs : List (List ByteArray)) : Prop := xs.length = n ∧ n ≤ maxLen ∧ ∀ i (h : i < xs.length), ∃ g o ai ci, a = some ⟨g, o, none⟩ ∧ g < W.heap.size ∧ W.cell? ⟨g, o + i, none⟩ = some (.slice ai xs[i].length ci) ∧ StrsRow W ai xs[i].length ci xs[i]
theorem StrsRow.below {W W' : World} {a : Option Addr} {n c : Nat} {ls : List ByteArray} (h : StrsRow W a n c ls) (hb : Below W.heap.size W W') : StrsRow W' a n c ls := ⟨h.1, h.2.1, h.2.2.1, h.2.2.2.below hb⟩
theorem StrssRow.below {W W' : World} {a : Option Addr} {n c : Nat} {xs : List (List ByteArray)} (h : StrssRow W a n c xs) (hb : Below W.heap.size W W') : StrssRow W' a n c xs :=
  ⟨h.1, h.2.1, fun i hi => by
    obtain ⟨g, o, ai, ci, e, l, hc, ht⟩ := h.2.2 i hi
    exact ⟨g, o, ai, ci, e, Nat.lt_of_lt_of_le l hb.size, (hb.cell (p := ⟨g, o + i, none⟩) l).trans hc, ht.below hb⟩⟩
/-- What a row of rows weighs. -/
def totS (xs : List (List ByteArray)) : Nat := (xs.map fun x => x.length + sumZ x).sum
theorem totS_cons (x : List ByteArray) (xs : List (List ByteArray)) : totS (x :: xs) = (x.length + sumZ x) + totS xs := by simp [totS]
theorem totS_drop (xs : List (List ByteArray)) (k : Nat) (h : k < xs.length) : totS (xs.drop k) = (xs[k].length + sumZ xs[k]) + totS (xs.drop (k + 1)) := by rw [List.drop_eq_getElem_cons h, totS_cons]
theorem totS_mem (xs : List (List ByteArray)) (x : List ByteArray) (h : x ∈ xs) : x.length + sumZ x ≤ totS xs := by
  induction xs with
  | nil => simp at h
  | cons y l ih =>
    rw [totS_cons]
    rcases List.mem_cons.1 h with rfl | h
    · omega
    · have := ih h; omega
/-- The rows xs lie in blocks gs of their own; their heads in block g. -/
structure HavG (W : World) (g : Nat) (gs : List Nat) (xs : List (List ByteArray)) : Prop where
  lens : gs.length = xs.length
  lt : g < W.heap.size
  out : ∀ i (h : i < xs.length) (h2 : i < gs.length), W.cell? ⟨g, i, none⟩ = some (.slice (some ⟨gs[i], 0, none⟩) xs[i].length xs[i].length)
  ins : ∀ i (h : i < xs.length) (h2 : i < gs.length), RowAt strE W (some ⟨gs[i], 0, none⟩) xs[i]
  inb : ∀ b ∈ gs, g < b ∧ b < W.heap.size
  inc : gs.Pairwise (· < ·)
theorem HavG.below {W W' : World} {g : Nat} {gs : List Nat} {xs : List (List ByteArray)} (h : HavG W g gs xs) (hb : Below W.heap.size W W') : HavG W' g gs xs :=
  ⟨h.lens, Nat.lt_of_lt_of_le h.lt hb.size, fun i hi h2 => (hb.cell (p := ⟨g, i, none⟩) h.lt).trans (h.out i hi h2), fun i hi h2 => (h.ins i hi h2).below hb, fun b hb2 => ⟨(h.inb b hb2).1, Nat.lt_of_lt_of_le (h.inb b hb2).2 hb.size⟩, h.inc⟩
theorem HavG.offP {p : Nat → Prop} {W W' : World} {g : Nat} {gs : List Nat} {xs : List (List ByteArray)} (h : HavG W g gs xs) (ho : OnlyP p W W') (hg : ¬ p g) (hgs : ∀ b ∈ gs, ¬ p b) : HavG W' g gs xs :=
  ⟨h.lens, Nat.lt_of_lt_of_le h.lt ho.size, fun i hi h2 => (World.cell?_of_block (a := ⟨g, i, none⟩) (ho.block g h.lt hg)).trans (h.out i hi h2), fun i hi h2 => (h.ins i hi h2).offP ho (fun b hb => by obtain ⟨o, e⟩ := hb; cases e; exact hgs _ (by simp)), fun b hb2 => ⟨(h.inb b hb2).1, Nat.lt_of_lt_of_le (h.inb b hb2).2 ho.size⟩, h.inc⟩
theorem HavG.at {W : World} {g n : Nat} {gs : List Nat} {xs : List (List ByteArray)} (h : HavG W g gs xs) (hn : xs.length = n) (hz : n + totS xs ≤ 1048576) : HavAt W (some ⟨g, 0, none⟩) n xs :=
  ⟨hn, by omega, fun i hi => by
    have h2 : i < gs.length := by rw [h.lens]; exact hi
    have hm := totS_mem xs xs[i] (by simp)
    exact ⟨g, _, _, rfl, h.lt, h.out i hi h2, h.ins i hi h2, rfl, by omega, fun s hs => by have := sumZ_mem _ s hs; omega⟩⟩
theorem sumZ_nil : sumZ [] = 0 := rfl
end Plain

/-- Heads as elements. -/
def hdE : Elem Hd where
  E := 24
  S := 26
  n := 1
  bytes := 24
  zero := .slice none 0 0
  enc := hdL
  hund := Tryz.underlying26
  hinfo := by kernel_rfl
  hz := rfl
  hn := by decide
  hb := by decide
  hlen := fun _ => rfl
  hone := fun x u hu => by simp [hdL] at hu; subst hu; rfl
theorem RowAt.hd {W : World} {a : Option Addr} {xs : List Hd} (h : RowAt hdE W a xs) (i : Nat) (hi : i < xs.length) : ∃ g, a = some ⟨g, 0, none⟩ ∧ g < W.heap.size ∧ W.cell? ⟨g, i, none⟩ = some (.slice xs[i].a xs[i].n xs[i].c) ∧ W.frozen? ⟨g, i, none⟩ = false := by
  obtain ⟨g, e1, hl, h1⟩ := h i hi
  have := h1 0 (by decide)
  rw [show i * hdE.n + 0 = i from Nat.mul_one i] at this
  exact ⟨g, e1, hl, this⟩

theorem rdStrs {H : Type} {enc : TypeId × Value → H} {W : World} {spare : Nat → Bool} {held : Bool} : ∀ m us y, DataW.trod enc Tryz.prog W 0 spare held m 24 us = some y → ∃ z : Hd × List ByteArray, us = hdL z.1 ∧ StrsRow W z.1.a z.1.n z.1.c z.2 := by
  intro m us y h
  rcases Go.ChangeShapes.open_strings Tryz.underlying24 Tryz.underlying9 (by kernel_rfl) h with ⟨hcs, _⟩ | ⟨x, l, c, ss, hcs, _, hl, hm, hz, _, hcell, hsz⟩
  · exact ⟨(⟨none, 0, 0⟩, []), hcs, rfl, Nat.zero_le _, fun _ h => by simp at h, StrsAt.nil _ _⟩
  · have hz2 : l ≤ ss.length := by rw [hz]; split <;> omega
    exact ⟨(⟨some x, l, c⟩, ss.take l), hcs, (show (ss.take l).length = l from by rw [List.length_take]; omega), Nat.le_trans hl hm, fun s hs => hsz s (List.mem_of_mem_take hs), StrsAt.of_cells hz2 hcell⟩
theorem argSS {W : World} {a : Option Addr} {k c : Nat} {zs : List (Hd × List ByteArray)} (h : ArgRow 1 (fun z : Hd × List ByteArray => hdL z.1) (fun z => StrsRow W z.1.a z.1.n z.1.c z.2) W a k c zs) : StrssRow W a k c (zs.map Prod.snd) := by
  refine ⟨by rw [List.length_map]; exact h.len, h.le, fun i hi => ?_⟩
  have hi2 : i < zs.length := by simpa using hi
  obtain ⟨g, o, e, l, hc⟩ := h.row i hi2
  have hc0 := hc 0 (by decide)
  have hg := h.good zs[i] (by simp)
  rw [List.getElem_map]
  refine ⟨g, o, zs[i].1.a, zs[i].1.c, e, l, ?_, ?_⟩
  · rw [show o + i * 1 + 0 = o + i from by omega] at hc0
    rw [hc0, hg.1]
    rfl
  · rw [hg.1]; exact hg



namespace Plain
/-- While rows are copied: k of them lie in blocks of their own. -/
structure TsI (w wr : World) (n k : Nat) (L : List Hd) (gs : List Nat) (xs : List (List ByteArray)) : Prop where
  hl : L.length = n
  row : RowAt hdE wr (some ⟨w.heap.size, 0, none⟩) L
  gl : gs.length = k
  ent : ∀ i, i < k → ∀ (h1 : i < L.length) (h2 : i < gs.length) (h3 : i < xs.length), L[i] = ⟨some ⟨gs[i], 0, none⟩, xs[i].length, xs[i].length⟩
  ins : ∀ i (h2 : i < gs.length) (h3 : i < xs.length), RowAt strE wr (some ⟨gs[i], 0, none⟩) xs[i]
  inb : ∀ b ∈ gs, w.heap.size < b ∧ b < wr.heap.size
  inc : gs.Pairwise (· < ·)
  lt : w.heap.size < wr.heap.size
  bel : Below w.heap.size w wr
theorem rowOff {α : Type} {e : Elem α} {W : World} {a : Option Addr} {xs : List α} {b i : Nat} {u : Value} (h : RowAt e W a xs) (hne : ∀ g, a = some ⟨g, 0, none⟩ → g ≠ b) : RowAt e (W.setCell ⟨b, i, none⟩ u) a xs := fun j hj => by
  obtain ⟨g, e1, l, hc⟩ := h j hj
  refine ⟨g, e1, by simpa using l, fun m hm => ⟨?_, by rw [World.frozen?_setCell]; exact (hc m hm).2⟩⟩
  rw [World.cell?_setCell_other _ _ _ _ (fun q => hne g e1 (by have := congrArg Addr.block q; simpa using this.symm))]
  exact (hc m hm).1
theorem TsI.step {w wr w1 : World} {n k : Nat} {L : List Hd} {gs : List Nat} {xs : List (List ByteArray)} (h : TsI w wr n k L gs xs) (hk : k < n) (hkx : k < xs.length) (hb : Below wr.heap.size wr w1) {g1 m : Nat} (ho : OwnR strE w1 wr.heap.size (.slice (some ⟨g1, 0, none⟩) m m) xs[k]) (hm : xs[k].length = m) :
    TsI w (w1.setCell ⟨w.heap.size, k, none⟩ (.slice (some ⟨g1, 0, none⟩) m m)) n (k + 1) (L.set k ⟨some ⟨g1, 0, none⟩, m, m⟩) (gs ++ [g1]) xs := by
  have hg1 := ho.bl g1 ⟨0, rfl⟩
  have hlt := h.lt
  have hsz := hb.size
  have hkL : k < L.length := by rw [h.hl]; exact hk
  refine ⟨by rw [List.length_set]; exact h.hl, ?_, by rw [List.length_append, h.gl]; rfl, ?_, ?_, ?_, ?_, by simp; omega, ?_⟩
  · have := RowAt.setJ (h.row.below hb) k hkL 0 (by decide) (.slice (some ⟨g1, 0, none⟩) m m) (⟨some ⟨g1, 0, none⟩, m, m⟩ : Hd) rfl
    rwa [show k * hdE.n + 0 = k from by show k * 1 + 0 = k; omega] at this
  · intro i hi h1 h2 h3
    by_cases e : i = k
    · subst e
      rw [List.getElem_set_self, ← hm]
      have hg : (gs ++ [g1])[i]'h2 = g1 := by
        rw [List.getElem_append_right (by rw [h.gl]; exact Nat.le_refl _)]
        simp
      rw [hg]
    · rw [List.getElem_set_ne (fun q => e q.symm)]
      have h2' : i < gs.length := by rw [h.gl]; omega
      rw [List.getElem_append_left h2']
      exact h.ent i (by omega) _ h2' h3
  · intro i h2 h3
    by_cases e : i < gs.length
    · rw [List.getElem_append_left e]
      have hin := h.inb gs[i] (by simp)
      exact rowOff ((h.ins i e h3).below hb) (fun g q => by cases q; omega)
    · obtain rfl : i = k := by rw [List.length_append, h.gl] at h2; rw [h.gl] at e; simp at h2; omega
      have hg : (gs ++ [g1])[i]'h2 = g1 := by
        rw [List.getElem_append_right (by omega)]
        simp
      rw [hg]
      exact rowOff ho.at (fun g q => by cases q; omega)
  · intro b hb2
    rcases List.mem_append.1 hb2 with h3 | h3
    · have := h.inb b h3
      exact ⟨this.1, by simp; omega⟩
    · rw [List.mem_singleton] at h3
      subst h3
      exact ⟨by omega, by simp; omega⟩
  · refine List.pairwise_append.2 ⟨h.inc, List.pairwise_singleton _ _, fun a ha b hb2 => ?_⟩
    rw [List.mem_singleton] at hb2
    subst hb2
    have := h.inb a ha
    omega
  · exact (h.bel.trans (hb.mono (Nat.le_of_lt hlt))).setCell (p := ⟨w.heap.size, k, none⟩) (Nat.le_refl _) _
theorem TsI.fin {w wr : World} {n : Nat} {L : List Hd} {gs : List Nat} {xs : List (List ByteArray)} (h : TsI w wr n n L gs xs) (hn : xs.length = n) : HavG wr w.heap.size gs xs := by
  refine ⟨by rw [h.gl, hn], h.lt, fun i hi h2 => ?_, fun i hi h2 => h.ins i h2 hi, h.inb, h.inc⟩
  have h1 : i < L.length := by rw [h.hl]; omega
  obtain ⟨g, e, _, hc, _⟩ := h.row.hd i h1
  cases e
  rw [hc, h.ent i (by omega) h1 h2 hi]
end Plain





end Go.Proofs.YtmienlnhbdbefaaGreatDoor

/- Appends that tell where the row lies. -/
namespace Go.Proofs.YtmienlnhbdbefaaGreatDoor
open Go.RowKit Plain
set_option linter.unusedVariables false

theorem rowNews {α : Type} {e : Elem α} {w : World} {g : Nat} {ys : List α} (hr : RowAt e w (some ⟨g, 0, none⟩) ys) : ∀ j u, (ys.flatMap e.enc)[j]? = some u → w.cell? ((⟨g, 0, none⟩ : Addr).add j) = some u := by
  intro j u hj
  have hjl : j < ys.length * e.n := by
    have := (List.getElem?_eq_some_iff.1 hj).1
    rw [flat_len e.enc e.n e.hlen] at this
    exact this
  have hn := e.hn
  have hq : j / e.n < ys.length := Nat.div_lt_of_lt_mul (by rw [Nat.mul_comm]; exact hjl)
  have hm : j % e.n < e.n := Nat.mod_lt _ hn
  have hd : j / e.n * e.n + j % e.n = j := by rw [Nat.mul_comm]; exact Nat.div_add_mod j e.n
  obtain ⟨g', e1, hl, hc⟩ := hr (j / e.n) hq
  cases e1
  have h1 := (hc (j % e.n) hm).1
  rw [hd] at h1
  have h2 := flat_get e.enc e.n e.hlen ys (j / e.n) (j % e.n) hq hm
  rw [hd] at h2
  rw [show (⟨g, 0, none⟩ : Addr).add j = ⟨g, j, none⟩ from by unfold Addr.add; split <;> simp_all, h1, ← h2]
  exact hj
/-- A whole row is appended; where what comes lies. -/
theorem appAt {α : Type} {e : Elem α} {ops : Array Oper} {rest : List Oper} {o : Oper} {a : Act} {Q : Exit → Act → World → Prop} (hgd : o.guard = none) (s x : Operand)
    (ho : o.op = .call { callee := .builtin .append, args := #[s, x], argTypes := #[e.S, e.S] })
    {w : World} {B : Nat} {v : Value} {xs ys : List α} (hown : OwnR e w B v xs) (hs : a.eval s = v) (ad : Option Addr) (m c : Nat) (hx : a.eval x = .slice ad m c) (hy : ys.length = m) (hr : RowAt e w ad ys) (had : AdG ad c)
    (hlen : xs.length + m < 100000000) (hB : B ≤ w.heap.size)
    (h : ∀ v' w', OwnR e w' B v' (xs ++ ys) → Below B w w' → w.grownBy w' v.ownBlock → (v'.ownBlock = v.ownBlock ∨ v'.ownBlock = some w.heap.size) → wpList Tryz.prog ops Q rest (a.put o.dst v') w') :
    wpList Tryz.prog ops Q (o :: rest) a w := by
  obtain ⟨i0, hi, hz0, hz1, hz2⟩ := info_parts e.hinfo
  subst hy
  refine wpList_plain hgd fun K hK => ?_
  rcases had with ⟨rfl, rfl⟩ | ⟨g, rfl⟩
  · have hys : ys = [] := by
      cases ys with
      | nil => rfl
      | cons y l => obtain ⟨g, e1, _⟩ := hr 0 (by simp); simp at e1
    subst hys
    have hrun := run_append_owned_none (P := Tryz.prog) w B e.S o.type e.E i0 e.n e.hund hi v xs.length (xs.flatMap e.enc) hown
    have hx2 : a.eval x = .slice none 0 0 := hx
    unfold Oper.wp execOp
    simp only [ho, resolve, invoke, builtin, Sem.run_bind, Sem.run_pure, Result.andThen_ok, List.map_toArray, List.map_cons, List.map_nil, hs, hx2, hrun]
    exact hK _ _ (h v w (by rw [List.append_nil]; exact hown) (Below.refl _ _) ⟨rfl, rfl, rfl, Nat.le_refl _, fun _ _ _ => rfl⟩ (.inl rfl))
  · have hby := e.hb
    obtain ⟨v', w', hrun, h2, h3, _, h5⟩ := run_append_own_at (P := Tryz.prog) w B e.S o.type e.E i0 e.zero e.n e.bytes e.hund hi hz0 hz1 hz2 e.hz e.hn v xs.length (xs.flatMap e.enc) hown ⟨g, 0, none⟩ ys.length c (ys.flatMap e.enc) (flat_len e.enc e.n e.hlen ys) (rowNews hr) (fun u hu => by
      obtain ⟨y, _, hy⟩ := List.mem_flatMap.1 hu
      exact e.hone y u hy) (by unfold maxLen; omega) (Nat.le_trans (Nat.mul_le_mul_left _ hby) (by omega)) hB
    unfold Oper.wp execOp
    simp only [ho, resolve, invoke, builtin, Sem.run_bind, Sem.run_pure, Result.andThen_ok, List.map_toArray, List.map_cons, List.map_nil, hs, hx, hrun]
    refine hK _ _ (h v' w' ?_ (own_below hown h3 hB) h3 h5)
    unfold OwnR
    rw [List.flatMap_append, List.length_append]
    exact h2
/-- One element is appended; where what comes lies. -/
theorem appRAt {α : Type} {e : Elem α} {ops : Array Oper} {rest : List Oper} {o : Oper} {a : Act} {Q : Exit → Act → World → Prop} (hgd : o.guard = none) (s x : Operand)
    (ho : o.op = .call { callee := .builtin .append, args := #[s, x], argTypes := #[e.S, e.S] })
    {w : World} {B : Nat} {v : Value} {xs : List α} (hown : OwnR e w B v xs) (hs : a.eval s = v) (y : α) {cs : Array Value} (hcs : cs.toList = e.enc y)
    (gx : Nat) (hx : a.eval x = .slice (some ⟨gx, 0, none⟩) 1 1) (hgx : gx = w.heap.size) (hlen : xs.length < 100000000) (hB : B ≤ w.heap.size)
    (h : ∀ v' w', OwnR e w' B v' (xs ++ [y]) → Below B w w' → (w.alloc (.cells cs e.E)).grownBy w' v.ownBlock → (v'.ownBlock = v.ownBlock ∨ v'.ownBlock = some (w.heap.size + 1)) → wpList Tryz.prog ops Q rest (a.put o.dst v') w') :
    wpList Tryz.prog ops Q (o :: rest) a (w.alloc (.cells cs e.E)) := by
  subst hgx
  obtain ⟨i0, hi, hz0, hz1, hz2⟩ := info_parts e.hinfo
  have ha := World.ownsRow.alloc hown (.cells cs e.E)
  have hnew : (w.alloc (.cells cs e.E)).heap[w.heap.size]? = some (.cells cs e.E) := (MapKept.heap_alloc w _).1
  have hby := e.hb
  refine wpList_plain hgd fun K hK => ?_
  obtain ⟨v', w', hrun, h2, h3, _, h5⟩ := run_append_own_at (P := Tryz.prog) (w.alloc (.cells cs e.E)) B e.S o.type e.E i0 e.zero e.n e.bytes e.hund hi hz0 hz1 hz2 e.hz e.hn v xs.length (xs.flatMap e.enc) ha ⟨w.heap.size, 0, none⟩ 1 1 (e.enc y) (by rw [e.hlen, Nat.one_mul]) (by rw [← hcs]; exact World.news_of_block hnew) (e.hone y) (by unfold maxLen; omega) (Nat.le_trans (Nat.mul_le_mul_left _ hby) (by omega)) (by simp; omega)
  rw [show (w.alloc (.cells cs e.E)).heap.size = w.heap.size + 1 from by simp] at h5
  unfold Oper.wp execOp
  simp only [ho, resolve, invoke, builtin, Sem.run_bind, Sem.run_pure, Result.andThen_ok, List.map_toArray, List.map_cons, List.map_nil, hs, hx, hrun]
  refine hK _ _ (h v' w' ?_ (((Below.refl B w).alloc hB _).trans (own_below ha h3 (by simp; omega))) h3 h5)
  unfold OwnR
  rw [List.flatMap_append, List.length_append]
  simpa using h2
end Go.Proofs.YtmienlnhbdbefaaGreatDoor

