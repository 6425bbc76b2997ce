/- Texts of one kind, put together. -/
import Derived.Test.YtknpccpfjclngaaGAH
import Derived.Laws.CopyOwn
import Derived.Deep.RegionHeld3
import Derived.Test.YtknpccpfjclngaaGAF

/- The builtin copy at rows of any element. -/
namespace Go.Proofs.Ytknpccpfjclngaa
open Go.RowKit Plain
set_option linter.unusedVariables false

theorem row_news2 {α : Type} {e : Elem α} {w : World} {gx : Nat} {ys : List α} (hr : RowAt e w (some ⟨gx, 0, none⟩) ys) : ∀ j u, (ys.flatMap e.enc)[j]? = some u → w.cell? ((⟨gx, 0, none⟩ : Addr).add j) = some u := by
  intro j u hj
  have hjl : j < ys.length * e.n := by
    have := (List.getElem?_eq_some_iff.1 hj).1
    rw [flat_len e.enc e.n e.hlen] at this
    exact this
  have hn := e.hn
  have hq : j / e.n < ys.length := Nat.div_lt_of_lt_mul (by rw [Nat.mul_comm]; exact hjl)
  have hm : j % e.n < e.n := Nat.mod_lt _ hn
  have hd : j / e.n * e.n + j % e.n = j := by rw [Nat.mul_comm]; exact Nat.div_add_mod j e.n
  obtain ⟨g', e1, hl, hc⟩ := hr (j / e.n) hq
  cases e1
  have h1 := (hc (j % e.n) hm).1
  rw [hd] at h1
  have h2 := flat_get e.enc e.n e.hlen ys (j / e.n) (j % e.n) hq hm
  rw [hd] at h2
  rw [show (⟨gx, 0, none⟩ : Addr).add j = ⟨gx, j, none⟩ from by unfold Addr.add; split <;> simp_all, h1, ← h2]
  exact hj
theorem run_copyE {α : Type} (e : Elem α) (w : World) (ty : TypeId) (g o dLen dCap : Nat) (a : Addr) (sLen sCap : Nat) (cur : Array Value) (t : TypeId) (cs : List Value)
    (hg : w.heap[g]? = some (.cells cur t (0, 0))) (hn : cs.length = Nat.min sLen dLen * e.n)
    (hsrc : ∀ j v, cs[j]? = some v → w.cell? (a.add j) = some v) (hfit : o + cs.length ≤ cur.size) (h1 : ∀ v ∈ cs, v.oneCell' = true) :
    (Builtin.copy_ #[e.S, e.S] ty #[.slice (some ⟨g, o, none⟩) dLen dCap, .slice (some a) sLen sCap]).run Try.prog w =
      .ok (goInt (Nat.min sLen dLen)) (w.setRow g (cur.toList.take o ++ cs ++ cur.toList.drop (o + cs.length)).toArray) := by
  obtain ⟨i0, hi, hz0, hz1, hz2⟩ := info_parts e.hinfo
  have hl := run_loadCells_list (P := Try.prog) w a cs hsrc
  have hst := run_storeCells_at Try.prog g o t cs 0 cur w hg (by simpa using hfit) h1
  simp [Builtin.copy_, run_underlying e.hund, Builtin.lenOf, Builtin.firstCells, sizeOf, typeInfo, hi, hz1, ← hn, hl, hst]
theorem copyE_step {α : Type} {e : Elem α} {w : World} {ops : Array Oper} {o : Oper} {a : Act} {K : Act → World → Prop} {Q : Exit → Act → World → Prop} {F : Prop} (hgd : o.guard = none) (d s : Operand)
    (ho : o.op = .call { callee := .builtin .copy, args := #[d, s], argTypes := #[e.S, e.S] }) (g off dLen dCap h sLen sCap : Nat) (hd : a.eval d = .slice (some ⟨g, off, none⟩) dLen dCap) (hs : a.eval s = .slice (some ⟨h, 0, none⟩) sLen sCap)
    (cur : Array Value) (t : TypeId) (hg : w.heap[g]? = some (.cells cur t (0, 0))) (ys : List α) (hy : ys.length = sLen) (hle : sLen ≤ dLen) (hr : RowAt e w (some ⟨h, 0, none⟩) ys) (hfit : off + sLen * e.n ≤ cur.size)
    (hK : ∀ w', w' = w.setRow g (cur.toList.take off ++ ys.flatMap e.enc ++ cur.toList.drop (off + sLen * e.n)).toArray → K (a.put o.dst (goInt sLen)) w') : if Region.wanted o (yielded ops a.tmps) = true then Oper.wp Try.prog o a w K Q else F := by
  rw [if_pos (by simp [Region.wanted, hgd])]
  have hlen : (ys.flatMap e.enc).length = sLen * e.n := by rw [flat_len e.enc e.n e.hlen, hy]
  have hmin : Nat.min sLen dLen = sLen := Nat.min_eq_left hle
  have hrun := run_copyE e w o.type g off dLen dCap ⟨h, 0, none⟩ sLen sCap cur t (ys.flatMap e.enc) hg (by rw [hmin]; exact hlen) (row_news2 hr) (by rw [hlen]; exact hfit) (fun u hu => by obtain ⟨y, _, hy2⟩ := List.mem_flatMap.1 hu; exact e.hone y u hy2)
  rw [hmin, hlen] at hrun
  unfold Oper.wp
  simp [execOp, ho, resolve, invoke, builtin, hd, hs, hrun, Result.andThen]
  exact hK _ (by simp)
theorem rowOf {α : Type} {e : Elem α} {W : World} {g : Nat} {t : TypeId} {xs : List α} {rest : List Value} (hh : W.heap[g]? = some (.cells (xs.flatMap e.enc ++ rest).toArray t (0, 0))) (hl : g < W.heap.size) : RowAt e W (some ⟨g, 0, none⟩) xs := fun i hi => by
  refine ⟨g, rfl, hl, fun j hj => ?_⟩
  have hlen := flat_len e.enc e.n e.hlen xs
  have hlt : i * e.n + j < (xs.flatMap e.enc).length := by
    rw [hlen]
    calc i * e.n + j < i * e.n + e.n := by omega
      _ = (i + 1) * e.n := by rw [Nat.succ_mul]
      _ ≤ xs.length * e.n := Nat.mul_le_mul_right _ hi
  have h2 := flat_get e.enc e.n e.hlen xs i j hi hj
  constructor
  · rw [cell_of_row W g (i * e.n + j) _ t (0, 0) hh]
    rw [List.getElem?_toArray, List.getElem?_append_left hlt]
    exact h2
  · simp [World.frozen?, hh]
end Go.Proofs.Ytknpccpfjclngaa


/- One op put ahead of two, by the library's slices.Insert. -/
namespace Go.Proofs.Ytknpccpfjclngaa
open Go.RowKit Plain
set_option linter.unusedVariables false

set_option maxRecDepth 10000 in
set_option maxHeartbeats 2000000 in
theorem insert_calls (g h : Nat) (a b x : Dop) (w : World) (h1 : RowAt dopE w (some ⟨g, 0, none⟩) [a, b]) (h2 : RowAt dopE w (some ⟨h, 0, none⟩) [x]) :
    Calls Try.prog 43 #[.slice (some ⟨g, 0, none⟩) 2 2, .int .i64 0, .slice (some ⟨h, 0, none⟩) 1 1] w fun e w' => ∃ g' c', e = .returned (.slice (some ⟨g', 0, none⟩) 3 c') ∧ RowAt dopE w' (some ⟨g', 0, none⟩) [x, a, b] ∧ Below w.heap.size w w' := by
  obtain ⟨C, hC⟩ : ∃ C, (Question.appendCap 3 2 50).cut (w.tape w.drawn (Question.appendCap 3 2 50)) = C := ⟨_, rfl⟩
  obtain ⟨Z, hZ⟩ : ∃ Z, Builtin.zeroCells #[.int .i64 0, .string ⟨#[]⟩, .string ⟨#[]⟩, .string ⟨#[]⟩] 3 ++ Builtin.zeroCells #[.int .i64 0, .string ⟨#[]⟩, .string ⟨#[]⟩, .string ⟨#[]⟩] (C - 3) = Z := ⟨_, rfl⟩
  have hz3 : (Builtin.zeroCells #[.int .i64 0, .string ⟨#[]⟩, .string ⟨#[]⟩, .string ⟨#[]⟩] 3).size = 12 := by first | rfl | decide | simp [Builtin.zeroCells]
  have hz : 12 ≤ Z.size := by rw [← hZ, Array.size_append, hz3]; exact Nat.le_add_right 12 _
  have hC3 : 3 ≤ C := by rw [← hC]; exact grownCap_ge w 3 2 50
  obtain ⟨W1, hW1⟩ : ∃ W1, (w.alloc (.cells Z 50)).drew = W1 := ⟨_, rfl⟩
  have hb1 : Below w.heap.size w W1 := by rw [← hW1]; exact belDrew (bel1 _ _)
  have hg1 : W1.heap[w.heap.size]? = some (.cells Z 50 (0, 0)) := by rw [← hW1]; exact lit0 _ _
  have hrun : Sem.run Try.prog (Builtin.copy_ #[25, 25] 3 #[.slice (some ⟨w.heap.size, 0, none⟩) 3 C, .slice (some ⟨h, 0, none⟩) 1 1]) W1 = .ok (goInt 1) (W1.setRow w.heap.size (Z.toList.take 0 ++ [x].flatMap dopE.enc ++ Z.toList.drop (0 + 4)).toArray) :=
    run_copyE dopE W1 3 w.heap.size 0 3 C ⟨h, 0, none⟩ 1 1 Z _ ([x].flatMap dopE.enc) hg1 rfl (row_news2 (h2.below hb1)) (show 0 + 4 ≤ Z.size by omega) (fun u hu => by obtain ⟨y, _, hy2⟩ := List.mem_flatMap.1 hu; exact dopE.hone y u hy2)
  obtain ⟨L1, hL1⟩ : ∃ L1, Z.toList.take 0 ++ [x].flatMap dopE.enc ++ Z.toList.drop (0 + 4) = L1 := ⟨_, rfl⟩
  have hl1 : L1 = [x].flatMap dopE.enc ++ Z.toList.drop 4 := by rw [← hL1]; rfl
  have hs1 : 12 ≤ L1.length := by rw [hl1, List.length_append, List.length_drop]; show 12 ≤ 4 + (Z.size - 4); omega
  rw [hL1] at hrun
  obtain ⟨W2, hW2⟩ : ∃ W2, W1.setRow w.heap.size L1.toArray = W2 := ⟨_, rfl⟩
  have hg2 : W2.heap[w.heap.size]? = some (.cells L1.toArray 50 (0, 0)) := by rw [← hW2]; exact setRow_heap W1 _ _ _ _ _ hg1
  have hb2 : Below w.heap.size w W2 := by rw [← hW2]; exact below_setRow hb1 (Nat.le_refl _) _
  rw [hW2] at hrun
  have H1 := hide (h1.below (belDrew hb2))
  have HB2 := hide hb2
  have HG2 := hide (show W2.drew.heap[w.heap.size]? = some (.cells L1.toArray 50 (0, 0)) from hg2)
  have HL1 := hide hl1
  have HW := hide hW1
  clear h1 h2 hb1 hb2 hg1 hg2 hW2 hl1 hL1 hz
  go_enter Try.func43, Try.ntmps43
  go_wp2_with fail
  have hw1 : IntKind.i64.wrap 1 = 1 := by decide
  have hne : ¬ C - 1 = 0 := by omega
  have hc1 : (1 : Int) ≤ (C : Int) := by omega
  have hc3 : (3 : Int) ≤ (C : Int) := by omega
  have hne2 : ¬ C = 1 := by omega
  go_region_held3 (fun _ => True) (trivial) ((refine copyE_step (e := dopE) rfl (.tmp 50) (.tmp 53) rfl w.heap.size 4 2 (C - 1) g 2 2 rfl rfl _ _ (unhide HG2) [a, b] rfl (by decide) (unhide H1) (show 4 + 2 * 4 ≤ L1.toArray.size by simpa using hs1) ?_; intro W3 hW3))
  all_goals (have HG3 := hide (show W3.heap[w.heap.size]? = some (.cells ([x, a, b].flatMap dopE.enc ++ Z.toList.drop 12).toArray 50 (0, 0)) from by
    rw [hW3, setRow_heap _ _ _ _ _ _ (unhide HG2)]
    congr 2
    rw [unhide HL1]
    simp [dopE]))
  all_goals (have HB3 := hide (show Below w.heap.size w W3 from by rw [hW3]; exact below_setRow (belDrew (unhide HB2)) (Nat.le_refl _) _))
  all_goals clear hW3
  all_goals (try go_wp2_with fail)
  all_goals go_ret
  all_goals exact ⟨w.heap.size, C, rfl, rowOf (unhide HG3) (by rcases Nat.lt_or_ge w.heap.size W3.heap.size with q | q; exact q; have := unhide HG3; rw [Array.getElem?_eq_none q] at this; cases this), unhide HB3⟩
end Go.Proofs.Ytknpccpfjclngaa


/- A disk variable that is made, and filled later. -/
namespace Go.Proofs.Ytknpccpfjclngaa
open Go.RowKit Plain
set_option linter.unusedVariables false

/-- A block of three empty slices that may be written. -/
structure Plain.NZ (b : Nat) (V : World) : Prop where
  lt : b < V.heap.size
  c0 : V.cell? ⟨b, 0, none⟩ = some (.slice none 0 0)
  c1 : V.cell? ⟨b, 1, none⟩ = some (.slice none 0 0)
  c2 : V.cell? ⟨b, 2, none⟩ = some (.slice none 0 0)
  z0 : V.frozen? ⟨b, 0, none⟩ = false
  z1 : V.frozen? ⟨b, 1, none⟩ = false
  z2 : V.frozen? ⟨b, 2, none⟩ = false
theorem Plain.NZ.new (V : World) : NZ V.heap.size (V.alloc (.cells #[.slice none 0 0, .slice none 0 0, .slice none 0 0] 27)) := ⟨by simp, by simp [go_sem], by simp [go_sem], by simp [go_sem], by simp [go_sem], by simp [go_sem], by simp [go_sem]⟩
theorem Plain.NZ.below {b : Nat} {V V' : World} (h : NZ b V) (hb : Below V.heap.size V V') : NZ b V' :=
  ⟨Nat.lt_of_lt_of_le h.lt hb.size, bcl hb h.lt h.c0, bcl hb h.lt h.c1, bcl hb h.lt h.c2, (hb.frozen (p := ⟨b, 0, none⟩) h.lt).trans h.z0, (hb.frozen (p := ⟨b, 1, none⟩) h.lt).trans h.z1, (hb.frozen (p := ⟨b, 2, none⟩) h.lt).trans h.z2⟩
theorem Plain.DC.set {b : Nat} {V : World} (h : NZ b V) (v0 v1 v2 : Value) : DC b v0 v1 v2 (((V.setCell ⟨b, 0, none⟩ v0).setCell ⟨b, 1, none⟩ v1).setCell ⟨b, 2, none⟩ v2) := by
  have h0 : (V.setCell ⟨b, 0, none⟩ v0).cell? ⟨b, 0, none⟩ = some v0 := cell_set h.c0
  have h1 : ((V.setCell ⟨b, 0, none⟩ v0).setCell ⟨b, 1, none⟩ v1).cell? ⟨b, 1, none⟩ = some v1 := cell_set ((cell_off (.inr (by decide))).trans h.c1)
  refine ⟨by simpa using h.lt, (cell_off (.inr (by decide))).trans ((cell_off (.inr (by decide))).trans h0), (cell_off (.inr (by decide))).trans h1, cell_set ((cell_off (.inr (by decide))).trans ((cell_off (.inr (by decide))).trans h.c2))⟩
theorem RowAt.set3 {α : Type} {e : Elem α} {W : World} {a : Option Addr} {ys : List α} {b : Nat} {u0 u1 u2 : Value} (h : RowAt e W a ys) (hne : ∀ k, inB a k → k ≠ b) : RowAt e (((W.setCell ⟨b, 0, none⟩ u0).setCell ⟨b, 1, none⟩ u1).setCell ⟨b, 2, none⟩ u2) a ys := ((h.setO (.inr hne)).setO (.inr hne)).setO (.inr hne)
end Go.Proofs.Ytknpccpfjclngaa

