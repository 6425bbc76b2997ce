/- Texts of one kind, put together. -/
import Derived.Test.YtliklijcdcfomaaGreatTzE
import Derived.Test.YtliklijcdcfomaaGreatPzA
import Derived.Laws.CopyOwn
import Derived.Deep.RegionHeld3
import Derived.Test.YtliklijcdcfomaaGreatDoI

/- Reading a file of a disk, by both programs. -/
namespace Go.Proofs.YtliklijcdcfomaaGreat
open Go.RowKit Go.Maps Plain
set_option linter.unusedVariables false

namespace Plain
theorem disk_live {live safe : List Fl} {ops : List Dop} (h : diskB live safe ops = true) : filesB live = true := by
  unfold diskB at h
  rw [Bool.and_eq_true] at h
  exact h.1
theorem disk_safe {live safe : List Fl} {ops : List Dop} (h : diskB live safe ops = true) : filesB safe = true := by
  unfold diskB at h
  rw [Bool.and_eq_true, Bool.and_eq_true] at h
  exact h.2.1
/-- What is read under a name of a right disk. -/
noncomputable def fileF (live safe : List Fl) (ops : List Dop) (nm : ByteArray) : Option ByteArray := if diskB live safe ops = true then tabF live nm else none
def readV (r : Option ByteArray) : Value := .tuple #[.string (r.getD ⟨#[]⟩), .bool r.isSome]
end Plain

set_option maxRecDepth 10000 in
set_option maxHeartbeats 4000000 in
theorem impl_ReadFile (aL : Option Addr) (nL cL : Nat) (live : List Fl) (aS : Option Addr) (nS cS : Nat) (safe : List Fl) (aO : Option Addr) (nO cO : Nat) (ops : List Dop) (nm : ByteArray) (w : World) (h : DiskAt w aL nL cL live aS nS cS safe aO nO cO ops) (hs : nm.size ≤ 1000000000) :
    Calls Tryz.prog 81 #[.agg #[.slice aL nL cL, .slice aS nS cS, .slice aO nO cO], .string nm] w fun e w' => e = .returned (readV (fileF live safe ops nm)) ∧ Below w.heap.size w w' := by
  obtain ⟨W0, hW0⟩ : ∃ W0, W0 = w.alloc (.cells #[.slice aL nL cL, .slice aS nS cS, .slice aO nO cO] 30) := ⟨_, rfl⟩
  have hb0 : Below w.heap.size w W0 := by rw [hW0]; exact bel1 _ _
  have hlt : w.heap.size < W0.heap.size := by rw [hW0]; simp
  have c0 : W0.cell? ⟨w.heap.size, 0, none⟩ = some (.slice aL nL cL) := by rw [hW0]; simp [go_sem]
  have c1 : W0.cell? ⟨w.heap.size, 1, none⟩ = some (.slice aS nS cS) := by rw [hW0]; simp [go_sem]
  have c2 : W0.cell? ⟨w.heap.size, 2, none⟩ = some (.slice aO nO cO) := by rw [hW0]; simp [go_sem]
  have HD := hide (fun (W : World) (hW : Below W0.heap.size W0 W) => (h.below hb0).below hW)
  have HC := hide (fun (W : World) (hW : Below W0.heap.size W0 W) => And.intro (bcl hW hlt c0) (And.intro (bcl hW hlt c1) (bcl hW hlt c2)))
  have HFIN := hide (fun (W : World) (hW : Below W0.heap.size W0 W) => belOn hb0 hW)
  have HW0 := hide hW0.symm
  have hbl := h.bl
  have HH := hide h
  clear h hb0 hlt c0 c1 c2 hW0
  unfold fileF
  cases hd : diskB live safe ops with
  | false =>
    rw [if_neg (by simp)]
    have HX := hide hd
    clear hd
    go_enter Tryz.func81, Tryz.ntmps81
    go_wp2_with fail
    rw [unhide HW0]
    refine (impl_DiskOk aL nL cL live aS nS cS safe aO nO cO ops W0 (unhide HD _ (Below.refl _ _))).mono ?_
    rintro e w1 ⟨rfl, hb1⟩
    rw [unhide HX]
    have HB1 := hide (unhide HFIN _ hb1)
    clear hb1
    go_wp2_with fail
    go_ret2
    exact ⟨rfl, unhide HB1⟩
  | true =>
    rw [if_pos rfl]
    have HX := hide hd
    have hfl := disk_live hd
    have HRI := hide (files_ok hfl).2
    have hln := (files_small hfl).1
    have hfit := small_fit hfl
    rw [(unhide HH).ll] at hln
    clear hd hfl
    cases ht : tabF live nm with
    | none =>
      have hfa : fileAt (tabF live) nm = .agg #[.string ⟨#[]⟩, .string ⟨#[]⟩] := by unfold fileAt; rw [ht]
      have HLK := hide (fun (W : World) (b m : Nat) (hT : Tab W b m (tabF live)) => hT.look_ok (nm := nm) (by omega))
      rw [hfa, ht] at HLK
      simp only [Option.isSome] at HLK
      clear hfa ht
      go_enter Tryz.func81, Tryz.ntmps81
      go_wp2_with fail
      rw [unhide HW0]
      refine (impl_DiskOk aL nL cL live aS nS cS safe aO nO cO ops W0 (unhide HD _ (Below.refl _ _))).mono ?_
      rintro e w1 ⟨rfl, hb1⟩
      rw [unhide HX]
      have HB1 := hide hb1
      obtain ⟨q0, q1, q2⟩ := unhide HC _ hb1
      clear hb1
      go_wp2_with fail
      refine (tableOf_calls aL nL cL live w1 (unhide HH).ll (by omega) hfit (unhide HD _ (unhide HB1)).rl).mono ?_
      rintro e w2 ⟨b, m, rfl, hbb, hm, HT, hb2⟩
      have hlk := unhide HLK _ _ _ (unhide HT)
      have HB2 := hide (unhide HFIN _ (belOn (unhide HB1) hb2))
      clear hb2 hbb hm q0 q1 q2
      go_wp2_with fail
      go_ret2
      exact ⟨rfl, (unhide HB2).trans ((bel1 _ _).mono (unhide HB2).size)⟩
    | some d =>
      have hfa : fileAt (tabF live) nm = .agg #[.string nm, .string d] := by unfold fileAt; rw [ht]
      have HLK := hide (fun (W : World) (b m : Nat) (hT : Tab W b m (tabF live)) => hT.look_ok (nm := nm) (by omega))
      rw [hfa, ht] at HLK
      simp only [Option.isSome] at HLK
      clear hfa ht
      go_enter Tryz.func81, Tryz.ntmps81
      go_wp2_with fail
      rw [unhide HW0]
      refine (impl_DiskOk aL nL cL live aS nS cS safe aO nO cO ops W0 (unhide HD _ (Below.refl _ _))).mono ?_
      rintro e w1 ⟨rfl, hb1⟩
      rw [unhide HX]
      have HB1 := hide hb1
      obtain ⟨q0, q1, q2⟩ := unhide HC _ hb1
      clear hb1
      go_wp2_with fail
      refine (tableOf_calls aL nL cL live w1 (unhide HH).ll (by omega) hfit (unhide HD _ (unhide HB1)).rl).mono ?_
      rintro e w2 ⟨b, m, rfl, hbb, hm, HT, hb2⟩
      have hlk := unhide HLK _ _ _ (unhide HT)
      have HB2 := hide (unhide HFIN _ (belOn (unhide HB1) hb2))
      clear hb2 hbb hm q0 q1 q2
      go_wp2_with fail
      go_ret2
      exact ⟨rfl, (unhide HB2).trans ((bel1 _ _).mono (unhide HB2).size)⟩

end Go.Proofs.YtliklijcdcfomaaGreat

/- The builtin copy at rows of any element. -/
namespace Go.Proofs.YtliklijcdcfomaaGreat
open Go.RowKit Plain
set_option linter.unusedVariables false

theorem row_news2 {α : Type} {e : Elem α} {w : World} {gx : Nat} {ys : List α} (hr : RowAt e w (some ⟨gx, 0, none⟩) ys) : ∀ j u, (ys.flatMap e.enc)[j]? = some u → w.cell? ((⟨gx, 0, none⟩ : Addr).add j) = some u := by
  intro j u hj
  have hjl : j < ys.length * e.n := by
    have := (List.getElem?_eq_some_iff.1 hj).1
    rw [flat_len e.enc e.n e.hlen] at this
    exact this
  have hn := e.hn
  have hq : j / e.n < ys.length := Nat.div_lt_of_lt_mul (by rw [Nat.mul_comm]; exact hjl)
  have hm : j % e.n < e.n := Nat.mod_lt _ hn
  have hd : j / e.n * e.n + j % e.n = j := by rw [Nat.mul_comm]; exact Nat.div_add_mod j e.n
  obtain ⟨g', e1, hl, hc⟩ := hr (j / e.n) hq
  cases e1
  have h1 := (hc (j % e.n) hm).1
  rw [hd] at h1
  have h2 := flat_get e.enc e.n e.hlen ys (j / e.n) (j % e.n) hq hm
  rw [hd] at h2
  rw [show (⟨gx, 0, none⟩ : Addr).add j = ⟨gx, j, none⟩ from by unfold Addr.add; split <;> simp_all, h1, ← h2]
  exact hj
theorem run_copyE {α : Type} (e : Elem α) (w : World) (ty : TypeId) (g o dLen dCap : Nat) (a : Addr) (sLen sCap : Nat) (cur : Array Value) (t : TypeId) (cs : List Value)
    (hg : w.heap[g]? = some (.cells cur t (0, 0))) (hn : cs.length = Nat.min sLen dLen * e.n)
    (hsrc : ∀ j v, cs[j]? = some v → w.cell? (a.add j) = some v) (hfit : o + cs.length ≤ cur.size) (h1 : ∀ v ∈ cs, v.oneCell' = true) :
    (Builtin.copy_ #[e.S, e.S] ty #[.slice (some ⟨g, o, none⟩) dLen dCap, .slice (some a) sLen sCap]).run Tryz.prog w =
      .ok (goInt (Nat.min sLen dLen)) (w.setRow g (cur.toList.take o ++ cs ++ cur.toList.drop (o + cs.length)).toArray) := by
  obtain ⟨i0, hi, hz0, hz1, hz2⟩ := info_parts e.hinfo
  have hl := run_loadCells_list (P := Tryz.prog) w a cs hsrc
  have hst := run_storeCells_at Tryz.prog g o t cs 0 cur w hg (by simpa using hfit) h1
  simp [Builtin.copy_, run_underlying e.hund, Builtin.lenOf, Builtin.firstCells, sizeOf, typeInfo, hi, hz1, ← hn, hl, hst]
theorem copyE_list {α : Type} {e : Elem α} {w : World} {ops : Array Oper} {rest : List Oper} {o : Oper} {a : Act} {Q : Exit → Act → World → Prop} (hgd : o.guard = none) (d s : Operand)
    (ho : o.op = .call { callee := .builtin .copy, args := #[d, s], argTypes := #[e.S, e.S] }) (g off dLen dCap h sLen sCap : Nat) (hd : a.eval d = .slice (some ⟨g, off, none⟩) dLen dCap) (hs : a.eval s = .slice (some ⟨h, 0, none⟩) sLen sCap)
    (cur : Array Value) (t : TypeId) (hg : w.heap[g]? = some (.cells cur t (0, 0))) (ys : List α) (hy : ys.length = sLen) (hle : sLen ≤ dLen) (hr : RowAt e w (some ⟨h, 0, none⟩) ys) (hfit : off + sLen * e.n ≤ cur.size)
    (hK : ∀ w', w' = w.setRow g (cur.toList.take off ++ ys.flatMap e.enc ++ cur.toList.drop (off + sLen * e.n)).toArray → wpList Tryz.prog ops Q rest (a.put o.dst (goInt sLen)) w') : wpList Tryz.prog ops Q (o :: rest) a w := by
  refine wpList_plain hgd fun K hK2 => ?_
  have hlen : (ys.flatMap e.enc).length = sLen * e.n := by rw [flat_len e.enc e.n e.hlen, hy]
  have hmin : Nat.min sLen dLen = sLen := Nat.min_eq_left hle
  have hrun := run_copyE e w o.type g off dLen dCap ⟨h, 0, none⟩ sLen sCap cur t (ys.flatMap e.enc) hg (by rw [hmin]; exact hlen) (row_news2 hr) (by rw [hlen]; exact hfit) (fun u hu => by obtain ⟨y, _, hy2⟩ := List.mem_flatMap.1 hu; exact e.hone y u hy2)
  rw [hmin, hlen] at hrun
  unfold Oper.wp
  simp [execOp, ho, resolve, invoke, builtin, hd, hs, hrun, Result.andThen]
  exact hK2 _ _ (hK _ (by simp))
theorem copyE_step {α : Type} {e : Elem α} {w : World} {ops : Array Oper} {o : Oper} {a : Act} {K : Act → World → Prop} {Q : Exit → Act → World → Prop} {F : Prop} (hgd : o.guard = none) (d s : Operand)
    (ho : o.op = .call { callee := .builtin .copy, args := #[d, s], argTypes := #[e.S, e.S] }) (g off dLen dCap h sLen sCap : Nat) (hd : a.eval d = .slice (some ⟨g, off, none⟩) dLen dCap) (hs : a.eval s = .slice (some ⟨h, 0, none⟩) sLen sCap)
    (cur : Array Value) (t : TypeId) (hg : w.heap[g]? = some (.cells cur t (0, 0))) (ys : List α) (hy : ys.length = sLen) (hle : sLen ≤ dLen) (hr : RowAt e w (some ⟨h, 0, none⟩) ys) (hfit : off + sLen * e.n ≤ cur.size)
    (hK : ∀ w', w' = w.setRow g (cur.toList.take off ++ ys.flatMap e.enc ++ cur.toList.drop (off + sLen * e.n)).toArray → K (a.put o.dst (goInt sLen)) w') : if Region.wanted o (yielded ops a.tmps) = true then Oper.wp Tryz.prog o a w K Q else F := by
  rw [if_pos (by simp [Region.wanted, hgd])]
  have hlen : (ys.flatMap e.enc).length = sLen * e.n := by rw [flat_len e.enc e.n e.hlen, hy]
  have hmin : Nat.min sLen dLen = sLen := Nat.min_eq_left hle
  have hrun := run_copyE e w o.type g off dLen dCap ⟨h, 0, none⟩ sLen sCap cur t (ys.flatMap e.enc) hg (by rw [hmin]; exact hlen) (row_news2 hr) (by rw [hlen]; exact hfit) (fun u hu => by obtain ⟨y, _, hy2⟩ := List.mem_flatMap.1 hu; exact e.hone y u hy2)
  rw [hmin, hlen] at hrun
  unfold Oper.wp
  simp [execOp, ho, resolve, invoke, builtin, hd, hs, hrun, Result.andThen]
  exact hK _ (by simp)
theorem rowOf {α : Type} {e : Elem α} {W : World} {g : Nat} {t : TypeId} {xs : List α} {rest : List Value} (hh : W.heap[g]? = some (.cells (xs.flatMap e.enc ++ rest).toArray t (0, 0))) (hl : g < W.heap.size) : RowAt e W (some ⟨g, 0, none⟩) xs := fun i hi => by
  refine ⟨g, rfl, hl, fun j hj => ?_⟩
  have hlen := flat_len e.enc e.n e.hlen xs
  have hlt : i * e.n + j < (xs.flatMap e.enc).length := by
    rw [hlen]
    calc i * e.n + j < i * e.n + e.n := by omega
      _ = (i + 1) * e.n := by rw [Nat.succ_mul]
      _ ≤ xs.length * e.n := Nat.mul_le_mul_right _ hi
  have h2 := flat_get e.enc e.n e.hlen xs i j hi hj
  constructor
  · rw [cell_of_row W g (i * e.n + j) _ t (0, 0) hh]
    rw [List.getElem?_toArray, List.getElem?_append_left hlt]
    exact h2
  · simp [World.frozen?, hh]
end Go.Proofs.YtliklijcdcfomaaGreat


/- One op put ahead of two, by the library's slices.Insert. -/
namespace Go.Proofs.YtliklijcdcfomaaGreat
open Go.RowKit Plain
set_option linter.unusedVariables false

set_option maxRecDepth 10000 in
set_option maxHeartbeats 2000000 in
theorem insert_calls (g h : Nat) (a b x : Dop) (w : World) (h1 : RowAt dopE w (some ⟨g, 0, none⟩) [a, b]) (h2 : RowAt dopE w (some ⟨h, 0, none⟩) [x]) :
    Calls Tryz.prog 82 #[.slice (some ⟨g, 0, none⟩) 2 2, .int .i64 0, .slice (some ⟨h, 0, none⟩) 1 1] w fun e w' => ∃ g' c', e = .returned (.slice (some ⟨g', 0, none⟩) 3 c') ∧ RowAt dopE w' (some ⟨g', 0, none⟩) [x, a, b] ∧ Below w.heap.size w w' := by
  obtain ⟨C, hC⟩ : ∃ C, (Question.appendCap 3 2 78).cut (w.tape w.drawn (Question.appendCap 3 2 78)) = C := ⟨_, rfl⟩
  obtain ⟨Z, hZ⟩ : ∃ Z, Builtin.zeroCells #[.int .i64 0, .string ⟨#[]⟩, .string ⟨#[]⟩, .string ⟨#[]⟩] 3 ++ Builtin.zeroCells #[.int .i64 0, .string ⟨#[]⟩, .string ⟨#[]⟩, .string ⟨#[]⟩] (C - 3) = Z := ⟨_, rfl⟩
  have hz3 : (Builtin.zeroCells #[.int .i64 0, .string ⟨#[]⟩, .string ⟨#[]⟩, .string ⟨#[]⟩] 3).size = 12 := by first | rfl | decide | simp [Builtin.zeroCells]
  have hz : 12 ≤ Z.size := by rw [← hZ, Array.size_append, hz3]; exact Nat.le_add_right 12 _
  have hC3 : 3 ≤ C := by rw [← hC]; exact grownCap_ge w 3 2 78
  obtain ⟨W1, hW1⟩ : ∃ W1, (w.alloc (.cells Z 78)).drew = W1 := ⟨_, rfl⟩
  have hb1 : Below w.heap.size w W1 := by rw [← hW1]; exact belDrew (bel1 _ _)
  have hg1 : W1.heap[w.heap.size]? = some (.cells Z 78 (0, 0)) := by rw [← hW1]; exact lit0 _ _
  have hrun : Sem.run Tryz.prog (Builtin.copy_ #[28, 28] 3 #[.slice (some ⟨w.heap.size, 0, none⟩) 3 C, .slice (some ⟨h, 0, none⟩) 1 1]) W1 = .ok (goInt 1) (W1.setRow w.heap.size (Z.toList.take 0 ++ [x].flatMap dopE.enc ++ Z.toList.drop (0 + 4)).toArray) :=
    run_copyE dopE W1 3 w.heap.size 0 3 C ⟨h, 0, none⟩ 1 1 Z _ ([x].flatMap dopE.enc) hg1 rfl (row_news2 (h2.below hb1)) (show 0 + 4 ≤ Z.size by omega) (fun u hu => by obtain ⟨y, _, hy2⟩ := List.mem_flatMap.1 hu; exact dopE.hone y u hy2)
  obtain ⟨L1, hL1⟩ : ∃ L1, Z.toList.take 0 ++ [x].flatMap dopE.enc ++ Z.toList.drop (0 + 4) = L1 := ⟨_, rfl⟩
  have hl1 : L1 = [x].flatMap dopE.enc ++ Z.toList.drop 4 := by rw [← hL1]; rfl
  have hs1 : 12 ≤ L1.length := by rw [hl1, List.length_append, List.length_drop]; show 12 ≤ 4 + (Z.size - 4); omega
  rw [hL1] at hrun
  obtain ⟨W2, hW2⟩ : ∃ W2, W1.setRow w.heap.size L1.toArray = W2 := ⟨_, rfl⟩
  have hg2 : W2.heap[w.heap.size]? = some (.cells L1.toArray 78 (0, 0)) := by rw [← hW2]; exact setRow_heap W1 _ _ _ _ _ hg1
  have hb2 : Below w.heap.size w W2 := by rw [← hW2]; exact below_setRow hb1 (Nat.le_refl _) _
  rw [hW2] at hrun
  have H1 := hide (h1.below (belDrew hb2))
  have HB2 := hide hb2
  have HG2 := hide (show W2.drew.heap[w.heap.size]? = some (.cells L1.toArray 78 (0, 0)) from hg2)
  have HL1 := hide hl1
  have HW := hide hW1
  clear h1 h2 hb1 hb2 hg1 hg2 hW2 hl1 hL1 hz
  go_enter Tryz.func82, Tryz.ntmps82
  go_wp2_with fail
  have hw1 : IntKind.i64.wrap 1 = 1 := by decide
  have hne : ¬ C - 1 = 0 := by omega
  have hc1 : (1 : Int) ≤ (C : Int) := by omega
  have hc3 : (3 : Int) ≤ (C : Int) := by omega
  have hne2 : ¬ C = 1 := by omega
  go_region_held3 (fun _ => True) (trivial) ((refine copyE_step (e := dopE) rfl (.tmp 50) (.tmp 53) rfl w.heap.size 4 2 (C - 1) g 2 2 rfl rfl _ _ (unhide HG2) [a, b] rfl (by decide) (unhide H1) (show 4 + 2 * 4 ≤ L1.toArray.size by simpa using hs1) ?_; intro W3 hW3))
  all_goals (have HG3 := hide (show W3.heap[w.heap.size]? = some (.cells ([x, a, b].flatMap dopE.enc ++ Z.toList.drop 12).toArray 78 (0, 0)) from by
    rw [hW3, setRow_heap _ _ _ _ _ _ (unhide HG2)]
    congr 2
    rw [unhide HL1]
    simp [dopE]))
  all_goals (have HB3 := hide (show Below w.heap.size w W3 from by rw [hW3]; exact below_setRow (belDrew (unhide HB2)) (Nat.le_refl _) _))
  all_goals clear hW3
  all_goals (try go_wp2_with fail)
  all_goals go_ret
  all_goals exact ⟨w.heap.size, C, rfl, rowOf (unhide HG3) (by rcases Nat.lt_or_ge w.heap.size W3.heap.size with q | q; exact q; have := unhide HG3; rw [Array.getElem?_eq_none q] at this; cases this), unhide HB3⟩
end Go.Proofs.YtliklijcdcfomaaGreat


/- A file replaced, by the program. -/
namespace Go.Proofs.YtliklijcdcfomaaGreat
open Go.RowKit Plain
set_option linter.unusedVariables false

namespace Plain
/-- The ops that replace a file. -/
noncomputable def repX (live safe : List Fl) (ops : List Dop) (fr nm dt : ByteArray) : List Dop := if (fileF live safe ops fr).isSome then [⟨3, fr, ⟨#[]⟩, ⟨#[]⟩⟩, ⟨1, fr, ⟨#[]⟩, dt⟩, ⟨2, fr, nm, ⟨#[]⟩⟩] else [⟨1, fr, ⟨#[]⟩, dt⟩, ⟨2, fr, nm, ⟨#[]⟩⟩]
end Plain

set_option maxRecDepth 10000 in
set_option maxHeartbeats 4000000 in
theorem impl_Replace (g1 nL cL : Nat) (live : List Fl) (g2 nS cS : Nat) (safe : List Fl) (g3 nO cO : Nat) (ops : List Dop) (nm dt fr : ByteArray) (w : World) (h : DiskAt w (some ⟨g1, 0, none⟩) nL cL live (some ⟨g2, 0, none⟩) nS cS safe (some ⟨g3, 0, none⟩) nO cO ops) (hnm : nm.size ≤ 100000000) (hdt : dt.size ≤ 100000000) (hfr : nm ++ ⟨#[46, 110, 101, 119]⟩ = fr) :
    Calls Tryz.prog 35 #[.agg #[.slice (some ⟨g1, 0, none⟩) nL cL, .slice (some ⟨g2, 0, none⟩) nS cS, .slice (some ⟨g3, 0, none⟩) nO cO], .string nm, .string dt] w (DskPost (fun v => .tuple #[v, .int .i64 (actC live safe ops (repX live safe ops fr nm dt))]) (actL live safe ops (repX live safe ops fr nm dt)) (actS live safe ops) (actO live safe ops (repX live safe ops fr nm dt)) w) := by
  have hfz : fr.size ≤ 100000004 := by rw [← hfr, ByteArray.size_append]; show nm.size + 4 ≤ _; omega
  obtain ⟨Wa, hWa⟩ : ∃ Wa, Wa = w.alloc (.cells #[.slice (some ⟨g1, 0, none⟩) nL cL, .slice (some ⟨g2, 0, none⟩) nS cS, .slice (some ⟨g3, 0, none⟩) nO cO] 30) := ⟨_, rfl⟩
  obtain ⟨W0, hW0⟩ : ∃ W0, W0 = Wa.alloc (.cells #[.slice none 0 0, .slice none 0 0, .slice none 0 0] 30) := ⟨_, rfl⟩
  have hba : Below w.heap.size w Wa := by rw [hWa]; exact bel1 _ _
  have hsa : Wa.heap.size = w.heap.size + 1 := by rw [hWa]; simp
  have hs0 : W0.heap.size = w.heap.size + 2 := by rw [hW0]; simp [hsa]
  have hb0 : Below Wa.heap.size Wa W0 := by rw [hW0]; exact bel1 _ _
  have c0 : W0.cell? ⟨w.heap.size, 0, none⟩ = some (.slice (some ⟨g1, 0, none⟩) nL cL) := bcl hb0 (by omega) (by rw [hWa]; simp [go_sem])
  have c1 : W0.cell? ⟨w.heap.size, 1, none⟩ = some (.slice (some ⟨g2, 0, none⟩) nS cS) := bcl hb0 (by omega) (by rw [hWa]; simp [go_sem])
  have c2 : W0.cell? ⟨w.heap.size, 2, none⟩ = some (.slice (some ⟨g3, 0, none⟩) nO cO) := bcl hb0 (by omega) (by rw [hWa]; simp [go_sem])
  have hr : ∀ i, i < 3 → W0.cell? ⟨w.heap.size + 1, i, none⟩ = some (.slice none 0 0) ∧ W0.frozen? ⟨w.heap.size + 1, i, none⟩ = false := by
    intro i hi
    rw [hW0, ← hsa]
    rcases i with _ | _ | _ | i
    all_goals first | omega | simp [go_sem]
  have HC := hide (fun (W : World) (hW : Below W0.heap.size W0 W) => And.intro (bcl hW (show w.heap.size < W0.heap.size by omega) c0) (And.intro (bcl hW (show w.heap.size < W0.heap.size by omega) c1) (bcl hW (show w.heap.size < W0.heap.size by omega) c2)))
  have HR := hide (fun (W : World) (hW : Below W0.heap.size W0 W) (i : Nat) (hi : i < 3) => And.intro (bcl hW (show w.heap.size + 1 < W0.heap.size by omega) (hr i hi).1) ((hW.frozen (p := ⟨w.heap.size + 1, i, none⟩) (show w.heap.size + 1 < W0.heap.size by omega)).trans (hr i hi).2))
  have HFIN := hide (fun (W : World) (hW : Below W0.heap.size W0 W) => belOn (belOn hba hb0) hW)
  have HD := hide (fun (W : World) (hW : Below W0.heap.size W0 W) => (h.below (belOn hba hb0)).below hW)
  obtain ⟨W1, hW1⟩ : ∃ W1, W1 = W0.alloc (.cells #[.int .i64 1, .string fr, .string ⟨#[]⟩, .string dt, .int .i64 2, .string fr, .string nm, .string ⟨#[]⟩] 78) := ⟨_, rfl⟩
  have hb1 : Below W0.heap.size W0 W1 := by rw [hW1]; exact bel1 _ _
  have hg1 : W1.heap[W0.heap.size]? = some (.cells ([(⟨1, fr, ⟨#[]⟩, dt⟩ : Dop), ⟨2, fr, nm, ⟨#[]⟩⟩].flatMap dopE.enc ++ []).toArray 78 (0, 0)) := by rw [hW1]; exact litN _ _
  have HR1 := hide (show RowAt dopE W1 (some ⟨w.heap.size + 2, 0, none⟩) [⟨1, fr, ⟨#[]⟩, dt⟩, ⟨2, fr, nm, ⟨#[]⟩⟩] from by rw [← hs0]; exact rowOf hg1 (by rw [hW1]; simp))
  have HW1 := hide (show ((w.alloc (.cells #[.slice (some ⟨g1, 0, none⟩) nL cL, .slice (some ⟨g2, 0, none⟩) nS cS, .slice (some ⟨g3, 0, none⟩) nO cO] 30)).alloc (.cells #[.slice none 0 0, .slice none 0 0, .slice none 0 0] 30)).alloc (.cells #[.int .i64 1, .string fr, .string ⟨#[]⟩, .string dt, .int .i64 2, .string fr, .string nm, .string ⟨#[]⟩] 78) = W1 from by rw [hW1, hW0, hWa])
  have HRF := hide (impl_ReadFile _ nL cL live _ nS cS safe _ nO cO ops fr W1 (unhide HD _ hb1) (by omega))
  have sm1 : SmO ⟨1, fr, ⟨#[]⟩, dt⟩ := ⟨by show fr.size ≤ _; omega, by show (0 : Nat) ≤ _; omega, by show dt.size ≤ _; omega⟩
  have sm2 : SmO ⟨2, fr, nm, ⟨#[]⟩⟩ := ⟨by show fr.size ≤ _; omega, by show nm.size ≤ _; omega, by show (0 : Nat) ≤ _; omega⟩
  have sm3 : SmO ⟨3, fr, ⟨#[]⟩, ⟨#[]⟩⟩ := ⟨by show fr.size ≤ _; omega, by show (0 : Nat) ≤ _; omega, by show (0 : Nat) ≤ _; omega⟩
  have HDA := hide (fun (W : World) (hW : Below W0.heap.size W0 W) (g4 nX cX : Nat) (xs : List Dop) (hx : RowAt dopE W (some ⟨g4, 0, none⟩) xs) (hn : xs.length = nX) (hn2 : nX ≤ 100) (hs : ∀ o ∈ xs, SmO o) => impl_doAll g1 nL cL live g2 nS cS safe g3 nO cO ops g4 nX cX xs W (unhide HD _ hW) hx hn hn2 hs)
  have HB1 := hide hb1
  have HS0 := hide hs0
  unfold repX
  obtain ⟨RV, hRV⟩ : ∃ R, fileF live safe ops fr = R := ⟨_, rfl⟩
  rw [hRV] at HRF ⊢

  clear hba hb0 hWa hW0 hr h hsa hs0 hW1 hb1 hg1 hRV c0 c1 c2
  unfold readV at HRF
  cases RV with
  | none =>
    have hxs : (if (none : Option ByteArray).isSome then [(⟨3, fr, ⟨#[]⟩, ⟨#[]⟩⟩ : Dop), ⟨1, fr, ⟨#[]⟩, dt⟩, ⟨2, fr, nm, ⟨#[]⟩⟩] else [⟨1, fr, ⟨#[]⟩, dt⟩, ⟨2, fr, nm, ⟨#[]⟩⟩]) = [⟨1, fr, ⟨#[]⟩, dt⟩, ⟨2, fr, nm, ⟨#[]⟩⟩] := rfl
    rw [hxs]
    obtain ⟨PC, hPC⟩ : ∃ x, actC live safe ops [⟨1, fr, ⟨#[]⟩, dt⟩, ⟨2, fr, nm, ⟨#[]⟩⟩] = x := ⟨_, rfl⟩
    obtain ⟨PL, hPL⟩ : ∃ x, actL live safe ops [⟨1, fr, ⟨#[]⟩, dt⟩, ⟨2, fr, nm, ⟨#[]⟩⟩] = x := ⟨_, rfl⟩
    obtain ⟨PS, hPS⟩ : ∃ x, actS live safe ops = x := ⟨_, rfl⟩
    obtain ⟨PO, hPO⟩ : ∃ x, actO live safe ops [⟨1, fr, ⟨#[]⟩, dt⟩, ⟨2, fr, nm, ⟨#[]⟩⟩] = x := ⟨_, rfl⟩
    rw [hPC, hPL, hPS, hPO]
    have HP := hide (And.intro hPC (And.intro hPL (And.intro hPS hPO)))
    clear hPC hPL hPS hPO
    simp only [Option.getD_none, Option.isSome_none] at HRF
    go_enter Tryz.func35, Tryz.ntmps35
    go_wp2_with fail
    rw [unhide HW1]
    refine (unhide HRF).mono ?_
    rintro e w2 ⟨rfl, hb2⟩
    have HBX := hide (belOn (unhide HB1) hb2)
    have HR2 := hide ((unhide HR1).below hb2)
    obtain ⟨q0, q1, q2⟩ := unhide HC _ (unhide HBX)
    clear hb2
    go_wp2_with fail
    clear q0 q1 q2
    refine (unhide HDA _ (unhide HBX) (w.heap.size + 2) 2 2 [⟨1, fr, ⟨#[]⟩, dt⟩, ⟨2, fr, nm, ⟨#[]⟩⟩] (unhide HR2) rfl (by decide) (fun o ho => by simp at ho; rcases ho with rfl | rfl; exact sm1; exact sm2)).mono ?_
    rintro e wf ⟨aL, iL, aS, iS, aO, iO, rfl, o1, o2, o3, apf, hbf⟩
    obtain ⟨e1, e2, e3, e4⟩ := unhide HP
    rw [e2] at o1 ⊢
    rw [e3] at o2 ⊢
    rw [e4] at o3 ⊢
    rw [e1]
    have HBf := hide (belOn (unhide HBX) hbf)
    have HOf := hide (And.intro o1 (And.intro o2 (And.intro o3 apf)))
    obtain ⟨r0, z0⟩ := unhide HR _ (unhide HBf) 0 (by decide)
    obtain ⟨r1, z1⟩ := unhide HR _ (unhide HBf) 1 (by decide)
    obtain ⟨r2, z2⟩ := unhide HR _ (unhide HBf) 2 (by decide)
    have hzx := (unhide HBX).size
    clear o1 o2 o3 apf hbf e1 e2 e3 e4
    go_wp2_with fail
    refine bodyPost_ret (v := .tuple #[.agg #[.slice aL PL.length iL, .slice aS PS.length iS, .slice aO PO.length iO], .int .i64 PC]) (by simp [results, Tryz.results35, go_sem, r0, r1, r2]) rfl ?_
    obtain ⟨o1, o2, o3, apf⟩ := unhide HOf
    have hs0 := unhide HS0
    exact dskRet (rb := w.heap.size + 1) o1 o2 o3 apf (by omega) (by omega) (unhide HFIN _ (unhide HBf))
  | some dd =>
    have hxs : (if (some dd : Option ByteArray).isSome then [(⟨3, fr, ⟨#[]⟩, ⟨#[]⟩⟩ : Dop), ⟨1, fr, ⟨#[]⟩, dt⟩, ⟨2, fr, nm, ⟨#[]⟩⟩] else [⟨1, fr, ⟨#[]⟩, dt⟩, ⟨2, fr, nm, ⟨#[]⟩⟩]) = [⟨3, fr, ⟨#[]⟩, ⟨#[]⟩⟩, ⟨1, fr, ⟨#[]⟩, dt⟩, ⟨2, fr, nm, ⟨#[]⟩⟩] := rfl
    rw [hxs]
    obtain ⟨PC, hPC⟩ : ∃ x, actC live safe ops [⟨3, fr, ⟨#[]⟩, ⟨#[]⟩⟩, ⟨1, fr, ⟨#[]⟩, dt⟩, ⟨2, fr, nm, ⟨#[]⟩⟩] = x := ⟨_, rfl⟩
    obtain ⟨PL, hPL⟩ : ∃ x, actL live safe ops [⟨3, fr, ⟨#[]⟩, ⟨#[]⟩⟩, ⟨1, fr, ⟨#[]⟩, dt⟩, ⟨2, fr, nm, ⟨#[]⟩⟩] = x := ⟨_, rfl⟩
    obtain ⟨PS, hPS⟩ : ∃ x, actS live safe ops = x := ⟨_, rfl⟩
    obtain ⟨PO, hPO⟩ : ∃ x, actO live safe ops [⟨3, fr, ⟨#[]⟩, ⟨#[]⟩⟩, ⟨1, fr, ⟨#[]⟩, dt⟩, ⟨2, fr, nm, ⟨#[]⟩⟩] = x := ⟨_, rfl⟩
    rw [hPC, hPL, hPS, hPO]
    have HP := hide (And.intro hPC (And.intro hPL (And.intro hPS hPO)))
    clear hPC hPL hPS hPO
    simp only [Option.getD_some, Option.isSome_some] at HRF
    go_enter Tryz.func35, Tryz.ntmps35
    go_wp2_with fail
    rw [unhide HW1]
    refine (unhide HRF).mono ?_
    rintro e w2 ⟨rfl, hb2⟩
    have HB2 := hide (belOn (unhide HB1) hb2)
    have HIN := hide (insert_calls (w.heap.size + 2) w2.heap.size ⟨1, fr, ⟨#[]⟩, dt⟩ ⟨2, fr, nm, ⟨#[]⟩⟩ ⟨3, fr, ⟨#[]⟩, ⟨#[]⟩⟩ (w2.alloc (.cells #[.int .i64 3, .string fr, .string ⟨#[]⟩, .string ⟨#[]⟩] 78)) (((unhide HR1).below hb2).below (bel1 _ _)) (dopLit w2 ⟨3, fr, ⟨#[]⟩, ⟨#[]⟩⟩).at)
    clear hb2
    go_wp2_with fail
    refine (unhide HIN).mono ?_
    rintro e w4 ⟨g', c', rfl, hrow, hb4⟩
    have HBX := hide (belOn (belOn (unhide HB2) (bel1 _ _)) hb4)
    have HRW := hide hrow
    obtain ⟨q0, q1, q2⟩ := unhide HC _ (unhide HBX)
    clear hb4 hrow
    go_wp2_with fail
    clear q0 q1 q2
    refine (unhide HDA _ (unhide HBX) g' 3 c' [⟨3, fr, ⟨#[]⟩, ⟨#[]⟩⟩, ⟨1, fr, ⟨#[]⟩, dt⟩, ⟨2, fr, nm, ⟨#[]⟩⟩] (unhide HRW) rfl (by decide) (fun o ho => by simp at ho; rcases ho with rfl | rfl | rfl; exact sm3; exact sm1; exact sm2)).mono ?_
    rintro e wf ⟨aL, iL, aS, iS, aO, iO, rfl, o1, o2, o3, apf, hbf⟩
    obtain ⟨e1, e2, e3, e4⟩ := unhide HP
    rw [e2] at o1 ⊢
    rw [e3] at o2 ⊢
    rw [e4] at o3 ⊢
    rw [e1]
    have HBf := hide (belOn (unhide HBX) hbf)
    have HOf := hide (And.intro o1 (And.intro o2 (And.intro o3 apf)))
    obtain ⟨r0, z0⟩ := unhide HR _ (unhide HBf) 0 (by decide)
    obtain ⟨r1, z1⟩ := unhide HR _ (unhide HBf) 1 (by decide)
    obtain ⟨r2, z2⟩ := unhide HR _ (unhide HBf) 2 (by decide)
    have hzx := (unhide HBX).size
    clear o1 o2 o3 apf hbf e1 e2 e3 e4
    go_wp2_with fail
    refine bodyPost_ret (v := .tuple #[.agg #[.slice aL PL.length iL, .slice aS PS.length iS, .slice aO PO.length iO], .int .i64 PC]) (by simp [results, Tryz.results35, go_sem, r0, r1, r2]) rfl ?_
    obtain ⟨o1, o2, o3, apf⟩ := unhide HOf
    have hs0 := unhide HS0
    exact dskRet (rb := w.heap.size + 1) o1 o2 o3 apf (by omega) (by omega) (unhide HFIN _ (unhide HBf))
end Go.Proofs.YtliklijcdcfomaaGreat

