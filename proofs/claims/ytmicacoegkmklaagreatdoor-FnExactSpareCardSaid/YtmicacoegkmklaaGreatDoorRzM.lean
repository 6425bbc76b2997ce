/- Texts of one kind, put together. -/
import Derived.Test.YtmicacoegkmklaaGreatDoorRzE
import Derived.Test.YtmicacoegkmklaaGreatDoorRzB
import Derived.Test.YtmicacoegkmklaaGreatDoorGen
import Derived.Deep.RegionLaw
import Derived.Laws.Rows
import Derived.OneCell
import Derived.Test.YtmicacoegkmklaaGreatDoorRzS

/- Rows of copies, as the exact laws compare them. -/
namespace Go.Proofs.YtmicacoegkmklaaGreatDoor
open Go.RowKit Plain
set_option linter.unusedVariables false

namespace Plain
/-- A blob that goes from one node to another. -/
structure Cpy where
  dig : ByteArray
  src : Int
  dst : Int
def cpyL (e : Cpy) : List Value := [.string e.dig, .int .i64 e.src, .int .i64 e.dst]
def goodC (e : Cpy) : Prop := e.dig.size ≤ maxLen ∧ (Lit.int .i64 e.src).wf = true ∧ (Lit.int .i64 e.dst).wf = true
end Plain
/-- Copies as elements. -/
def cpyE : Elem Cpy where
  E := 46
  S := 27
  n := 3
  bytes := 32
  zero := .agg #[.string ⟨#[]⟩, .int .i64 0, .int .i64 0]
  enc := fun e => [.string e.dig, .int .i64 e.src, .int .i64 e.dst]
  hund := Tryz.underlying27
  hinfo := by kernel_rfl
  hz := rfl
  hn := by decide
  hb := by decide
  hlen := fun _ => rfl
  hone := fun x u hu => by simp at hu; rcases hu with rfl | rfl | rfl <;> rfl

namespace Plain
def totC (fs : List Cpy) : Nat := (fs.map fun f => f.dig.size).sum
theorem totC_drop (fs : List Cpy) (k : Nat) (h : k < fs.length) : totC (fs.drop k) = (fs[k].dig.size) + totC (fs.drop (k + 1)) := by rw [totC, List.drop_eq_getElem_cons h, List.map_cons, List.sum_cons]; rfl
theorem totC_end (fs : List Cpy) (k : Nat) (h : fs.length ≤ k) : totC (fs.drop k) = 0 := by rw [List.drop_of_length_le h]; rfl
theorem totC_mem (fs : List Cpy) (f : Cpy) (h : f ∈ fs) : f.dig.size ≤ totC fs := by
  induction fs with
  | nil => simp at h
  | cons g t ih =>
    have e : totC (g :: t) = (g.dig.size) + totC t := by rw [totC, List.map_cons, List.sum_cons]; rfl
    rw [e]
    rcases List.mem_cons.1 h with rfl | h
    · omega
    · have := ih h; omega
theorem ArgAt.c {W : World} {a : Option Addr} {xs : List Cpy} (h : ArgAt 3 cpyL W a xs) (i : Nat) (hi : i < xs.length) : ∃ g o, a = some ⟨g, o, none⟩ ∧ g < W.heap.size ∧ W.cell? ⟨g, o + i * 3, none⟩ = some (.string xs[i].dig) ∧ W.cell? ⟨g, o + i * 3 + 1, none⟩ = some (.int .i64 xs[i].src) ∧ W.cell? ⟨g, o + i * 3 + 2, none⟩ = some (.int .i64 xs[i].dst) := by
  obtain ⟨g, o, e, hl, hc⟩ := h i hi
  exact ⟨g, o, e, hl, hc 0 (by decide), hc 1 (by decide), hc 2 (by decide)⟩
end Plain
theorem RowAt.cx {W : World} {a : Option Addr} {xs : List Cpy} (h : RowAt cpyE W a xs) (i : Nat) (hi : i < xs.length) : ∃ g, a = some ⟨g, 0, none⟩ ∧ g < W.heap.size ∧ W.cell? ⟨g, i * 3, none⟩ = some (.string xs[i].dig) ∧ W.cell? ⟨g, i * 3 + 1, none⟩ = some (.int .i64 xs[i].src) ∧ W.cell? ⟨g, i * 3 + 2, none⟩ = some (.int .i64 xs[i].dst) := by
  obtain ⟨g, e, hl, hc⟩ := h i hi
  exact ⟨g, e, hl, (hc 0 (by decide)).1, (hc 1 (by decide)).1, (hc 2 (by decide)).1⟩





theorem eqCopy_calls (dg : ByteArray) (fr : Int) (ds : Int) (w : World) : Calls Tryz.prog 32 #[.agg #[.string dg, .int .i64 fr, .int .i64 ds], .agg #[.string dg, .int .i64 fr, .int .i64 ds]] w fun e w' => e = .returned (.bool true) ∧ Below w.heap.size w w' := by
  have HB := hide (belOn (bel1 w (.cells #[.string dg, .int .i64 fr, .int .i64 ds] 46)) (bel1 _ (.cells #[.string dg, .int .i64 fr, .int .i64 ds] 46)))
  go_enter Tryz.func32, Tryz.ntmps32
  go_wp2_with fail
  go_ret
  exact ⟨rfl, unhide HB⟩





set_option maxRecDepth 10000 in
set_option maxHeartbeats 1000000 in
theorem eqCopyS_calls (a1 a2 : Option Addr) (c1 c2 n : Nat) (ls : List Cpy) (w : World) (hn : ls.length = n) (hn2 : n ≤ 100000000) (h1 : RowAt cpyE w a1 ls) (h2 : RowAt cpyE w a2 ls) :
    Calls Tryz.prog 12 #[.slice a1 n c1, .slice a2 n c2] w fun e w' => e = .returned (.bool true) ∧ Below w.heap.size w w' := by
  have H1 := hide h1
  have H2 := hide h2
  have HN := hide hn
  clear h1 h2 hn
  go_enter Tryz.func12, Tryz.ntmps12
  go_wp2_with fail
  go_loopw [5] (fun i wr => ∃ (k : Nat), i = .int .i64 k ∧ k ≤ n ∧ Hid (Below w.heap.size w wr)) (fun i _ => n - (intOf i).toNat)
  case atStart => exact ⟨0, rfl, by omega, Below.refl _ _⟩
  case round =>
    obtain ⟨k, rfl, hk, HB⟩ := hrel
    by_cases hlt : k < n
    · have hkl : k < ls.length := by rw [unhide HN]; exact hlt
      obtain ⟨g1, e1, l1, p0, p1, p2⟩ := ((unhide H1).below (unhide HB)).cx k hkl
      obtain ⟨g2, e2, l2, q0, q1, q2⟩ := ((unhide H2).below (unhide HB)).cx k hkl
      generalize ls[k] = x at p0 p1 p2 p2 q0 q1 q2
      obtain ⟨dg, fr, ds⟩ := x
      simp only at p0 p1 p2 p2 q0 q1 q2
      clear H1 H2 hkl
      subst e1 e2
      have i0 : (0 : Int) ≤ (k : Int) := by omega
      have i1 : (k : Int) < (n : Int) := by omega
      go_wp2_with fail
      go_region_with (go_at_call 32; refine (eqCopy_calls dg fr ds _).mono ?_; rintro e w1 ⟨rfl, hb1⟩)
      all_goals (try go_wp2_with fail)
      all_goals exact ⟨⟨k + 1, by go_num, by omega, hide (belOn (unhide HB) (bOfDrew hb1))⟩, by simp [intOf]; omega⟩
    · obtain rfl : k = n := by omega
      go_wp2_with fail
      go_ret
      exact ⟨rfl, unhide HB⟩
end Go.Proofs.YtmicacoegkmklaaGreatDoor


/- A whole row is appended to a row of the call's own. -/
namespace Go.Proofs.YtmicacoegkmklaaGreatDoor
open Go.RowKit Plain
set_option linter.unusedVariables false

/-- How a slice's address may be. -/
def Plain.AdG (ad : Option Addr) (c : Nat) : Prop := (ad = none ∧ c = 0) ∨ ∃ g, ad = some ⟨g, 0, none⟩
theorem OwnR.adG {α : Type} {e : Elem α} {W : World} {B : Nat} {ad : Option Addr} {n c : Nat} {xs : List α} (h : OwnR e W B (.slice ad n c) xs) : AdG ad c := by
  rcases h.2 with ⟨e1, _⟩ | ⟨g, cap, cur, e1, _⟩
  · simp at e1; exact .inl ⟨e1.1, e1.2.2⟩
  · simp at e1; exact .inr ⟨g, e1.1⟩

theorem appGG {α : Type} {e : Elem α} {ops : Array Oper} {rest : List Oper} {o : Oper} {a : Act} {Q : Exit → Act → World → Prop} (hgd : o.guard = none) (s x : Operand)
    (ho : o.op = .call { callee := .builtin .append, args := #[s, x], argTypes := #[e.S, e.S] })
    {w : World} {B : Nat} {v : Value} {xs ys : List α} (hown : OwnR e w B v xs) (hs : a.eval s = v) (ad : Option Addr) (m c : Nat) (hx : a.eval x = .slice ad m c) (hy : ys.length = m) (hr : RowAt e w ad ys) (had : AdG ad c)
    (hlen : xs.length + m < 100000000) (hB : B ≤ w.heap.size)
    (h : ∀ v' w', OwnR e w' B v' (xs ++ ys) → Below B w w' → wpList Tryz.prog ops Q rest (a.put o.dst v') w') :
    wpList Tryz.prog ops Q (o :: rest) a w := by
  obtain ⟨i0, hi, hz0, hz1, hz2⟩ := info_parts e.hinfo
  subst hy
  rcases had with ⟨rfl, rfl⟩ | ⟨g, rfl⟩
  · have hys : ys = [] := by
      cases ys with
      | nil => rfl
      | cons y l => obtain ⟨g, e1, _⟩ := hr 0 (by simp); simp at e1
    subst hys
    refine wpList_plain hgd fun K hK => ?_
    have hrun := run_append_owned_none (P := Tryz.prog) w B e.S o.type e.E i0 e.n e.hund hi v xs.length (xs.flatMap e.enc) hown
    have hx2 : a.eval x = .slice none 0 0 := hx
    unfold Oper.wp execOp
    simp only [ho, resolve, invoke, builtin, Sem.run_bind, Sem.run_pure, Result.andThen_ok, List.map_toArray, List.map_cons, List.map_nil, hs, hx2, hrun]
    exact hK _ _ (h v w (by rw [List.append_nil]; exact hown) (Below.refl _ _))
  · have hby := e.hb
    refine wpList_append_own _ hgd s x e.S ho B e.E i0 e.zero e.n e.bytes e.hund hi hz0 hz1 hz2 e.hz e.hn v xs.length (xs.flatMap e.enc) hs hown
      ⟨g, 0, none⟩ ys.length c (ys.flatMap e.enc) hx (flat_len e.enc e.n e.hlen ys) ?_ ?_ (by unfold maxLen; omega) ?_ hB ?_
    · intro j u hj
      have hjl : j < ys.length * e.n := by
        have := (List.getElem?_eq_some_iff.1 hj).1
        rw [flat_len e.enc e.n e.hlen] at this
        exact this
      have hn := e.hn
      have hq : j / e.n < ys.length := Nat.div_lt_of_lt_mul (by rw [Nat.mul_comm]; exact hjl)
      have hm : j % e.n < e.n := Nat.mod_lt _ hn
      have hd : j / e.n * e.n + j % e.n = j := by rw [Nat.mul_comm]; exact Nat.div_add_mod j e.n
      obtain ⟨g', e1, hl, hc⟩ := hr (j / e.n) hq
      cases e1
      have h1 := (hc (j % e.n) hm).1
      rw [hd] at h1
      have h2 := flat_get e.enc e.n e.hlen ys (j / e.n) (j % e.n) hq hm
      rw [hd] at h2
      rw [show (⟨g, 0, none⟩ : Addr).add j = ⟨g, j, none⟩ from by unfold Addr.add; split <;> simp_all, h1, ← h2]
      exact hj
    · intro u hu
      obtain ⟨y, _, hy⟩ := List.mem_flatMap.1 hu
      exact e.hone y u hy
    · exact Nat.le_trans (Nat.mul_le_mul_left _ hby) (by omega)
    · intro v' w' h1 h2 _
      refine h v' w' ?_ (own_below hown h2 hB)
      unfold OwnR
      rw [List.flatMap_append, List.length_append]
      exact h1

theorem stepGG {α : Type} {e : Elem α} {ops : Array Oper} {o : Oper} {a : Act} {K : Act → World → Prop} {Q : Exit → Act → World → Prop} {F : Prop} (hgd : o.guard = none) (s x : Operand)
    (ho : o.op = .call { callee := .builtin .append, args := #[s, x], argTypes := #[e.S, e.S] })
    {w : World} {B : Nat} {v : Value} {xs : List α} (hown : OwnR e w B v xs) (hs : a.eval s = v) (y : α) {cs : Array Value} (hcs : cs.toList = e.enc y)
    (gx : Nat) (hx : a.eval x = .slice (some ⟨gx, 0, none⟩) 1 1) (hgx : gx = w.heap.size) (hlen : xs.length < 100000000) (hB : B ≤ w.heap.size)
    (h : ∀ v' w', OwnR e w' B v' (xs ++ [y]) → Below B w w' → (w.alloc (.cells cs e.E)).grownBy w' v.ownBlock → K (a.put o.dst v') w') :
    if Region.wanted o (yielded ops a.tmps) = true then Oper.wp Tryz.prog o a (w.alloc (.cells cs e.E)) K Q else F := by
  subst hgx
  rw [if_pos (by simp [Region.wanted, hgd])]
  obtain ⟨i0, hi, hz0, hz1, hz2⟩ := info_parts e.hinfo
  have ha := World.ownsRow.alloc hown (.cells cs e.E)
  have hnew : (w.alloc (.cells cs e.E)).heap[w.heap.size]? = some (.cells cs e.E) := (MapKept.heap_alloc w _).1
  have hby := e.hb
  refine wp_append_own _ s x e.S ho B e.E i0 e.zero e.n e.bytes e.hund hi hz0 hz1 hz2 e.hz e.hn v xs.length (xs.flatMap e.enc) hs ha
    ⟨w.heap.size, 0, none⟩ 1 1 (e.enc y) hx (by rw [e.hlen, Nat.one_mul]) (by rw [← hcs]; exact World.news_of_block hnew) (e.hone y) (by unfold maxLen; omega) ?_ (by simp; omega) ?_
  · exact Nat.le_trans (Nat.mul_le_mul_left _ hby) (by omega)
  · intro v' w' h1 h2 _
    refine h v' w' ?_ (((Below.refl B w).alloc hB _).trans (own_below ha h2 (by simp; omega))) h2
    unfold OwnR
    rw [List.flatMap_append, List.length_append]
    simpa using h1
end Go.Proofs.YtmicacoegkmklaaGreatDoor


/- What moves when the nodes change, zs plain mathematics; and what the program's parts answer. -/
namespace Go.Proofs.YtmicacoegkmklaaGreatDoor
open Go.RowKit Plain
set_option linter.unusedVariables false

namespace Plain
/-- The holders that were none. -/
def cmr (f : Int → Int) (bs zs : List Int) (K : Nat) : List Int := (hld f zs K).filter fun x => !decide (x ∈ hld f bs K)
def frm (f : Int → Int) (bs : List Int) : Int := (rk f bs).headD 0
def mv1 (bs zs : List Int) (K : Nat) (d : ByteArray) : List Cpy := (cmr (wt d) bs zs K).map fun x => ⟨d, frm (wt d) bs, x⟩
def mvs (bs zs : List Int) (K : Nat) (ds : List ByteArray) : List Cpy := ds.flatMap (mv1 bs zs K)
theorem mvs_take (bs zs : List Int) (K : Nat) (ds : List ByteArray) (i : Nat) (h : i < ds.length) : mvs bs zs K (ds.take (i + 1)) = mvs bs zs K (ds.take i) ++ mv1 bs zs K ds[i] := by
  unfold mvs
  rw [List.take_succ_eq_append_getElem h, List.flatMap_append]
  simp
theorem hld_len (f : Int → Int) (l : List Int) (K : Nat) : (hld f l K).length ≤ l.length := List.length_filter_le _ _
theorem mv1_len (bs zs : List Int) (K : Nat) (d : ByteArray) (h : zs.length ≤ 50) : (mv1 bs zs K d).length ≤ 50 := by
  unfold mv1 cmr
  rw [List.length_map]
  exact Nat.le_trans (List.length_filter_le _ _) (Nat.le_trans (hld_len _ _ _) h)
theorem mvs_len (bs zs : List Int) (K : Nat) (h : zs.length ≤ 50) : ∀ ds : List ByteArray, (mvs bs zs K ds).length ≤ 50 * ds.length
  | [] => by simp [mvs]
  | d :: r => by
    have h1 := mvs_len bs zs K h r
    have h2 := mv1_len bs zs K d h
    unfold mvs at h1 ⊢
    rw [List.flatMap_cons, List.length_append, List.length_cons]
    omega
theorem cmr_ok (f : Int → Int) (bs zs : List Int) (K : Nat) (h : okIds 0 zs = true) : okIds 0 (cmr f bs zs K) = true := okIds_filter _ _ 0 (hld_ok f zs K h)
theorem cmr_set (f : Int → Int) (bs zs : List Int) (K : Nat) : setN (hld f zs K) &&& (18446744073709551615 - setN (hld f bs K)) = setN (cmr f bs zs K) := by
  apply Nat.eq_of_testBit_eq
  intro i
  have hlt := setN_lt (hld f bs K)
  rw [Nat.testBit_and, show 18446744073709551615 - setN (hld f bs K) = 2 ^ 64 - (setN (hld f bs K) + 1) from by omega, Nat.testBit_two_pow_sub_succ (by omega), setN_bit, setN_bit, setN_bit]
  unfold cmr
  have e : decide ((i : Int) ∈ (hld f zs K).filter fun x => !decide (x ∈ hld f bs K)) = (decide ((i : Int) ∈ hld f zs K) && !decide ((i : Int) ∈ hld f bs K)) := by
    rw [Bool.eq_iff_iff]
    simp [List.mem_filter]
  rw [e]
  by_cases hi : i ≤ 50
  · have h1 : decide (i < 64) = true := decide_eq_true (by omega)
    rw [h1, decide_eq_true hi]
    cases decide (1 ≤ i) <;> cases decide ((i : Int) ∈ hld f zs K) <;> cases decide ((i : Int) ∈ hld f bs K) <;> rfl
  · rw [decide_eq_false hi]
    simp
def mvB (ds : List ByteArray) (bs zs : List Int) (k : Int) : Bool := setB ds && ((okIds 0 bs && okIds 0 zs) && kB k)
def mvL (ds : List ByteArray) (bs zs : List Int) (k : Int) : List Cpy := if mvB ds bs zs k then mvs bs zs k.toNat ds else []
theorem mvL_yes {ds : List ByteArray} {bs zs : List Int} {k : Int} (h : mvB ds bs zs k = true) : mvL ds bs zs k = mvs bs zs k.toNat ds := if_pos h
theorem mvL_no {ds : List ByteArray} {bs zs : List Int} {k : Int} (h : mvB ds bs zs k = false) : mvL ds bs zs k = [] := by unfold mvL; rw [h]; rfl
theorem mvL_len (ds : List ByteArray) (bs zs : List Int) (k : Int) : (mvL ds bs zs k).length ≤ 10000 := by
  unfold mvL
  split
  · rename_i h
    unfold mvB at h
    simp only [Bool.and_eq_true] at h
    have h1 := okIds_len zs 0 (by decide) h.2.1.2
    have h2 := mvs_len bs zs k.toNat (by omega) ds
    have h3 := (setB_all h.1).1
    omega
  · simp
def mkC3 (d : ByteArray) (fr : Int) (x : Int) : Cpy := ⟨d, fr, x⟩
end Plain
end Go.Proofs.YtmicacoegkmklaaGreatDoor


/- Copies to nodes, and the first of the ranks, by the program. -/
namespace Go.Proofs.YtmicacoegkmklaaGreatDoor
open Go.RowKit Plain
set_option linter.unusedVariables false

set_option maxRecDepth 10000 in
set_option maxHeartbeats 2000000 in
theorem copiesTo_calls (l : List Int) (d : ByteArray) (fr : Int) (w : World) (hk : okIds 0 l = true) (hl : l.length ≤ 100) (hT : TzAt w) :
    Calls Tryz.prog 30 #[.int .u64 (setN l : Nat), .string d, .int .i64 fr] w fun e w' => ∃ v, e = .returned v ∧ OwnR cpyE w' w.heap.size v (l.map fun x => (⟨d, fr, x⟩ : Cpy)) ∧ Below w.heap.size w w' := by
  have HID := hide (ids_calls l w hk hl hT)
  generalize setN l = S at HID
  obtain ⟨n, hn⟩ : ∃ n, l.length = n := ⟨_, rfl⟩
  rw [hn] at HID hl
  have HN := hide hn
  clear hk hT hn
  go_enter Tryz.func30, Tryz.ntmps30
  go_wp2_with fail
  refine (unhide HID).mono ?_
  rintro e w1 ⟨a1, c1, rfl, o1, hb1⟩
  have HO1 := hide o1
  have HB1 := hide hb1
  clear o1 hb1
  go_wp2_with fail
  go_loopw [7, 13] (fun s7 s13 wr => ∃ (k : Nat), s13 = .int .i64 k ∧ k ≤ n ∧ w.heap.size ≤ wr.heap.size ∧ Hid (OwnR cpyE wr w.heap.size s7 ((l.take k).map fun x => (⟨d, fr, x⟩ : Cpy))) ∧ Hid (OwnR i64E wr w.heap.size (.slice a1 n c1) l) ∧ Hid (Below w.heap.size w wr)) (fun _ s13 _ => n - (intOf s13).toNat)
  case atStart => exact ⟨0, rfl, by omega, (unhide HB1).size, hide (ownR_nil _ _ _), HO1, HB1⟩
  case round =>
    clear HO1 HB1
    obtain ⟨k, rfl, hk, hz, HO, HI, HB⟩ := hrel
    have HLK := hide (show ((l.take k).map fun x => (⟨d, fr, x⟩ : Cpy)).length = k from by rw [List.length_map, List.length_take, unhide HN]; omega)
    obtain ⟨a2, c2, hv⟩ := (unhide HO).form
    rw [unhide HLK] at hv
    subst hv
    by_cases hkn : k < n
    · have hkl : k < l.length := by rw [unhide HN]; exact hkn
      obtain ⟨g, e1, l1, p0, -⟩ := (unhide HI).at.ix k hkl
      have HTK := hide (show (l.take (k + 1)).map (fun x => (⟨d, fr, x⟩ : Cpy)) = ((l.take k).map fun x => (⟨d, fr, x⟩ : Cpy)) ++ [(⟨d, fr, l[k]⟩ : Cpy)] from by rw [List.take_succ_eq_append_getElem hkl, List.map_append]; rfl)
      have HLK2 := hide (show (((l.take k).map fun x => (⟨d, fr, x⟩ : Cpy)) ++ [(⟨d, fr, l[k]⟩ : Cpy)]).length = k + 1 from by rw [List.length_append, unhide HLK]; rfl)
      have hlen : ((l.take k).map fun x => (⟨d, fr, x⟩ : Cpy)).length < 100000000 := by rw [unhide HLK]; omega
      generalize l[k] = x at p0 HTK HLK2
      subst e1
      have i0 : (0 : Int) ≤ (k : Int) := by omega
      have i1 : (k : Int) < (n : Int) := by omega
      go_wp2_with (at_builtin; go_must (refine appR (e := cpyE) rfl _ _ rfl (unhide HO) rfl (⟨d, fr, x⟩ : Cpy) rfl _ rfl rfl hlen hz ?_); intro v' w6 hown6 hb6 hg6; obtain ⟨a3, c3, hv'⟩ := hown6.form; rw [unhide HLK2] at hv'; subst hv')
      have HI6 := hide ((unhide HI).beside (unhide HO) (by decide) hg6)
      go_roundw
      case rel => exact ⟨k + 1, by go_num, by omega, by have := hb6.size; omega, hide (by rw [unhide HTK]; exact hown6), HI6, hide ((unhide HB).trans hb6)⟩
      case measure => simp [intOf]; omega
    · obtain rfl : k = n := by omega
      rw [List.take_of_length_le (by rw [unhide HN]; exact Nat.le_refl _)] at HO
      go_wp2_with fail
      go_ret
      exact ⟨.slice a2 k c2, rfl, unhide HO, unhide HB⟩

set_option maxRecDepth 10000 in
set_option maxHeartbeats 2000000 in
theorem firstAmong_calls (aR : Option Addr) (n cR : Nat) (rs H : List Int) (S : Nat) (w : World) (h : RowAt i64E w aR rs) (hn : rs.length = n) (hr : ∀ x ∈ rs, 1 ≤ x ∧ x ≤ 50) (hh : ∀ x, rs.head? = some x → x ∈ H) :
    Calls Tryz.prog 31 #[.agg #[.slice aR n cR, .int .u64 S], .int .u64 (setN H : Nat)] w fun e w' => e = .returned (.int .i64 (rs.headD 0)) ∧ Below w.heap.size w w' := by
  obtain ⟨W1, hW1⟩ : ∃ W1, W1 = w.alloc (.cells #[.slice aR n cR, .int .u64 S] 57) := ⟨_, rfl⟩
  have HB1 := hide (show Below w.heap.size w W1 from by rw [hW1]; exact bel1D _ _)
  have c0 : W1.cell? ⟨w.heap.size, 0, none⟩ = some (.slice aR n cR) := by rw [hW1]; simp [go_sem]
  have HW1 := hide hW1.symm
  cases rs with
  | nil =>
    obtain rfl : n = 0 := by simpa using hn.symm
    clear hW1 h hn hr hh
    go_enter Tryz.func31, Tryz.ntmps31
    go_wp2_with fail
    rw [unhide HW1]
    refine wp_loop_rounds 1 ?_
    rw [rounds_succ]
    go_wp2_with fail
    go_ret
    exact ⟨rfl, unhide HB1⟩
  | cons x r =>
    have hx := hr x (by simp)
    have hxh := hh x rfl
    obtain ⟨g, e1, l1, p0, -⟩ := (h.below (unhide HB1)).ix 0 (by simp)
    simp only [List.getElem_cons_zero] at p0
    have HHS := hide (has_calls H x W1 (by omega) (by omega))
    rw [decide_eq_true hxh] at HHS
    generalize setN H = SH at HHS
    have hn1 : (0 : Int) < (n : Int) := by rw [← hn, List.length_cons]; omega
    subst e1
    clear hW1 h hr hh hx hxh
    go_enter Tryz.func31, Tryz.ntmps31
    go_wp2_with fail
    rw [unhide HW1]
    refine wp_loop_rounds 1 ?_
    rw [rounds_succ]
    go_wp2_with fail
    refine (unhide HHS).mono ?_
    rintro e w2 ⟨rfl, rfl⟩
    go_wp2_with fail
    go_ret
    exact ⟨rfl, unhide HB1⟩
end Go.Proofs.YtmicacoegkmklaaGreatDoor

