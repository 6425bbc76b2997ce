/- Texts of one kind, put together. -/
import Derived.Test.YtdmkephnpmglkaaGreatDoorGen
import Derived.Deep.RegionLaw
import Derived.Laws.Rows
import Derived.OneCell
import Derived.Test.YtdmkephnpmglkaaGreatDoorRzE
import Derived.Test.YtdmkephnpmglkaaGreatDoorRzB
import Derived.Test.YtdmkephnpmglkaaGreatDoorRzS
import Derived.Deep.RegionHeld3

/- A whole row is appended to a row of the call's own. -/
namespace Go.Proofs.YtdmkephnpmglkaaGreatDoor
open Go.RowKit Plain
set_option linter.unusedVariables false

/-- How a slice's address may be. -/
def Plain.AdG (ad : Option Addr) (c : Nat) : Prop := (ad = none ∧ c = 0) ∨ ∃ g, ad = some ⟨g, 0, none⟩
theorem OwnR.adG {α : Type} {e : Elem α} {W : World} {B : Nat} {ad : Option Addr} {n c : Nat} {xs : List α} (h : OwnR e W B (.slice ad n c) xs) : AdG ad c := by
  rcases h.2 with ⟨e1, _⟩ | ⟨g, cap, cur, e1, _⟩
  · simp at e1; exact .inl ⟨e1.1, e1.2.2⟩
  · simp at e1; exact .inr ⟨g, e1.1⟩

theorem appGG {α : Type} {e : Elem α} {ops : Array Oper} {rest : List Oper} {o : Oper} {a : Act} {Q : Exit → Act → World → Prop} (hgd : o.guard = none) (s x : Operand)
    (ho : o.op = .call { callee := .builtin .append, args := #[s, x], argTypes := #[e.S, e.S] })
    {w : World} {B : Nat} {v : Value} {xs ys : List α} (hown : OwnR e w B v xs) (hs : a.eval s = v) (ad : Option Addr) (m c : Nat) (hx : a.eval x = .slice ad m c) (hy : ys.length = m) (hr : RowAt e w ad ys) (had : AdG ad c)
    (hlen : xs.length + m < 100000000) (hB : B ≤ w.heap.size)
    (h : ∀ v' w', OwnR e w' B v' (xs ++ ys) → Below B w w' → wpList Tryz.prog ops Q rest (a.put o.dst v') w') :
    wpList Tryz.prog ops Q (o :: rest) a w := by
  obtain ⟨i0, hi, hz0, hz1, hz2⟩ := info_parts e.hinfo
  subst hy
  rcases had with ⟨rfl, rfl⟩ | ⟨g, rfl⟩
  · have hys : ys = [] := by
      cases ys with
      | nil => rfl
      | cons y l => obtain ⟨g, e1, _⟩ := hr 0 (by simp); simp at e1
    subst hys
    refine wpList_plain hgd fun K hK => ?_
    have hrun := run_append_owned_none (P := Tryz.prog) w B e.S o.type e.E i0 e.n e.hund hi v xs.length (xs.flatMap e.enc) hown
    have hx2 : a.eval x = .slice none 0 0 := hx
    unfold Oper.wp execOp
    simp only [ho, resolve, invoke, builtin, Sem.run_bind, Sem.run_pure, Result.andThen_ok, List.map_toArray, List.map_cons, List.map_nil, hs, hx2, hrun]
    exact hK _ _ (h v w (by rw [List.append_nil]; exact hown) (Below.refl _ _))
  · have hby := e.hb
    refine wpList_append_own _ hgd s x e.S ho B e.E i0 e.zero e.n e.bytes e.hund hi hz0 hz1 hz2 e.hz e.hn v xs.length (xs.flatMap e.enc) hs hown
      ⟨g, 0, none⟩ ys.length c (ys.flatMap e.enc) hx (flat_len e.enc e.n e.hlen ys) ?_ ?_ (by unfold maxLen; omega) ?_ hB ?_
    · intro j u hj
      have hjl : j < ys.length * e.n := by
        have := (List.getElem?_eq_some_iff.1 hj).1
        rw [flat_len e.enc e.n e.hlen] at this
        exact this
      have hn := e.hn
      have hq : j / e.n < ys.length := Nat.div_lt_of_lt_mul (by rw [Nat.mul_comm]; exact hjl)
      have hm : j % e.n < e.n := Nat.mod_lt _ hn
      have hd : j / e.n * e.n + j % e.n = j := by rw [Nat.mul_comm]; exact Nat.div_add_mod j e.n
      obtain ⟨g', e1, hl, hc⟩ := hr (j / e.n) hq
      cases e1
      have h1 := (hc (j % e.n) hm).1
      rw [hd] at h1
      have h2 := flat_get e.enc e.n e.hlen ys (j / e.n) (j % e.n) hq hm
      rw [hd] at h2
      rw [show (⟨g, 0, none⟩ : Addr).add j = ⟨g, j, none⟩ from by unfold Addr.add; split <;> simp_all, h1, ← h2]
      exact hj
    · intro u hu
      obtain ⟨y, _, hy⟩ := List.mem_flatMap.1 hu
      exact e.hone y u hy
    · exact Nat.le_trans (Nat.mul_le_mul_left _ hby) (by omega)
    · intro v' w' h1 h2 _
      refine h v' w' ?_ (own_below hown h2 hB)
      unfold OwnR
      rw [List.flatMap_append, List.length_append]
      exact h1

theorem stepGG {α : Type} {e : Elem α} {ops : Array Oper} {o : Oper} {a : Act} {K : Act → World → Prop} {Q : Exit → Act → World → Prop} {F : Prop} (hgd : o.guard = none) (s x : Operand)
    (ho : o.op = .call { callee := .builtin .append, args := #[s, x], argTypes := #[e.S, e.S] })
    {w : World} {B : Nat} {v : Value} {xs : List α} (hown : OwnR e w B v xs) (hs : a.eval s = v) (y : α) {cs : Array Value} (hcs : cs.toList = e.enc y)
    (gx : Nat) (hx : a.eval x = .slice (some ⟨gx, 0, none⟩) 1 1) (hgx : gx = w.heap.size) (hlen : xs.length < 100000000) (hB : B ≤ w.heap.size)
    (h : ∀ v' w', OwnR e w' B v' (xs ++ [y]) → Below B w w' → (w.alloc (.cells cs e.E)).grownBy w' v.ownBlock → K (a.put o.dst v') w') :
    if Region.wanted o (yielded ops a.tmps) = true then Oper.wp Tryz.prog o a (w.alloc (.cells cs e.E)) K Q else F := by
  subst hgx
  rw [if_pos (by simp [Region.wanted, hgd])]
  obtain ⟨i0, hi, hz0, hz1, hz2⟩ := info_parts e.hinfo
  have ha := World.ownsRow.alloc hown (.cells cs e.E)
  have hnew : (w.alloc (.cells cs e.E)).heap[w.heap.size]? = some (.cells cs e.E) := (MapKept.heap_alloc w _).1
  have hby := e.hb
  refine wp_append_own _ s x e.S ho B e.E i0 e.zero e.n e.bytes e.hund hi hz0 hz1 hz2 e.hz e.hn v xs.length (xs.flatMap e.enc) hs ha
    ⟨w.heap.size, 0, none⟩ 1 1 (e.enc y) hx (by rw [e.hlen, Nat.one_mul]) (by rw [← hcs]; exact World.news_of_block hnew) (e.hone y) (by unfold maxLen; omega) ?_ (by simp; omega) ?_
  · exact Nat.le_trans (Nat.mul_le_mul_left _ hby) (by omega)
  · intro v' w' h1 h2 _
    refine h v' w' ?_ (((Below.refl B w).alloc hB _).trans (own_below ha h2 (by simp; omega))) h2
    unfold OwnR
    rw [List.flatMap_append, List.length_append]
    simpa using h1
end Go.Proofs.YtdmkephnpmglkaaGreatDoor


/- Rows of copies, as the exact laws compare them. -/
namespace Go.Proofs.YtdmkephnpmglkaaGreatDoor
open Go.RowKit Plain
set_option linter.unusedVariables false

namespace Plain
/-- A blob that goes from one node to another. -/
structure Cpy where
  dig : ByteArray
  src : Int
  dst : Int
def cpyL (e : Cpy) : List Value := [.string e.dig, .int .i64 e.src, .int .i64 e.dst]
def goodC (e : Cpy) : Prop := e.dig.size ≤ maxLen ∧ (Lit.int .i64 e.src).wf = true ∧ (Lit.int .i64 e.dst).wf = true
end Plain
/-- Copies as elements. -/
def cpyE : Elem Cpy where
  E := 32
  S := 28
  n := 3
  bytes := 32
  zero := .agg #[.string ⟨#[]⟩, .int .i64 0, .int .i64 0]
  enc := fun e => [.string e.dig, .int .i64 e.src, .int .i64 e.dst]
  hund := Tryz.underlying28
  hinfo := by kernel_rfl
  hz := rfl
  hn := by decide
  hb := by decide
  hlen := fun _ => rfl
  hone := fun x u hu => by simp at hu; rcases hu with rfl | rfl | rfl <;> rfl

namespace Plain
def totC (fs : List Cpy) : Nat := (fs.map fun f => f.dig.size).sum
theorem totC_drop (fs : List Cpy) (k : Nat) (h : k < fs.length) : totC (fs.drop k) = (fs[k].dig.size) + totC (fs.drop (k + 1)) := by rw [totC, List.drop_eq_getElem_cons h, List.map_cons, List.sum_cons]; rfl
theorem totC_end (fs : List Cpy) (k : Nat) (h : fs.length ≤ k) : totC (fs.drop k) = 0 := by rw [List.drop_of_length_le h]; rfl
theorem totC_mem (fs : List Cpy) (f : Cpy) (h : f ∈ fs) : f.dig.size ≤ totC fs := by
  induction fs with
  | nil => simp at h
  | cons g t ih =>
    have e : totC (g :: t) = (g.dig.size) + totC t := by rw [totC, List.map_cons, List.sum_cons]; rfl
    rw [e]
    rcases List.mem_cons.1 h with rfl | h
    · omega
    · have := ih h; omega
theorem ArgAt.c {W : World} {a : Option Addr} {xs : List Cpy} (h : ArgAt 3 cpyL W a xs) (i : Nat) (hi : i < xs.length) : ∃ g o, a = some ⟨g, o, none⟩ ∧ g < W.heap.size ∧ W.cell? ⟨g, o + i * 3, none⟩ = some (.string xs[i].dig) ∧ W.cell? ⟨g, o + i * 3 + 1, none⟩ = some (.int .i64 xs[i].src) ∧ W.cell? ⟨g, o + i * 3 + 2, none⟩ = some (.int .i64 xs[i].dst) := by
  obtain ⟨g, o, e, hl, hc⟩ := h i hi
  exact ⟨g, o, e, hl, hc 0 (by decide), hc 1 (by decide), hc 2 (by decide)⟩
end Plain
theorem RowAt.cx {W : World} {a : Option Addr} {xs : List Cpy} (h : RowAt cpyE W a xs) (i : Nat) (hi : i < xs.length) : ∃ g, a = some ⟨g, 0, none⟩ ∧ g < W.heap.size ∧ W.cell? ⟨g, i * 3, none⟩ = some (.string xs[i].dig) ∧ W.cell? ⟨g, i * 3 + 1, none⟩ = some (.int .i64 xs[i].src) ∧ W.cell? ⟨g, i * 3 + 2, none⟩ = some (.int .i64 xs[i].dst) := by
  obtain ⟨g, e, hl, hc⟩ := h i hi
  exact ⟨g, e, hl, (hc 0 (by decide)).1, (hc 1 (by decide)).1, (hc 2 (by decide)).1⟩











end Go.Proofs.YtdmkephnpmglkaaGreatDoor

/- What moves when the nodes change, zs plain mathematics; and what the program's parts answer. -/
namespace Go.Proofs.YtdmkephnpmglkaaGreatDoor
open Go.RowKit Plain
set_option linter.unusedVariables false

namespace Plain
/-- The holders that were none. -/
def cmr (f : Int → Int) (bs zs : List Int) (K : Nat) : List Int := (hld f zs K).filter fun x => !decide (x ∈ hld f bs K)
def frm (f : Int → Int) (bs : List Int) : Int := (rk f bs).headD 0
def mv1 (bs zs : List Int) (K : Nat) (d : ByteArray) : List Cpy := (cmr (wt d) bs zs K).map fun x => ⟨d, frm (wt d) bs, x⟩
def mvs (bs zs : List Int) (K : Nat) (ds : List ByteArray) : List Cpy := ds.flatMap (mv1 bs zs K)
theorem mvs_take (bs zs : List Int) (K : Nat) (ds : List ByteArray) (i : Nat) (h : i < ds.length) : mvs bs zs K (ds.take (i + 1)) = mvs bs zs K (ds.take i) ++ mv1 bs zs K ds[i] := by
  unfold mvs
  rw [List.take_succ_eq_append_getElem h, List.flatMap_append]
  simp
theorem hld_len (f : Int → Int) (l : List Int) (K : Nat) : (hld f l K).length ≤ l.length := List.length_filter_le _ _
theorem mv1_len (bs zs : List Int) (K : Nat) (d : ByteArray) (h : zs.length ≤ 50) : (mv1 bs zs K d).length ≤ 50 := by
  unfold mv1 cmr
  rw [List.length_map]
  exact Nat.le_trans (List.length_filter_le _ _) (Nat.le_trans (hld_len _ _ _) h)
theorem mvs_len (bs zs : List Int) (K : Nat) (h : zs.length ≤ 50) : ∀ ds : List ByteArray, (mvs bs zs K ds).length ≤ 50 * ds.length
  | [] => by simp [mvs]
  | d :: r => by
    have h1 := mvs_len bs zs K h r
    have h2 := mv1_len bs zs K d h
    unfold mvs at h1 ⊢
    rw [List.flatMap_cons, List.length_append, List.length_cons]
    omega
theorem cmr_ok (f : Int → Int) (bs zs : List Int) (K : Nat) (h : okIds 0 zs = true) : okIds 0 (cmr f bs zs K) = true := okIds_filter _ _ 0 (hld_ok f zs K h)
theorem cmr_set (f : Int → Int) (bs zs : List Int) (K : Nat) : setN (hld f zs K) &&& (18446744073709551615 - setN (hld f bs K)) = setN (cmr f bs zs K) := by
  apply Nat.eq_of_testBit_eq
  intro i
  have hlt := setN_lt (hld f bs K)
  rw [Nat.testBit_and, show 18446744073709551615 - setN (hld f bs K) = 2 ^ 64 - (setN (hld f bs K) + 1) from by omega, Nat.testBit_two_pow_sub_succ (by omega), setN_bit, setN_bit, setN_bit]
  unfold cmr
  have e : decide ((i : Int) ∈ (hld f zs K).filter fun x => !decide (x ∈ hld f bs K)) = (decide ((i : Int) ∈ hld f zs K) && !decide ((i : Int) ∈ hld f bs K)) := by
    rw [Bool.eq_iff_iff]
    simp [List.mem_filter]
  rw [e]
  by_cases hi : i ≤ 50
  · have h1 : decide (i < 64) = true := decide_eq_true (by omega)
    rw [h1, decide_eq_true hi]
    cases decide (1 ≤ i) <;> cases decide ((i : Int) ∈ hld f zs K) <;> cases decide ((i : Int) ∈ hld f bs K) <;> rfl
  · rw [decide_eq_false hi]
    simp
def mvB (ds : List ByteArray) (bs zs : List Int) (k : Int) : Bool := setB ds && ((okIds 0 bs && okIds 0 zs) && kB k)
def mvL (ds : List ByteArray) (bs zs : List Int) (k : Int) : List Cpy := if mvB ds bs zs k then mvs bs zs k.toNat ds else []
theorem mvL_yes {ds : List ByteArray} {bs zs : List Int} {k : Int} (h : mvB ds bs zs k = true) : mvL ds bs zs k = mvs bs zs k.toNat ds := if_pos h
theorem mvL_no {ds : List ByteArray} {bs zs : List Int} {k : Int} (h : mvB ds bs zs k = false) : mvL ds bs zs k = [] := by unfold mvL; rw [h]; rfl
theorem mvL_len (ds : List ByteArray) (bs zs : List Int) (k : Int) : (mvL ds bs zs k).length ≤ 10000 := by
  unfold mvL
  split
  · rename_i h
    unfold mvB at h
    simp only [Bool.and_eq_true] at h
    have h1 := okIds_len zs 0 (by decide) h.2.1.2
    have h2 := mvs_len bs zs k.toNat (by omega) ds
    have h3 := (setB_all h.1).1
    omega
  · simp
def mkC3 (d : ByteArray) (fr : Int) (x : Int) : Cpy := ⟨d, fr, x⟩
end Plain
end Go.Proofs.YtdmkephnpmglkaaGreatDoor


/- Copies to nodes, and the first of the ranks, by the program. -/
namespace Go.Proofs.YtdmkephnpmglkaaGreatDoor
open Go.RowKit Plain
set_option linter.unusedVariables false

set_option maxRecDepth 10000 in
set_option maxHeartbeats 2000000 in
theorem copiesTo_calls (l : List Int) (d : ByteArray) (fr : Int) (w : World) (hk : okIds 0 l = true) (hl : l.length ≤ 100) (hT : TzAt w) :
    Calls Tryz.prog 24 #[.int .u64 (setN l : Nat), .string d, .int .i64 fr] w fun e w' => ∃ v, e = .returned v ∧ OwnR cpyE w' w.heap.size v (l.map fun x => (⟨d, fr, x⟩ : Cpy)) ∧ Below w.heap.size w w' := by
  have HID := hide (ids_calls l w hk hl hT)
  generalize setN l = S at HID
  obtain ⟨n, hn⟩ : ∃ n, l.length = n := ⟨_, rfl⟩
  rw [hn] at HID hl
  have HN := hide hn
  clear hk hT hn
  go_enter Tryz.func24, Tryz.ntmps24
  go_wp2_with fail
  refine (unhide HID).mono ?_
  rintro e w1 ⟨a1, c1, rfl, o1, hb1⟩
  have HO1 := hide o1
  have HB1 := hide hb1
  clear o1 hb1
  go_wp2_with fail
  go_loopw [7, 13] (fun s7 s13 wr => ∃ (k : Nat), s13 = .int .i64 k ∧ k ≤ n ∧ w.heap.size ≤ wr.heap.size ∧ Hid (OwnR cpyE wr w.heap.size s7 ((l.take k).map fun x => (⟨d, fr, x⟩ : Cpy))) ∧ Hid (OwnR i64E wr w.heap.size (.slice a1 n c1) l) ∧ Hid (Below w.heap.size w wr)) (fun _ s13 _ => n - (intOf s13).toNat)
  case atStart => exact ⟨0, rfl, by omega, (unhide HB1).size, hide (ownR_nil _ _ _), HO1, HB1⟩
  case round =>
    clear HO1 HB1
    obtain ⟨k, rfl, hk, hz, HO, HI, HB⟩ := hrel
    have HLK := hide (show ((l.take k).map fun x => (⟨d, fr, x⟩ : Cpy)).length = k from by rw [List.length_map, List.length_take, unhide HN]; omega)
    obtain ⟨a2, c2, hv⟩ := (unhide HO).form
    rw [unhide HLK] at hv
    subst hv
    by_cases hkn : k < n
    · have hkl : k < l.length := by rw [unhide HN]; exact hkn
      obtain ⟨g, e1, l1, p0, -⟩ := (unhide HI).at.ix k hkl
      have HTK := hide (show (l.take (k + 1)).map (fun x => (⟨d, fr, x⟩ : Cpy)) = ((l.take k).map fun x => (⟨d, fr, x⟩ : Cpy)) ++ [(⟨d, fr, l[k]⟩ : Cpy)] from by rw [List.take_succ_eq_append_getElem hkl, List.map_append]; rfl)
      have HLK2 := hide (show (((l.take k).map fun x => (⟨d, fr, x⟩ : Cpy)) ++ [(⟨d, fr, l[k]⟩ : Cpy)]).length = k + 1 from by rw [List.length_append, unhide HLK]; rfl)
      have hlen : ((l.take k).map fun x => (⟨d, fr, x⟩ : Cpy)).length < 100000000 := by rw [unhide HLK]; omega
      generalize l[k] = x at p0 HTK HLK2
      subst e1
      have i0 : (0 : Int) ≤ (k : Int) := by omega
      have i1 : (k : Int) < (n : Int) := by omega
      go_wp2_with (at_builtin; go_must (refine appR (e := cpyE) rfl _ _ rfl (unhide HO) rfl (⟨d, fr, x⟩ : Cpy) rfl _ rfl rfl hlen hz ?_); intro v' w6 hown6 hb6 hg6; obtain ⟨a3, c3, hv'⟩ := hown6.form; rw [unhide HLK2] at hv'; subst hv')
      have HI6 := hide ((unhide HI).beside (unhide HO) (by decide) hg6)
      go_roundw
      case rel => exact ⟨k + 1, by go_num, by omega, by have := hb6.size; omega, hide (by rw [unhide HTK]; exact hown6), HI6, hide ((unhide HB).trans hb6)⟩
      case measure => simp [intOf]; omega
    · obtain rfl : k = n := by omega
      rw [List.take_of_length_le (by rw [unhide HN]; exact Nat.le_refl _)] at HO
      go_wp2_with fail
      go_ret
      exact ⟨.slice a2 k c2, rfl, unhide HO, unhide HB⟩

set_option maxRecDepth 10000 in
set_option maxHeartbeats 2000000 in
theorem firstAmong_calls (aR : Option Addr) (n cR : Nat) (rs H : List Int) (S : Nat) (w : World) (h : RowAt i64E w aR rs) (hn : rs.length = n) (hr : ∀ x ∈ rs, 1 ≤ x ∧ x ≤ 50) (hh : ∀ x, rs.head? = some x → x ∈ H) :
    Calls Tryz.prog 25 #[.agg #[.slice aR n cR, .int .u64 S], .int .u64 (setN H : Nat)] w fun e w' => e = .returned (.int .i64 (rs.headD 0)) ∧ Below w.heap.size w w' := by
  obtain ⟨W1, hW1⟩ : ∃ W1, W1 = w.alloc (.cells #[.slice aR n cR, .int .u64 S] 58) := ⟨_, rfl⟩
  have HB1 := hide (show Below w.heap.size w W1 from by rw [hW1]; exact bel1D _ _)
  have c0 : W1.cell? ⟨w.heap.size, 0, none⟩ = some (.slice aR n cR) := by rw [hW1]; simp [go_sem]
  have HW1 := hide hW1.symm
  cases rs with
  | nil =>
    obtain rfl : n = 0 := by simpa using hn.symm
    clear hW1 h hn hr hh
    go_enter Tryz.func25, Tryz.ntmps25
    go_wp2_with fail
    rw [unhide HW1]
    refine wp_loop_rounds 1 ?_
    rw [rounds_succ]
    go_wp2_with fail
    go_ret
    exact ⟨rfl, unhide HB1⟩
  | cons x r =>
    have hx := hr x (by simp)
    have hxh := hh x rfl
    obtain ⟨g, e1, l1, p0, -⟩ := (h.below (unhide HB1)).ix 0 (by simp)
    simp only [List.getElem_cons_zero] at p0
    have HHS := hide (has_calls H x W1 (by omega) (by omega))
    rw [decide_eq_true hxh] at HHS
    generalize setN H = SH at HHS
    have hn1 : (0 : Int) < (n : Int) := by rw [← hn, List.length_cons]; omega
    subst e1
    clear hW1 h hr hh hx hxh
    go_enter Tryz.func25, Tryz.ntmps25
    go_wp2_with fail
    rw [unhide HW1]
    refine wp_loop_rounds 1 ?_
    rw [rounds_succ]
    go_wp2_with fail
    refine (unhide HHS).mono ?_
    rintro e w2 ⟨rfl, rfl⟩
    go_wp2_with fail
    go_ret
    exact ⟨rfl, unhide HB1⟩
end Go.Proofs.YtdmkephnpmglkaaGreatDoor


/- What moves, by the program. -/
namespace Go.Proofs.YtdmkephnpmglkaaGreatDoor
open Go.RowKit Plain
set_option linter.unusedVariables false

set_option maxRecDepth 10000 in
set_option maxHeartbeats 8000000 in
theorem impl_Moves (ad : Option Addr) (nd cd : Nat) (ds : List ByteArray) (a1 : Option Addr) (n1 c1 : Nat) (bs : List Int) (a2 : Option Addr) (n2 c2 : Nat) (zs : List Int) (k : Int) (w : World) (hs : TxtsAt w ad nd ds) (h1 : IntsAt w a1 n1 bs) (h2 : IntsAt w a2 n2 zs) (hK : KAt w) (hT : TzAt w) :
    Calls Tryz.prog 7 #[.slice ad nd cd, .slice a1 n1 c1, .slice a2 n2 c2, .int .i64 k] w fun e w' => ∃ v, e = .returned (.tuple #[v, .bool (mvB ds bs zs k)]) ∧ OwnR cpyE w' w.heap.size v (mvL ds bs zs k) ∧ Below w.heap.size w w' := by
  have h0 : 1 < w.heap.size := lt_of_cell (hK 0 (by omega))
  have HD := hide (readSet_calls ad nd cd ds w hs)
  have HI1 := hide (fun (W : World) (hW : Below w.heap.size w W) => rosterOf_calls a1 n1 c1 bs k W (h1.below hW))
  have HI2 := hide (fun (W : World) (hW : Below w.heap.size w W) => rosterOf_calls a2 n2 c2 zs k W (h2.below hW))
  cases hB : mvB ds bs zs k with
  | false =>
    rw [mvL_no hB]
    have hnot : setB ds = true → rosB bs k = true → rosB zs k = false := by
      intro q1 q2
      unfold mvB at hB
      unfold rosB at q2 ⊢
      rw [Bool.and_eq_true] at q2
      rw [q1, q2.1, q2.2] at hB
      rw [q2.2]
      simpa using hB
    clear h1 h2 hs hB hK hT
    cases q1 : setB ds with
    | false =>
      rw [q1] at HD
      generalize rosB bs k = r1 at HI1 hnot
      generalize rosB zs k = r2 at HI2 hnot
      clear hnot q1
      go_enter Tryz.func7, Tryz.ntmps7
      go_wp2_with fail
      refine (unhide HD).mono ?_
      rintro e w1 ⟨mv, rfl, hb1⟩
      have HB1 := hide hb1
      clear hb1
      go_wp2_with fail
      refine (unhide HI1 _ (unhide HB1)).mono ?_
      rintro e w2 ⟨rfl, hb2⟩
      have HB2 := hide (belOnD (belOnD (unhide HB1) hb2) (bel1D w2 (.cells #[.slice a1 n1 c1, .int .i64 k] 52)))
      clear hb2
      go_wp2_with fail
      refine (unhide HI2 _ (unhide HB2)).mono ?_
      rintro e w3 ⟨rfl, hb3⟩
      have HB3 := hide (belOnD (belOnD (unhide HB2) hb3) (bel1D w3 (.cells #[.slice a2 n2 c2, .int .i64 k] 52)))
      clear hb3
      go_wp2_with fail
      exact bodyPost_ret (v := .tuple #[_, .bool false]) (by simp [results, Tryz.results7, go_sem]) rfl ⟨_, rfl, ownR_nil _ _ _, unhide HB3⟩
    | true =>
      rw [q1] at HD
      cases q2 : rosB bs k with
      | false =>
        rw [q2] at HI1
        generalize rosB zs k = r2 at HI2 hnot
        clear hnot q1 q2
        go_enter Tryz.func7, Tryz.ntmps7
        go_wp2_with fail
        refine (unhide HD).mono ?_
        rintro e w1 ⟨mv, rfl, hb1⟩
        have HB1 := hide hb1
        clear hb1
        go_wp2_with fail
        refine (unhide HI1 _ (unhide HB1)).mono ?_
        rintro e w2 ⟨rfl, hb2⟩
        have HB2 := hide (belOnD (belOnD (unhide HB1) hb2) (bel1D w2 (.cells #[.slice a1 n1 c1, .int .i64 k] 52)))
        clear hb2
        go_wp2_with fail
        refine (unhide HI2 _ (unhide HB2)).mono ?_
        rintro e w3 ⟨rfl, hb3⟩
        have HB3 := hide (belOnD (belOnD (unhide HB2) hb3) (bel1D w3 (.cells #[.slice a2 n2 c2, .int .i64 k] 52)))
        clear hb3
        go_wp2_with fail
        exact bodyPost_ret (v := .tuple #[_, .bool false]) (by simp [results, Tryz.results7, go_sem]) rfl ⟨_, rfl, ownR_nil _ _ _, unhide HB3⟩
      | true =>
        rw [q2] at HI1
        rw [hnot q1 q2] at HI2
        clear hnot q1 q2
        go_enter Tryz.func7, Tryz.ntmps7
        go_wp2_with fail
        refine (unhide HD).mono ?_
        rintro e w1 ⟨mv, rfl, hb1⟩
        have HB1 := hide hb1
        clear hb1
        go_wp2_with fail
        refine (unhide HI1 _ (unhide HB1)).mono ?_
        rintro e w2 ⟨rfl, hb2⟩
        have HB2 := hide (belOnD (belOnD (unhide HB1) hb2) (bel1D w2 (.cells #[.slice a1 n1 c1, .int .i64 k] 52)))
        clear hb2
        go_wp2_with fail
        refine (unhide HI2 _ (unhide HB2)).mono ?_
        rintro e w3 ⟨rfl, hb3⟩
        have HB3 := hide (belOnD (belOnD (unhide HB2) hb3) (bel1D w3 (.cells #[.slice a2 n2 c2, .int .i64 k] 52)))
        clear hb3
        go_wp2_with fail
        exact bodyPost_ret (v := .tuple #[_, .bool false]) (by simp [results, Tryz.results7, go_sem]) rfl ⟨_, rfl, ownR_nil _ _ _, unhide HB3⟩
  | true =>
    rw [mvL_yes hB]
    have hq : setB ds = true ∧ (okIds 0 bs = true ∧ okIds 0 zs = true) ∧ kB k = true := by
      unfold mvB at hB
      simpa [Bool.and_eq_true] using hB
    obtain ⟨q1, ⟨q2, q3⟩, q4⟩ := hq
    rw [q1] at HD
    rw [show rosB bs k = true from by unfold rosB; rw [q2, q4]; rfl] at HI1
    rw [show rosB zs k = true from by unfold rosB; rw [q3, q4]; rfl] at HI2
    have hk := (kB_iff k).1 q4
    obtain ⟨K, rfl⟩ := Int.eq_ofNat_of_zero_le (show 0 ≤ k by omega)
    rw [Int.toNat_natCast]
    have hall := setB_all q1
    have HS1 := hide (fun (W : World) (hW : Below w.heap.size w W) (d : ByteArray) (hd : d ∈ ds) => (show Calls Tryz.prog 23 #[.agg #[.slice a1 n1 c1, .int .i64 K], .string d] W fun e w' => ∃ v, e = .returned (.agg #[v, .int .u64 (setN (hld (wt d) bs K) : Nat)]) ∧ OwnR i64E w' W.heap.size v (rk (wt d) bs) ∧ Below W.heap.size W w' from by
      refine (seatingOf_calls a1 n1 c1 bs K d W (h1.below hW) q2 (digB_len71 (hall.2 d hd)) (hK.below hW h0) (by omega) (by omega)).mono ?_
      rintro e w' ⟨v, rfl, ho, hb⟩
      exact ⟨v, by rw [hld_set], ho, hb⟩))
    have HS2 := hide (fun (W : World) (hW : Below w.heap.size w W) (d : ByteArray) (hd : d ∈ ds) => (show Calls Tryz.prog 23 #[.agg #[.slice a2 n2 c2, .int .i64 K], .string d] W fun e w' => ∃ v, e = .returned (.agg #[v, .int .u64 (setN (hld (wt d) zs K) : Nat)]) ∧ Below W.heap.size W w' from by
      refine (seatingOf_calls a2 n2 c2 zs K d W (h2.below hW) q3 (digB_len71 (hall.2 d hd)) (hK.below hW h0) (by omega) (by omega)).mono ?_
      rintro e w' ⟨v, rfl, -, hb⟩
      exact ⟨v, by rw [hld_set], hb⟩))
    have hb50 := okIds_len bs 0 (by decide) q2
    have ha50 := okIds_len zs 0 (by decide) q3
    have hbf := (okIds_facts bs 0 (by decide) q2).2
    have HFA := hide (fun (W : World) (d : ByteArray) (aR : Option Addr) (cR S : Nat) (hr : RowAt i64E W aR (rk (wt d) bs)) => (show Calls Tryz.prog 25 #[.agg #[.slice aR n1 cR, .int .u64 S], .int .u64 (setN (hld (wt d) bs K) : Nat)] W fun e w' => e = .returned (.int .i64 (frm (wt d) bs)) ∧ Below W.heap.size W w' from
      firstAmong_calls aR n1 cR (rk (wt d) bs) (hld (wt d) bs K) S W hr (by rw [rk_len]; exact h1.len) (fun x hx => by have := hbf x ((rk_mem _ _ _).1 hx); omega) (fun x hx => by
        rw [hld_mem]
        cases hr : rk (wt d) bs with
        | nil => rw [hr] at hx; cases hx
        | cons y r =>
          rw [hr] at hx
          obtain rfl : y = x := by simpa using hx
          obtain ⟨K', rfl⟩ : ∃ K', K = K' + 1 := ⟨K - 1, by omega⟩
          simp)))
    have HCT := hide (fun (W : World) (hW : Below w.heap.size w W) (d : ByteArray) (fr : Int) => copiesTo_calls (cmr (wt d) bs zs K) d fr W (cmr_ok _ _ _ _ q3) (by have h5 : (cmr (wt d) bs zs K).length ≤ zs.length := Nat.le_trans (List.length_filter_le _ _) (hld_len _ _ _); omega) (hT.below hW hT.2))
    have HAN := hide (fun (d : ByteArray) => (show bits .andNot .u64 ((setN (hld (wt d) zs K) : Nat) : Int) ((setN (hld (wt d) bs K) : Nat) : Int) = ((setN (cmr (wt d) bs zs K) : Nat) : Int) from by
      have e1 := setN_lt (hld (wt d) zs K)
      have e2 := setN_lt (hld (wt d) bs K)
      rw [u64_andNot_nat _ _ (by omega) (by omega), cmr_set]))
    have HDS := hide (fun (W : World) (hW : Below w.heap.size w W) => hs.below hW)
    have HMV := hide (fun (l : List ByteArray) (hl : l.length ≤ 200) => (show (mvs bs zs K l).length ≤ 10000 from by have := mvs_len bs zs K (by omega) l; omega))
    have HM1 := hide (fun (d : ByteArray) => mv1_len bs zs K d (by omega))
    have HRL := hide (fun (d : ByteArray) => (show (rk (wt d) bs).length = n1 from by rw [rk_len]; exact h1.len))
    have HDN := hide hs.len
    have hd200 := hall.1
    rw [hs.len] at hd200
    clear h1 h2 hs hB q1 q2 q3 q4 hk hall hK hT hb50 ha50 hbf
    go_enter Tryz.func7, Tryz.ntmps7
    go_wp2_with fail
    refine (unhide HD).mono ?_
    rintro e w1 ⟨mv, rfl, hb1⟩
    have HB1 := hide hb1
    clear hb1
    go_wp2_with fail
    refine (unhide HI1 _ (unhide HB1)).mono ?_
    rintro e w2 ⟨rfl, hb2⟩
    obtain ⟨V2, hV2⟩ : ∃ V2, V2 = w2.alloc (.cells #[.slice a1 n1 c1, .int .i64 K] 52) := ⟨_, rfl⟩
    have HB2 := hide (show Below w.heap.size w V2 from by rw [hV2]; exact belOnD (belOnD (unhide HB1) hb2) (bel1D _ _))
    have hl2 : w2.heap.size < V2.heap.size := by rw [hV2]; simp
    have q0 : V2.cell? ⟨w2.heap.size, 0, none⟩ = some (.slice a1 n1 c1) := by rw [hV2]; simp [go_sem]
    have q1 : V2.cell? ⟨w2.heap.size, 1, none⟩ = some (.int .i64 K) := by rw [hV2]; simp [go_sem]
    have HV2 := hide hV2.symm
    clear hb2 hV2
    go_wp2_with fail
    rw [unhide HV2]
    refine (unhide HI2 _ (unhide HB2)).mono ?_
    rintro e w3 ⟨rfl, hb3⟩
    obtain ⟨V3, hV3⟩ : ∃ V3, V3 = w3.alloc (.cells #[.slice a2 n2 c2, .int .i64 K] 52) := ⟨_, rfl⟩
    have hbv : Below V2.heap.size V2 V3 := by rw [hV3]; exact belOnD hb3 (bel1D _ _)
    have HB3 := hide (belOnD (unhide HB2) hbv)
    have hl3 : w3.heap.size < V3.heap.size := by rw [hV3]; simp
    have r0 : V3.cell? ⟨w3.heap.size, 0, none⟩ = some (.slice a2 n2 c2) := by rw [hV3]; simp [go_sem]
    have r1 : V3.cell? ⟨w3.heap.size, 1, none⟩ = some (.int .i64 K) := by rw [hV3]; simp [go_sem]
    have s0 := bclW hbv hl2 q0
    have s1 := bclW hbv hl2 q1
    have hl2' : w2.heap.size < V3.heap.size := Nat.lt_of_lt_of_le hl2 hbv.size
    have HQ1 := hide (fun (W : World) (hW : Below V3.heap.size V3 W) => And.intro (bclW hW hl2' s0) (bclW hW hl2' s1))
    have HQ2 := hide (fun (W : World) (hW : Below V3.heap.size V3 W) => And.intro (bclW hW hl3 r0) (bclW hW hl3 r1))
    have HV3 := hide hV3.symm
    have hz3 := (unhide HB3).size
    clear hb3 hV3 hbv q0 q1 r0 r1 s0 s1 HD HI1 HI2 HB1 HB2
    go_wp2_with fail
    rw [unhide HV3]
    go_loopw [16, 50] (fun s16 s50 wr => ∃ (m : Nat), s50 = .int .i64 m ∧ m ≤ nd ∧ V3.heap.size ≤ wr.heap.size ∧ Hid (OwnR cpyE wr V3.heap.size s16 (mvs bs zs K (ds.take m))) ∧ Hid (Below V3.heap.size V3 wr)) (fun _ s50 _ => nd - (intOf s50).toNat)
    case atStart => exact ⟨0, rfl, by omega, Nat.le_refl _, hide (ownR_nil _ _ _), hide (Below.refl _ _)⟩
    case round =>
      obtain ⟨m, rfl, hm, hz, HO, HB⟩ := hrel
      obtain ⟨a8, c8, hv8⟩ := (unhide HO).form
      have hPl := unhide HMV (ds.take m) (by rw [List.length_take]; have := unhide HDN; omega)
      obtain ⟨np, hnp⟩ : ∃ np, (mvs bs zs K (ds.take m)).length = np := ⟨_, rfl⟩
      rw [hnp] at hv8 hPl
      subst hv8
      have HBW := hide (belOnD (unhide HB3) (unhide HB))
      by_cases hmn : m < nd
      · have hml : m < ds.length := by rw [unhide HDN]; exact hmn
        have HST := hide (mvs_take bs zs K ds m hml)
        obtain ⟨gd, e1, l1, p0, -⟩ := (unhide HDS wr (unhide HBW)).row.str m hml
        have HG1 := hide (unhide HS1 wr (unhide HBW) ds[m] (by simp))
        have HG2 := hide (fun (W : World) (hW : Below w.heap.size w W) => unhide HS2 W hW ds[m] (by simp))
        generalize ds[m] = d at HST p0 HG1 HG2
        have HGF := hide (fun (W : World) (aR : Option Addr) (cR S : Nat) (hr : RowAt i64E W aR (rk (wt d) bs)) => unhide HFA W d aR cR S hr)
        have HGC := hide (fun (W : World) (hW : Below w.heap.size w W) (fr : Int) => unhide HCT W hW d fr)
        have hand := unhide HAN d
        have HRD := hide (unhide HRL d)
        have hm1 := unhide HM1 d
        unfold mv1 at HST hm1
        generalize wt d = f at HST HG1 HG2 HGF HGC hand HRD hm1
        generalize cmr f bs zs K = cm at HST HGC hand hm1
        generalize setN (hld f bs K) = So at HG1 HGF hand
        generalize setN (hld f zs K) = Sn at HG2 hand
        generalize rk f bs = rs at HG1 HGF HRD
        generalize frm f bs = fr at HST HGF hm1
        generalize setN cm = Sc at HGC hand
        rw [List.length_map] at hm1
        generalize mvs bs zs K (ds.take m) = P at HO HST hnp
        have HNP := hide hnp
        obtain ⟨q0, q1⟩ := unhide HQ1 wr (unhide HB)
        subst e1
        have i0 : (0 : Int) ≤ (m : Int) := by omega
        have i1 : (m : Int) < (nd : Int) := by omega
        have HAND := hide hand
        clear hnp hand HBW
        go_wp2_with fail
        refine (unhide HG1).mono ?_
        rintro e w5 ⟨vR, rfl, oR, hb5⟩
        obtain ⟨aR, cR, hvR⟩ := oR.form
        rw [unhide HRD] at hvR
        subst hvR
        obtain ⟨V6, hV6⟩ : ∃ V6, V6 = w5.alloc (.cells #[.slice aR n1 cR, .int .u64 So] 58) := ⟨_, rfl⟩
        have hbv : Below wr.heap.size wr V6 := by rw [hV6]; exact belOnD hb5 (bel1D _ _)
        have HB6 := hide ((unhide HB).trans (hbv.mono hz))
        have HO6 := hide ((unhide HO).keep hbv)
        have HR6 := hide (show RowAt i64E V6 aR rs from by rw [hV6]; exact oR.at.below (bel1D _ _))
        have hz6 : V3.heap.size ≤ V6.heap.size := Nat.le_trans hz hbv.size
        have hl6 : w5.heap.size < V6.heap.size := by rw [hV6]; simp
        have t0 : V6.cell? ⟨w5.heap.size, 0, none⟩ = some (.slice aR n1 cR) := by rw [hV6]; simp [go_sem]
        have t1 : V6.cell? ⟨w5.heap.size, 1, none⟩ = some (.int .u64 So) := by rw [hV6]; simp [go_sem]
        have HT6 := hide (fun (W : World) (hW : Below V6.heap.size V6 W) => And.intro (bclW hW hl6 t0) (bclW hW hl6 t1))
        have T1 := fun (W : World) (hW : Below V6.heap.size V6 W) => bclW hW hl6 t1
        have U0 := fun (W : World) (hW : Below V6.heap.size V6 W) => (unhide HQ2 W ((unhide HB6).trans (hW.mono hz6))).1
        have U1 := fun (W : World) (hW : Below V6.heap.size V6 W) => (unhide HQ2 W ((unhide HB6).trans (hW.mono hz6))).2
        have HG2' := hide (unhide HG2 V6.drew (belOnD (belOnD (unhide HB3) (unhide HB6)) (belDrew (Below.refl _ _))))
        have HBR := hide (Below.refl V6.heap.size V6)
        have hfd := fun v => field_seat v Sn
        have HV6 := hide hV6.symm
        clear oR hb5 hV6 hbv HO HB t0 t1 p0 q0 q1 HG1 HG2
        have hand := unhide HAND
        go_wp2_with fail
        rw [unhide HV6]
        go_region_held3 (fun w' => Below V6.heap.size V6 w') (first | exact belDrewW (unhide HBR) | exact (by assumption)) (first
          | (go_at_call 23; refine (unhide HG2').mono ?_; rintro e w7 ⟨v7, rfl, hb7⟩; have hS7 : Below V6.heap.size V6 w7 := belOnD (belDrew (unhide HBR)) hb7))
        have HB7 := hide (show Below V6.heap.size V6 w7 from belOnD (belDrew (unhide HBR)) hb7)
        have HO7 := hide ((unhide HO6).keep (unhide HB7))
        have HR7 := hide ((unhide HR6).below (unhide HB7))
        obtain ⟨t0, t1⟩ := unhide HT6 w7 (unhide HB7)
        have HB8 := hide ((unhide HB6).trans ((unhide HB7).mono hz6))
        have hz7 : V3.heap.size ≤ w7.heap.size := Nat.le_trans hz6 (unhide HB7).size
        have HGG := hide (unhide HGF w7 aR cR So (unhide HR7))
        have hcl : P.length + cm.length < 100000000 := by have := unhide HNP; omega
        obtain ⟨nc, hnc⟩ : ∃ nc, cm.length = nc := ⟨_, rfl⟩
        have HNC := hide hnc
        clear hb7 HO6 HR6 HT6 HB6 HB7 HR7 HGF T1 U0 U1 HG2' HBR hfd HV6 hand HAND hl6 hnc
        go_wp2_with fail
        refine (unhide HGG).mono ?_
        rintro e w8 ⟨rfl, hb8⟩
        have HB9 := hide ((unhide HB8).trans (hb8.mono hz7))
        have HO8 := hide ((unhide HO7).keep hb8)
        have hz8 : V3.heap.size ≤ w8.heap.size := Nat.le_trans hz7 hb8.size
        have HGD := hide (unhide HGC w8 (belOnD (unhide HB3) (unhide HB9)) fr)
        clear hb8 HO7 HB8 t0 t1 HGG HGC
        go_wp2_with fail
        refine (unhide HGD).mono ?_
        rintro e w9 ⟨v9, rfl, o9, hb9⟩
        obtain ⟨a9, c9, hv9⟩ := o9.form
        rw [List.length_map, unhide HNC] at hv9
        subst hv9
        have HOA := hide ((unhide HO8).keep hb9)
        have HBA := hide ((unhide HB9).trans (hb9.mono hz8))
        have hz9 : V3.heap.size ≤ w9.heap.size := Nat.le_trans hz8 hb9.size
        have HRA := hide o9.at
        have HAD := hide o9.adG
        have HLA := hide (show (cm.map fun x => (⟨d, fr, x⟩ : Cpy)).length = nc from by rw [List.length_map, unhide HNC])
        have hlen : P.length + nc < 100000000 := by rw [← unhide HNC]; exact hcl
        have HLP := hide (show (P ++ cm.map fun x => (⟨d, fr, x⟩ : Cpy)).length = np + nc from by rw [List.length_append, unhide HNP, unhide HLA])
        clear o9 hb9 HO8 HB9 HGD
        go_wp2_with (at_builtin; go_must (refine appGG (e := cpyE) rfl _ _ rfl (unhide HOA) rfl a9 nc c9 rfl (unhide HLA) (unhide HRA) (unhide HAD) hlen hz9 ?_); intro v' wA hownA hbA; obtain ⟨aA, cA, hvA⟩ := hownA.form; rw [unhide HLP] at hvA; subst hvA)
        go_roundw
        case rel => exact ⟨m + 1, by go_num, by omega, Nat.le_trans hz9 hbA.size, hide (by rw [unhide HST]; exact hownA), hide ((unhide HBA).trans hbA)⟩
        case measure => simp [intOf]; omega
      · obtain rfl : m = nd := by omega
        rw [List.take_of_length_le (by rw [unhide HDN]; exact Nat.le_refl _)] at HO
        go_wp2_with fail
        exact bodyPost_ret (v := .tuple #[.slice a8 np c8, .bool true]) (by simp [results, Tryz.results7, go_sem]) rfl ⟨_, rfl, (unhide HO).le hz3, unhide HBW⟩
end Go.Proofs.YtdmkephnpmglkaaGreatDoor

