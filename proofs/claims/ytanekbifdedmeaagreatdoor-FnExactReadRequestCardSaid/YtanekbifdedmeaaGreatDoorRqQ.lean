/- A query, as the program reads it. -/
import Derived.Test.YtanekbifdedmeaaGreatDoorRqP
import Derived.Test.YtanekbifdedmeaaGreatDoorRqH
import Derived.Test.YtanekbifdedmeaaGreatDoorGAL
namespace Go.Proofs.YtanekbifdedmeaaGreatDoor
open Go.RowKit Plain
set_option linter.unusedVariables false
attribute [local go_sem] Oper.semAt_some

theorem appLQ {α : Type} {e : Elem α} {F : Fence} {n : Nat} {ops : Array Oper} {rest : List Oper} {o : Oper} {a : Act} {Q : Exit → Act → World → Prop} (hgd : o.guard = none) (s x : Operand)
    (ho : o.op = .call { callee := .builtin .append, args := #[s, x], argTypes := #[e.S, e.S] })
    {w : World} {B : Nat} {v : Value} {xs : List α} (hown : OwnR e w B v xs) (hs : a.eval s = v) (y : α) {cs : Array Value} (hcs : cs.toList = e.enc y)
    (gx : Nat) (hx : a.eval x = .slice (some ⟨gx, 0, none⟩) 1 1) (hgx : gx = w.heap.size) (hlen : xs.length < 100000000) (hB : B ≤ w.heap.size)
    (h : ∀ v' w', OwnR e w' B v' (xs ++ [y]) → Below B w w' → (w.alloc (.cells cs e.E)).grownBy w' v.ownBlock → wpListIn F n Tryz.prog ops Q rest (a.put o.dst v') w') :
    wpListIn F n Tryz.prog ops Q (o :: rest) a (w.alloc (.cells cs e.E)) := by
  subst hgx
  obtain ⟨i0, hi, hz0, hz1, hz2⟩ := info_parts e.hinfo
  have ha := World.ownsRow.alloc hown (.cells cs e.E)
  have hnew : (w.alloc (.cells cs e.E)).heap[w.heap.size]? = some (.cells cs e.E) := World.alloc_heap_new _ _
  have hby := e.hb
  refine wpListIn_append_own _ hgd s x e.S ho B e.E i0 e.zero e.n e.bytes e.hund hi hz0 hz1 hz2 e.hz e.hn v xs.length (xs.flatMap e.enc) hs ha
    ⟨w.heap.size, 0, none⟩ 1 1 (e.enc y) hx (by rw [e.hlen, Nat.one_mul]) (by rw [← hcs]; exact World.news_of_block hnew) (e.hone y) (by unfold maxLen; omega) ?_ (by simp; omega) ?_
  · exact Nat.le_trans (Nat.mul_le_mul_left _ hby) (by omega)
  · intro v' w' h1 h2 _
    refine h v' w' ?_ (((Below.refl B w).alloc hB _).trans (own_below ha h2 (by simp; omega))) h2
    unfold OwnR
    rw [List.flatMap_append, List.length_append]
    simpa using h1
namespace Plain
theorem Blk.onlyP {W W' : World} {b : Nat} {vs : List Value} {p : Nat → Prop} (h : Blk W b vs) (ho : OnlyP p W W') (hp : ¬ p b) : Blk W' b vs :=
  ⟨Nat.lt_of_lt_of_le h.lt ho.size, fun i hi => (World.cell?_of_block (a := ⟨b, i, none⟩) (ho.block b h.lt hp)).trans (h.c i hi), fun i hi => (World.frozen?_of_block (a := ⟨b, i, none⟩) (ho.block b h.lt hp)).trans (h.f i hi)⟩
/-- What lies in memory while a query is read. -/
structure QyK (w : World) (B : Nat) (done : List Hd) (v : Value) (X : World) : Prop where
  box : Blk X (w.heap.size + 2) [v]
  r0 : Blk X w.heap.size [.slice none 0 0]
  r1 : Blk X (w.heap.size + 1) [.bool false]
  own : OwnR hdrE X B v done
  bel : Below w.heap.size w X
theorem QyK.keep {w : World} {B : Nat} {done : List Hd} {v : Value} {X X' : World} {p : Nat → Prop} (h : QyK w B done v X) (ho : OnlyP p X X') (hp : ∀ k, p k → w.heap.size + 3 ≤ k) (hv : ∀ g, v.ownBlock = some g → ¬ p g) : QyK w B done v X' :=
  ⟨h.box.onlyP ho fun q => by have := hp _ q; omega, h.r0.onlyP ho fun q => by have := hp _ q; omega, h.r1.onlyP ho fun q => by have := hp _ q; omega,
   own_otherQ h.own fun g hg => ho.block g (World.ownsRow.lt h.own g hg).2 (hv g hg), h.bel.trans (ho.below (B := w.heap.size) (fun g hg => by have := hp g hg; omega) h.bel.size)⟩
theorem QyK.put2 {w : World} {B : Nat} {done : List Hd} {v : Value} {X : World} (h : QyK w B done v X) (hB : w.heap.size + 2 < B) : QyK w B done v ((X.setCell ⟨w.heap.size, 0, none⟩ (.slice none 0 0)).setCell ⟨w.heap.size + 1, 0, none⟩ (.bool false)) :=
  ⟨(h.box.off (i := 0) (g := w.heap.size) (by omega) (.slice none 0 0)).off (i := 0) (g := w.heap.size + 1) (by omega) (.bool false), (h.r0.set 0 (by simp) (.slice none 0 0)).off (i := 0) (g := w.heap.size + 1) (by omega) (.bool false),
   (h.r1.off (i := 0) (g := w.heap.size) (by omega) (.slice none 0 0)).set 0 (by simp) (.bool false), ownsRow_setCell_below (ownsRow_setCell_below h.own (show w.heap.size < B by omega) _) (show w.heap.size + 1 < B by omega) _,
   (h.bel.setCell (p := ⟨w.heap.size, 0, none⟩) (Nat.le_refl _) _).setCell (p := ⟨w.heap.size + 1, 0, none⟩) (Nat.le_succ _) _⟩
theorem QyK.app {w : World} {B : Nat} {done : List Hd} {r : Hd} {v v' : Value} {X X' : World} (h : QyK w B done v X) (hB : w.heap.size + 2 < B) (ho : OwnR hdlE X' B v' (done ++ [r])) (hb : Below B X X') : QyK w B (done ++ [r]) v' (X'.setCell ⟨w.heap.size + 2, 0, none⟩ v') :=
  ⟨(h.box.below hb hB).set 0 (by simp) v', (h.r0.below hb (by omega)).off (i := 0) (g := w.heap.size + 2) (by omega) v', (h.r1.below hb (by omega)).off (i := 0) (g := w.heap.size + 2) (by omega) v',
   ownsRow_setCell_below (show OwnR hdrE X' B v' (done ++ [r]) from ho) (show w.heap.size + 2 < B by omega) _, (h.bel.trans (hb.mono (by omega))).setCell (p := ⟨w.heap.size + 2, 0, none⟩) (by show w.heap.size ≤ w.heap.size + 2; omega) _⟩
theorem QyK.done {w : World} {B : Nat} {done : List Hd} {v : Value} {X : World} {D : Nat} (h : QyK w B done v X) (hB : w.heap.size + 2 < B) (u : Value) (b : Bool) (hd : X.heap[D]? = some (.deferred (some []))) (hD : D = w.heap.size + 6) :
    ((X.setCell ⟨w.heap.size, 0, none⟩ u).setCell ⟨w.heap.size + 1, 0, none⟩ (.bool b)).heap[D]? = some (.deferred (some [])) ∧
    (((X.setCell ⟨w.heap.size, 0, none⟩ u).setCell ⟨w.heap.size + 1, 0, none⟩ (.bool b)).putObj D (.deferred none)).cell? ⟨w.heap.size, 0, none⟩ = some u ∧
    (((X.setCell ⟨w.heap.size, 0, none⟩ u).setCell ⟨w.heap.size + 1, 0, none⟩ (.bool b)).putObj D (.deferred none)).cell? ⟨w.heap.size + 1, 0, none⟩ = some (.bool b) ∧
    OwnR hdrE (((X.setCell ⟨w.heap.size, 0, none⟩ u).setCell ⟨w.heap.size + 1, 0, none⟩ (.bool b)).putObj D (.deferred none)) B v done ∧
    Below w.heap.size w (((X.setCell ⟨w.heap.size, 0, none⟩ u).setCell ⟨w.heap.size + 1, 0, none⟩ (.bool b)).putObj D (.deferred none)) := by
  subst hD
  have h1 := (h.r0.set 0 (by simp) u).off (i := 0) (g := w.heap.size + 1) (by omega) (.bool b)
  have h2 := (h.r1.off (i := 0) (g := w.heap.size) (by omega) u).set 0 (by simp) (.bool b)
  have hd2 : ((X.setCell ⟨w.heap.size, 0, none⟩ u).setCell ⟨w.heap.size + 1, 0, none⟩ (.bool b)).heap[w.heap.size + 6]? = some (.deferred (some [])) := (heap_set2 (by omega)).trans ((heap_set2 (by omega)).trans hd)
  have h3 : OwnR hdrE ((X.setCell ⟨w.heap.size, 0, none⟩ u).setCell ⟨w.heap.size + 1, 0, none⟩ (.bool b)) B v done := ownsRow_setCell_below (ownsRow_setCell_below h.own (show w.heap.size < B by omega) _) (show w.heap.size + 1 < B by omega) _
  have h4 := (h.bel.setCell (p := ⟨w.heap.size, 0, none⟩) (Nat.le_refl _) u).setCell (p := ⟨w.heap.size + 1, 0, none⟩) (Nat.le_succ _) (.bool b)
  have ho := onlyPutQ (l := w.heap.size + 6) (W := ((X.setCell ⟨w.heap.size, 0, none⟩ u).setCell ⟨w.heap.size + 1, 0, none⟩ (.bool b))) (o := .deferred none)
  refine ⟨hd2, (h1.onlyP ho (by omega)).c 0 (by simp), (h2.onlyP ho (by omega)).c 0 (by simp), own_otherQ h3 fun g hg => ?_, h4.trans (ho.below (B := w.heap.size) (fun g hg => by omega) h4.size)⟩
  have hg2 := World.ownsRow.lt h3 g hg
  refine ho.block g hg2.2 fun q => ?_
  subst q
  rcases h3.2 with ⟨e, _⟩ | ⟨g1, cap, cur, e, _, d, _⟩
  · rw [e] at hg
    cases hg
  · rw [e] at hg
    obtain rfl : g1 = w.heap.size + 6 := Option.some.inj hg
    rw [hd2] at d
    cases d
/-- What reading a query answers. -/
def QyAns (B : Nat) (R : Option (List Hd)) (e : Ending) (w' : World) : Prop := match R with
  | none => e = .returned (.tuple #[.slice none 0 0, .bool false])
  | some qs => ∃ a c, e = .returned (.tuple #[.slice a qs.length c, .bool true]) ∧ OwnR hdrE w' B (.slice a qs.length c) qs
end Plain

set_option maxRecDepth 10000 in
set_option maxHeartbeats 4000000 in
theorem readQuery_calls (s : ByteArray) (w : World) (hs : s.size ≤ 2000000) (hv : RrV w) :
    Calls Tryz.prog 116 #[.string s] w fun e w' => QyAns w.heap.size (qryF (splt 38 s.data.toList)) e w' ∧ Below w.heap.size w w' := by
  obtain ⟨Q, hQ⟩ : ∃ Q, qryF (splt 38 s.data.toList) = Q := ⟨_, rfl⟩
  rw [hQ]
  refine (callsIn_wide (n := 3)).1 ?_
  have hro : Fence.wide.round = none := rfl
  refine callsIn_of_wp_marks Tryz.func116 rfl trivial ?_ hro
  simp only [Tryz.ntmps116, List.size_toArray, List.length_cons, List.length_nil, Nat.reduceAdd, Nat.reduceSub, Array.replicate_succ, Array.replicate_zero, List.push_toArray, List.append_toArray, List.nil_append, List.cons_append]
  gi_wp2_with (first
    | (refine ⟨trivial, ?_⟩; gi_at_call 135; refine ((callsIn_wide (n := 2)).2 (splitSeq_calls s _)).mono ?_; rintro e w4 ⟨rfl, hsq, hb4, hz4⟩)
    | gi_in)
  obtain ⟨W3, hW3⟩ : ∃ W3, W3 = ((w.alloc (.cells #[.slice none 0 0] 52)).alloc (.cells #[.bool false] 4)).alloc (.cells #[.slice none 0 0] 52) := ⟨_, rfl⟩
  rw [← hW3] at hsq hb4 hz4
  have hz3 : W3.heap.size = w.heap.size + 3 := by rw [hW3]; simp
  have hb3 : Below w.heap.size w W3 := by rw [hW3]; exact belOn (belOn (bel1 _ _) (bel1 _ _)) (bel1 _ _)
  have hB0 : Blk W3 w.heap.size [.slice none 0 0] := by rw [hW3]; exact ((Blk.new w _ _).alloc _).alloc _
  have hB1 : Blk W3 (w.heap.size + 1) [.bool false] := by
    have hn := Blk.new (w.alloc (.cells #[.slice none 0 0] 52)) [.bool false] 4
    rw [show (w.alloc (.cells #[.slice none 0 0] 52)).heap.size = w.heap.size + 1 from by simp] at hn
    rw [hW3]
    exact hn.alloc _
  have hB2 : Blk W3 (w.heap.size + 2) [.slice none 0 0] := by
    have hn := Blk.new ((w.alloc (.cells #[.slice none 0 0] 52)).alloc (.cells #[.bool false] 4)) [.slice none 0 0] 52
    rw [show ((w.alloc (.cells #[.slice none 0 0] 52)).alloc (.cells #[.bool false] 4)).heap.size = w.heap.size + 2 from by simp] at hn
    rw [hW3]
    exact hn
  have hb34 := belOn hb3 hb4
  have hv4 := hv.below hb34
  have hq4 : QyK w (w4.heap.size + 2) [] (.slice none 0 0) w4 := ⟨hB2.call hb4, hB0.call hb4, hB1.call hb4, ownR_nil _ _ _, hb34⟩
  rw [hz3] at hsq
  clear hW3 hB0 hB1 hB2 hb3 hb4
  have hz6 : w4.heap.size = w.heap.size + 6 := by omega
  clear hz4 hz3
  have hsz : ∀ y ∈ splt 38 s.data.toList, y.length ≤ s.size := fun y hy => by have := splt_size 38 s.data.toList y hy; rw [len_dataR] at this; exact this
  have hln : (splt 38 s.data.toList).length ≤ s.size + 1 := by have := splt_len 38 s.data.toList; rw [len_dataR] at this; exact this
  refine range_seq s (w.heap.size + 3) (w.heap.size + 3 + 1) (w.heap.size + 3 + 2) (by omega) (by omega) hsq hs rfl rfl
    (fun r X => ∃ done v, done.length + r.length ≤ s.size + 1 ∧ (∀ y ∈ r, y.length ≤ s.size) ∧ qryA done r = Q ∧ QyK w (w4.heap.size + 2) done v X)
    (fun X => Q = none ∧ ∃ done v, QyK w (w4.heap.size + 2) done v X)
    ?_ ?_ ?_ ?_ ?round ?done ?stop
  · rintro r X ⟨done, v, _, _, _, h⟩
    exact hv.below h.bel
  · rintro r X X' ⟨done, v, h1, h2, h3, h⟩ ho
    refine ⟨done, v, h1, h2, h3, h.keep ho (fun k hk => by omega) (fun g hg q => ?_)⟩
    have := (World.ownsRow.lt h.own g hg).1
    omega
  · rintro X X' ⟨h1, done, v, h⟩ ho
    refine ⟨h1, done, v, h.keep ho (fun k hk => by omega) (fun g hg q => ?_)⟩
    have := (World.ownsRow.lt h.own g hg).1
    omega
  · intro X hb hz
    refine ⟨[], .slice none 0 0, by simpa using hln, hsz, by rw [qryA_start, hQ], ?_⟩
    exact hq4.keep (p := fun _ => False) (OnlyP.of hb) (fun _ h => h.elim) (fun _ _ h => h.elim)
  case round =>
    rintro x r X ⟨done, v, hdl, hsz2, hqa, hK⟩ hzX
    have hxz := hsz2 x (by simp)
    have hsz3 : ∀ y ∈ r, y.length ≤ s.size := fun y hy => hsz2 y (List.mem_cons_of_mem _ hy)
    gi_wp2
    refine ⟨Below.refl _ _, fun w2 ho2 ⟨rr, hl2⟩ hd2 => ?_⟩
    have hK2 := hK.keep ho2 (fun k hk => by omega) (fun g hg q => by have := (World.ownsRow.lt hK.own g hg).1; omega)
    have hs3 : ∀ k, k = w.heap.size + 3 ∨ k = w.heap.size + 3 + 1 ∨ k = w.heap.size + 3 + 2 → w2.heap[k]? = X.heap[k]? := fun k hk => ho2.block k (by omega) (by show ¬ (k = w4.heap.size + 1); omega)
    have hz2 : w4.heap.size + 2 ≤ w2.heap.size := Nat.le_trans hzX ho2.size
    have hbz : (bU x).size ≤ 2000000 := by rw [bU_size]; omega
    rcases ix_room [61] x with q | ⟨K, q, hKx⟩
    · have HCT := hide (CallsIn.inRound (w4.heap.size + 1) ((callsIn_wide (n := 0)).2 ((cutS_none (bU x) ⟨#[61]⟩ w2 hbz (hv.below hK2.bel) (by rw [bU_data]; exact q)).mono fun e w' ⟨h1, k, h2⟩ => And.intro h1 (show Below w2.heap.size w2 w' from by rw [h2]; exact belDrewK (Below.refl _ _) k))))
      rw [qryA_no q] at hqa
      have HK2 := hide hK2
      clear hK2 hK ho2 hsq q
      gi_wp2_with (first
        | (refine ⟨trivial, ?_⟩; gi_at_call 94; refine (unhide HCT).mono ?_; rintro e w5 ⟨rfl, hb5⟩; have HK5 := hide ((unhide HK2).keep (p := fun _ => False) (OnlyP.of hb5) (fun _ h => h.elim) (fun _ _ h => h.elim)); have r0 := (unhide HK5).r0.c 0 (by simp); have y0 := (unhide HK5).r0.f 0 (by simp); have r1 := (unhide HK5).r1.c 0 (by simp); have y1 := (unhide HK5).r1.f 0 (by simp); simp only [List.getElem_cons_zero] at r0 r1)
        | gi_in)
      have hb6 : ∀ k, k < w2.heap.size → k ≠ w.heap.size → k ≠ w.heap.size + 1 → ((w5.setCell ⟨w.heap.size, 0, none⟩ (.slice none 0 0)).setCell ⟨w.heap.size + 1, 0, none⟩ (.bool false)).heap[k]? = w2.heap[k]? := fun k hk h1 h2 => (heap_set2 (fun e => h2 e.symm)).trans ((heap_set2 (fun e => h1 e.symm)).trans (hb5.block k hk))
      exact ⟨⟨hb6 _ (by omega) (by omega) (by omega), hb6 _ (by omega) (by omega) (by omega)⟩, hqa.symm, done, v, (unhide HK5).put2 (by omega)⟩
    · have hKb : K + 1 ≤ x.length := hKx
      have e1 : (bU x).extract 0 K = bU (x.take K) := bU_of (by rw [extR_take, bU_data])
      have e2 : (bU x).extract (K + 1) (bU x).size = bU (x.drop (K + 1)) := bU_of (by rw [ext_drop, bU_data])
      have hct := cutS_yes (bU x) ⟨#[61]⟩ K w2 hbz (hv.below hK2.bel) (by rw [bU_data]; exact q)
      rw [show (⟨#[61]⟩ : ByteArray).size = 1 from rfl, e1, e2] at hct
      have HCT := hide (CallsIn.inRound (w4.heap.size + 1) ((callsIn_wide (n := 0)).2 (hct.mono fun e w' ⟨h1, k, h2⟩ => And.intro h1 (show Below w2.heap.size w2 w' from by rw [h2]; exact belDrewK (Below.refl _ _) k))))
      rw [qryA_yes q] at hqa
      generalize bU (x.take K) = nm at HCT hqa
      generalize bU (x.drop (K + 1)) = vl at HCT hqa
      have HK2 := hide hK2
      have hlen : done.length < 100000000 := by omega
      obtain ⟨L, hL⟩ : ∃ L, (done ++ [(nm, vl)]).length = L := ⟨_, rfl⟩
      have HLQ := hide hL
      have HQA := hide hqa
      have hdl2 : (done ++ [(nm, vl)]).length + r.length ≤ s.size + 1 := by
        rw [List.length_append, List.length_singleton]
        rw [List.length_cons] at hdl
        omega
      have HDL := hide hdl2
      obtain ⟨av, cv, hvf⟩ := hK2.own.form
      clear hK2 hK ho2 hsq q hct e1 e2 hL hqa hdl2 hKb hKx
      subst hvf
      gi_wp2_with (first
        | (refine ⟨trivial, ?_⟩; gi_at_call 94; refine (unhide HCT).mono ?_; rintro e w5 ⟨rfl, hb5⟩; have HK5 := hide ((unhide HK2).keep (p := fun _ => False) (OnlyP.of hb5) (fun _ h => h.elim) (fun _ _ h => h.elim)); have r0 := (unhide HK5).box.c 0 (by simp); have y0 := (unhide HK5).box.f 0 (by simp); simp only [List.getElem_cons_zero] at r0; have hz5 : w4.heap.size + 2 ≤ w5.heap.size := Nat.le_trans hz2 hb5.size; have HB5 := hide hb5; clear hb5)
        | (gi_at_builtin; refine appLQ (e := hdlE) rfl (.tmp 20) (.tmp 24) rfl (unhide HK5).own rfl (nm, vl) rfl _ rfl rfl hlen hz5 ?_; intro v6 w6 hown6 hb6 hg6; obtain ⟨a6, c6, hv6⟩ := hown6.form; rw [unhide HLQ] at hv6; subst hv6; have r6 := bcl hb6 (show w.heap.size + 2 < w4.heap.size + 2 by omega) r0; have y6 : w6.frozen? ⟨w.heap.size + 2, 0, none⟩ = false := (hb6.frozen (p := ⟨w.heap.size + 2, 0, none⟩) (show w.heap.size + 2 < w4.heap.size + 2 by omega)).trans y0)
        | gi_in)
      have h25 := unhide HB5
      have hb7 : ∀ k, k < w4.heap.size + 2 → k ≠ w.heap.size + 2 → (w6.setCell ⟨w.heap.size + 2, 0, none⟩ (.slice a6 L c6)).heap[k]? = w2.heap[k]? := fun k hk h2 => (heap_set2 (fun e => h2 e.symm)).trans ((hb6.block k hk).trans (h25.block k (by omega)))
      exact ⟨⟨hb7 _ (by omega) (by omega), hb7 _ (by omega) (by omega), fun k hk => (hb7 k (by omega) (by omega)).trans (hs3 k hk)⟩, done ++ [(nm, vl)], _, unhide HDL, hsz3, unhide HQA, (unhide HK5).app (by omega) hown6 hb6⟩
  case done =>
    rintro X ⟨done, v, hdl, _, hqa, hK⟩ hdef
    rw [qryA_nil] at hqa
    obtain ⟨av, cv, hvf⟩ := hK.own.form
    obtain ⟨L, hL⟩ : ∃ L, done.length = L := ⟨_, rfl⟩
    rw [hL] at hvf
    subst hvf
    have HK := hide hK
    have HQA := hide hqa
    have HL := hide hL
    have b0 := hK.box.c 0 (by simp)
    have r0 := hK.r0.c 0 (by simp)
    have r1 := hK.r1.c 0 (by simp)
    have y0 := hK.r0.f 0 (by simp)
    have y1 := hK.r1.f 0 (by simp)
    simp only [List.getElem_cons_zero] at b0 r0 r1
    clear hK hqa hL hsq
    gi_wp2
    obtain ⟨d1, d2, d3, d4, d5⟩ := (unhide HK).done (by omega) (.slice av L cv) true hdef hz6
    refine ⟨by simp, .inl ⟨_, _, rfl, run_takeDeferred d1, ?_⟩⟩
    refine ⟨.tuple #[.slice av L cv, .bool true], ?_, ?_, d5⟩
    · simp [results, Tryz.results116, go_sem, d2, d3]
    · rw [← unhide HQA]
      have hL := unhide HL
      subst hL
      exact ⟨av, cv, rfl, own_lowQ d4 (by omega)⟩
  case stop =>
    rintro X ⟨hqn, done, v, hK⟩ hdef
    have HK := hide hK
    clear hK hsq
    gi_wp2
    have ho := onlyPutQ (l := w4.heap.size) (W := X) (o := .deferred none)
    have d2 := ((unhide HK).r0.onlyP ho (by omega)).c 0 (by simp)
    have d3 := ((unhide HK).r1.onlyP ho (by omega)).c 0 (by simp)
    simp only [List.getElem_cons_zero] at d2 d3
    refine ⟨by simp, .inl ⟨_, _, rfl, run_takeDeferred hdef, ?_⟩⟩
    refine ⟨.tuple #[.slice none 0 0, .bool false], ?_, ?_, (unhide HK).bel.trans (ho.below (B := w.heap.size) (fun g hg => by omega) (unhide HK).bel.size)⟩
    · simp [results, Tryz.results116, go_sem, d2, d3]
    · rw [hqn]
      exact rfl
end Go.Proofs.YtanekbifdedmeaaGreatDoor
