/- Texts in pieces, by the program. -/
import Derived.Test.YtnkjdojpegmlcaaPcS
import Derived.Test.YtnkjdojpegmlcaaByt
import Derived.Test.YtnkjdojpegmlcaaWfI
import Derived.Test.YtnkjdojpegmlcaaGrw
import Derived.Deep.RegionHeld3
namespace Go.Proofs.Ytnkjdojpegmlcaa
open Go.RowKit Plain
set_option linter.unusedVariables false

/-- Slices of bytes as elements. -/
def slE : Elem (Option Addr × Nat × Nat) where
  E := 22
  S := 51
  n := 1
  bytes := 24
  zero := .slice none 0 0
  enc := fun x => [.slice x.1 x.2.1 x.2.2]
  hund := Try.underlying51
  hinfo := by kernel_rfl
  hz := rfl
  hn := by decide
  hb := by decide
  hlen := fun _ => rfl
  hone := fun x u hu => by simp at hu; subst hu; rfl

theorem stepP {ops : Array Oper} {o : Oper} {a : Act} {K : Act → World → Prop} {Q : Exit → Act → World → Prop} {F : Prop} (hgd : o.guard = none) (s x : Operand)
    (ho : o.op = .call { callee := .builtin .append, args := #[s, x], argTypes := #[22, 22] })
    {w : World} {b : Nat} (hs : a.eval s = .slice (some ⟨b, 0, none⟩) 0 0) (gx ox m c : Nat) (ys : List Int) (hx : a.eval x = .slice (some ⟨gx, ox, none⟩) m c) (hy : ys.length = m) (hm : 0 < m)
    (hc : ∀ j, j < m → w.cell? ⟨gx, ox + j, none⟩ = some (.int .u8 (ys.getD j 0))) (hlen : m ≤ 1048576)
    (h : ∀ v' w', OwnB w' w.heap.size v' ys → Below w.heap.size w w' → K (a.put o.dst v') w') :
    if Region.wanted o (yielded ops a.tmps) = true then Oper.wp Try.prog o a w K Q else F := by
  rw [if_pos (by simp [Region.wanted, hgd])]
  obtain ⟨i0, hi, hz0, hz1, hz2⟩ := info_parts info5
  have hnews : ∀ j u, (ys.map (Value.int .u8))[j]? = some u → w.cell? ((⟨gx, ox, none⟩ : Addr).add j) = some u := by
    intro j u hj
    have hl : j < ys.length := by have := (List.getElem?_eq_some_iff.1 hj).1; simpa using this
    rw [Addr.add_lit, hc j (by omega), ← hj]
    simp [List.getD, List.getElem?_eq_getElem hl]
  obtain ⟨v', w', hr, h1, h2⟩ := run_append_arg_grows (P := Try.prog) w 22 o.type 5 i0 (.int .u8 0) 1 1 Try.underlying22 hi hz0 hz1 hz2 rfl (by decide) ⟨b, 0, none⟩ 0 0 [] rfl (fun j u hj => by simp at hj) ⟨gx, ox, none⟩ m c (ys.map (Value.int .u8)) (by simp [hy]) hnews (by omega) (by unfold maxLen; omega) (by omega)
  unfold Oper.wp execOp
  simp only [ho, resolve, invoke, builtin, Sem.run_bind, Sem.run_pure, Result.andThen_ok, List.map_toArray, List.map_cons, List.map_nil, hs, hx, hr]
  refine h v' w' ?_ ⟨h2.os, h2.tape, h2.output, h2.size, fun k hk => h2.block k hk (by simp)⟩
  unfold OwnB
  rw [hy]
  simpa using h1

set_option maxRecDepth 10000 in
set_option maxHeartbeats 1000000 in
theorem partOf_calls (B g cap n : Nat) (xs : List Int) (w : World) (h : OwnP w B g cap xs) (hn : xs.length = n) (hn2 : n ≤ 1000000) (fr to_ : Nat) (h1 : fr < to_) (h2 : to_ ≤ n) :
    Calls Try.prog 38 #[.slice (some ⟨g, 0, none⟩) n cap, .int .i64 fr, .int .i64 to_] w fun e w' => ∃ v, e = .returned v ∧ OwnB w' w.heap.size v ((xs.drop fr).take (to_ - fr)) ∧ Below w.heap.size w w' := by
  have hcap : n ≤ cap := by rw [← hn]; exact h.2.2.1
  have a1 : to_ ≤ cap := by omega
  have a2 : fr ≤ to_ := by omega
  have a3 : (fr : Int) ≤ (to_ : Int) := by omega
  have a4 : (to_ : Int) ≤ (cap : Int) := by omega
  have hne : ¬ fr = cap := by omega
  have hne' : ¬ cap = fr := by omega
  have hl : ((xs.drop fr).take (to_ - fr)).length = to_ - fr := by rw [List.length_take, List.length_drop]; omega
  have hcell : ∀ j, j < to_ - fr → w.drew.cell? ⟨g, fr + j, none⟩ = some (.int .u8 (((xs.drop fr).take (to_ - fr)).getD j 0)) := by
    intro j hj
    have := h.2.2.2.1 (fr + j) (by omega)
    rw [show w.drew.cell? ⟨g, fr + j, none⟩ = w.cell? ⟨g, fr + j, none⟩ from rfl, this]
    congr 2
    simp [List.getD, hj]
  have HCE := hide hcell
  clear hcell
  go_enter Try.func38, Try.ntmps38
  go_wp2_with fail
  go_region_law (first | (refine stepP rfl (.tmp 8) (.tmp 12) rfl rfl g fr (to_ - fr) (cap - fr) ((xs.drop fr).take (to_ - fr)) rfl hl (by omega) (unhide HCE) (by omega) ?_; intro v w2 hown hb2))
  all_goals (try go_wp2_with fail)
  all_goals (try go_ret)
  all_goals exact ⟨_, rfl, hown, (belDrew (Below.refl _ _)).trans hb2⟩
theorem partOf_at (fi ti : Int) (B g cap n : Nat) (xs : List Int) (w : World) (h : OwnP w B g cap xs) (hn : xs.length = n) (hn2 : n ≤ 1000000) (fr to_ : Nat) (h1 : fr < to_) (h2 : to_ ≤ n) (hf : fi = (fr : Int)) (ht : ti = (to_ : Int)) :
    Calls Try.prog 38 #[.slice (some ⟨g, 0, none⟩) n cap, .int .i64 fi, .int .i64 ti] w fun e w' => ∃ v, e = .returned v ∧ OwnB w' w.heap.size v ((xs.drop fr).take (to_ - fr)) ∧ Below w.heap.size w w' := by
  subst hf ht
  exact partOf_calls B g cap n xs w h hn hn2 fr to_ h1 h2

namespace Plain
/-- A part that lies somewhere. -/
def PtAt (W : World) (x : Option Addr × Nat × Nat) (b : ByteArray) : Prop := OwnB W 0 (.slice x.1 x.2.1 x.2.2) (bL b)
theorem PtAt.keep {W W' : World} {x : Option Addr × Nat × Nat} {b : ByteArray} (h : PtAt W x b) (hb : Below W.heap.size W W') : PtAt W' x b := by
  refine ⟨h.1, ?_⟩
  rcases h.2 with ⟨a, c⟩ | ⟨g, cap, cur, a, c, d, r⟩
  · exact .inl ⟨a, c⟩
  · refine .inr ⟨g, cap, cur, a, c, (hb.block g ?_).trans d, r⟩
    rcases Nat.lt_or_ge g W.heap.size with q | q
    · exact q
    · rw [Array.getElem?_eq_none q] at d; cases d
theorem PtAt.app {w w' : World} {x : Option Addr × Nat × Nat} {b : ByteArray} {B : Nat} {v : Value} {ps : List (Option Addr × Nat × Nat)} {o : Obj} (h : PtAt w x b) (ho : OwnR slE w B v ps) (hg : (w.alloc o).grownBy w' v.ownBlock) : PtAt w' x b := by
  refine ⟨h.1, ?_⟩
  rcases h.2 with ⟨a, c⟩ | ⟨g, cap, cur, a, c, d, r⟩
  · exact .inl ⟨a, c⟩
  · have hl : g < w.heap.size := by
      rcases Nat.lt_or_ge g w.heap.size with q | q
      · exact q
      · rw [Array.getElem?_eq_none q] at d; cases d
    refine .inr ⟨g, cap, cur, a, c, ?_, r⟩
    rw [hg.block g (by simp; omega) ?_, Below.heap_alloc w o g hl]
    · exact d
    · intro q
      rcases ho.2 with ⟨e1, _⟩ | ⟨g2, cap2, cur2, e1, _, d2, _⟩
      · rw [e1] at q; cases q
      · rw [e1] at q
        have : g = g2 := Option.some.inj q
        subst this
        rw [d] at d2
        have := Option.some.inj d2
        injection this with _ e2
        revert e2
        show 5 = 22 → False
        decide
/-- All parts so far. -/
def Pts (W : World) (t : ByteArray) (m : Nat) (ps : List (Option Addr × Nat × Nat)) : Prop := ∀ i (h : i < ps.length), PtAt W ps[i] (pcP t m i)
theorem Pts.keep {W W' : World} {t : ByteArray} {m : Nat} {ps : List (Option Addr × Nat × Nat)} (h : Pts W t m ps) (hb : Below W.heap.size W W') : Pts W' t m ps := fun i hi => (h i hi).keep hb
theorem Pts.app {w w' : World} {t : ByteArray} {m : Nat} {B : Nat} {v : Value} {ps : List (Option Addr × Nat × Nat)} {o : Obj} {y : Option Addr × Nat × Nat} (h : Pts w t m ps) (hy : PtAt w y (pcP t m ps.length)) (ho : OwnR slE w B v ps) (hg : (w.alloc o).grownBy w' v.ownBlock) : Pts w' t m (ps ++ [y]) := by
  intro i hi
  rcases Nat.lt_or_ge i ps.length with q | q
  · rw [List.getElem_append_left q]
    exact (h i q).app ho hg
  · rw [List.length_append, List.length_singleton] at hi
    obtain rfl : i = ps.length := by omega
    rw [List.getElem_append_right (Nat.le_refl _)]
    simpa using hy.app ho hg
end Plain

set_option maxRecDepth 10000 in
set_option maxHeartbeats 2000000 in
theorem inParts_calls (B g cap : Nat) (t : ByteArray) (w : World) (h : OwnP w B g cap (bL t)) (hn2 : t.size ≤ 20000) (m : Nat) (hm1 : 1 ≤ m) (hm2 : m ≤ 4000) :
    Calls Try.prog 28 #[.slice (some ⟨g, 0, none⟩) t.size cap, .int .i64 m] w fun e w' => ∃ v ps, e = .returned v ∧ OwnR slE w' w.heap.size v ps ∧ ps.length = pcN t m ∧ Pts w' t m ps ∧ Below w.heap.size w w' := by
  obtain ⟨n, hn⟩ : ∃ n, t.size = n := ⟨_, rfl⟩
  have hbl := bL_length t
  rw [hn] at hbl hn2 ⊢
  have HBL := hide hbl
  have HTN := hide hn
  have hlt := fun i => pcN_lt t m i hm1
  rw [hn] at hlt
  have HLT := hide hlt
  have hpn : pcN t m ≤ 20000 := pcN_le t m hm1 (by omega)
  have HH := hide h
  have hg := h.2.1
  clear hbl hn hlt h
  go_enter Try.func28, Try.ntmps28
  go_wp2_with fail
  go_loopw [5, 6] (fun o i wr => ∃ (k q : Nat) (ps : List (Option Addr × Nat × Nat)), i = .int .i64 q ∧ q = k * m ∧ k ≤ pcN t m ∧ ps.length = k ∧ Hid (OwnR slE wr w.heap.size o ps) ∧ Hid (Pts wr t m ps) ∧ Hid (Below w.heap.size w wr)) (fun _ i _ => n - (intOf i).toNat)
  case atStart => exact ⟨0, 0, [], rfl, by simp, by omega, rfl, hide (ownR_nil _ _ _), hide (fun i hi => by simp at hi), hide (Below.refl _ _)⟩
  case round =>
    obtain ⟨k, q, ps, rfl, hq, hk, hps, HO, HP, HB⟩ := hrel
    by_cases hkc : k < pcN t m
    · have hlt := (unhide HLT k).1 hkc
      rw [← hq] at hlt
      have HQ := hide hq
      have HKC := hide hkc
      obtain ⟨E, hE⟩ : ∃ E, min (q + m) n = E := ⟨_, rfl⟩
      have hE1 : q < E := by omega
      have hE2 : E ≤ n := by omega
      have hX : ((bL t).drop q).take (E - q) = bL (pcP t m k) := by
        unfold pcP
        rw [← unhide HQ, unhide HTN, hE, bL_part t q E (by rw [unhide HTN]; exact hE2)]
      have HX := hide hX
      have HOP := hide ((unhide HH).keep ((unhide HB).block g hg) (unhide HB).size)
      obtain ⟨a, cp, hf⟩ := (unhide HO).form
      subst hf
      have hlk : ps.length < 100000000 := by omega
      have HPS := hide hps
      clear hX hq hkc hk hps
      go_wp2_with fail
      all_goals
        refine (partOf_at _ _ B g cap n (bL t) wr (unhide HOP) (unhide HBL) (by omega) q E hE1 hE2 (by omega) (by omega)).mono ?_
        rintro e w2 ⟨v2, rfl, ho2, hb2⟩
        rw [unhide HX] at ho2
        obtain ⟨y, hy⟩ : ∃ y : Option Addr × Nat × Nat, v2 = .slice y.1 y.2.1 y.2.2 := by
          rcases ho2.2 with ⟨e1, _⟩ | ⟨g2, c2, cur2, e1, _⟩
          · exact ⟨(none, 0, 0), e1⟩
          · exact ⟨(some ⟨g2, 0, none⟩, _, c2), e1⟩
        subst hy
        have HY := hide (show PtAt w2 y (pcP t m k) from ⟨ho2.1, by
          rcases ho2.2 with e1 | ⟨g2, c2, cur2, e1, _, e3⟩
          · exact .inl e1
          · exact .inr ⟨g2, c2, cur2, e1, Nat.zero_le _, e3⟩⟩)
        have HO2 := hide ((unhide HO).keep hb2)
        have HP2 := hide ((unhide HP).keep hb2)
        have HB2 := hide (belOn (unhide HB) hb2)
        have hBs : w.heap.size ≤ w2.heap.size := (unhide HB2).size
        clear ho2 hb2
        go_wp2_with (at_builtin; go_must (refine appR (e := slE) rfl _ _ rfl (unhide HO2) rfl y rfl _ rfl rfl hlk hBs ?_); intro v' w6 hown6 hb6 hg6)
        go_roundw
        case rel => exact ⟨k + 1, q + m, ps ++ [y], by go_num, by rw [unhide HQ, Nat.add_mul, Nat.one_mul], (unhide HKC), by rw [List.length_append, unhide HPS]; rfl, hide hown6, hide ((unhide HP2).app (by rw [unhide HPS]; exact unhide HY) (unhide HO2) hg6), hide ((unhide HB2).trans hb6)⟩
        case measure => simp [intOf]; omega
    · have hge : ¬ q < n := by
        intro hl
        rw [hq] at hl
        exact hkc ((unhide HLT k).2 hl)
      have hkk : k = pcN t m := by omega
      have hge2 : (n : Int) ≤ (q : Int) := by omega
      have HKK := hide hkk
      have HPS := hide hps
      clear hkc hk hq hge hkk hps
      go_wp2_with fail
      go_ret
      exact ⟨_, ps, rfl, unhide HO, by rw [unhide HPS, unhide HKK], unhide HP, unhide HB⟩
end Go.Proofs.Ytnkjdojpegmlcaa
