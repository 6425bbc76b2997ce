/- Rows of numbers in a drawing, and members in a block of their own. -/
import Derived.Test.YtmokpgmehaakgaaGreatDoorDzA
import Derived.Test.YtmokpgmehaakgaaGreatDoorConJ
import Derived.Test.YtmokpgmehaakgaaGreatDoorCbx
import Derived.Laws.Rows
import Derived.OneCell
import Derived.Deep.RegionLaw
namespace Go.Proofs.YtmokpgmehaakgaaGreatDoor
open Go.RowKit Plain
set_option linter.unusedVariables false

theorem stepG {α : Type} {e : Elem α} {ops : Array Oper} {o : Oper} {a : Act} {K : Act → World → Prop} {Q : Exit → Act → World → Prop} {F : Prop} (hgd : o.guard = none) (s x : Operand)
    (ho : o.op = .call { callee := .builtin .append, args := #[s, x], argTypes := #[e.S, e.S] })
    {w : World} {B : Nat} {v : Value} {xs : List α} (hown : OwnR e w B v xs) (hs : a.eval s = v) (y : α) {cs : Array Value} (hcs : cs.toList = e.enc y)
    (gx : Nat) (hx : a.eval x = .slice (some ⟨gx, 0, none⟩) 1 1) (hgx : gx = w.heap.size) (hlen : xs.length < 100000000) (hB : B ≤ w.heap.size)
    (h : ∀ v' w', OwnR e w' B v' (xs ++ [y]) → Below B w w' → (w.alloc (.cells cs e.E)).grownBy w' v.ownBlock → K (a.put o.dst v') w') :
    if Region.wanted o (yielded ops a.tmps) = true then Oper.wp Tryz.prog o a (w.alloc (.cells cs e.E)) K Q else F := by
  subst hgx
  rw [if_pos (by simp [Region.wanted, hgd])]
  obtain ⟨i0, hi, hz0, hz1, hz2⟩ := info_parts e.hinfo
  have ha := World.ownsRow.alloc hown (.cells cs e.E)
  have hnew : (w.alloc (.cells cs e.E)).heap[w.heap.size]? = some (.cells cs e.E) := (MapKept.heap_alloc w _).1
  have hby := e.hb
  refine wp_append_own _ s x e.S ho B e.E i0 e.zero e.n e.bytes e.hund hi hz0 hz1 hz2 e.hz e.hn v xs.length (xs.flatMap e.enc) hs ha
    ⟨w.heap.size, 0, none⟩ 1 1 (e.enc y) hx (by rw [e.hlen, Nat.one_mul]) (by rw [← hcs]; exact World.news_of_block hnew) (e.hone y) (by unfold maxLen; omega) ?_ (by simp; omega) ?_
  · exact Nat.le_trans (Nat.mul_le_mul_left _ hby) (by omega)
  · intro v' w' h1 h2 _
    refine h v' w' ?_ (((Below.refl B w).alloc hB _).trans (own_below ha h2 (by simp; omega))) h2
    unfold OwnR
    rw [List.flatMap_append, List.length_append]
    simpa using h1
theorem OwnR.onl {α : Type} {e : Elem α} {W w' : World} {B : Nat} {v : Value} {xs : List α} {q : Addr} (h : OwnR e W B v xs) (ho : OnlyAt q W w') (hq : q.block < B) : OwnR e w' B v xs := by
  have hlt := h.lt
  refine ⟨h.1, ?_⟩
  rcases h.2 with ⟨a, c⟩ | ⟨g, cap, cur, rfl, c, d, r⟩
  · exact .inl ⟨a, c⟩
  · exact .inr ⟨g, cap, cur, rfl, c, (ho.block g (hlt g rfl) (by omega)).trans d, r⟩
theorem OwnR.grO {α : Type} {e : Elem α} {W w' : World} {B : Nat} {v : Value} {xs : List α} {row : Option Nat} (h : OwnR e W B v xs) (hg : W.grownBy w' row) (hne : ∀ g, v.ownBlock = some g → some g ≠ row) : OwnR e w' B v xs := by
  have hlt := h.lt
  refine ⟨h.1, ?_⟩
  rcases h.2 with ⟨a, c⟩ | ⟨g, cap, cur, rfl, c, d, r⟩
  · exact .inl ⟨a, c⟩
  · exact .inr ⟨g, cap, cur, rfl, c, (hg.block g (hlt g rfl) (hne g rfl)).trans d, r⟩
theorem OwnR.setN {α : Type} {e : Elem α} {W : World} {B : Nat} {v : Value} {xs : List α} {b i : Nat} {u : Value} (h : OwnR e W B v xs) (hne : ∀ g, v.ownBlock = some g → g ≠ b) : OwnR e (W.setCell ⟨b, i, none⟩ u) B v xs := ownsRow_setCell_other h (fun e => hne _ e rfl) u
theorem OwnR.geB {α : Type} {e : Elem α} {W : World} {B : Nat} {v : Value} {xs : List α} (h : OwnR e W B v xs) : ∀ g, v.ownBlock = some g → B ≤ g ∧ g < W.heap.size := fun g hg => World.ownsRow.lt h g hg

namespace Plain
/-- Block M is that of members. -/
theorem CB.only {M R : Nat} {v l : Value} {w w' : World} (h : CB M v l w) (ho : OnlyAt ⟨R, 1, none⟩ w w') (hne : M ≠ R) : CB M v l w' := (ho.block M h.lt hne).trans h
theorem CB.grown {M : Nat} {v l : Value} {w w' : World} {row : Option Nat} (h : CB M v l w) (hg : w.grownBy w' row) (hne : some M ≠ row) : CB M v l w' := (hg.block M h.lt hne).trans h
theorem CB.alloc {M : Nat} {v l : Value} {w : World} (h : CB M v l w) (o : Obj) : CB M v l (w.alloc o) := ((bel1 w o).block M h.lt).trans h
theorem CB.ne {M B : Nat} {x y v : Value} {w : World} {xs : List Int} (hm : CB M x y w) (h : OwnR i64E w B v xs) : ∀ g, v.ownBlock = some g → g ≠ M := by
  intro g' e
  rcases h.2 with ⟨e1, _⟩ | ⟨g, cap, cur, e1, hb, hc, _⟩
  · rw [e1] at e; simp [Value.ownBlock] at e
  · rw [e1] at e
    have : g = g' := by simpa [Value.ownBlock] using e
    subst this
    rintro rfl
    rw [hm] at hc
    simp [i64E] at hc
end Plain

/-- What the drawing of members leaves: two lists of the call's own, apart. -/
def ConPost (R : Nat) (a : Option Addr) (len cap : Nat) (zs : List Int) (w : World) (e : Ending) (w' : World) : Prop := ∃ (av : Option Addr) (cv : Nat) (v : List Int) (al : Option Addr) (cl : Nat) (l : List Int), e = .returned (.agg #[.slice av v.length cv, .slice al l.length cl]) ∧ Hid (OwnR i64E w' w.heap.size (.slice av v.length cv) v ∧ OwnR i64E w' w.heap.size (.slice al l.length cl) l ∧ ∀ g, (Value.slice av v.length cv).ownBlock = some g → (Value.slice al l.length cl).ownBlock ≠ some g) ∧ v.length ≤ 10 ∧ l.length ≤ 10 ∧ Rd w' R a len cap zs ∧ OnlyAt ⟨R, 1, none⟩ w w'

set_option maxRecDepth 10000 in
set_option maxHeartbeats 4000000 in
theorem conf_calls (R : Nat) (a : Option Addr) (len cap : Nat) (zs : List Int) (w : World) (h : Rd w R a len cap zs) :
    Calls Tryz.prog 37 #[.pointer (some ⟨R, 0, none⟩)] w (ConPost R a len cap zs w) := by
  have hR := h.lt
  obtain ⟨W1, hW1⟩ : ∃ W1, W1 = (w.alloc (.cells #[.slice none 0 0, .slice none 0 0] 26)).alloc (.cells #[.slice none 0 0, .slice none 0 0] 26) := ⟨_, rfl⟩
  have H := hide (show DS w R a len cap zs W1 from by rw [hW1]; exact ((DS.start h).alloc _).alloc _)
  have HZ := hide (show CB w.heap.size (.slice none 0 0) (.slice none 0 0) W1 from by rw [hW1]; exact (CB.new w _ _).alloc _)
  have HS := hide (show CB (w.heap.size + 1) (.slice none 0 0) (.slice none 0 0) W1 from by rw [hW1, show w.heap.size + 1 = (w.alloc (.cells #[.slice none 0 0, .slice none 0 0] 26)).heap.size from by simp]; exact CB.new _ _ _)
  have HW1 := hide hW1.symm
  clear h hW1
  go_enter Tryz.func37, Tryz.ntmps37
  go_wp2_with fail
  rw [unhide HW1]
  refine (below_calls R a len cap zs 5 _ (unhide H).rd (by omega) (by omega)).mono ?_
  rintro e w2 ⟨u, rfl, hu0, hu1, hR2, ho2⟩
  obtain ⟨U, rfl⟩ := Int.eq_ofNat_of_zero_le hu0
  have HD2 := hide ((unhide H).call hR2 ho2)
  have HZ2 := hide ((unhide HZ).only ho2 (by omega))
  have HS2 := hide ((unhide HS).only ho2 (by omega))
  clear hR2 ho2 H HZ HS
  go_wp2_with fail
  refine (once_calls R a len cap zs 12 _ (unhide HD2).rd (by omega) (by omega)).mono ?_
  rintro e w3 ⟨b, rfl, hR3, ho3⟩
  have HD3 := hide ((unhide HD2).call hR3 ho3)
  have HZ3 := hide ((unhide HZ2).only ho3 (by omega))
  have HS3 := hide ((unhide HS2).only ho3 (by omega))
  clear hR3 ho3 HD2 HZ2 HS2
  cases b with
  | false =>
    obtain ⟨N, hN, hN1, hN7⟩ : ∃ N : Nat, 1 + (U : Int) = (N : Int) ∧ 1 ≤ N ∧ N ≤ 7 := ⟨U + 1, by omega, by omega, by omega⟩
    rw [hN]
    clear hN hu0 hu1
    go_wp2_with fail
    go_loopw [5] (fun s5 wr => ∃ (k : Nat) (vv : Value) (ds : List Int), s5 = .int .i64 ((k + 1 : Nat) : Int) ∧ k ≤ N ∧ ds.length = k ∧ Hid (DS w R a len cap zs wr) ∧ Hid (CB w.heap.size (.slice none 0 0) (.slice none 0 0) wr) ∧ Hid (CB (w.heap.size + 1) vv (.slice none 0 0) wr) ∧ Hid (OwnR i64E wr (w.heap.size + 2) vv ds)) (fun s5 _ => N + 1 - (intOf s5).toNat)
    case atStart => exact ⟨0, .slice none 0 0, [], rfl, by omega, rfl, HD3, HZ3, HS3, hide (ownR_nil _ _ _)⟩
    case round =>
      clear HD3 HZ3 HS3
      obtain ⟨k, vv, ds, rfl, hk, hds, HDr, HZr, HSr, HO⟩ := hrel
      obtain ⟨av, cv, hv⟩ := (unhide HO).form
      subst hv
      rw [hds] at HO HSr
      by_cases hkN : k < N
      · have hle : ((k + 1 : Nat) : Int) ≤ (N : Int) := by omega
        have s0 := (unhide HSr).c0
        have hz : w.heap.size + 2 ≤ wr.heap.size := by have := (unhide HSr).lt; omega
        have HNE := hide ((unhide HSr).ne (unhide HO))
        have hlen : ds.length < 100000000 := by omega
        obtain ⟨x, hx⟩ : ∃ x : Int, ((k + 1 : Nat) : Int) = x := ⟨_, rfl⟩
        rw [hx] at hle ⊢
        have hx1 : IntKind.i64.wrap (x + 1) = x + 1 := by rw [IntKind.wrap_i64]; omega
        go_wp2_with (at_builtin; go_must (refine appR (e := i64E) rfl _ _ rfl (unhide HO) rfl x rfl _ rfl rfl hlen hz ?_); intro v' w6 hown6 hb6 hg6; obtain ⟨av', cv', hv'⟩ := hown6.form; subst hv'; rw [show (ds ++ [x]).length = k + 1 from by simp [hds]] at hown6; have HS6 := hide (((unhide HSr).alloc _).grown hg6 (fun q => unhide HNE _ q.symm rfl)); have z0 := (unhide HS6).c0; have zf := (unhide HS6).f0)
        go_roundw
        case rel => exact ⟨k + 1, .slice av' (k + 1) cv', ds ++ [x], by rw [← hx]; go_num, by omega, by simp [hds], hide (((unhide HDr).belowB hb6 (by omega) (by omega)).set (b := w.heap.size + 1) (i := 0) hR (by omega) _), hide (((unhide HZr).below hb6 (by omega)).far (by omega) _), hide ((unhide HS6).set0 _), hide (hown6.setN ((unhide HS6).ne hown6))⟩
        case measure => simp [intOf]; omega
      · obtain rfl : k = N := by omega
        have hle : ¬ ((k + 1 : Nat) : Int) ≤ (k : Int) := by omega
        have hx1 : IntKind.i64.wrap ((k : Int) + 1) = ((k + 1 : Nat) : Int) := by rw [IntKind.wrap_i64]; omega
        have HLT := hide (unhide HO).lt
        obtain ⟨wE, hwE⟩ : ∃ wE : World, wE = wr := ⟨_, rfl⟩
        rw [← hwE] at HLT
        have hzE : w.heap.size + 2 ≤ wE.heap.size := by rw [hwE]; have := (unhide HSr).lt; omega
        have hzr : wE.heap.size ≤ wr.heap.size := by rw [hwE]; exact Nat.le_refl _
        clear hwE
        go_wp2_with fail
        go_loopw [6] (fun s6 wq => ∃ (j : Nat) (vl : Value) (es : List Int), s6 = .int .i64 ((k + 1 + j : Nat) : Int) ∧ j ≤ 3 ∧ es.length = j ∧ wE.heap.size ≤ wq.heap.size ∧ Hid (DS w R a len cap zs wq) ∧ Hid (CB w.heap.size (.slice none 0 0) (.slice none 0 0) wq) ∧ Hid (CB (w.heap.size + 1) (.slice av k cv) vl wq) ∧ Hid (OwnR i64E wq (w.heap.size + 2) (.slice av k cv) ds) ∧ Hid (OwnR i64E wq wE.heap.size vl es)) (fun s6 _ => k + 5 - (intOf s6).toNat)
        case atStart => exact ⟨0, .slice none 0 0, [], by simp, by omega, rfl, hzr, HDr, HZr, HSr, HO, hide (ownR_nil _ _ _)⟩
        case round =>
          clear HDr HZr HSr HO hzr
          obtain ⟨j, vl, es, rfl, hj, hes, hzq, HDq, HZq, HSq, HOv, HOl⟩ := hrel
          obtain ⟨al, cl, hv⟩ := (unhide HOl).form
          subst hv
          rw [hes] at HOl HSq
          go_wp2_with fail
          refine (below_calls R a len cap zs 3 _ (unhide HDq).rd (by omega) (by omega)).mono ?_
          rintro e w4 ⟨b, rfl, hb0, hb1, hR4, ho4⟩
          have HD4 := hide ((unhide HDq).call hR4 ho4)
          have HZ4 := hide ((unhide HZq).only ho4 (by omega))
          have HS4 := hide ((unhide HSq).only ho4 (by omega))
          have HV4 := hide ((unhide HOv).onl ho4 (by simp; omega))
          have HL4 := hide ((unhide HOl).onl ho4 (by simp; omega))
          have hz4 : wE.heap.size ≤ w4.heap.size := Nat.le_trans hzq ho4.size
          clear hR4 ho4 HDq HZq HSq HOv HOl
          obtain ⟨y, hy⟩ : ∃ y : Int, ((k + 1 + j : Nat) : Int) = y := ⟨_, rfl⟩
          rw [hy]
          have hsb : IntKind.i64.wrap ((k : Int) + b) = (k : Int) + b := by rw [IntKind.wrap_i64]; omega
          by_cases hyb : y ≤ (k : Int) + b
          · have s1 := (unhide HS4).c1
            have HNE := hide ((unhide HS4).ne (unhide HL4))
            have hlen : es.length < 100000000 := by omega
            have hy1 : IntKind.i64.wrap (y + 1) = y + 1 := by rw [IntKind.wrap_i64]; omega
            go_wp2_with (at_builtin; go_must (refine appR (e := i64E) rfl _ _ rfl (unhide HL4) rfl y rfl _ rfl rfl hlen hz4 ?_); intro v' w6 hown6 hb6 hg6; obtain ⟨al', cl', hv'⟩ := hown6.form; subst hv'; rw [show (es ++ [y]).length = j + 1 from by simp [hes]] at hown6; have HS6 := hide (((unhide HS4).alloc _).grown hg6 (fun q => unhide HNE _ q.symm rfl)); have z1 := (unhide HS6).c1; have zf := (unhide HS6).f1)
            go_roundw
            case rel => exact ⟨j + 1, .slice al' (j + 1) cl', es ++ [y], by rw [show ((k + 1 + (j + 1) : Nat) : Int) = y + 1 from by omega], by omega, by simp [hes], by have := hb6.size; simp; omega, hide (((unhide HD4).belowB hb6 (by omega) (by omega)).set (b := w.heap.size + 1) (i := 1) hR (by omega) _), hide (((unhide HZ4).below hb6 (by omega)).far (by omega) _), hide ((unhide HS6).set1 _), hide (((unhide HV4).below hb6 (fun g hg => unhide HLT g hg)).setN (fun g hg => by have := ((unhide HV4).geB g hg).1; omega)), hide (hown6.setN (fun g hg => by have := (hown6.geB g hg).1; omega))⟩
            case measure => simp [intOf]; omega
          · obtain ⟨s0, s1⟩ := And.intro (unhide HS4).c0 (unhide HS4).c1
            obtain ⟨q0, q1⟩ := And.intro (unhide HZ4).c0 (unhide HZ4).c1
            obtain ⟨g0, g1⟩ := And.intro (unhide HZ4).f0 (unhide HZ4).f1
            have qlt := (unhide HZ4).lt
            go_wp2_with fail
            have hfin := ((unhide HD4).set (b := w.heap.size) (i := 0) hR (Nat.le_refl _) (.slice av k cv)).set (b := w.heap.size) (i := 1) hR (Nat.le_refl _) (.slice al j cl)
            have hV := (((unhide HV4).setN (b := w.heap.size) (i := 0) (u := .slice av k cv) (fun g hg => by have := ((unhide HV4).geB g hg).1; omega)).setN (b := w.heap.size) (i := 1) (u := .slice al j cl) (fun g hg => by have := ((unhide HV4).geB g hg).1; omega)).le (B' := w.heap.size) (by omega)
            have hL := (((unhide HL4).setN (b := w.heap.size) (i := 0) (u := .slice av k cv) (fun g hg => by have := ((unhide HL4).geB g hg).1; omega)).setN (b := w.heap.size) (i := 1) (u := .slice al j cl) (fun g hg => by have := ((unhide HL4).geB g hg).1; omega)).le (B' := w.heap.size) (by omega)
            have hap : ∀ g, (Value.slice av k cv).ownBlock = some g → (Value.slice al j cl).ownBlock ≠ some g := fun g hg hg2 => by have := unhide HLT g hg; have := ((unhide HL4).geB g hg2).1; omega
            subst hds hes
            exact bodyPost_ret (v := .agg #[.slice av ds.length cv, .slice al es.length cl]) (by simp [results, Tryz.results37, go_sem, q0, q1]) rfl
              ⟨av, cv, ds, al, cl, es, rfl, hide ⟨hV, hL, hap⟩, by omega, by omega, hfin.rd, hfin.only⟩
  | true =>
    obtain ⟨N, hN, hN1, hN7⟩ : ∃ N : Nat, (7 : Int) = (N : Int) ∧ 1 ≤ N ∧ N ≤ 7 := ⟨7, rfl, by omega, by omega⟩
    go_wp2_with fail
    rw [hN]
    clear hN hu0 hu1
    go_loopw [5] (fun s5 wr => ∃ (k : Nat) (vv : Value) (ds : List Int), s5 = .int .i64 ((k + 1 : Nat) : Int) ∧ k ≤ N ∧ ds.length = k ∧ Hid (DS w R a len cap zs wr) ∧ Hid (CB w.heap.size (.slice none 0 0) (.slice none 0 0) wr) ∧ Hid (CB (w.heap.size + 1) vv (.slice none 0 0) wr) ∧ Hid (OwnR i64E wr (w.heap.size + 2) vv ds)) (fun s5 _ => N + 1 - (intOf s5).toNat)
    case atStart => exact ⟨0, .slice none 0 0, [], rfl, by omega, rfl, HD3, HZ3, HS3, hide (ownR_nil _ _ _)⟩
    case round =>
      clear HD3 HZ3 HS3
      obtain ⟨k, vv, ds, rfl, hk, hds, HDr, HZr, HSr, HO⟩ := hrel
      obtain ⟨av, cv, hv⟩ := (unhide HO).form
      subst hv
      rw [hds] at HO HSr
      by_cases hkN : k < N
      · have hle : ((k + 1 : Nat) : Int) ≤ (N : Int) := by omega
        have s0 := (unhide HSr).c0
        have hz : w.heap.size + 2 ≤ wr.heap.size := by have := (unhide HSr).lt; omega
        have HNE := hide ((unhide HSr).ne (unhide HO))
        have hlen : ds.length < 100000000 := by omega
        obtain ⟨x, hx⟩ : ∃ x : Int, ((k + 1 : Nat) : Int) = x := ⟨_, rfl⟩
        rw [hx] at hle ⊢
        have hx1 : IntKind.i64.wrap (x + 1) = x + 1 := by rw [IntKind.wrap_i64]; omega
        go_wp2_with (at_builtin; go_must (refine appR (e := i64E) rfl _ _ rfl (unhide HO) rfl x rfl _ rfl rfl hlen hz ?_); intro v' w6 hown6 hb6 hg6; obtain ⟨av', cv', hv'⟩ := hown6.form; subst hv'; rw [show (ds ++ [x]).length = k + 1 from by simp [hds]] at hown6; have HS6 := hide (((unhide HSr).alloc _).grown hg6 (fun q => unhide HNE _ q.symm rfl)); have z0 := (unhide HS6).c0; have zf := (unhide HS6).f0)
        go_roundw
        case rel => exact ⟨k + 1, .slice av' (k + 1) cv', ds ++ [x], by rw [← hx]; go_num, by omega, by simp [hds], hide (((unhide HDr).belowB hb6 (by omega) (by omega)).set (b := w.heap.size + 1) (i := 0) hR (by omega) _), hide (((unhide HZr).below hb6 (by omega)).far (by omega) _), hide ((unhide HS6).set0 _), hide (hown6.setN ((unhide HS6).ne hown6))⟩
        case measure => simp [intOf]; omega
      · obtain rfl : k = N := by omega
        have hle : ¬ ((k + 1 : Nat) : Int) ≤ (k : Int) := by omega
        have hx1 : IntKind.i64.wrap ((k : Int) + 1) = ((k + 1 : Nat) : Int) := by rw [IntKind.wrap_i64]; omega
        have HLT := hide (unhide HO).lt
        obtain ⟨wE, hwE⟩ : ∃ wE : World, wE = wr := ⟨_, rfl⟩
        rw [← hwE] at HLT
        have hzE : w.heap.size + 2 ≤ wE.heap.size := by rw [hwE]; have := (unhide HSr).lt; omega
        have hzr : wE.heap.size ≤ wr.heap.size := by rw [hwE]; exact Nat.le_refl _
        clear hwE
        go_wp2_with fail
        go_loopw [6] (fun s6 wq => ∃ (j : Nat) (vl : Value) (es : List Int), s6 = .int .i64 ((k + 1 + j : Nat) : Int) ∧ j ≤ 3 ∧ es.length = j ∧ wE.heap.size ≤ wq.heap.size ∧ Hid (DS w R a len cap zs wq) ∧ Hid (CB w.heap.size (.slice none 0 0) (.slice none 0 0) wq) ∧ Hid (CB (w.heap.size + 1) (.slice av k cv) vl wq) ∧ Hid (OwnR i64E wq (w.heap.size + 2) (.slice av k cv) ds) ∧ Hid (OwnR i64E wq wE.heap.size vl es)) (fun s6 _ => k + 5 - (intOf s6).toNat)
        case atStart => exact ⟨0, .slice none 0 0, [], by simp, by omega, rfl, hzr, HDr, HZr, HSr, HO, hide (ownR_nil _ _ _)⟩
        case round =>
          clear HDr HZr HSr HO hzr
          obtain ⟨j, vl, es, rfl, hj, hes, hzq, HDq, HZq, HSq, HOv, HOl⟩ := hrel
          obtain ⟨al, cl, hv⟩ := (unhide HOl).form
          subst hv
          rw [hes] at HOl HSq
          go_wp2_with fail
          refine (below_calls R a len cap zs 3 _ (unhide HDq).rd (by omega) (by omega)).mono ?_
          rintro e w4 ⟨b, rfl, hb0, hb1, hR4, ho4⟩
          have HD4 := hide ((unhide HDq).call hR4 ho4)
          have HZ4 := hide ((unhide HZq).only ho4 (by omega))
          have HS4 := hide ((unhide HSq).only ho4 (by omega))
          have HV4 := hide ((unhide HOv).onl ho4 (by simp; omega))
          have HL4 := hide ((unhide HOl).onl ho4 (by simp; omega))
          have hz4 : wE.heap.size ≤ w4.heap.size := Nat.le_trans hzq ho4.size
          clear hR4 ho4 HDq HZq HSq HOv HOl
          obtain ⟨y, hy⟩ : ∃ y : Int, ((k + 1 + j : Nat) : Int) = y := ⟨_, rfl⟩
          rw [hy]
          have hsb : IntKind.i64.wrap ((k : Int) + b) = (k : Int) + b := by rw [IntKind.wrap_i64]; omega
          by_cases hyb : y ≤ (k : Int) + b
          · have s1 := (unhide HS4).c1
            have HNE := hide ((unhide HS4).ne (unhide HL4))
            have hlen : es.length < 100000000 := by omega
            have hy1 : IntKind.i64.wrap (y + 1) = y + 1 := by rw [IntKind.wrap_i64]; omega
            go_wp2_with (at_builtin; go_must (refine appR (e := i64E) rfl _ _ rfl (unhide HL4) rfl y rfl _ rfl rfl hlen hz4 ?_); intro v' w6 hown6 hb6 hg6; obtain ⟨al', cl', hv'⟩ := hown6.form; subst hv'; rw [show (es ++ [y]).length = j + 1 from by simp [hes]] at hown6; have HS6 := hide (((unhide HS4).alloc _).grown hg6 (fun q => unhide HNE _ q.symm rfl)); have z1 := (unhide HS6).c1; have zf := (unhide HS6).f1)
            go_roundw
            case rel => exact ⟨j + 1, .slice al' (j + 1) cl', es ++ [y], by rw [show ((k + 1 + (j + 1) : Nat) : Int) = y + 1 from by omega], by omega, by simp [hes], by have := hb6.size; simp; omega, hide (((unhide HD4).belowB hb6 (by omega) (by omega)).set (b := w.heap.size + 1) (i := 1) hR (by omega) _), hide (((unhide HZ4).below hb6 (by omega)).far (by omega) _), hide ((unhide HS6).set1 _), hide (((unhide HV4).below hb6 (fun g hg => unhide HLT g hg)).setN (fun g hg => by have := ((unhide HV4).geB g hg).1; omega)), hide (hown6.setN (fun g hg => by have := (hown6.geB g hg).1; omega))⟩
            case measure => simp [intOf]; omega
          · obtain ⟨s0, s1⟩ := And.intro (unhide HS4).c0 (unhide HS4).c1
            obtain ⟨q0, q1⟩ := And.intro (unhide HZ4).c0 (unhide HZ4).c1
            obtain ⟨g0, g1⟩ := And.intro (unhide HZ4).f0 (unhide HZ4).f1
            have qlt := (unhide HZ4).lt
            go_wp2_with fail
            have hfin := ((unhide HD4).set (b := w.heap.size) (i := 0) hR (Nat.le_refl _) (.slice av k cv)).set (b := w.heap.size) (i := 1) hR (Nat.le_refl _) (.slice al j cl)
            have hV := (((unhide HV4).setN (b := w.heap.size) (i := 0) (u := .slice av k cv) (fun g hg => by have := ((unhide HV4).geB g hg).1; omega)).setN (b := w.heap.size) (i := 1) (u := .slice al j cl) (fun g hg => by have := ((unhide HV4).geB g hg).1; omega)).le (B' := w.heap.size) (by omega)
            have hL := (((unhide HL4).setN (b := w.heap.size) (i := 0) (u := .slice av k cv) (fun g hg => by have := ((unhide HL4).geB g hg).1; omega)).setN (b := w.heap.size) (i := 1) (u := .slice al j cl) (fun g hg => by have := ((unhide HL4).geB g hg).1; omega)).le (B' := w.heap.size) (by omega)
            have hap : ∀ g, (Value.slice av k cv).ownBlock = some g → (Value.slice al j cl).ownBlock ≠ some g := fun g hg hg2 => by have := unhide HLT g hg; have := ((unhide HL4).geB g hg2).1; omega
            subst hds hes
            exact bodyPost_ret (v := .agg #[.slice av ds.length cv, .slice al es.length cl]) (by simp [results, Tryz.results37, go_sem, q0, q1]) rfl
              ⟨av, cv, ds, al, cl, es, rfl, hide ⟨hV, hL, hap⟩, by omega, by omega, hfin.rd, hfin.only⟩
end Go.Proofs.YtmokpgmehaakgaaGreatDoor
