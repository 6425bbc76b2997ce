/- Texts of one kind, put together. -/
import Derived.Test.YtmicacoegkmklaaGreatDoorRnkM
import Derived.Test.YtmicacoegkmklaaGreatDoorWgt
import Derived.Test.YtmicacoegkmklaaGreatDoorRzB
import Derived.Test.YtmicacoegkmklaaGreatDoorRzE
import Derived.Test.YtmicacoegkmklaaGreatDoorRzU
import Derived.Test.YtmicacoegkmklaaGreatDoorShlW
import Derived.Test.YtmicacoegkmklaaGreatDoorRzC

/- Nodes by their weights, by the specification. -/
namespace Go.Proofs.YtmicacoegkmklaaGreatDoor
open Go.RowKit Plain
set_option linter.unusedVariables false

/-- Words as elements. -/
def u64E : Elem Int where
  E := 54
  S := 85
  n := 1
  bytes := 8
  zero := .int .u64 0
  enc := fun z => [.int .u64 z]
  hund := Tryz.underlying85
  hinfo := by kernel_rfl
  hz := rfl
  hn := by decide
  hb := by decide
  hlen := fun _ => rfl
  hone := fun x u hu => by simp at hu; subst hu; rfl

theorem OwnR.asome {α : Type} {e : Elem α} {W : World} {B : Nat} {v : Value} {xs : List α} (h : OwnR e W B v xs) (hp : 0 < xs.length) : ∃ g c, v = .slice (some ⟨g, 0, none⟩) xs.length c := by
  rcases h.2 with ⟨_, c⟩ | ⟨g, cap, cur, a, _⟩
  · omega
  · exact ⟨g, cap, a⟩
theorem OwnR.beside {α β : Type} {e : Elem α} {e' : Elem β} {W w' : World} {B B' : Nat} {v v' : Value} {xs : List α} {ys : List β} {o : Obj} (h : OwnR e W B v xs) (ho : OwnR e' W B' v' ys) (hne : e.E ≠ e'.E) (hg : (W.alloc o).grownBy w' v'.ownBlock) : OwnR e w' B v xs := by
  refine ⟨h.1, ?_⟩
  rcases h.2 with ⟨a, c⟩ | ⟨g, cap, cur, a, c, d, r⟩
  · exact .inl ⟨a, c⟩
  · have hl : g < W.heap.size := by
      rcases Nat.lt_or_ge g W.heap.size with q | q
      · exact q
      · rw [Array.getElem?_eq_none q] at d; cases d
    refine .inr ⟨g, cap, cur, a, c, ?_, r⟩
    rw [hg.block g (by simp; omega) ?_, Below.heap_alloc W o g hl]
    · exact d
    · intro e0
      rcases ho.2 with ⟨a', _⟩ | ⟨g', cap', cur', a', _, d', _⟩
      · rw [a'] at e0; cases e0
      · rw [a'] at e0
        have : g = g' := by simpa [Value.ownBlock] using e0
        subst this
        rw [d] at d'
        simp at d'
        exact hne d'.2

/-- Two rows of one length, of numbers and of words, that the call owns. -/
structure Plain.TwoR (W : World) (B g1 c1 g2 c2 n : Nat) (xs ys : List Int) : Prop where
  r1 : OwnR i64E W B (.slice (some ⟨g1, 0, none⟩) n c1) xs
  r2 : OwnR u64E W B (.slice (some ⟨g2, 0, none⟩) n c2) ys
section
variable {W : World} {B g1 c1 g2 c2 n : Nat} {xs ys : List Int}
theorem Plain.TwoR.l1 (h : TwoR W B g1 c1 g2 c2 n xs ys) : xs.length = n := by
  obtain ⟨a, c, e⟩ := h.r1.form
  simp at e
  exact e.2.1.symm
theorem Plain.TwoR.l2 (h : TwoR W B g1 c1 g2 c2 n xs ys) : ys.length = n := by
  obtain ⟨a, c, e⟩ := h.r2.form
  simp at e
  exact e.2.1.symm
theorem Plain.TwoR.ne (h : TwoR W B g1 c1 g2 c2 n xs ys) : g1 ≠ g2 := by
  intro e
  subst e
  rcases h.r1.2 with ⟨a, _⟩ | ⟨g, cap, cur, a, _, d, _⟩
  · simp at a
  · rcases h.r2.2 with ⟨a', _⟩ | ⟨g', cap', cur', a', _, d', _⟩
    · simp at a'
    · simp at a a'
      obtain ⟨rfl, _⟩ := a
      obtain ⟨rfl, _⟩ := a'
      rw [d] at d'
      simp at d'
      exact absurd d'.2 (by decide)
theorem Plain.TwoR.b1 (h : TwoR W B g1 c1 g2 c2 n xs ys) : B ≤ g1 ∧ g1 < W.heap.size := World.ownsRow.lt h.r1 g1 rfl
theorem Plain.TwoR.b2 (h : TwoR W B g1 c1 g2 c2 n xs ys) : B ≤ g2 ∧ g2 < W.heap.size := World.ownsRow.lt h.r2 g2 rfl
theorem Plain.TwoR.p1 (h : TwoR W B g1 c1 g2 c2 n xs ys) (k : Nat) {z : Int} (hv : xs[k]? = some z) : W.cell? ⟨g1, k, none⟩ = some (.int .i64 z) := by
  obtain ⟨hk, rfl⟩ := List.getElem?_eq_some_iff.1 hv
  obtain ⟨g, e, _, hc⟩ := h.r1.at k hk
  cases e
  have := (hc 0 (by decide)).1
  rwa [show k * i64E.n + 0 = k from by show k * 1 + 0 = k; omega] at this
theorem Plain.TwoR.p2 (h : TwoR W B g1 c1 g2 c2 n xs ys) (k : Nat) {z : Int} (hv : ys[k]? = some z) : W.cell? ⟨g2, k, none⟩ = some (.int .u64 z) := by
  obtain ⟨hk, rfl⟩ := List.getElem?_eq_some_iff.1 hv
  obtain ⟨g, e, _, hc⟩ := h.r2.at k hk
  cases e
  have := (hc 0 (by decide)).1
  rwa [show k * u64E.n + 0 = k from by show k * 1 + 0 = k; omega] at this
theorem Plain.TwoR.f1 (h : TwoR W B g1 c1 g2 c2 n xs ys) (k : Nat) : W.frozen? ⟨g1, k, none⟩ = false := by
  have e := h.l1
  subst e
  exact World.ownsRow.frozenAt h.r1 k
theorem Plain.TwoR.f2 (h : TwoR W B g1 c1 g2 c2 n xs ys) (k : Nat) : W.frozen? ⟨g2, k, none⟩ = false := by
  have e := h.l2
  subst e
  exact World.ownsRow.frozenAt h.r2 k
theorem Plain.ownSetOff {α : Type} {e : Elem α} {b i g n c : Nat} {u : Value} {zs : List α} (h : OwnR e W B (.slice (some ⟨g, 0, none⟩) n c) zs) (hne : b ≠ g) : OwnR e (W.setCell ⟨b, i, none⟩ u) B (.slice (some ⟨g, 0, none⟩) n c) zs := by
  refine ⟨h.1, ?_⟩
  rcases h.2 with ⟨a, _⟩ | ⟨g', cap, cur, a, c, d, r⟩
  · simp at a
  · refine .inr ⟨g', cap, cur, a, c, ?_, r⟩
    have : g = g' := by simp at a; exact a.1
    rw [Below.heap_setCell _ _ _ _ (by simp; omega)]
    exact d
theorem Plain.TwoR.set1 (h : TwoR W B g1 c1 g2 c2 n xs ys) (k : Nat) (hk : k < xs.length) (y : Int) : TwoR (W.setCell ⟨g1, k, none⟩ (.int .i64 y)) B g1 c1 g2 c2 n (xs.set k y) ys := by
  have := OwnR.setJ (e := i64E) h.r1 h.l1 k hk 0 (by decide) (.int .i64 y) y rfl
  rw [show k * i64E.n + 0 = k from by show k * 1 + 0 = k; omega] at this
  exact ⟨this, ownSetOff h.r2 h.ne⟩
theorem Plain.TwoR.set2 (h : TwoR W B g1 c1 g2 c2 n xs ys) (k : Nat) (hk : k < ys.length) (y : Int) : TwoR (W.setCell ⟨g2, k, none⟩ (.int .u64 y)) B g1 c1 g2 c2 n xs (ys.set k y) := by
  have := OwnR.setJ (e := u64E) h.r2 h.l2 k hk 0 (by decide) (.int .u64 y) y rfl
  rw [show k * u64E.n + 0 = k from by show k * 1 + 0 = k; omega] at this
  exact ⟨ownSetOff h.r1 (Ne.symm h.ne), this⟩
end

set_option maxRecDepth 10000 in
set_option maxHeartbeats 4000000 in
theorem l13Ranked_calls (d : ByteArray) (a : Option Addr) (n c : Nat) (ls : List Int) (w : World) (h : IntsAt w a n ls) (hok : okIds 0 ls = true) (hd : d.size = 71) :
    Calls Tryz.prog 41 #[.string d, .slice a n c] w fun e w' => ∃ v, e = .returned v ∧ OwnR i64E w' w.heap.size v (rk (wt d) ls) ∧ Below w.heap.size w w' := by
  have hall := (okIds_facts ls 0 (by decide) hok).2
  have HW := hide (fun (W : World) (N : Nat) (h1 : 1 ≤ N) (h2 : N ≤ 50) => l13Weight_calls d N W hd h1 h2)
  generalize wt d = f at HW ⊢
  have HH := hide h
  have HD := hide (fun (W : World) (hW : Below w.heap.size w W) => h.below hW)
  have hbn := h.bn
  have hln := h.len
  have HALL := hide hall
  have HLN := hide hln
  clear h hok hd hall hln
  obtain ⟨W0, hW0⟩ : ∃ W0, W0 = (w.alloc (.cells #[] 2)).alloc (.cells #[] 54) := ⟨_, rfl⟩
  have HB0 := hide (show Below w.heap.size w W0 from by rw [hW0]; exact belOnD (bel1D _ _) (bel1D _ _))
  have HO1 := hide (show OwnR i64E W0 w.heap.size (.slice (some ⟨w.heap.size, 0, none⟩) 0 0) [] from by rw [hW0]; exact OwnR.keep (ownR_empty i64E w w.heap.size (Nat.le_refl _)) (bel1D _ _))
  have HO2 := hide (show OwnR u64E W0 w.heap.size (.slice (some ⟨w.heap.size + 1, 0, none⟩) 0 0) [] from by
    rw [hW0]
    have := ownR_empty u64E (w.alloc (.cells #[] 2)) w.heap.size (by simp)
    rw [show (w.alloc (.cells #[] 2)).heap.size = w.heap.size + 1 from by simp] at this
    exact this)
  have HW0 := hide hW0.symm
  clear hW0
  go_enter Tryz.func41, Tryz.ntmps41
  go_wp2_with fail
  rw [unhide HW0]
  go_loopw [5, 6, 7] (fun s5 s6 s7 wr => ∃ k : Nat, s7 = .int .i64 k ∧ k ≤ n ∧ w.heap.size ≤ wr.heap.size ∧ Hid (OwnR i64E wr w.heap.size s5 (rk f (ls.take k))) ∧ Hid (OwnR u64E wr w.heap.size s6 ((rk f (ls.take k)).map f)) ∧ Hid (Below w.heap.size w wr)) (fun _ _ s7 _ => n - (intOf s7).toNat)
  case atStart => exact ⟨0, rfl, by omega, (unhide HB0).size, HO1, HO2, HB0⟩
  case round =>
    clear HO1 HO2 HB0 HW0
    obtain ⟨k, rfl, hk, hz, HO1, HO2, HB⟩ := hrel
    by_cases hkn : k < n
    · have hkl : k < ls.length := by rw [unhide HLN]; exact hkn
      have hsr := rk_take f ls k hkl
      have hr := unhide HALL ls[k] (by simp)
      have hol : (rk f (ls.take k)).length = k := by rw [rk_len, List.length_take]; omega
      have HCK := hide (fun (W : World) (hW : Below w.heap.size w W) => (unhide HD W hW).row.ix k hkl)
      generalize ls[k] = x at HCK hsr hr
      generalize rk f (ls.take k) = o at HO1 HO2 hsr hol
      obtain ⟨X, rfl⟩ := Int.eq_ofNat_of_zero_le (show 0 ≤ x by omega)
      have HSR := hide hsr
      obtain ⟨a1, c1, hv1⟩ := (unhide HO1).form
      obtain ⟨a2, c2, hv2⟩ := (unhide HO2).form
      rw [List.length_map] at hv2
      rw [hol] at hv1 hv2
      subst hv1 hv2
      have hlen1 : o.length < 100000000 := by omega
      have hlen2 : (o.map f).length < 100000000 := by rw [List.length_map]; omega
      have HOL := hide hol
      have HWX := hide (unhide HW wr X (by omega) (by omega))
      have i0 : (0 : Int) ≤ (k : Int) := by omega
      have i1 : (k : Int) < (n : Int) := by omega
      obtain ⟨g, e1, l1, p0, -⟩ := unhide HCK wr (unhide HB)
      subst e1
      have HCK2 := hide (fun (W : World) (hW : Below w.heap.size w W) => (show W.cell? ⟨g, k, none⟩ = some (.int .i64 (X : Int)) from by
        obtain ⟨g', e1, -, p0', -⟩ := unhide HCK W hW
        cases e1
        exact p0'))
      clear hsr hol hr HCK HD l1
      go_wp2_with fail
      refine (unhide HWX).mono ?_
      rintro e w1 ⟨rfl, hb1⟩
      have hz1 := hb1.size
      have HB1 := hide ((unhide HB).trans (hb1.mono hz))
      have HP1 := hide ((unhide HO1).keep hb1)
      have HP2 := hide ((unhide HO2).keep hb1)
      have hz2 : w.heap.size ≤ w1.heap.size := by omega
      have p1 := unhide HCK2 w1 (unhide HB1)
      clear hb1 p0 HO1 HO2 HB HWX hz1
      have HQ1 := hide (show (o ++ [(X : Int)]).length = k + 1 from by rw [List.length_append, unhide HOL]; rfl)
      have HQ2 := hide (show (o.map f ++ [f (X : Int)]).length = k + 1 from by rw [List.length_append, List.length_map, unhide HOL]; rfl)
      go_wp2_with (first
        | (at_builtin; refine appR (e := i64E) rfl _ _ rfl (unhide HP1) rfl (X : Int) rfl _ rfl rfl hlen1 hz2 ?_; intro v' w6 hown6 hb6 hg6; obtain ⟨a3, c3, hv'⟩ := hown6.asome (by simp); rw [unhide HQ1] at hv'; subst hv'; have HR1 := hide hown6; have HR2 := hide ((unhide HP2).beside (unhide HP1) (by decide) hg6); have hz6 : w.heap.size ≤ w6.heap.size := Nat.le_trans hz2 hb6.size; have HB6 := hide ((unhide HB1).trans hb6); clear hown6 hb6 hg6 p1)
        | (at_builtin; refine appR (e := u64E) rfl _ _ rfl (unhide HR2) rfl (f (X : Int)) rfl _ rfl rfl hlen2 hz6 ?_; intro v'' w7 hown7 hb7 hg7; obtain ⟨a4, c4, hv''⟩ := hown7.asome (by simp); rw [unhide HQ2] at hv''; subst hv''; have HT1 := hide ((unhide HR1).beside (unhide HR2) (by decide) hg7); have HT2 := hide hown7; have hz7 : w.heap.size ≤ w7.heap.size := Nat.le_trans hz6 hb7.size; have HB7 := hide ((unhide HB6).trans hb7); clear hown7 hb7 hg7))
      have HTT := hide (show TwoR w7 w.heap.size a3 c3 a4 c4 (k + 1) (insAt (X : Int) o k) (insAt (f (X : Int)) (o.map f) k) from by
        have e1 := ins_end o (X : Int)
        have e2 := ins_end (o.map f) (f (X : Int))
        rw [unhide HOL] at e1
        rw [List.length_map, unhide HOL] at e2
        rw [e1, e2]
        exact ⟨unhide HT1, unhide HT2⟩)
      have HSR2 := hide (show rk f (ls.take (k + 1)) = insAt (X : Int) o (posK f (X : Int) o k) from by rw [unhide HSR, insK, unhide HOL])
      clear HT1 HT2 HR1 HR2 HP1 HP2 HB1 HB6 HQ1 HQ2 HSR hz2 hz6 hz hlen1 hlen2
      go_loopw [9] (fun s9 wq => ∃ (j : Nat) (s t : Int), s9 = .int .i64 j ∧ j ≤ k ∧ Hid (posK f (X : Int) o k = posK f (X : Int) o j) ∧ w.heap.size ≤ wq.heap.size ∧ Hid (TwoR wq w.heap.size a3 c3 a4 c4 (k + 1) (insAt s o j) (insAt t (o.map f) j)) ∧ Hid (Below w.heap.size w wq)) (fun s9 _ => (intOf s9).toNat)
      case atStart => exact ⟨k, _, _, rfl, Nat.le_refl _, hide rfl, hz7, HTT, HB7⟩
      case round =>
        clear HTT HB7 hz7
        obtain ⟨j, s, t, rfl, hj, HPJ, hzq, HTT, HBQ⟩ := hrel
        have pk := unhide HCK2 wr (unhide HBQ)
        have HL1 := hide (show j < (insAt s o j).length from by rw [insAt_length, unhide HOL]; omega)
        have HL2 := hide (show j < (insAt t (o.map f) j).length from by rw [insAt_length, List.length_map, unhide HOL]; omega)
        have hf1 := (unhide HTT).f1 j
        have hf2 := (unhide HTT).f2 j
        have hc1 := (unhide HTT).p1 j (List.getElem?_eq_getElem (unhide HL1))
        have HSET := hide (fun (y z : Int) => ((unhide HTT).set1 j (unhide HL1) y).set2 j (unhide HL2) z)
        have HBS := hide (fun (y z : Int) => (((unhide HBQ).setCell (p := ⟨a3, j, none⟩) (unhide HTT).b1.1 (.int .i64 y)).setCell (p := ⟨a4, j, none⟩) (unhide HTT).b2.1 (.int .u64 z)))
        have hc2 : ∀ y : Int, (wr.setCell ⟨a3, j, none⟩ (.int .i64 y)).cell? ⟨a4, j, none⟩ = some (.int .u64 ((insAt t (o.map f) j)[j]'(unhide HL2))) := fun y => ((unhide HTT).set1 j (unhide HL1) y).p2 j (List.getElem?_eq_getElem (unhide HL2))
        have hg2 : ∀ y : Int, (wr.setCell ⟨a3, j, none⟩ (.int .i64 y)).frozen? ⟨a4, j, none⟩ = false := fun y => ((unhide HTT).set1 j (unhide HL1) y).f2 j
        have HEND := hide (show posK f (X : Int) o k = j → TwoR ((wr.setCell ⟨a3, j, none⟩ (.int .i64 (X : Int))).setCell ⟨a4, j, none⟩ (.int .u64 (f (X : Int)))) w.heap.size a3 c3 a4 c4 (k + 1) (rk f (ls.take (k + 1))) ((rk f (ls.take (k + 1))).map f) from fun e => by
          have := unhide HSET (X : Int) (f (X : Int))
          rw [ins_set o s (X : Int) j (by rw [unhide HOL]; exact hj), ins_set (o.map f) t (f (X : Int)) j (by rw [List.length_map, unhide HOL]; exact hj)] at this
          rw [unhide HSR2, e, ins_map]
          exact this)
        generalize (insAt t (o.map f) j)[j]'(unhide HL2) = z2 at hc2
        generalize (insAt s o j)[j]'(unhide HL1) = z1 at hc1
        have j1 : (0 : Int) ≤ (j : Int) := by omega
        have j2 : (j : Int) < ((k + 1 : Nat) : Int) := by omega
        by_cases hj0 : j = 0
        · subst hj0
          have HE := hide (unhide HEND (unhide HPJ))
          clear HSET HEND HPJ HTT
          go_wp2_with fail
          go_roundw
          case rel => exact ⟨k + 1, by go_num, by omega, by have := (unhide HBS (X : Int) (f (X : Int))).size; omega, hide (unhide HE).r1, hide (unhide HE).r2, hide (unhide HBS _ _)⟩
          case measure => simp [intOf]; omega
        · obtain ⟨m, rfl⟩ : ∃ m, j = m + 1 := ⟨j - 1, by omega⟩
          have hm : m < o.length := by rw [unhide HOL]; omega
          have hm2 : m < (o.map f).length := by rw [List.length_map]; exact hm
          have hcw := (unhide HTT).p2 m (ins_get (o.map f) t m hm2)
          rw [List.getElem_map] at hcw
          have hco := (unhide HTT).p1 m (ins_get o s m hm)
          have HPM := hide (show posK f (X : Int) o k = if f o[m] < f (X : Int) then posK f (X : Int) o m else m + 1 from by rw [unhide HPJ, posK, List.getD_eq_getElem?_getD, List.getElem?_eq_getElem hm]; rfl)
          have HSH := hide (show TwoR ((wr.setCell ⟨a3, m + 1, none⟩ (.int .i64 o[m])).setCell ⟨a4, m + 1, none⟩ (.int .u64 (f o[m]))) w.heap.size a3 c3 a4 c4 (k + 1) (insAt o[m] o m) (insAt (f o[m]) (o.map f) m) from by
            have := unhide HSET o[m] (f o[m])
            rw [ins_shift o s m hm] at this
            have h2 := ins_shift (o.map f) t m hm2
            rw [List.getElem_map] at h2
            rw [h2] at this
            exact this)
          have hcw2 : ∀ y : Int, (wr.setCell ⟨a3, m + 1, none⟩ (.int .i64 y)).cell? ⟨a4, m, none⟩ = some (.int .u64 (f o[m])) := fun y => by
            have := ((unhide HTT).set1 (m + 1) (unhide HL1) y).p2 m (ins_get (o.map f) t m hm2)
            rwa [List.getElem_map] at this
          have HBS2 := hide (unhide HBS o[m] (f o[m]))
          generalize o[m] = y at hcw hco HPM HSH hcw2 HBS2
          have m1 : (0 : Int) ≤ (m : Int) := by omega
          have m2 : (m : Int) < ((k + 1 : Nat) : Int) := by omega
          have m3 : (0 : Int) < ((m + 1 : Nat) : Int) := by omega
          obtain ⟨fy, hfy⟩ : ∃ fy, f y = fy := ⟨_, rfl⟩
          obtain ⟨fx, hfx⟩ : ∃ fx, f (X : Int) = fx := ⟨_, rfl⟩
          rw [hfy] at hcw HPM HSH hcw2 HBS2
          rw [hfx] at HPM HEND
          have HBX := hide (unhide HBS (X : Int) fx)
          clear HSET HTT hm hm2 HBS HL1 HL2
          rw [hfx]
          have HFX := hide hfx
          clear hfy hfx
          by_cases hlt : fy < fx
          · have hp := unhide HPM
            rw [if_pos hlt] at hp
            have HP2 := hide hp
            clear hp HPM HEND HBX
            go_wp2_with fail
            go_roundw
            case rel => exact ⟨m, y, fy, by go_num, by omega, HP2, by have := (unhide HBS2).size; omega, HSH, HBS2⟩
            case measure => simp [intOf]
          · have hp := unhide HPM
            rw [if_neg hlt] at hp
            have HE := hide (unhide HEND hp)
            clear hp HPM HEND HSH hcw2 hco HBS2
            go_wp2_with fail
            go_roundw
            case rel => exact ⟨k + 1, by go_num, by omega, by have := (unhide HBX).size; omega, hide (unhide HE).r1, hide (unhide HE).r2, hide (unhide HBX)⟩
            case measure => simp [intOf]; omega
    · obtain rfl : k = n := by omega
      rw [List.take_of_length_le (by rw [unhide HLN]; exact Nat.le_refl _)] at HO1
      obtain ⟨a1, c1, hv1⟩ := (unhide HO1).form
      subst hv1
      clear HO2
      go_wp2_with fail
      go_ret
      exact ⟨_, rfl, unhide HO1, unhide HB⟩
end Go.Proofs.YtmicacoegkmklaaGreatDoor


/- Nodes by their weights, by the program: a generic sort. -/
namespace Go.Proofs.YtmicacoegkmklaaGreatDoor
open Go.RowKit Go.Sort Plain
set_option linter.unusedVariables false

namespace Plain
def wgL (x : Int × Int) : List Value := [.int .i64 x.1, .int .u64 x.2]
theorem cmpZ_neg (a b : Int) : cmpZ a b < 0 ↔ a < b := by unfold cmpZ; split <;> (try split) <;> omega
theorem cmpZ_zero (a b : Int) : cmpZ a b = 0 ↔ a = b := by unfold cmpZ; split <;> (try split) <;> omega
theorem ltW (x y : Int × Int) : ltOf cfW x y = decide (y.2 < x.2 ∨ (x.2 = y.2 ∧ x.1 < y.1)) := by
  unfold ltOf cfW
  rw [decide_eq_decide]
  by_cases h : cmpZ y.2 x.2 = 0
  · rw [if_neg (by simpa using h), cmpZ_neg]
    have := (cmpZ_zero _ _).1 h
    omega
  · rw [if_pos h, cmpZ_neg]
    have : ¬ y.2 = x.2 := fun e => h ((cmpZ_zero _ _).2 e)
    omega
theorem swoW : SWO (ltOf cfW) where
  irrefl x := by rw [ltW]; simp
  trans x y z h1 h2 := by rw [ltW] at *; simp at *; omega
  ntrans x y z h1 h2 := by rw [ltW] at *; simp at *; omega
theorem totW (x y : Int × Int) (h1 : ltOf cfW x y = false) (h2 : ltOf cfW y x = false) : x = y := by
  rw [ltW] at h1 h2
  simp at h1 h2
  apply Prod.ext <;> omega
/-- The sorted rows are the ranks. -/
theorem msort_rk (f : Int → Int) (l : List Int) (h : l.Pairwise (· < ·)) : ((l.map fun x => (x, f x)).mergeSort fun x y => !(ltOf cfW) y x) = (rk f l).map fun x => (x, f x) := by
  obtain ⟨S, hS⟩ : ∃ S, ((l.map fun x => (x, f x)).mergeSort fun x y => !(ltOf cfW) y x) = S := ⟨_, rfl⟩
  have hp : S.Perm (l.map fun x => (x, f x)) := by rw [← hS]; exact List.mergeSort_perm _ _
  have hs : S.Pairwise fun x y => (!(ltOf cfW) y x) = true := by
    rw [← hS]
    refine List.pairwise_mergeSort (fun a b c h1 h2 => ?_) (fun a b => ?_) _
    · rw [ltW] at *; simp at *; omega
    · rw [ltW, ltW]; simp; omega
  rw [hS]
  have hm : ∀ z ∈ S, z = (z.1, f z.1) := fun z hz => by
    obtain ⟨x, _, rfl⟩ := List.mem_map.1 (hp.mem_iff.1 hz)
    rfl
  have hT : S = (S.map Prod.fst).map fun x => (x, f x) := by
    rw [List.map_map]
    conv => lhs; rw [← List.map_id S]
    exact List.map_congr_left fun z hz => hm z hz
  have hpt : (S.map Prod.fst).Perm l := by
    have := hp.map Prod.fst
    rwa [List.map_map, show (Prod.fst ∘ fun x : Int => (x, f x)) = id from rfl, List.map_id] at this
  have hst : (S.map Prod.fst).Pairwise fun a b => ¬ ahd f b a := by
    rw [List.pairwise_map]
    refine hs.imp_of_mem ?_
    intro a b ha hb hab hh
    have ea : a.2 = f a.1 := congrArg Prod.snd (hm a ha)
    have eb : b.2 = f b.1 := congrArg Prod.snd (hm b hb)
    rw [ltW] at hab
    unfold ahd at hh
    rw [← ea, ← eb] at hh
    simp at hab
    omega
  rw [hT, rk_unique f l _ h hpt hst]
end Plain

/-- Nodes with their weights, as elements. -/
def wgE : Elem (Int × Int) where
  E := 96
  S := 94
  n := 2
  bytes := 16
  zero := .agg #[.int .i64 0, .int .u64 0]
  enc := wgL
  hund := Tryz.underlying94
  hinfo := by kernel_rfl
  hz := rfl
  hn := by decide
  hb := by decide
  hlen := fun _ => rfl
  hone := fun x u hu => by simp [wgL] at hu; rcases hu with rfl | rfl <;> rfl
theorem RowAt.wx {W : World} {a : Option Addr} {xs : List (Int × Int)} (h : RowAt wgE W a xs) (i : Nat) (hi : i < xs.length) : ∃ g, a = some ⟨g, 0, none⟩ ∧ g < W.heap.size ∧ W.cell? ⟨g, i * 2, none⟩ = some (.int .i64 xs[i].1) ∧ W.cell? ⟨g, i * 2 + 1, none⟩ = some (.int .u64 xs[i].2) := by
  obtain ⟨g, e, hl, hc⟩ := h i hi
  exact ⟨g, e, hl, (hc 0 (by decide)).1, (hc 1 (by decide)).1⟩

theorem cmpLaysW (blk off size : Nat) (w : World) : CmpLays Tryz.prog 55 #[] wgL 2 cfW blk off size w := fun _ _ _ _ x y => closW_calls x y _
theorem sortW_calls (B g n cap : Nat) (f : Int → Int) (l : List Int) (w : World) (hn : l.length = n) (hn2 : n ≤ 1048576) (hr : l.Pairwise (· < ·)) (h : OwnR wgE w B (.slice (some ⟨g, 0, none⟩) n cap) (l.map fun x => (x, f x))) :
    Calls Tryz.prog 54 #[.slice (some ⟨g, 0, none⟩) n cap, .func (.func 55) #[] #[]] w fun e w' => e = .returned (.tuple #[]) ∧ OwnR wgE w' B (.slice (some ⟨g, 0, none⟩) n cap) ((rk f l).map fun x => (x, f x)) ∧ Below B w w' := by
  have hlt := World.ownsRow.lt h g rfl
  have hsz : (l.map fun x => (x, f x)).toArray.size = n := by simp [hn]
  have eg : ∀ args w, (callFunc 55 args).run Tryz.prog w = .ok (.enter 55 args) w := enters_of Tryz.func55 (by kernel_rfl) rfl
  have C := AnyQ.slices_SortFunc_total Tryz.lShlW 2 Tryz.isAgg96 Tryz.sizeOf96 wgL (fun _ => rfl) wgE.hone cfW swoW 55 #[] g 0 cap (l.map fun x => (x, f x)).toArray w eg (cmpLaysW _ _ _ _) h.holdsK hlt.2 (by rw [hsz]; omega) totW
  rw [hsz] at C
  refine C.mono ?_
  rintro e w' ⟨rfl, m, os, rfl⟩
  have hms := msort_rk f l hr
  refine ⟨rfl, ?_, ?_⟩
  · rw [show ((l.map fun x => (x, f x)).toArray.toList.mergeSort fun x y => !(ltOf cfW) y x) = (rk f l).map fun x => (x, f x) from hms]
    exact OwnR.sortedK (e := wgE) h (by rw [List.length_map, List.length_map, rk_len]) m os
  · exact below_sortedK wgE w B g m _ os hlt.1 hlt.2

theorem sortW_none (c : Nat) (fv : Value) (w : World) :
    Calls Tryz.prog 54 #[.slice none 0 c, fv] w fun e w' => e = .returned (.tuple #[]) ∧ w' = w := AnyF.slices_SortFunc_none Tryz.lShlW none c fv w
theorem sortW_any (B : Nat) (a : Option Addr) (n cap : Nat) (f : Int → Int) (l : List Int) (w : World) (hn : l.length = n) (hn2 : n ≤ 1048576) (hr : l.Pairwise (· < ·)) (h : OwnR wgE w B (.slice a n cap) (l.map fun x => (x, f x))) (hB : B ≤ w.heap.size) :
    Calls Tryz.prog 54 #[.slice a n cap, .func (.func 55) #[] #[]] w fun e w' => e = .returned (.tuple #[]) ∧ OwnR wgE w' B (.slice a n cap) ((rk f l).map fun x => (x, f x)) ∧ Below B w w' := by
  rcases h.2 with ⟨e, e0⟩ | ⟨g, cap', cur, e, _⟩
  · simp at e
    obtain ⟨rfl, rfl, rfl⟩ := e
    refine (sortW_none 0 _ w).mono ?_
    rintro e w' ⟨rfl, rfl⟩
    obtain rfl := List.length_eq_zero_iff.1 hn
    exact ⟨rfl, ownR_nil _ _ _, Below.refl _ _⟩
  · simp at e
    obtain ⟨rfl, _⟩ := e
    exact sortW_calls B g n cap f l w hn hn2 hr h

namespace Plain
theorem okIds_lt : ∀ (l : List Int) (p : Int), okIds p l = true → l.Pairwise (· < ·) ∧ ∀ a ∈ l, p < a
  | [], _, _ => ⟨List.Pairwise.nil, fun a h => by cases h⟩
  | b :: l, p, h => by
    rw [okIds, Bool.and_eq_true, Bool.and_eq_true, decide_eq_true_iff, decide_eq_true_iff] at h
    obtain ⟨⟨h1, _⟩, h3⟩ := h
    obtain ⟨i1, i2⟩ := okIds_lt l b h3
    refine ⟨List.pairwise_cons.2 ⟨i2, i1⟩, fun a ha => ?_⟩
    rcases List.mem_cons.1 ha with rfl | ha
    · exact h1
    · have := i2 a ha; omega
end Plain

set_option maxRecDepth 10000 in
set_option maxHeartbeats 4000000 in
theorem heaviest_calls (d : ByteArray) (gd : Nat) (a : Option Addr) (n c : Nat) (ls : List Int) (w : World) (h : IntsAt w a n ls) (hok : okIds 0 ls = true) (hd : d.size = 71) (hK : KAt w) (hg : w.cell? ⟨gd, 0, none⟩ = some (.string d)) :
    Calls Tryz.prog 45 #[.slice a n c, .func (.func 59) #[] #[.pointer (some ⟨gd, 0, none⟩)]] w fun e w' => ∃ v, e = .returned v ∧ OwnR i64E w' w.heap.size v (rk (wt d) ls) ∧ Below w.heap.size w w' := by
  have h0 : 1 < w.heap.size := lt_of_cell (hK 0 (by omega))
  have hgl : gd < w.heap.size := lt_of_cell hg
  have HALL := hide (okIds_facts ls 0 (by decide) hok).2
  have hris := (okIds_lt ls 0 hok).1
  have HW := hide (fun (W : World) (hW : Below w.heap.size w W) (N : Nat) (h2 : N ≤ 50) => weigh_calls d N gd W (hK.below hW h0) hd h2 (bclW hW hgl hg))
  have HSRT := hide (fun (B : Nat) (a : Option Addr) (c : Nat) (W : World) (ho : OwnR wgE W B (.slice a n c) (ls.map fun x => (x, wt d x))) (hB : B ≤ W.heap.size) => sortW_any B a n c (wt d) ls W h.len h.bn hris ho hB)
  generalize wt d = f at HW HSRT ⊢
  have HD := hide (fun (W : World) (hW : Below w.heap.size w W) => h.below hW)
  have hbn := h.bn
  have HLN := hide h.len
  clear h hok hd hK hg hris
  go_enter Tryz.func45, Tryz.ntmps45
  go_wp2_with fail
  go_loopw [5, 13] (fun s5 s13 wr => ∃ k : Nat, s13 = .int .i64 k ∧ k ≤ n ∧ w.heap.size ≤ wr.heap.size ∧ Hid (OwnR wgE wr w.heap.size s5 ((ls.take k).map fun x => (x, f x))) ∧ Hid (Below w.heap.size w wr)) (fun _ s13 _ => n - (intOf s13).toNat)
  case atStart => exact ⟨0, rfl, by omega, Nat.le_refl _, hide (ownR_nil _ _ _), hide (Below.refl _ _)⟩
  case round =>
    obtain ⟨k, rfl, hk, hz, HO, HB⟩ := hrel
    by_cases hkn : k < n
    · have hkl : k < ls.length := by rw [unhide HLN]; exact hkn
      obtain ⟨g, e1, l1, p0, -⟩ := (unhide HD wr (unhide HB)).row.ix k hkl
      have hr := unhide HALL ls[k] (by simp)
      have HTK := hide (show (ls.take (k + 1)).map (fun x => (x, f x)) = ((ls.take k).map fun x => (x, f x)) ++ [(ls[k], f ls[k])] from by rw [List.take_succ_eq_append_getElem hkl, List.map_append]; rfl)
      have hlen : ((ls.take k).map fun x => (x, f x)).length < 100000000 := by rw [List.length_map, List.length_take]; omega
      generalize ls[k] = x at p0 hr HTK
      obtain ⟨X, rfl⟩ := Int.eq_ofNat_of_zero_le (show 0 ≤ x by omega)
      have HWX := hide (unhide HW wr (unhide HB) X (by omega))
      have HLK := hide (show ((ls.take k).map fun x => (x, f x)).length = k from by rw [List.length_map, List.length_take]; omega)
      have HLK2 := hide (show (((ls.take k).map fun x => (x, f x)) ++ [((X : Int), f (X : Int))]).length = k + 1 from by rw [List.length_append, unhide HLK]; rfl)
      obtain ⟨a1, c1, hv1⟩ := (unhide HO).form
      rw [unhide HLK] at hv1
      subst hv1
      have i0 : (0 : Int) ≤ (k : Int) := by omega
      have i1 : (k : Int) < (n : Int) := by omega
      subst e1
      clear hr HW HD
      go_wp2_with fail
      refine (unhide HWX).mono ?_
      rintro e w1 ⟨rfl, hb1⟩
      have hz1 := hb1.size
      have HB1 := hide ((unhide HB).trans (hb1.mono hz))
      have HO1 := hide ((unhide HO).keep hb1)
      have hz2 : w.heap.size ≤ w1.heap.size := by omega
      clear hb1 p0 HO HB hz1 HWX
      go_wp2_with (at_builtin; go_must (refine appR (e := wgE) rfl _ _ rfl (unhide HO1) rfl ((X : Int), f (X : Int)) rfl _ rfl rfl hlen hz2 ?_); intro v' w6 hown6 hb6 hg6; obtain ⟨a3, c3, hv'⟩ := hown6.form; rw [unhide HLK2] at hv'; subst hv')
      go_roundw
      case rel => exact ⟨k + 1, by go_num, by omega, by have := hb6.size; omega, hide (by rw [unhide HTK]; exact hown6), hide ((unhide HB1).trans hb6)⟩
      case measure => simp [intOf]; omega
    · obtain rfl : k = n := by omega
      rw [List.take_of_length_le (by rw [unhide HLN]; exact Nat.le_refl _)] at HO
      clear HW HD
      obtain ⟨a1, c1, hv1⟩ := (unhide HO).form
      rw [List.length_map, unhide HLN] at hv1
      subst hv1
      have HS := hide (unhide HSRT _ a1 c1 wr (unhide HO) hz)
      have HLR := hide (show (rk f ls).length = k from by rw [rk_len]; exact unhide HLN)
      generalize hrs : rk f ls = rs at HS HLR
      have HRS := hide hrs
      clear hrs
      clear HO HSRT
      go_wp2_with fail
      refine (unhide HS).mono ?_
      rintro e w1 ⟨rfl, ho1, hb1⟩
      have HR0 := hide ho1
      have HB1 := hide ((unhide HB).trans hb1)
      have hz1 : w.heap.size ≤ w1.heap.size := Nat.le_trans hz hb1.size
      clear hb1 ho1 HS HB hz hk hkn
      go_wp2_with fail
      go_loopw [8, 30] (fun s8 s30 wq => ∃ m : Nat, s30 = .int .i64 m ∧ m ≤ k ∧ w.heap.size ≤ wq.heap.size ∧ Hid (OwnR i64E wq w.heap.size s8 (rs.take m)) ∧ Hid (OwnR wgE wq w.heap.size (.slice a1 k c1) (rs.map fun x => (x, f x))) ∧ Hid (Below w.heap.size w wq)) (fun _ s30 _ => k - (intOf s30).toNat)
      case atStart => exact ⟨0, rfl, by omega, hz1, hide (ownR_nil _ _ _), HR0, HB1⟩
      case round =>
        clear HR0 HB1 hz1
        obtain ⟨m, rfl, hm, hzm, HO, HR, HB⟩ := hrel
        by_cases hmk : m < k
        · have hml : m < rs.length := by rw [unhide HLR]; exact hmk
          have hml2 : m < (rs.map fun x => (x, f x)).length := by rw [List.length_map]; exact hml
          obtain ⟨g, e1, l1, p0, p1⟩ := (unhide HR).at.wx m hml2
          rw [List.getElem_map] at p0 p1
          have HTK := hide (List.take_succ_eq_append_getElem hml)
          have HLK := hide (show (rs.take m).length = m from by rw [List.length_take]; omega)
          have HLK2 := hide (show (rs.take m ++ [rs[m]]).length = m + 1 from by rw [List.length_append, unhide HLK]; rfl)
          generalize rs[m] = x at p0 p1 HTK HLK2
          simp only at p0 p1
          have hlen : (rs.take m).length < 100000000 := by rw [unhide HLK]; omega
          obtain ⟨a2, c2, hv2⟩ := (unhide HO).form
          rw [unhide HLK] at hv2
          subst hv2
          subst e1
          have i0 : (0 : Int) ≤ (m : Int) := by omega
          have i1 : (m : Int) < (k : Int) := by omega
          clear hml hml2
          obtain ⟨OB, hOB⟩ : ∃ OB, OB = Obj.cells #[.int .i64 x, .int .u64 (f x)] 96 := ⟨_, rfl⟩
          have HO2 := hide ((unhide HO).keep (bel1D wr OB))
          have HR2 := hide ((unhide HR).keep (bel1D wr OB))
          have hz2 : w.heap.size ≤ (wr.alloc OB).heap.size := by simp; omega
          rw [hOB] at HO2 HR2 hz2
          have HOB := hide hOB
          clear hOB
          go_wp2_with (at_builtin; go_must (refine appR (e := i64E) rfl _ _ rfl (unhide HO2) rfl x rfl _ rfl (by simp) hlen hz2 ?_); intro v' w6 hown6 hb6 hg6; obtain ⟨a3, c3, hv'⟩ := hown6.form; rw [unhide HLK2] at hv'; subst hv')
          have HB6 := hide ((unhide HB).trans (((bel1D wr _).mono hzm).trans hb6))
          have HR6 := hide ((unhide HR2).beside (unhide HO2) (by decide) hg6)
          have hz6 := hb6.size
          clear hb6 hg6 HO2 HR2 HO HR HB p0 p1
          go_roundw
          case rel => exact ⟨m + 1, by go_num, by omega, by omega, hide (by rw [unhide HTK]; exact hown6), HR6, HB6⟩
          case measure => simp [intOf]; omega
        · obtain rfl : m = k := by omega
          rw [List.take_of_length_le (by rw [unhide HLR]; exact Nat.le_refl _)] at HO
          obtain ⟨a2, c2, hv2⟩ := (unhide HO).form
          rw [unhide HLR] at hv2
          subst hv2
          clear HR
          go_wp2_with fail
          go_ret
          exact ⟨.slice a2 m c2, rfl, by rw [unhide HRS]; exact unhide HO, unhide HB⟩
end Go.Proofs.YtmicacoegkmklaaGreatDoor


/- Ranked, by both programs. -/
namespace Go.Proofs.YtmicacoegkmklaaGreatDoor
open Go.RowKit Plain
set_option linter.unusedVariables false

namespace Plain
theorem okIds_len : ∀ (l : List Int) (p : Int), p ≤ 50 → okIds p l = true → (l.length : Int) ≤ 50 - p
  | [], p, hp, _ => by simp; omega
  | a :: l, p, hp, h => by
    rw [okIds, Bool.and_eq_true, Bool.and_eq_true, decide_eq_true_iff, decide_eq_true_iff] at h
    obtain ⟨⟨h1, h2⟩, h3⟩ := h
    have := okIds_len l a h2 h3
    rw [List.length_cons]
    omega
theorem ids50 (n : Nat) (l : List Int) (hl : l.length = n) : (decide (n ≤ 50) && okIds 0 l) = okIds 0 l := by
  cases h : okIds 0 l with
  | false => simp
  | true =>
    have := okIds_len l 0 (by decide) h
    rw [decide_eq_true (by omega)]
    rfl
def rnkB (d : ByteArray) (l : List Int) : Bool := digB d && okIds 0 l
def rnkL (d : ByteArray) (l : List Int) : List Int := if rnkB d l then rk (wt d) l else []
theorem rnkL_yes {d : ByteArray} {l : List Int} (h : rnkB d l = true) : rnkL d l = rk (wt d) l := if_pos h
theorem rnkL_no {d : ByteArray} {l : List Int} (h : rnkB d l = false) : rnkL d l = [] := by unfold rnkL; rw [h]; rfl
theorem rnkL_len (d : ByteArray) (l : List Int) : (rnkL d l).length ≤ l.length := by
  unfold rnkL
  split
  · rw [rk_len]; exact Nat.le_refl _
  · simp
end Plain

theorem weigher2_calls (d : ByteArray) (w : World) :
    Calls Tryz.prog 46 #[.string d] w fun e w' => e = .returned (.func (.func 59) #[] #[.pointer (some ⟨w.heap.size, 0, none⟩)]) ∧ w' = w.alloc (.cells #[.string d] 9) := by
  go_enter Tryz.func46, Tryz.ntmps46
  go_wp2_with fail
  go_ret
  exact ⟨rfl, rfl⟩



end Go.Proofs.YtmicacoegkmklaaGreatDoor
