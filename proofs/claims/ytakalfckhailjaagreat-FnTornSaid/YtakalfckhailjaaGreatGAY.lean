/- Texts of one kind, put together. -/
import Derived.Test.YtakalfckhailjaaGreatGAS
import Derived.Laws.CopyOwn
import Derived.Test.YtakalfckhailjaaGreatGAG
import Derived.Test.YtakalfckhailjaaGreatGAD
import Derived.Lib.AppendZerosOnto
import Derived.Test.YtakalfckhailjaaGreatGAF
import Derived.Deep.AppendLies
import Derived.Deep.RegionHeld3
import Derived.ArgAppend

/- The builtin copy at rows of any element. -/
namespace Go.Proofs.YtakalfckhailjaaGreat
open Go.RowKit Plain
set_option linter.unusedVariables false

theorem row_news2 {α : Type} {e : Elem α} {w : World} {gx : Nat} {ys : List α} (hr : RowAt e w (some ⟨gx, 0, none⟩) ys) : ∀ j u, (ys.flatMap e.enc)[j]? = some u → w.cell? ((⟨gx, 0, none⟩ : Addr).add j) = some u := by
  intro j u hj
  have hjl : j < ys.length * e.n := by
    have := (List.getElem?_eq_some_iff.1 hj).1
    rw [flat_len e.enc e.n e.hlen] at this
    exact this
  have hn := e.hn
  have hq : j / e.n < ys.length := Nat.div_lt_of_lt_mul (by rw [Nat.mul_comm]; exact hjl)
  have hm : j % e.n < e.n := Nat.mod_lt _ hn
  have hd : j / e.n * e.n + j % e.n = j := by rw [Nat.mul_comm]; exact Nat.div_add_mod j e.n
  obtain ⟨g', e1, hl, hc⟩ := hr (j / e.n) hq
  cases e1
  have h1 := (hc (j % e.n) hm).1
  rw [hd] at h1
  have h2 := flat_get e.enc e.n e.hlen ys (j / e.n) (j % e.n) hq hm
  rw [hd] at h2
  rw [show (⟨gx, 0, none⟩ : Addr).add j = ⟨gx, j, none⟩ from by unfold Addr.add; split <;> simp_all, h1, ← h2]
  exact hj
theorem run_copyE {α : Type} (e : Elem α) (w : World) (ty : TypeId) (g o dLen dCap : Nat) (a : Addr) (sLen sCap : Nat) (cur : Array Value) (t : TypeId) (cs : List Value)
    (hg : w.heap[g]? = some (.cells cur t (0, 0))) (hn : cs.length = Nat.min sLen dLen * e.n)
    (hsrc : ∀ j v, cs[j]? = some v → w.cell? (a.add j) = some v) (hfit : o + cs.length ≤ cur.size) (h1 : ∀ v ∈ cs, v.oneCell' = true) :
    (Builtin.copy_ #[e.S, e.S] ty #[.slice (some ⟨g, o, none⟩) dLen dCap, .slice (some a) sLen sCap]).run Tryz.prog w =
      .ok (goInt (Nat.min sLen dLen)) (w.setRow g (cur.toList.take o ++ cs ++ cur.toList.drop (o + cs.length)).toArray) := by
  obtain ⟨i0, hi, hz0, hz1, hz2⟩ := info_parts e.hinfo
  have hl := run_loadCells_list (P := Tryz.prog) w a cs hsrc
  have hst := run_storeCells_at Tryz.prog g o t cs 0 cur w hg (by simpa using hfit) h1
  simp [Builtin.copy_, run_underlying e.hund, Builtin.lenOf, Builtin.firstCells, sizeOf, typeInfo, hi, hz1, ← hn, hl, hst]
theorem copyE_step {α : Type} {e : Elem α} {w : World} {ops : Array Oper} {o : Oper} {a : Act} {K : Act → World → Prop} {Q : Exit → Act → World → Prop} {F : Prop} (hgd : o.guard = none) (d s : Operand)
    (ho : o.op = .call { callee := .builtin .copy, args := #[d, s], argTypes := #[e.S, e.S] }) (g off dLen dCap h sLen sCap : Nat) (hd : a.eval d = .slice (some ⟨g, off, none⟩) dLen dCap) (hs : a.eval s = .slice (some ⟨h, 0, none⟩) sLen sCap)
    (cur : Array Value) (t : TypeId) (hg : w.heap[g]? = some (.cells cur t (0, 0))) (ys : List α) (hy : ys.length = sLen) (hle : sLen ≤ dLen) (hr : RowAt e w (some ⟨h, 0, none⟩) ys) (hfit : off + sLen * e.n ≤ cur.size)
    (hK : ∀ w', w' = w.setRow g (cur.toList.take off ++ ys.flatMap e.enc ++ cur.toList.drop (off + sLen * e.n)).toArray → K (a.put o.dst (goInt sLen)) w') : if Region.wanted o (yielded ops a.tmps) = true then Oper.wp Tryz.prog o a w K Q else F := by
  rw [if_pos (by simp [Region.wanted, hgd])]
  have hlen : (ys.flatMap e.enc).length = sLen * e.n := by rw [flat_len e.enc e.n e.hlen, hy]
  have hmin : Nat.min sLen dLen = sLen := Nat.min_eq_left hle
  have hrun := run_copyE e w o.type g off dLen dCap ⟨h, 0, none⟩ sLen sCap cur t (ys.flatMap e.enc) hg (by rw [hmin]; exact hlen) (row_news2 hr) (by rw [hlen]; exact hfit) (fun u hu => by obtain ⟨y, _, hy2⟩ := List.mem_flatMap.1 hu; exact e.hone y u hy2)
  rw [hmin, hlen] at hrun
  unfold Oper.wp
  simp [execOp, ho, resolve, invoke, builtin, hd, hs, hrun, Result.andThen]
  exact hK _ (by simp)
theorem rowOf {α : Type} {e : Elem α} {W : World} {g : Nat} {t : TypeId} {xs : List α} {rest : List Value} (hh : W.heap[g]? = some (.cells (xs.flatMap e.enc ++ rest).toArray t (0, 0))) (hl : g < W.heap.size) : RowAt e W (some ⟨g, 0, none⟩) xs := fun i hi => by
  refine ⟨g, rfl, hl, fun j hj => ?_⟩
  have hlen := flat_len e.enc e.n e.hlen xs
  have hlt : i * e.n + j < (xs.flatMap e.enc).length := by
    rw [hlen]
    calc i * e.n + j < i * e.n + e.n := by omega
      _ = (i + 1) * e.n := by rw [Nat.succ_mul]
      _ ≤ xs.length * e.n := Nat.mul_le_mul_right _ hi
  have h2 := flat_get e.enc e.n e.hlen xs i j hi hj
  constructor
  · rw [cell_of_row W g (i * e.n + j) _ t (0, 0) hh]
    rw [List.getElem?_toArray, List.getElem?_append_left hlt]
    exact h2
  · simp [World.frozen?, hh]
end Go.Proofs.YtakalfckhailjaaGreat


/- slices.Concat of two rows of entries, by the program. -/
namespace Go.Proofs.YtakalfckhailjaaGreat
open Go.RowKit Plain
set_option linter.unusedVariables false

set_option maxRecDepth 10000 in
set_option maxHeartbeats 2000000 in
theorem growE_calls (n : Nat) (w : World) (hn : n ≤ 10000000) :
    Calls Tryz.prog 80 #[.slice none 0 0, .int .i64 n] w fun e w' => ∃ v, e = .returned v ∧ OwnR entE w' w.heap.size v [] ∧ Below w.heap.size w w' := by
  obtain ⟨i0, hi, hz0, hz1, hz2⟩ := info_parts entE.hinfo
  rcases Nat.eq_zero_or_pos n with rfl | h0
  · go_enter Tryz.func80, Tryz.ntmps80
    go_wp2_with fail
    go_ret
    exact ⟨_, rfl, ownR_nil _ _ _, Below.refl _ _⟩
  · have hold : (Builtin.firstCells i0.size 0 (.slice none 0 0)).run Tryz.prog w.drew = .ok (([] : List Value)).toArray w.drew := run_firstCells_none w.drew i0.size 0 0 0
    have hs0 : 0 < i0.size := by rw [hz1]; exact entE.hn
    have hrz : ∀ ty, (Builtin.append_ #[28, 3] ty #[.slice none 0 0, .int .i64 n]).run Tryz.prog w =
        .ok (.slice (some ⟨w.heap.size, 0, none⟩) n (grownCap w n 0 45)) (w.drew.alloc (.cells ((([] : List Value)).toArray ++ Builtin.zeroCells entE.zero.cells n ++ Builtin.zeroCells entE.zero.cells (grownCap w n 0 45 - n)) 45)) := fun ty => by
      have h := Lib.run_append_grow_zeros w 28 3 ty 45 i0 entE.zero .i64 .i64 Tryz.underlying28 Tryz.underlying3 hi hz0 none 0 0 [] hold n h0 hs0 (by omega) (by omega)
        (by rw [hz2]; show n * 32 ≤ _; omega)
        (by rw [hz2]; exact growslice_fits (by omega) (by show (0 + n) * 32 ≤ _; omega))
      rw [Nat.zero_add] at h
      exact h
    have hGn := grownCap_ge w n 0 45
    have hGm := grownCap_le_maxLen w n 0 45 (by unfold maxLen; omega)
    have hzc : entE.zero.cells.size = 3 := by rw [entE.hz]; rfl
    generalize grownCap w n 0 45 = G at hrz hGn hGm
    have i1 : (0 : Int) < (n : Int) := by omega
    have i2 : (Builtin.zeroCells entE.zero.cells n).size = n * 3 := by rw [size_zeroCells, hzc]
    have i3 : (Builtin.zeroCells entE.zero.cells (G - n)).size = (G - n) * 3 := by rw [size_zeroCells, hzc]
    generalize Builtin.zeroCells entE.zero.cells n = Z1 at hrz i2
    generalize Builtin.zeroCells entE.zero.cells (G - n) = Z2 at hrz i3
    have HZ := hide (And.intro i2 i3)
    clear i2 i3
    go_enter Tryz.func80, Tryz.ntmps80
    go_wp2_with (at_builtin; refine Lib.wpList_append_run _ rfl _ _ _ _ rfl _ _ rfl rfl _ _ (hrz _) ?_)
    go_ret
    obtain ⟨i2, i3⟩ := unhide HZ
    refine ⟨_, rfl, ⟨by simp, .inr ⟨w.heap.size, G, _, rfl, Nat.le_refl _, heap_alloc_new w.drew _, Nat.zero_le _, hGm, ?_, by simp⟩⟩, ((Below.refl _ w).drew).trans (bel1 w.drew _)⟩
    simp [i2, i3]
    show n * 3 + (G - n) * 3 = G * 3
    omega

set_option maxRecDepth 10000 in
set_option maxHeartbeats 4000000 in
theorem concatE_calls (gs : Nat) (a1 : Option Addr) (n1 c1 : Nat) (xs : List Ent) (a2 : Option Addr) (n2 c2 : Nat) (ys : List Ent) (w : World) (k0 : w.cell? ⟨gs, 0, none⟩ = some (.slice a1 n1 c1)) (k1 : w.cell? ⟨gs, 1, none⟩ = some (.slice a2 n2 c2))
    (h1 : RowAt entE w a1 xs) (h2 : RowAt entE w a2 ys) (hn1 : xs.length = n1) (hn2 : ys.length = n2) (b1 : n1 ≤ 2000000) (b2 : n2 ≤ 2000000) (d1 : AdG a1 c1) (d2 : AdG a2 c2) :
    Calls Tryz.prog 36 #[.slice (some ⟨gs, 0, none⟩) 2 2] w fun e w' => ∃ v, e = .returned v ∧ OwnR entE w' w.heap.size v (xs ++ ys) ∧ Below w.heap.size w w' := by
  have hgl := lt_of_cell k0
  simp only at hgl
  have HC := hide (fun (W : World) (hW : Below w.heap.size w W) => And.intro (bcl hW hgl k0) (bcl hW hgl k1))
  have H1 := hide (fun (W : World) (hW : Below w.heap.size w W) => h1.below hW)
  have H2 := hide (fun (W : World) (hW : Below w.heap.size w W) => h2.below hW)
  have HD := hide (And.intro d1 d2)
  have HN := hide (And.intro hn1 hn2)
  clear h1 h2 d1 d2 hn1 hn2
  have i00 : (0 : Int) < 2 := by decide
  go_enter Tryz.func36, Tryz.ntmps36
  go_wp2_with fail
  go_loopw [3, 11] (fun s3 s11 wr => wr = w ∧ ((s11 = .int .i64 0 ∧ s3 = .int .i64 0) ∨ (s11 = .int .i64 1 ∧ s3 = .int .i64 (n1 : Int)) ∨ (s11 = .int .i64 2 ∧ s3 = .int .i64 ((n1 + n2 : Nat) : Int)))) (fun _ s11 _ => 2 - (intOf s11).toNat)
  case atStart => exact ⟨rfl, .inl ⟨rfl, rfl⟩⟩
  case round =>
    obtain ⟨rfl, h | h | h⟩ := hrel
    all_goals obtain ⟨rfl, rfl⟩ := h
    · go_wp2_with fail
      go_roundw
      case rel => exact ⟨trivial, .inr (.inl ⟨rfl, by go_num⟩)⟩
      case measure => simp [intOf]
    · go_wp2_with fail
      go_roundw
      case rel => exact ⟨trivial, .inr (.inr ⟨rfl, by go_num⟩)⟩
      case measure => simp [intOf]
    · have HG := hide (growE_calls (n1 + n2) wr (by omega))
      go_wp2_with fail
      refine (unhide HG).mono ?_
      rintro e w2 ⟨v2, rfl, ho2, hb2⟩
      have HO2 := hide ho2
      have HB2 := hide hb2
      clear ho2 hb2
      go_wp2_with fail
      go_loopw [6, 27] (fun s6 s27 wx => Hid (Below wr.heap.size wr wx) ∧ ((s27 = .int .i64 0 ∧ Hid (OwnR entE wx wr.heap.size s6 [])) ∨ (s27 = .int .i64 1 ∧ Hid (OwnR entE wx wr.heap.size s6 xs)) ∨ (s27 = .int .i64 2 ∧ Hid (OwnR entE wx wr.heap.size s6 (xs ++ ys))))) (fun _ s27 _ => 2 - (intOf s27).toNat)
      case atStart => exact ⟨HB2, .inl ⟨rfl, HO2⟩⟩
      case round =>
        clear HO2 HB2 HG
        obtain ⟨HBx, h | h | h⟩ := hrel
        · obtain ⟨rfl, HO⟩ := h
          obtain ⟨q0, q1⟩ := unhide HC _ (unhide HBx)
          have HRW := hide (unhide H1 _ (unhide HBx))
          have hz := (unhide HBx).size
          go_wp2_with (at_builtin; refine appGG rfl _ _ rfl (unhide HO) rfl a1 n1 c1 rfl (unhide HN).1 (unhide HRW) (unhide HD).1 (by simp; omega) hz ?_; intro v5 w5 hO5 hb5; have HO5 := hide hO5; have HB5 := hide ((unhide HBx).trans hb5); clear hO5 hb5)
          go_roundw
          case rel => exact ⟨HB5, .inr (.inl ⟨by go_num, HO5⟩)⟩
          case measure => simp [intOf]
        · obtain ⟨rfl, HO⟩ := h
          obtain ⟨q0, q1⟩ := unhide HC _ (unhide HBx)
          have HRW := hide (unhide H2 _ (unhide HBx))
          have hz := (unhide HBx).size
          go_wp2_with (at_builtin; refine appGG rfl _ _ rfl (unhide HO) rfl a2 n2 c2 rfl (unhide HN).2 (unhide HRW) (unhide HD).2 (by rw [(unhide HN).1]; omega) hz ?_; intro v5 w5 hO5 hb5; have HO5 := hide hO5; have HB5 := hide ((unhide HBx).trans hb5); clear hO5 hb5)
          go_roundw
          case rel => exact ⟨HB5, .inr (.inr ⟨by go_num, HO5⟩)⟩
          case measure => simp [intOf]
        · obtain ⟨rfl, HO⟩ := h
          go_wp2_with fail
          go_ret
          exact ⟨_, rfl, unhide HO, unhide HBx⟩
end Go.Proofs.YtakalfckhailjaaGreat


/- A row appended to an empty slice without room: nothing that was there is changed. -/
namespace Go.Proofs.YtakalfckhailjaaGreat
open Go.RowKit Plain
set_option linter.unusedVariables false

/-- What an append to an empty slice in block g without room leaves. -/
structure Plain.AppN {α : Type} (e : Elem α) (g : Nat) (w w' : World) (a : Option Addr) (c : Nat) (ys : List α) : Prop where
  below : Below w.heap.size w w'
  row : RowAt e w' a ys
  bl : ∀ k, inB a k → (k = g ∨ w.heap.size ≤ k) ∧ k < w'.heap.size
  own : OwnR e w' w.heap.size (.slice a ys.length c) ys ∨ (ys = [] ∧ c = 0 ∧ a = some ⟨g, 0, none⟩)
theorem Plain.below_none {w w' : World} (h : w.grownBy w' none) : Below w.heap.size w w' := ⟨h.os, h.tape, h.output, h.size, fun k hk => h.block k hk (fun q => by cases q)⟩
theorem row_news {α : Type} {e : Elem α} {w : World} {gx : Nat} {ys : List α} (hr : RowAt e w (some ⟨gx, 0, none⟩) ys) : ∀ j u, (ys.flatMap e.enc)[j]? = some u → w.cell? ((⟨gx, 0, none⟩ : Addr).add j) = some u := by
  intro j u hj
  have hjl : j < ys.length * e.n := by
    have := (List.getElem?_eq_some_iff.1 hj).1
    rw [flat_len e.enc e.n e.hlen] at this
    exact this
  have hn := e.hn
  have hq : j / e.n < ys.length := Nat.div_lt_of_lt_mul (by rw [Nat.mul_comm]; exact hjl)
  have hm : j % e.n < e.n := Nat.mod_lt _ hn
  have hd : j / e.n * e.n + j % e.n = j := by rw [Nat.mul_comm]; exact Nat.div_add_mod j e.n
  obtain ⟨g', e1, hl, hc⟩ := hr (j / e.n) hq
  cases e1
  have h1 := (hc (j % e.n) hm).1
  rw [hd] at h1
  have h2 := flat_get e.enc e.n e.hlen ys (j / e.n) (j % e.n) hq hm
  rw [hd] at h2
  rw [show (⟨gx, 0, none⟩ : Addr).add j = ⟨gx, j, none⟩ from by unfold Addr.add; split <;> simp_all, h1, ← h2]
  exact hj
theorem run_app0 {α : Type} (e : Elem α) (ty : TypeId) (w : World) (g gx c : Nat) (ys : List α) (hr : RowAt e w (some ⟨gx, 0, none⟩) ys) (hlen : ys.length ≤ 1048576) (hg : g < w.heap.size) :
    ∃ a' c' w', (Builtin.append_ #[e.S, e.S] ty #[.slice (some ⟨g, 0, none⟩) 0 0, .slice (some ⟨gx, 0, none⟩) ys.length c]).run Tryz.prog w = .ok (.slice a' ys.length c') w' ∧ AppN e g w w' a' c' ys := by
  obtain ⟨i0, hi, hz0, hz1, hz2⟩ := info_parts e.hinfo
  have hby := e.hb
  rcases Nat.eq_zero_or_pos ys.length with h0 | h0
  · have hys : ys = [] := List.length_eq_zero_iff.1 h0
    subst hys
    refine ⟨some ⟨g, 0, none⟩, 0, w, ?_, Below.refl _ _, fun i hi => by simp at hi, ?_, .inr ⟨rfl, rfl, rfl⟩⟩
    · simp [Builtin.append_, run_underlying e.hund, sizeOf, typeInfo, hi, storeCells, go_sem]
    · rintro k ⟨o, q⟩
      cases q
      exact ⟨.inl rfl, hg⟩
  · obtain ⟨v', w', hr', h2, h3⟩ := run_append_arg_grows (P := Tryz.prog) w e.S ty e.E i0 e.zero e.n e.bytes e.hund hi hz0 hz1 hz2 e.hz e.hn ⟨g, 0, none⟩ 0 0 [] (by simp) (fun j u hj => by simp at hj) ⟨gx, 0, none⟩ ys.length c (ys.flatMap e.enc) (flat_len e.enc e.n e.hlen ys) (row_news hr) (by omega) (by unfold maxLen; omega) (Nat.le_trans (Nat.mul_le_mul_left _ hby) (by omega))
    have h1' : OwnR e w' w.heap.size v' ys := by unfold OwnR; rw [Nat.zero_add, List.nil_append] at h2; exact h2
    obtain ⟨a', c', rfl⟩ := h1'.form
    exact ⟨a', c', w', hr', below_none h3, h1'.at, fun k hk => ⟨.inr (h1'.bl k hk).1, (h1'.bl k hk).2⟩, .inl h1'⟩
theorem stepN {α : Type} {e : Elem α} {ops : Array Oper} {o : Oper} {a : Act} {K : Act → World → Prop} {Q : Exit → Act → World → Prop} {F : Prop} (hgd : o.guard = none) (s x : Operand)
    (ho : o.op = .call { callee := .builtin .append, args := #[s, x], argTypes := #[e.S, e.S] })
    {w : World} {ys : List α} (g : Nat) (hs : a.eval s = .slice (some ⟨g, 0, none⟩) 0 0) (hg : g < w.heap.size) (gx m c : Nat) (hx : a.eval x = .slice (some ⟨gx, 0, none⟩) m c) (hy : ys.length = m) (hr : RowAt e w (some ⟨gx, 0, none⟩) ys)
    (hlen : m ≤ 1048576)
    (h : ∀ a' c' w', AppN e g w w' a' c' ys → K (a.put o.dst (.slice a' m c')) w') :
    if Region.wanted o (yielded ops a.tmps) = true then Oper.wp Tryz.prog o a w K Q else F := by
  rw [if_pos (by simp [Region.wanted, hgd])]
  subst hy
  obtain ⟨a', c', w', hr', hA⟩ := run_app0 e o.type w g gx c ys hr hlen hg
  unfold Oper.wp execOp
  simp only [ho, resolve, invoke, builtin, Sem.run_bind, Sem.run_pure, Result.andThen_ok, List.map_toArray, List.map_cons, List.map_nil, hs, hx, hr']
  exact h a' c' w' hA
/-- As stepN, from a slice that may be nil. -/
theorem stepNA {α : Type} {e : Elem α} {ops : Array Oper} {o : Oper} {a : Act} {K : Act → World → Prop} {Q : Exit → Act → World → Prop} {F : Prop} (hgd : o.guard = none) (s x : Operand)
    (ho : o.op = .call { callee := .builtin .append, args := #[s, x], argTypes := #[e.S, e.S] })
    {w : World} {ys : List α} (g : Nat) (hs : a.eval s = .slice (some ⟨g, 0, none⟩) 0 0) (hg : g < w.heap.size) (ad : Option Addr) (m c : Nat) (hx : a.eval x = .slice ad m c) (hy : ys.length = m) (hr : RowAt e w ad ys) (had : AdG ad c)
    (hlen : m ≤ 1048576)
    (h : ∀ a' c' w', AppN e g w w' a' c' ys → K (a.put o.dst (.slice a' m c')) w') :
    if Region.wanted o (yielded ops a.tmps) = true then Oper.wp Tryz.prog o a w K Q else F := by
  rcases had with ⟨rfl, rfl⟩ | ⟨gx, rfl⟩
  · have hys : ys = [] := by
      cases ys with
      | nil => rfl
      | cons y l => obtain ⟨g, e1, _⟩ := hr 0 (by simp); simp at e1
    subst hys
    obtain rfl : m = 0 := by simpa using hy.symm
    rw [if_pos (by simp [Region.wanted, hgd])]
    obtain ⟨i0, hi, hz0, hz1, hz2⟩ := info_parts e.hinfo
    have hrun : (Builtin.append_ #[e.S, e.S] o.type #[.slice (some ⟨g, 0, none⟩) 0 0, .slice none 0 0]).run Tryz.prog w = .ok (.slice (some ⟨g, 0, none⟩) 0 0) w := by
      simp [Builtin.append_, run_underlying e.hund, sizeOf, typeInfo, hi, storeCells, go_sem]
    unfold Oper.wp execOp
    simp only [ho, resolve, invoke, builtin, Sem.run_bind, Sem.run_pure, Result.andThen_ok, List.map_toArray, List.map_cons, List.map_nil, hs, hx, hrun]
    refine h (some ⟨g, 0, none⟩) 0 w ⟨Below.refl _ _, fun i hi => by simp at hi, ?_, .inr ⟨rfl, rfl, rfl⟩⟩
    rintro k ⟨o, q⟩
    cases q
    exact ⟨.inl rfl, hg⟩
  · exact stepN hgd s x ho g hs hg gx m c hx hy hr hlen h
end Go.Proofs.YtakalfckhailjaaGreat


/- Two bytes appended to bytes of the call's own. -/
namespace Go.Proofs.YtakalfckhailjaaGreat
open Go.RowKit Plain
set_option linter.unusedVariables false

theorem two_new (w : World) (b c : Value) (T : Nat) : ∀ j u, [b, c][j]? = some u → (w.alloc (.cells #[b, c] T)).cell? ((⟨w.heap.size, 0, none⟩ : Addr).add j) = some u := by
  intro j u hu
  match j, hu with
  | 0, hu => cases hu; show (w.alloc (.cells #[b, c] T)).cell? ⟨w.heap.size, 0 + 0, none⟩ = _; simp [go_sem]
  | 1, hu => cases hu; show (w.alloc (.cells #[b, c] T)).cell? ⟨w.heap.size, 0 + 1, none⟩ = _; simp [go_sem]
theorem own_two {W : World} {B g cap : Nat} {b c : Int} {xs : List Int} (h : OwnP W B g cap xs) (hr : xs.length + 2 ≤ cap) :
    OwnP ((W.setCell ⟨g, xs.length, none⟩ (.int .u8 b)).setCell ⟨g, xs.length + 1, none⟩ (.int .u8 c)) B g cap (xs ++ [b, c]) := by
  obtain ⟨h1, h2, h3, h4, h5⟩ := h
  have hne : ∀ i j : Nat, i ≠ j → (⟨g, i, none⟩ : Addr) ≠ ⟨g, j, none⟩ := fun i j e q => e (congrArg Addr.off q)
  have hs : ∀ j, j < cap → ((W.setCell ⟨g, xs.length, none⟩ (.int .u8 b)).cell? ⟨g, j, none⟩).isSome = true := fun j hj => by
    by_cases e : xs.length = j
    · subst e; rw [World.cell?_setCell_same' _ _ _ (h5 _ hj).1]; rfl
    · rw [World.cell?_setCell_other _ _ _ _ (hne _ _ e)]; exact (h5 j hj).1
  refine ⟨h1, by simpa using h2, by simpa using hr, fun j hj => ?_, fun j hj => ?_⟩
  · simp at hj
    by_cases e : xs.length + 1 = j
    · subst e
      rw [World.cell?_setCell_same' _ _ _ (hs _ (by omega))]
      simp [List.getD]
    · rw [World.cell?_setCell_other _ _ _ _ (hne _ _ e)]
      by_cases e2 : xs.length = j
      · subst e2
        rw [World.cell?_setCell_same' _ _ _ (h5 _ (by omega)).1]
        simp [List.getD]
      · rw [World.cell?_setCell_other _ _ _ _ (hne _ _ e2), h4 j (by omega)]
        simp [List.getD, List.getElem?_append_left (show j < xs.length by omega)]
  · refine ⟨?_, by simpa using (h5 j hj).2⟩
    by_cases e : xs.length + 1 = j
    · subst e; rw [World.cell?_setCell_same' _ _ _ (hs _ hj)]; rfl
    · rw [World.cell?_setCell_other _ _ _ _ (hne _ _ e)]; exact hs j hj

theorem appQ2 {ops : Array Oper} {rest : List Oper} {o : Oper} {a : Act} {Q : Exit → Act → World → Prop} (hgd : o.guard = none) (s x : Operand)
    (ho : o.op = .call { callee := .builtin .append, args := #[s, x], argTypes := #[22, 22] })
    {w : World} {B g cap n : Nat} {b c : Int} {xs : List Int} (hown : OwnP w B g cap xs) (hn : xs.length = n) (hs : a.eval s = .slice (some ⟨g, 0, none⟩) n cap)
    (hx : a.eval x = .slice (some ⟨w.heap.size, 0, none⟩) 2 2) (hlen : n < 1000000000000) (hB : B ≤ w.heap.size)
    (h : ∀ g' cap' w', OwnP w' B g' cap' (xs ++ [b, c]) → Below B w w' → (∀ k, k < w.heap.size → k ≠ g → w'.heap[k]? = w.heap[k]?) → (g' = g ∨ w.heap.size ≤ g') → wpList Tryz.prog ops Q rest (a.put o.dst (.slice (some ⟨g', 0, none⟩) (n + 2) cap')) w') :
    wpList Tryz.prog ops Q (o :: rest) a (w.alloc (.cells #[.int .u8 b, .int .u8 c] 5)) := by
  subst hn
  obtain ⟨i0, hi, hz0, hz1, hz2⟩ := info_parts info5
  have hb1 : Below w.heap.size w (w.alloc (.cells #[.int .u8 b, .int .u8 c] 5)) := (Below.refl _ _).alloc (Nat.le_refl _) _
  have ha : OwnP (w.alloc (.cells #[.int .u8 b, .int .u8 c] 5)) B g cap xs := hown.keep (hb1.block _ hown.2.1) hb1.size
  obtain ⟨h1, h2, h3, h4, h5⟩ := ha
  refine wpList_append_arg _ hgd s x 22 ho 5 i0 (.int .u8 0) 1 1 Tryz.underlying22 hi hz0 hz1 hz2 rfl (by decide) g 0 xs.length cap (xs.map (Value.int .u8)) hs (by simp) ?_
    ⟨w.heap.size, 0, none⟩ 2 2 [.int .u8 b, .int .u8 c] hx rfl (two_new _ _ _ _) ?_ ?_ (by unfold maxLen; omega) (by omega) ?_ ?_
  · intro j u hu
    have hl : j < xs.length := by have := (List.getElem?_eq_some_iff.1 hu).1; simpa using this
    rw [Nat.zero_add, h4 j hl, ← hu]
    simp [List.getD, List.getElem?_eq_getElem hl]
  · intro u hu; simp at hu; rcases hu with rfl | rfl <;> rfl
  · intro hroom j hj
    simp at hj
    have := h5 (xs.length + j) (by omega)
    simpa using this
  · intro hroom
    have e : (w.alloc (.cells #[.int .u8 b, .int .u8 c] 5)).setCells g (0 + xs.length * 1) [.int .u8 b, .int .u8 c] = ((w.alloc (.cells #[.int .u8 b, .int .u8 c] 5)).setCell ⟨g, xs.length, none⟩ (.int .u8 b)).setCell ⟨g, xs.length + 1, none⟩ (.int .u8 c) := by
      simp [World.setCells]
    rw [e]
    have hr : xs.length + 2 ≤ cap := by omega
    obtain ⟨s1, s2, s3, s4, s5⟩ := own_two (c := c) (b := b) ⟨h1, h2, h3, h4, h5⟩ hr
    refine h g cap _ ⟨s1, s2, s3, s4, s5⟩ (((hb1.mono hB).setCell h1 _).setCell h1 _) (fun k hk hne => ((Below.heap_setCell _ _ _ _ hne).trans (Below.heap_setCell _ _ _ _ hne)).trans (Below.heap_alloc w _ k hk)) (.inl rfl)
  · intro hfull v' w' hr hgr
    have hbw : Below B w w' := (hb1.mono hB).trans ((Below.refl B _).grown hgr (by simp; omega) (fun k hk => by simp at hk))
    rcases hr.2 with ⟨_, h0⟩ | ⟨g', cap', cur, rfl, hbg, hcur, hle, hmx, hcs, htk⟩
    · omega
    · refine h g' cap' w' ⟨?_, ?_, by simpa using hle, fun j hj => ?_, fun j hj => ?_⟩ hbw (fun k hk _ => (hgr.block k (by simp; omega) (by simp)).trans (Below.heap_alloc w _ k hk)) (.inr (by simp at hbg; omega))
      · simp at hbg; omega
      · rcases Nat.lt_or_ge g' w'.heap.size with hlt | hge
        · exact hlt
        · rw [Array.getElem?_eq_none hge] at hcur; cases hcur
      · rw [cell_of_row _ _ j _ _ _ hcur]
        simp at hj
        have hk : cur.toList[j]? = (xs.map (Value.int .u8) ++ [.int .u8 b, .int .u8 c])[j]? := by rw [← htk, List.getElem?_take_of_lt (by omega)]
        rw [← Array.getElem?_toList, hk]
        have hm : (xs.map (Value.int .u8) ++ [.int .u8 b, .int .u8 c])[j]? = ((xs ++ [b, c]).map (Value.int .u8))[j]? := by rw [List.map_append]; rfl
        rw [hm, List.getElem?_map]
        have hj2 : j < (xs ++ [b, c]).length := by simp; omega
        simp [List.getD, List.getElem?_eq_getElem hj2]
      · exact ⟨by rw [cell_of_row _ _ j _ _ _ hcur, Array.getElem?_eq_getElem (by omega)]; rfl, frozen_of_row _ _ j _ _ hcur⟩

end Go.Proofs.YtakalfckhailjaaGreat

