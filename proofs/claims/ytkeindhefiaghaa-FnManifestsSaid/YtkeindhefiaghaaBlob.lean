/- What a manifest names: BlobsOf of both programs by their contracts. -/
import Derived.Test.YtkeindhefiaghaaRis
import Derived.Test.YtkeindhefiaghaaMan
import Derived.Test.YtkeindhefiaghaaShelf
import Derived.Sort.OwnSorted
namespace Go.Proofs.Ytkeindhefiaghaa
open Go.RowKit Plain
open Go.Sort (Holds putRow)
set_option linter.unusedVariables false

namespace Plain
def bys (ls : List ByteArray) : List (List UInt8) := ls.map fun s => s.data.toList
theorem bys_len (ls : List ByteArray) : (bys ls).length = ls.length := by simp [bys]
theorem bys_enc (ls : List ByteArray) : (bys ls).map encStr = ls.map Value.string := by
  unfold bys
  rw [List.map_map]
  rfl
theorem toB_enc (ts : List (List UInt8)) : (ts.map toB).map Value.string = ts.map encStr := by
  rw [List.map_map]
  rfl
theorem compact_mem (d : Array (List UInt8)) : ∀ m, ∀ x, x ∈ Lib.compactUpTo d m ↔ ∃ j, j < m ∧ d[j]! = x := by
  intro m
  induction m with
  | zero => intro x; simp [Lib.compactUpTo]
  | succ m ih =>
    intro x
    rw [Lib.compactUpTo_succ, List.mem_append, ih x]
    by_cases hk : Lib.keeps d m = true
    · rw [if_pos hk, List.mem_singleton]
      constructor
      · rintro (⟨j, hj, e⟩ | e)
        · exact ⟨j, by omega, e⟩
        · exact ⟨m, by omega, e.symm⟩
      · rintro ⟨j, hj, e⟩
        by_cases h : j = m
        · subst h; exact .inr e.symm
        · exact .inl ⟨j, by omega, e⟩
    · rw [if_neg hk]
      have hm : ¬ (m = 0 ∨ d[m]! ≠ d[m - 1]!) := by
        intro h; apply hk; unfold Lib.keeps; exact decide_eq_true h
      have hm0 : m ≠ 0 := fun h => hm (.inl h)
      have he : d[m]! = d[m - 1]! := Classical.byContradiction fun h => hm (.inr h)
      constructor
      · rintro (⟨j, hj, e⟩ | e)
        · exact ⟨j, by omega, e⟩
        · simp at e
      · rintro ⟨j, hj, e⟩
        by_cases h : j = m
        · subst h; exact .inl ⟨j - 1, by omega, by rw [← he]; exact e⟩
        · exact .inl ⟨j, by omega, e⟩
theorem compact_strict (d : Array (List UInt8)) (hs : ∀ i j, i ≤ j → j < d.size → d[i]! ≤ d[j]!) : ∀ m, m ≤ d.size → (Lib.compactUpTo d m).Pairwise (fun a b => a < b) := by
  intro m
  induction m with
  | zero => intro _; simp [Lib.compactUpTo]
  | succ m ih =>
    intro hm
    rw [Lib.compactUpTo_succ]
    by_cases hk : Lib.keeps d m = true
    · rw [if_pos hk, List.pairwise_append]
      refine ⟨ih (by omega), by simp, fun a ha b hb => ?_⟩
      obtain rfl := List.mem_singleton.1 hb
      obtain ⟨j, hj, rfl⟩ := (compact_mem d m a).1 ha
      have hne : d[m]! ≠ d[m - 1]! := by
        unfold Lib.keeps at hk
        have := of_decide_eq_true hk
        rcases this with h | h
        · omega
        · exact h
      have h1 : d[j]! ≤ d[m - 1]! := hs j (m - 1) (by omega) (by omega)
      have h2 : d[m - 1]! ≤ d[m]! := hs (m - 1) m (by omega) (by omega)
      rcases Classical.em (d[j]! < d[m]!) with h | h
      · exact h
      · exact absurd (List.le_antisymm h2 (List.le_trans h h1)).symm hne
    · rw [if_neg hk, List.append_nil]
      exact ih (by omega)
/-- Sorted and compacted: rising, each once. -/
theorem compact_sorted (zs ts : List (List UInt8)) (ht : ts.Pairwise (fun a b => a ≤ b)) (hp : ts.Perm zs) : Strict ((Lib.compact ts).map toB) ∧ ∀ x, x ∈ (Lib.compact ts).map toB ↔ x.data.toList ∈ zs := by
  have hs : ∀ i j, i ≤ j → j < ts.toArray.size → ts.toArray[i]! ≤ ts.toArray[j]! := by
    intro i j hij hj
    have hj2 : j < ts.length := by simpa using hj
    rw [getElem!_pos ts.toArray i (by simp; omega), getElem!_pos ts.toArray j hj]
    simp only [List.getElem_toArray]
    by_cases e : i = j
    · subst e; exact List.le_refl _
    · exact List.pairwise_iff_getElem.1 ht i j (by omega) hj2 (by omega)
  constructor
  · unfold Strict
    rw [List.pairwise_map]
    exact compact_strict ts.toArray hs ts.length (by simp)
  · intro x
    rw [List.mem_map]
    constructor
    · rintro ⟨l, hl, rfl⟩
      obtain ⟨j, hj, e⟩ := (compact_mem ts.toArray ts.length l).1 hl
      rw [getElem!_pos ts.toArray j (by simpa using hj)] at e
      rw [toB_list]
      refine hp.mem_iff.1 ?_
      rw [← e]
      simp
    · intro hx
      have h1 := hp.mem_iff.2 hx
      obtain ⟨j, hj, e⟩ := List.getElem_of_mem h1
      refine ⟨x.data.toList, (compact_mem ts.toArray ts.length _).2 ⟨j, hj, ?_⟩, rfl⟩
      rw [getElem!_pos ts.toArray j (by simpa using hj)]
      simpa using e
end Plain

theorem OwnR.cut {W : World} {B g n m cap : Nat} {xs : List ByteArray} (h : OwnR strE W B (.slice (some ⟨g, 0, none⟩) n cap) xs) (hn : xs.length = n) (hm : m ≤ n) : OwnR strE W B (.slice (some ⟨g, 0, none⟩) m cap) (xs.take m) := by
  subst hn
  unfold OwnR at h ⊢
  rw [flat_str] at h ⊢
  rcases h.2 with ⟨e, _⟩ | ⟨g', cap', cur, e, hb, hc, h1, h2, h3, h4⟩
  · simp at e
  · simp only [Value.slice.injEq, Option.some.injEq, Addr.mk.injEq, and_true, true_and] at e
    obtain ⟨rfl, rfl⟩ := e
    have hl : (xs.take m).length = m := by rw [List.length_take]; omega
    have hs : strE.n = 1 := rfl
    refine ⟨by rw [List.length_map, hl, hs, Nat.mul_one], .inr ⟨g, cap, cur, by rw [hl], hb, hc, by omega, h2, h3, ?_⟩⟩
    rw [hl, List.map_take, ← h4, hs, Nat.mul_one, Nat.mul_one, List.take_take, Nat.min_eq_left hm]

theorem sort_calls (B g n cap : Nat) (ls : List ByteArray) (w : World) (hn : ls.length = n) (hn2 : n ≤ 100000000) (h : OwnR strE w B (.slice (some ⟨g, 0, none⟩) n cap) ls) :
    Calls Try.prog 69 #[.slice (some ⟨g, 0, none⟩) n cap] w fun e w' => e = .returned (.tuple #[]) ∧ ∃ ts : List (List UInt8), OwnR strE w' B (.slice (some ⟨g, 0, none⟩) n cap) (ts.map toB) ∧ ts.Pairwise (fun a b => a ≤ b) ∧ ts.Perm (bys ls) ∧ Below B w w' := by
  have hlt := World.ownsRow.lt h g rfl
  have h0 : w.ownsRow B 9 1 (.slice (some ⟨g, 0, none⟩) n cap) ls.length (ls.map Value.string) := by have := h; unfold OwnR at this; rw [flat_str] at this; exact this
  rcases h0.2 with ⟨e, _⟩ | ⟨g', cap', cur, e, hb, hc, h1, h2, h3, h4⟩
  · simp at e
  · simp only [Value.slice.injEq, Option.some.injEq, Addr.mk.injEq, and_true] at e
    obtain ⟨rfl, -, rfl⟩ := e
    have hbl : (bys ls).length = n := by rw [bys_len, hn]
    have hH : Holds encStr w g 0 (bys ls).toArray := holds_of_block hc (by rw [bys_len, bys_enc]; simpa using h4)
    have C := Any.slices_Sort_string Try.lays190 g 0 cap (bys ls) w hH hlt.2 (by rw [hbl]; omega)
    rw [hbl] at C
    refine C.mono ?_
    rintro e w' ⟨rfl, nn, os, rfl⟩
    have hp := List.mergeSort_perm (bys ls) (fun x y => decide (x ≤ y))
    have hso : ((bys ls).mergeSort fun x y => decide (x ≤ y)).Pairwise (fun a b => a ≤ b) := by
      have := List.pairwise_mergeSort (le := fun (x y : List UInt8) => decide (x ≤ y)) (fun a b c h1 h2 => by simp at h1 h2 ⊢; exact List.le_trans h1 h2) (fun a b => by simp; exact List.le_total a b) (bys ls)
      simpa using this
    refine ⟨rfl, _, ?_, hso, hp, ?_⟩
    · have := ownsRow_sorted (base := B) (n := nn) (os := os) (ss := bys ls) (ts := (bys ls).mergeSort fun x y => decide (x ≤ y)) (by rw [hp.length_eq]) hb hc (by rw [bys_len]; exact h1) h2 h3
      unfold OwnR
      rw [flat_str, toB_enc, List.length_map, hp.length_eq, hbl]
      rw [hbl] at this
      exact this
    · exact (Below.refl B w).grown (grownBy_sorted _) (by omega) (fun k hk => by cases hk; exact hb)

theorem compact_calls (B g n cap : Nat) (ts : List (List UInt8)) (zs : List (List UInt8)) (w : World) (hn : ts.length = n) (hn2 : n ≤ 100000000) (h : OwnR strE w B (.slice (some ⟨g, 0, none⟩) n cap) (ts.map toB)) (ht : ts.Pairwise (fun a b => a ≤ b)) (hp : ts.Perm zs) :
    Calls Try.prog 70 #[.slice (some ⟨g, 0, none⟩) n cap] w fun e w' => ∃ (m : Nat) (out : List ByteArray), e = .returned (.slice (some ⟨g, 0, none⟩) m cap) ∧ out.length = m ∧ m ≤ n ∧ OwnR strE w' B (.slice (some ⟨g, 0, none⟩) m cap) out ∧ Hid (Strict out ∧ ∀ x : ByteArray, x ∈ out ↔ x.data.toList ∈ zs) ∧ Below B w w' := by
  have hlt := World.ownsRow.lt h g rfl
  have hl : (ts.map toB).length = n := by rw [List.length_map, hn]
  have h0 : w.ownsRow B 9 1 (.slice (some ⟨g, 0, none⟩) n cap) n (ts.map encStr) := by have := h; unfold OwnR at this; rw [flat_str, toB_enc, hl] at this; exact this
  rcases h0.2 with ⟨e, _⟩ | ⟨g', cap', cur, e, hb, hc, h1, h2, h3, h4⟩
  · simp at e
  · simp only [Value.slice.injEq, Option.some.injEq, Addr.mk.injEq, and_true, true_and] at e
    obtain ⟨rfl, rfl⟩ := e
    subst hn
    have hH : Holds encStr w g 0 ts.toArray := holds_of_block hc (by simpa using h4)
    have hcl : (Lib.compact ts).length ≤ ts.length := by
      unfold Lib.compact Lib.compactUpTo
      rw [List.length_map]
      exact Nat.le_trans (List.length_filter_le _ _) (by simp)
    have C := Any.slices_Compact_string Try.lays194 g 0 cap ts w hH (by omega) h1
    refine C.mono ?_
    rintro e w' ⟨rfl, q, rfl⟩
    have hlen : (Lib.compact ts ++ List.replicate (ts.length - (Lib.compact ts).length) ([] : List UInt8)).length = ts.length := by rw [List.length_append, List.length_replicate]; omega
    have hown := ownsRow_sorted (base := B) (n := q) (os := #[]) (ss := ts) (ts := Lib.compact ts ++ List.replicate (ts.length - (Lib.compact ts).length) []) hlen hb hc h1 h2 h3
    rw [Sort.grow_empty] at hown
    have hown2 : OwnR strE (putRow encStr (Sort.ahead w q) g 0 (Lib.compact ts ++ List.replicate (ts.length - (Lib.compact ts).length) []).toArray) B (.slice (some ⟨g, 0, none⟩) ts.length cap) ((Lib.compact ts ++ List.replicate (ts.length - (Lib.compact ts).length) []).map toB) := by
      unfold OwnR
      rw [flat_str, toB_enc, List.length_map, hlen]
      exact hown
    have hcut := hown2.cut (m := (Lib.compact ts).length) (by rw [List.length_map, hlen]) hcl
    rw [List.map_append, List.take_left' (by rw [List.length_map])] at hcut
    refine ⟨_, _, rfl, by rw [List.length_map], hcl, hcut, hide (compact_sorted zs ts ht hp), ?_⟩
    have hg := grownBy_sorted (w := w) (g := g) (n := q) (os := #[]) (Lib.compact ts ++ List.replicate (ts.length - (Lib.compact ts).length) []).toArray
    rw [Sort.grow_empty] at hg
    exact (Below.refl B w).grown hg (by omega) (fun k hk => by cases hk; exact hb)

theorem appRs {ops : Array Oper} {rest : List Oper} {o : Oper} {a : Act} {Q : Exit → Act → World → Prop} (hgd : o.guard = none) (s x : Operand)
    (ho : o.op = .call { callee := .builtin .append, args := #[s, x], argTypes := #[24, 24] })
    {w : World} {B : Nat} {v : Value} {xs ys : List ByteArray} (hown : OwnR strE w B v xs) (hs : a.eval s = v) (gx ox m c : Nat) (hx : a.eval x = .slice (some ⟨gx, ox, none⟩) m c) (hy : ys.length = m) (hr : StrsAt w (some ⟨gx, ox, none⟩) ys)
    (hlen : xs.length + m < 100000000) (hB : B ≤ w.heap.size)
    (h : ∀ v' w', OwnR strE w' B v' (xs ++ ys) → Below B w w' → wpList Try.prog ops Q rest (a.put o.dst v') w') :
    wpList Try.prog ops Q (o :: rest) a w := by
  obtain ⟨i0, hi, hz0, hz1, hz2⟩ := info_parts strE.hinfo
  subst hy
  refine wpList_append_own _ hgd s x 24 ho B 9 i0 strE.zero 1 16 Try.underlying24 hi hz0 hz1 hz2 rfl (by decide) v xs.length (xs.flatMap strE.enc) hs hown
    ⟨gx, ox, none⟩ ys.length c (ys.map Value.string) hx (by rw [List.length_map, Nat.mul_one]) ?_ ?_ (by unfold maxLen; omega) (by omega) hB ?_
  · intro j u hj
    rw [List.getElem?_map] at hj
    obtain ⟨y, hy, rfl⟩ := Option.map_eq_some_iff.1 hj
    obtain ⟨hj2, rfl⟩ := List.getElem?_eq_some_iff.1 hy
    obtain ⟨g', o', e, hl, hc⟩ := hr j hj2
    cases e
    rw [show (⟨gx, ox, none⟩ : Addr).add j = ⟨gx, ox + j, none⟩ from by unfold Addr.add; split <;> simp_all]
    exact hc
  · intro u hu
    obtain ⟨y, _, rfl⟩ := List.mem_map.1 hu
    rfl
  · intro v' w' h1 h2 _
    refine h v' w' ?_ (own_below hown h2 hB)
    unfold OwnR
    rw [List.flatMap_append, List.length_append, flat_str ys]
    exact h1

/-- What a manifest names, rising, each once; of none: nothing. -/
def BlobsIs (cf : ByteArray) (ls out : List ByteArray) : Prop := (manB cf ls = true ∧ Strict out ∧ ∀ x, x ∈ out ↔ x ∈ cf :: ls) ∨ (manB cf ls = false ∧ out = [])
theorem BlobsIs.one {cf : ByteArray} {ls o1 o2 : List ByteArray} (h1 : BlobsIs cf ls o1) (h2 : BlobsIs cf ls o2) : o1 = o2 := by
  rcases h1 with ⟨a, b, c⟩ | ⟨a, b⟩ <;> rcases h2 with ⟨d, e, f⟩ | ⟨d, e⟩
  · exact strict_ext b e (fun x => (c x).trans (f x).symm)
  · rw [a] at d; simp at d
  · rw [a] at d; simp at d
  · rw [b, e]
theorem strict_len {out L : List ByteArray} (h : Strict out) (hm : ∀ x, x ∈ out → x ∈ L) : out.length ≤ L.length := by
  induction out generalizing L with
  | nil => simp
  | cons a t ih =>
    unfold Strict at h
    rw [List.pairwise_cons] at h
    have ha : a ∈ L := hm a (by simp)
    obtain ⟨l1, l2, rfl⟩ := List.append_of_mem ha
    have := ih (L := l1 ++ l2) h.2 (fun x hx => by
      have h2 := hm x (by simp [hx])
      rw [List.mem_append, List.mem_cons] at h2
      rw [List.mem_append]
      rcases h2 with h2 | h2 | h2
      · exact .inl h2
      · subst h2; exact absurd (h.1 x hx) (ltB_irrefl x)
      · exact .inr h2)
    rw [List.length_append] at this
    rw [List.length_cons, List.length_append, List.length_cons]
    omega
theorem BlobsIs.len {cf : ByteArray} {ls out : List ByteArray} (h : BlobsIs cf ls out) : out.length ≤ 1 + ls.length := by
  rcases h with ⟨_, b, c⟩ | ⟨_, rfl⟩
  · have := strict_len b (fun x hx => (c x).1 hx)
    rw [List.length_cons] at this
    omega
  · simp

set_option maxRecDepth 10000 in
set_option maxHeartbeats 2000000 in
theorem spec_BlobsOf (cf : ByteArray) (a : Option Addr) (n c : Nat) (ls : List ByteArray) (w : World) (hc : cf.size ≤ 1000000000000) (hn : ls.length = n) (hn2 : n ≤ 100000000000) (hs : ∀ l ∈ ls, l.size ≤ 1000000000000) (h : StrsAt w a ls) :
    Calls Try.prog 45 #[.agg #[.string cf, .slice a n c]] w fun e w' => ∃ v out, e = .returned v ∧ OwnR strE w' w.heap.size v out ∧ Hid (BlobsIs cf ls out) ∧ Below w.heap.size w w' := by
  have HC := hide (spec_manifestOk cf a n c ls _ hc hn hn2 hs (h.below (bel1 w (.cells #[.string cf, .slice a n c] 26))))
  have HB0 := hide (bel1 w (.cells #[.string cf, .slice a n c] 26))
  have c0 : (w.alloc (.cells #[.string cf, .slice a n c] 26)).cell? ⟨w.heap.size, 0, none⟩ = some (.string cf) := by simp [go_sem]
  have c1 : (w.alloc (.cells #[.string cf, .slice a n c] 26)).cell? ⟨w.heap.size, 1, none⟩ = some (.slice a n c) := by simp [go_sem]
  have HC0 := hide c0
  have HC1 := hide c1
  have hlt : w.heap.size < (w.alloc (.cells #[.string cf, .slice a n c] 26)).heap.size := by simp
  have HLT := hide hlt
  have H := hide h
  have HN := hide hn
  clear h c0 c1 hlt
  cases hB : manB cf ls with
  | false =>
    have HBB := hide hB
    clear hB hn hs
    go_enter Try.func45, Try.ntmps45
    go_wp2_with fail
    refine (unhide HC).mono ?_
    rintro e w1 ⟨rfl, hb1⟩
    rw [unhide HBB]
    have HB1 := hide (belOn (unhide HB0) hb1)
    clear hb1
    go_wp2_with fail
    go_ret
    exact ⟨_, [], rfl, (ownR_empty strE w1 w1.heap.size (Nat.le_refl _)).le (unhide HB1).size, hide (.inr ⟨unhide HBB, rfl⟩), belOn (unhide HB1) (bel1 _ _)⟩
  | true =>
    obtain ⟨d1, d2, d3, d4⟩ := manB_lays hB
    have hn40 : n ≤ 40 := by rw [← hn]; exact d3
    have hn1 : 1 ≤ n := by rw [← hn]; exact d2
    obtain ⟨g, o, eg, lg, -⟩ := unhide H 0 (by omega)
    subst eg
    have HBB := hide hB
    clear hB hn d1 d2 d3 d4 hs lg
    go_enter Try.func45, Try.ntmps45
    go_wp2_with fail
    refine (unhide HC).mono ?_
    rintro e w1 ⟨rfl, hb1⟩
    rw [unhide HBB]
    have HB1 := hide (belOn (unhide HB0) hb1)
    have q0 := bcl hb1 (unhide HLT) (unhide HC0)
    have q1 := bcl hb1 (unhide HLT) (unhide HC1)
    have hw1 : w.heap.size < w1.heap.size := Nat.lt_of_lt_of_le (unhide HLT) hb1.size
    have HR := hide (((unhide H).below (unhide HB1)).below (bel1 w1 (.cells #[.string cf] 9)))
    have HO := hide (show OwnR strE (w1.alloc (.cells #[.string cf] 9)) w1.heap.size (.slice (some ⟨w1.heap.size, 0, none⟩) 1 1) [cf] from World.ownsRow_lit w1 #[.string cf] 1 (Nat.le_refl _) (by unfold maxLen; omega) rfl)
    have HBA := hide (belOn (unhide HB1) (bel1 w1 (.cells #[.string cf] 9)))
    have hba : ∀ i v, w1.cell? ⟨w.heap.size, i, none⟩ = some v → ∀ ob, (w1.alloc ob).cell? ⟨w.heap.size, i, none⟩ = some v := fun i v hv ob => bcl (bel1 w1 ob) hw1 hv
    have q2 := hba 1 _ q1
    clear hb1 HC HB0 HC0 HC1 HLT hba
    go_wp2_with (at_builtin; go_must (refine appRs rfl _ _ rfl (unhide HO) rfl g o n c rfl (unhide HN) (unhide HR) (by simp; omega) (by simp) ?_); intro v' w6 hown6 hb6)
    obtain ⟨av, cv, hv⟩ := hown6.form
    subst hv
    have hlen : ([cf] ++ ls).length = n + 1 := by rw [List.length_append, unhide HN]; simp; omega
    rw [hlen] at hown6 ⊢
    have HR6 := hide hown6.at.strs
    have HB6 := hide ((unhide HBA).trans (hb6.mono (unhide HB1).size))
    have HL := hide hlen
    clear hown6 hb6 hlen q0 q1 q2
    refine (l1Rising_calls av (n + 1) cv ([cf] ++ ls) w6 (unhide HL) (by omega) (unhide HR6)).mono ?_
    rintro e w7 ⟨v7, out, rfl, ho7, hs7, hb7⟩
    have HO7 := hide (ho7.le (unhide HB6).size)
    have HB7 := hide (belOn (unhide HB6) hb7)
    clear ho7 hb7
    go_wp2_with fail
    go_ret
    exact ⟨_, out, rfl, unhide HO7, hide (.inl ⟨unhide HBB, (unhide hs7).1, fun x => (unhide hs7).2 x⟩), unhide HB7⟩

set_option maxRecDepth 10000 in
set_option maxHeartbeats 2000000 in
theorem impl_BlobsOf (cf : ByteArray) (a : Option Addr) (n c : Nat) (ls : List ByteArray) (w : World) (hc : cf.size ≤ 1000000000000) (hn : ls.length = n) (hn2 : n ≤ 100000000000) (hs : ∀ l ∈ ls, l.size ≤ 1000000000000) (h : StrsAt w a ls) :
    Calls Try.prog 21 #[.agg #[.string cf, .slice a n c]] w fun e w' => ∃ v out, e = .returned v ∧ OwnR strE w' w.heap.size v out ∧ Hid (BlobsIs cf ls out) ∧ Below w.heap.size w w' := by
  have HC := hide (impl_manifestOk cf a n c ls _ hc hn hn2 hs (h.below (bel1 w (.cells #[.string cf, .slice a n c] 26))))
  have HB0 := hide (bel1 w (.cells #[.string cf, .slice a n c] 26))
  have c0 : (w.alloc (.cells #[.string cf, .slice a n c] 26)).cell? ⟨w.heap.size, 0, none⟩ = some (.string cf) := by simp [go_sem]
  have c1 : (w.alloc (.cells #[.string cf, .slice a n c] 26)).cell? ⟨w.heap.size, 1, none⟩ = some (.slice a n c) := by simp [go_sem]
  have HC0 := hide c0
  have HC1 := hide c1
  have hlt : w.heap.size < (w.alloc (.cells #[.string cf, .slice a n c] 26)).heap.size := by simp
  have HLT := hide hlt
  have H := hide h
  have HN := hide hn
  clear h c0 c1 hlt
  cases hB : manB cf ls with
  | false =>
    have HBB := hide hB
    clear hB hn hs
    go_enter Try.func21, Try.ntmps21
    go_wp2_with fail
    refine (unhide HC).mono ?_
    rintro e w1 ⟨rfl, hb1⟩
    rw [unhide HBB]
    have HB1 := hide (belOn (unhide HB0) hb1)
    clear hb1
    go_wp2_with fail
    go_ret
    exact ⟨_, [], rfl, ownR_nil _ _ _, hide (.inr ⟨unhide HBB, rfl⟩), unhide HB1⟩
  | true =>
    obtain ⟨d1, d2, d3, d4⟩ := manB_lays hB
    have hn40 : n ≤ 40 := by rw [← hn]; exact d3
    have hn1 : 1 ≤ n := by rw [← hn]; exact d2
    obtain ⟨g, o, eg, lg, -⟩ := unhide H 0 (by omega)
    subst eg
    have HBB := hide hB
    clear hB hn d1 d2 d3 d4 hs lg
    go_enter Try.func21, Try.ntmps21
    go_wp2_with fail
    refine (unhide HC).mono ?_
    rintro e w1 ⟨rfl, hb1⟩
    rw [unhide HBB]
    have HB1 := hide (belOn (unhide HB0) hb1)
    have q0 := bcl hb1 (unhide HLT) (unhide HC0)
    have q1 := bcl hb1 (unhide HLT) (unhide HC1)
    have hw1 : w.heap.size < w1.heap.size := Nat.lt_of_lt_of_le (unhide HLT) hb1.size
    have HR := hide (((unhide H).below (unhide HB1)).below (bel1 w1 (.cells #[.string cf] 9)))
    have HO := hide (show OwnR strE (w1.alloc (.cells #[.string cf] 9)) w1.heap.size (.slice (some ⟨w1.heap.size, 0, none⟩) 1 1) [cf] from World.ownsRow_lit w1 #[.string cf] 1 (Nat.le_refl _) (by unfold maxLen; omega) rfl)
    have HBA := hide (belOn (unhide HB1) (bel1 w1 (.cells #[.string cf] 9)))
    have hba : ∀ i v, w1.cell? ⟨w.heap.size, i, none⟩ = some v → ∀ ob, (w1.alloc ob).cell? ⟨w.heap.size, i, none⟩ = some v := fun i v hv ob => bcl (bel1 w1 ob) hw1 hv
    have q2 := hba 1 _ q1
    clear hb1 HC HB0 HC0 HC1 HLT hba
    go_wp2_with (at_builtin; go_must (refine appRs rfl _ _ rfl (unhide HO) rfl g o n c rfl (unhide HN) (unhide HR) (by simp; omega) (by simp) ?_); intro v' w6 hown6 hb6)
    obtain ⟨gv, cv, hv⟩ : ∃ gv cv, v' = .slice (some ⟨gv, 0, none⟩) (n + 1) cv := by
      obtain ⟨g', c', e', _⟩ := World.ownsRow.form hown6 (by simp)
      exact ⟨g', c', by rw [e', List.length_append, unhide HN]; simp; omega⟩
    subst hv
    have hlen : ([cf] ++ ls).length = n + 1 := by rw [List.length_append, unhide HN]; simp; omega
    have HO6 := hide hown6
    have HB6 := hide ((unhide HBA).trans (hb6.mono (unhide HB1).size))
    have HL := hide hlen
    have hz6 : w1.heap.size ≤ w6.heap.size := by have := hb6.size; simp at this; omega
    clear hown6 hb6 hlen q0 q1 q2
    refine (sort_calls w1.heap.size gv (n + 1) cv ([cf] ++ ls) w6 (unhide HL) (by omega) (unhide HO6)).mono ?_
    rintro e w7 ⟨rfl, ts, ho7, hs7, hp7, hb7⟩
    have HO7 := hide ho7
    have HS7 := hide hs7
    have HP7 := hide hp7
    have hl7 : ts.length = n + 1 := by rw [hp7.length_eq, bys_len, unhide HL]
    have HL7 := hide hl7
    have HB7 := hide ((unhide HB6).trans (hb7.mono (unhide HB1).size))
    clear ho7 hs7 hp7 hb7 hl7
    go_wp2_with fail
    refine (compact_calls w1.heap.size gv (n + 1) cv ts _ w7 (unhide HL7) (by omega) (unhide HO7) (unhide HS7) (unhide HP7)).mono ?_
    rintro e w8 ⟨m, out, rfl, hm, hmn, ho8, hs8, hb8⟩
    have HO8 := hide (ho8.le (unhide HB1).size)
    have HB8 := hide ((unhide HB7).trans (hb8.mono (unhide HB1).size))
    clear ho8 hb8
    go_wp2_with fail
    go_ret
    refine ⟨_, out, rfl, unhide HO8, hide (.inl ⟨unhide HBB, (unhide hs8).1, fun x => ?_⟩), unhide HB8⟩
    rw [(unhide hs8).2 x]
    unfold bys
    rw [List.mem_map]
    constructor
    · rintro ⟨y, hy, e⟩
      have : y = x := ByteArray.ext (Array.toList_inj.1 e)
      rw [← this]; exact hy
    · intro hx
      exact ⟨x, hx, rfl⟩
end Go.Proofs.Ytkeindhefiaghaa
