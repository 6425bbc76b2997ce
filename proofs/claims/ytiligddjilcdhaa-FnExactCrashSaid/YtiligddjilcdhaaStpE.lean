/- A row appended to an empty slice that was just made, inside a region that draws its order. -/
import Derived.Test.YtiligddjilcdhaaDskK
import Derived.Deep.AppendLies
import Derived.Deep.RegionHeld3
namespace Go.Proofs.Ytiligddjilcdhaa
open Go.RowKit Plain
set_option linter.unusedVariables false

/-- What an append to an empty slice in block g leaves. -/
structure Plain.AppE {α : Type} (e : Elem α) (g : Nat) (w w' : World) (a : Option Addr) (c : Nat) (ys : List α) : Prop where
  row : RowAt e w' a ys
  own : OwnR e w' g (.slice a ys.length c) ys
  gr : w.grownBy w' (some g)
  lies : ys = [] ∨ ∀ k, inB a k → k = g ∨ k = w.heap.size
theorem Plain.emptyAt {α : Type} {e : Elem α} {w : World} {g : Nat} (h : w.heap[g]? = some (.cells #[] e.E)) : OwnR e w g (.slice (some ⟨g, 0, none⟩) 0 0) [] := ⟨by simp, .inr ⟨g, 0, #[], rfl, Nat.le_refl _, h, by simp⟩⟩
theorem stepE {α : Type} {e : Elem α} {ops : Array Oper} {o : Oper} {a : Act} {K : Act → World → Prop} {Q : Exit → Act → World → Prop} {F : Prop} (hgd : o.guard = none) (s x : Operand)
    (ho : o.op = .call { callee := .builtin .append, args := #[s, x], argTypes := #[e.S, e.S] })
    {w : World} {ys : List α} (g : Nat) (hs : a.eval s = .slice (some ⟨g, 0, none⟩) 0 0) (hg : w.heap[g]? = some (.cells #[] e.E)) (gx m c : Nat) (hx : a.eval x = .slice (some ⟨gx, 0, none⟩) m c) (hy : ys.length = m) (hr : RowAt e w (some ⟨gx, 0, none⟩) ys)
    (hlen : m ≤ 1048576)
    (h : ∀ a' c' w', AppE e g w w' a' c' ys → K (a.put o.dst (.slice a' m c')) w') :
    if Region.wanted o (yielded ops a.tmps) = true then Oper.wp Try.prog o a w K Q else F := by
  rw [if_pos (by simp [Region.wanted, hgd])]
  obtain ⟨i0, hi, hz0, hz1, hz2⟩ := info_parts e.hinfo
  subst hy
  have hgl : g < w.heap.size := by
    rcases Nat.lt_or_ge g w.heap.size with h1 | h1
    · exact h1
    · rw [Array.getElem?_eq_none h1] at hg; cases hg
  have hnews : ∀ j u, (ys.flatMap e.enc)[j]? = some u → w.cell? ((⟨gx, 0, none⟩ : Addr).add j) = some u := by
    intro j u hj
    have hjl : j < ys.length * e.n := by
      have := (List.getElem?_eq_some_iff.1 hj).1
      rw [flat_len e.enc e.n e.hlen] at this
      exact this
    have hn := e.hn
    have hq : j / e.n < ys.length := Nat.div_lt_of_lt_mul (by rw [Nat.mul_comm]; exact hjl)
    have hm : j % e.n < e.n := Nat.mod_lt _ hn
    have hd : j / e.n * e.n + j % e.n = j := by rw [Nat.mul_comm]; exact Nat.div_add_mod j e.n
    obtain ⟨g', e1, hl, hc⟩ := hr (j / e.n) hq
    cases e1
    have h1 := (hc (j % e.n) hm).1
    rw [hd] at h1
    have h2 := flat_get e.enc e.n e.hlen ys (j / e.n) (j % e.n) hq hm
    rw [hd] at h2
    rw [show (⟨gx, 0, none⟩ : Addr).add j = ⟨gx, j, none⟩ from by unfold Addr.add; split <;> simp_all, h1, ← h2]
    exact hj
  have hone : ∀ u ∈ ys.flatMap e.enc, u.oneCell' = true := by
    intro u hu
    obtain ⟨y, _, hy⟩ := List.mem_flatMap.1 hu
    exact e.hone y u hy
  have hby := e.hb
  have hbytes : (0 + ys.length) * e.bytes ≤ 140737488355328 := Nat.le_trans (Nat.mul_le_mul_left _ hby) (by omega)
  have hown : OwnR e w g (.slice (some ⟨g, 0, none⟩) 0 0) [] := emptyAt hg
  rcases Nat.eq_zero_or_pos ys.length with h0 | h0
  · refine wp_append_own _ s x e.S ho g e.E i0 e.zero e.n e.bytes e.hund hi hz0 hz1 hz2 e.hz e.hn _ 0 [] hs hown
      ⟨gx, 0, none⟩ ys.length c (ys.flatMap e.enc) hx (flat_len e.enc e.n e.hlen ys) hnews hone (by unfold maxLen; omega) hbytes (by omega) ?_
    intro v' w' h1 h2 _
    have h1' : OwnR e w' g v' ys := by unfold OwnR; rw [Nat.zero_add, List.nil_append] at h1; exact h1
    obtain ⟨a', c', rfl⟩ := h1'.form
    exact h a' c' w' ⟨h1'.at, h1', h2, .inl (List.length_eq_zero_iff.1 h0)⟩
  · refine wp_append_lies _ s x e.S ho g e.E i0 e.zero e.n e.bytes e.hund hi hz0 hz1 hz2 e.hz e.hn _ 0 [] hs hown
      ⟨gx, 0, none⟩ ys.length c (ys.flatMap e.enc) hx (flat_len e.enc e.n e.hlen ys) hnews hone h0 (by unfold maxLen; omega) hbytes (by omega) _ rfl ?_
    intro k cap w' h1 h2 h3 h4
    rw [Nat.zero_add, List.nil_append] at h1
    rw [Nat.zero_add]
    have h1' : OwnR e w' g (.slice (some ⟨k, 0, none⟩) ys.length cap) ys := by unfold OwnR; exact h1
    refine h _ cap w' ⟨h1'.at, h1', h2, .inr ?_⟩
    rintro j ⟨o', e'⟩
    cases e'
    rcases h3 with h3 | h3
    · exact .inl (Option.some.inj h3).symm
    · exact .inr h3
theorem RowAt.grown {α : Type} {e : Elem α} {w w' : World} {a : Option Addr} {g : Nat} {ys : List α} (h : RowAt e w a ys) (hg : w.grownBy w' (some g)) (hne : ys = [] ∨ ∀ k, inB a k → k ≠ g) : RowAt e w' a ys := fun i hi => by
  obtain ⟨k, e1, hl, hc⟩ := h i hi
  have hk : some k ≠ some g := by
    rcases hne with h | h
    · rw [h] at hi; simp at hi
    · exact fun q => h k ⟨0, e1⟩ (Option.some.inj q)
  have hb := hg.block k hl hk
  exact ⟨k, e1, Nat.lt_of_lt_of_le hl hg.size, fun j hj => ⟨(World.cell?_of_block (a := ⟨k, i * e.n + j, none⟩) hb).trans (hc j hj).1, (World.frozen?_of_block (a := ⟨k, i * e.n + j, none⟩) hb).trans (hc j hj).2⟩⟩
theorem Plain.below_gr1 {w w' : World} {g B : Nat} (h : w.grownBy w' (some g)) (hB : B ≤ g) (hw : B ≤ w.heap.size) : Below B w w' := ⟨h.os, h.tape, h.output, h.size, fun k hk => h.block k (by omega) (fun e => by cases e; omega)⟩
theorem Plain.litN (W : World) (x : Obj) : (W.alloc x).heap[W.heap.size]? = some x := by show (W.heap.push x)[W.heap.size]? = some x; rw [Array.getElem?_push, if_pos rfl]
theorem Plain.lit0 (W : World) (x : Obj) : (W.alloc x).drew.heap[W.heap.size]? = some x := litN W x
theorem Plain.lit0a (W : World) (x y : Obj) : ((W.alloc x).alloc y).drew.heap[W.heap.size]? = some x := by
  show ((W.heap.push x).push y)[W.heap.size]? = some x
  rw [Array.getElem?_push, if_neg (by simp), Array.getElem?_push, if_pos rfl]
theorem Plain.lit1a (W : World) (x y : Obj) : ((W.alloc x).alloc y).drew.heap[W.heap.size + 1]? = some y := by
  show ((W.heap.push x).push y)[W.heap.size + 1]? = some y
  rw [Array.getElem?_push, if_pos (by simp)]
theorem Plain.AppE.keep2 {α : Type} {e : Elem α} {g g2 : Nat} {w w2 w3 : World} {a : Option Addr} {c : Nat} {ys : List α} (h : AppE e g w w2 a c ys) (gr : w2.grownBy w3 (some g2)) (h1 : g ≠ g2) (h2 : w.heap.size ≠ g2) : RowAt e w3 a ys :=
  h.row.grown gr (h.lies.imp id fun q k hk => by rcases q k hk with rfl | rfl; exact h1; exact h2)
theorem RowAt.keepNew {α : Type} {e : Elem α} {g2 : Nat} {w2 W W' : World} {a : Option Addr} {ys : List α} (h : RowAt e w2 a ys) (hB : Below w2.heap.size w2 W) (gr : W.grownBy W' (some g2)) (hg : w2.heap.size ≤ g2) : RowAt e W' a ys := fun i hi => by
  obtain ⟨k, e1, hl, hc⟩ := h i hi
  have hb := (gr.block k (Nat.lt_of_lt_of_le hl hB.size) (fun q => by cases q; omega)).trans (hB.block k hl)
  exact ⟨k, e1, Nat.lt_of_lt_of_le hl (Nat.le_trans hB.size gr.size), fun j hj => ⟨(World.cell?_of_block (a := ⟨k, i * e.n + j, none⟩) hb).trans (hc j hj).1, (World.frozen?_of_block (a := ⟨k, i * e.n + j, none⟩) hb).trans (hc j hj).2⟩⟩
theorem RowAt.setO {α : Type} {e : Elem α} {W : World} {a : Option Addr} {ys : List α} {b i : Nat} {u : Value} (h : RowAt e W a ys) (hne : ys = [] ∨ ∀ k, inB a k → k ≠ b) : RowAt e (W.setCell ⟨b, i, none⟩ u) a ys := by
  rcases hne with rfl | hne
  · exact fun i hi => by simp at hi
  · exact h.offR (b := some ⟨b, 0, none⟩) (OnlyRow.set i u) (fun g hg ⟨o, e⟩ => by cases e; exact hne _ hg rfl)
theorem Plain.AppE.far {α : Type} {e : Elem α} {g B : Nat} {w w' : World} {a : Option Addr} {c : Nat} {ys : List α} (h : AppE e g w w' a c ys) (h1 : B < g) (h2 : B < w.heap.size) : ys = [] ∨ ∀ k, inB a k → k ≠ B :=
  h.lies.imp id fun q k hk => by rcases q k hk with rfl | rfl <;> omega
theorem Plain.lit0n (W : World) (x y : Obj) : ((W.alloc x).alloc y).heap[W.heap.size]? = some x := lit0a W x y
theorem Plain.lit1n (W : World) (x y : Obj) : ((W.alloc x).alloc y).heap[W.heap.size + 1]? = some y := lit1a W x y
theorem Plain.lit0b (W : World) (x y z : Obj) : (((W.alloc x).alloc y).alloc z).drew.heap[W.heap.size]? = some x := by
  show (((W.heap.push x).push y).push z)[W.heap.size]? = some x
  rw [Array.getElem?_push, if_neg (by simp; omega), Array.getElem?_push, if_neg (by simp), Array.getElem?_push, if_pos rfl]
theorem Plain.lit1b (W : World) (x y z : Obj) : (((W.alloc x).alloc y).alloc z).drew.heap[W.heap.size + 1]? = some y := by
  show (((W.heap.push x).push y).push z)[W.heap.size + 1]? = some y
  rw [Array.getElem?_push, if_neg (by simp), Array.getElem?_push, if_pos (by simp)]
theorem Plain.lit2b (W : World) (x y z : Obj) : (((W.alloc x).alloc y).alloc z).drew.heap[W.heap.size + 1 + 1]? = some z := by
  show (((W.heap.push x).push y).push z)[W.heap.size + 1 + 1]? = some z
  rw [Array.getElem?_push, if_pos (by simp)]
theorem Plain.AppE.ne {α : Type} {e : Elem α} {g g2 : Nat} {w w' : World} {a : Option Addr} {c : Nat} {ys : List α} (h : AppE e g w w' a c ys) (h1 : g ≠ g2) (h2 : g2 < w.heap.size ∨ w'.heap.size ≤ g2) : ys = [] ∨ ∀ k, inB a k → k ≠ g2 := by
  rcases h.lies with q | q
  · exact .inl q
  · refine .inr fun k hk => ?_
    have hl := (h.own.bl k hk).2
    rcases q k hk with rfl | rfl
    · exact h1
    · omega
theorem Plain.drew_heap (X : World) : X.drew.heap = X.heap := rfl
theorem Plain.hp_old (X : World) (o : Obj) (k : Nat) (h : k < X.heap.size) : (X.alloc o).heap[k]? = X.heap[k]? := Below.heap_alloc X o k h
theorem Plain.hp_new (X : World) (o : Obj) (k : Nat) (h : k = X.heap.size) : (X.alloc o).heap[k]? = some o := by subst h; exact litN X o
end Go.Proofs.Ytiligddjilcdhaa
