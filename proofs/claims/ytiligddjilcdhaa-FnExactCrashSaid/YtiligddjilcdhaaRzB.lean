/- Texts of one kind, put together. -/
import Derived.Test.YtiligddjilcdhaaGen
import Derived.Deep.RegionLaw
import Derived.Laws.Rows
import Derived.OneCell
import Derived.Test.YtiligddjilcdhaaOnlP
import Derived.Test.YtiligddjilcdhaaMan
import Derived.Deep.AppendLies
import Derived.Deep.RegionHeld3
import Derived.ArgAppend
import Derived.Test.YtiligddjilcdhaaStpE
import Derived.Test.YtiligddjilcdhaaDoI
import Derived.Test.YtiligddjilcdhaaClnF

/- A whole row is appended to a row of the call's own. -/
namespace Go.Proofs.Ytiligddjilcdhaa
open Go.RowKit Plain
set_option linter.unusedVariables false

/-- How a slice's address may be. -/
def Plain.AdG (ad : Option Addr) (c : Nat) : Prop := (ad = none ∧ c = 0) ∨ ∃ g, ad = some ⟨g, 0, none⟩
theorem OwnR.adG {α : Type} {e : Elem α} {W : World} {B : Nat} {ad : Option Addr} {n c : Nat} {xs : List α} (h : OwnR e W B (.slice ad n c) xs) : AdG ad c := by
  rcases h.2 with ⟨e1, _⟩ | ⟨g, cap, cur, e1, _⟩
  · simp at e1; exact .inl ⟨e1.1, e1.2.2⟩
  · simp at e1; exact .inr ⟨g, e1.1⟩

theorem appGG {α : Type} {e : Elem α} {ops : Array Oper} {rest : List Oper} {o : Oper} {a : Act} {Q : Exit → Act → World → Prop} (hgd : o.guard = none) (s x : Operand)
    (ho : o.op = .call { callee := .builtin .append, args := #[s, x], argTypes := #[e.S, e.S] })
    {w : World} {B : Nat} {v : Value} {xs ys : List α} (hown : OwnR e w B v xs) (hs : a.eval s = v) (ad : Option Addr) (m c : Nat) (hx : a.eval x = .slice ad m c) (hy : ys.length = m) (hr : RowAt e w ad ys) (had : AdG ad c)
    (hlen : xs.length + m < 100000000) (hB : B ≤ w.heap.size)
    (h : ∀ v' w', OwnR e w' B v' (xs ++ ys) → Below B w w' → wpList Try.prog ops Q rest (a.put o.dst v') w') :
    wpList Try.prog ops Q (o :: rest) a w := by
  obtain ⟨i0, hi, hz0, hz1, hz2⟩ := info_parts e.hinfo
  subst hy
  rcases had with ⟨rfl, rfl⟩ | ⟨g, rfl⟩
  · have hys : ys = [] := by
      cases ys with
      | nil => rfl
      | cons y l => obtain ⟨g, e1, _⟩ := hr 0 (by simp); simp at e1
    subst hys
    refine wpList_plain hgd fun K hK => ?_
    have hrun := run_append_owned_none (P := Try.prog) w B e.S o.type e.E i0 e.n e.hund hi v xs.length (xs.flatMap e.enc) hown
    have hx2 : a.eval x = .slice none 0 0 := hx
    unfold Oper.wp execOp
    simp only [ho, resolve, invoke, builtin, Sem.run_bind, Sem.run_pure, Result.andThen_ok, List.map_toArray, List.map_cons, List.map_nil, hs, hx2, hrun]
    exact hK _ _ (h v w (by rw [List.append_nil]; exact hown) (Below.refl _ _))
  · have hby := e.hb
    refine wpList_append_own _ hgd s x e.S ho B e.E i0 e.zero e.n e.bytes e.hund hi hz0 hz1 hz2 e.hz e.hn v xs.length (xs.flatMap e.enc) hs hown
      ⟨g, 0, none⟩ ys.length c (ys.flatMap e.enc) hx (flat_len e.enc e.n e.hlen ys) ?_ ?_ (by unfold maxLen; omega) ?_ hB ?_
    · intro j u hj
      have hjl : j < ys.length * e.n := by
        have := (List.getElem?_eq_some_iff.1 hj).1
        rw [flat_len e.enc e.n e.hlen] at this
        exact this
      have hn := e.hn
      have hq : j / e.n < ys.length := Nat.div_lt_of_lt_mul (by rw [Nat.mul_comm]; exact hjl)
      have hm : j % e.n < e.n := Nat.mod_lt _ hn
      have hd : j / e.n * e.n + j % e.n = j := by rw [Nat.mul_comm]; exact Nat.div_add_mod j e.n
      obtain ⟨g', e1, hl, hc⟩ := hr (j / e.n) hq
      cases e1
      have h1 := (hc (j % e.n) hm).1
      rw [hd] at h1
      have h2 := flat_get e.enc e.n e.hlen ys (j / e.n) (j % e.n) hq hm
      rw [hd] at h2
      rw [show (⟨g, 0, none⟩ : Addr).add j = ⟨g, j, none⟩ from by unfold Addr.add; split <;> simp_all, h1, ← h2]
      exact hj
    · intro u hu
      obtain ⟨y, _, hy⟩ := List.mem_flatMap.1 hu
      exact e.hone y u hy
    · exact Nat.le_trans (Nat.mul_le_mul_left _ hby) (by omega)
    · intro v' w' h1 h2 _
      refine h v' w' ?_ (own_below hown h2 hB)
      unfold OwnR
      rw [List.flatMap_append, List.length_append]
      exact h1

theorem stepGG {α : Type} {e : Elem α} {ops : Array Oper} {o : Oper} {a : Act} {K : Act → World → Prop} {Q : Exit → Act → World → Prop} {F : Prop} (hgd : o.guard = none) (s x : Operand)
    (ho : o.op = .call { callee := .builtin .append, args := #[s, x], argTypes := #[e.S, e.S] })
    {w : World} {B : Nat} {v : Value} {xs : List α} (hown : OwnR e w B v xs) (hs : a.eval s = v) (y : α) {cs : Array Value} (hcs : cs.toList = e.enc y)
    (gx : Nat) (hx : a.eval x = .slice (some ⟨gx, 0, none⟩) 1 1) (hgx : gx = w.heap.size) (hlen : xs.length < 100000000) (hB : B ≤ w.heap.size)
    (h : ∀ v' w', OwnR e w' B v' (xs ++ [y]) → Below B w w' → (w.alloc (.cells cs e.E)).grownBy w' v.ownBlock → K (a.put o.dst v') w') :
    if Region.wanted o (yielded ops a.tmps) = true then Oper.wp Try.prog o a (w.alloc (.cells cs e.E)) K Q else F := by
  subst hgx
  rw [if_pos (by simp [Region.wanted, hgd])]
  obtain ⟨i0, hi, hz0, hz1, hz2⟩ := info_parts e.hinfo
  have ha := World.ownsRow.alloc hown (.cells cs e.E)
  have hnew : (w.alloc (.cells cs e.E)).heap[w.heap.size]? = some (.cells cs e.E) := (MapKept.heap_alloc w _).1
  have hby := e.hb
  refine wp_append_own _ s x e.S ho B e.E i0 e.zero e.n e.bytes e.hund hi hz0 hz1 hz2 e.hz e.hn v xs.length (xs.flatMap e.enc) hs ha
    ⟨w.heap.size, 0, none⟩ 1 1 (e.enc y) hx (by rw [e.hlen, Nat.one_mul]) (by rw [← hcs]; exact World.news_of_block hnew) (e.hone y) (by unfold maxLen; omega) ?_ (by simp; omega) ?_
  · exact Nat.le_trans (Nat.mul_le_mul_left _ hby) (by omega)
  · intro v' w' h1 h2 _
    refine h v' w' ?_ (((Below.refl B w).alloc hB _).trans (own_below ha h2 (by simp; omega))) h2
    unfold OwnR
    rw [List.flatMap_append, List.length_append]
    simpa using h1
end Go.Proofs.Ytiligddjilcdhaa


/- A row appended to an empty slice without room: nothing that was there is changed. -/
namespace Go.Proofs.Ytiligddjilcdhaa
open Go.RowKit Plain
set_option linter.unusedVariables false

/-- What an append to an empty slice in block g without room leaves. -/
structure Plain.AppN {α : Type} (e : Elem α) (g : Nat) (w w' : World) (a : Option Addr) (c : Nat) (ys : List α) : Prop where
  below : Below w.heap.size w w'
  row : RowAt e w' a ys
  bl : ∀ k, inB a k → (k = g ∨ w.heap.size ≤ k) ∧ k < w'.heap.size
  own : OwnR e w' w.heap.size (.slice a ys.length c) ys ∨ (ys = [] ∧ c = 0 ∧ a = some ⟨g, 0, none⟩)
theorem Plain.below_none {w w' : World} (h : w.grownBy w' none) : Below w.heap.size w w' := ⟨h.os, h.tape, h.output, h.size, fun k hk => h.block k hk (fun q => by cases q)⟩
theorem row_news {α : Type} {e : Elem α} {w : World} {gx : Nat} {ys : List α} (hr : RowAt e w (some ⟨gx, 0, none⟩) ys) : ∀ j u, (ys.flatMap e.enc)[j]? = some u → w.cell? ((⟨gx, 0, none⟩ : Addr).add j) = some u := by
  intro j u hj
  have hjl : j < ys.length * e.n := by
    have := (List.getElem?_eq_some_iff.1 hj).1
    rw [flat_len e.enc e.n e.hlen] at this
    exact this
  have hn := e.hn
  have hq : j / e.n < ys.length := Nat.div_lt_of_lt_mul (by rw [Nat.mul_comm]; exact hjl)
  have hm : j % e.n < e.n := Nat.mod_lt _ hn
  have hd : j / e.n * e.n + j % e.n = j := by rw [Nat.mul_comm]; exact Nat.div_add_mod j e.n
  obtain ⟨g', e1, hl, hc⟩ := hr (j / e.n) hq
  cases e1
  have h1 := (hc (j % e.n) hm).1
  rw [hd] at h1
  have h2 := flat_get e.enc e.n e.hlen ys (j / e.n) (j % e.n) hq hm
  rw [hd] at h2
  rw [show (⟨gx, 0, none⟩ : Addr).add j = ⟨gx, j, none⟩ from by unfold Addr.add; split <;> simp_all, h1, ← h2]
  exact hj
theorem run_app0 {α : Type} (e : Elem α) (ty : TypeId) (w : World) (g gx c : Nat) (ys : List α) (hr : RowAt e w (some ⟨gx, 0, none⟩) ys) (hlen : ys.length ≤ 1048576) (hg : g < w.heap.size) :
    ∃ a' c' w', (Builtin.append_ #[e.S, e.S] ty #[.slice (some ⟨g, 0, none⟩) 0 0, .slice (some ⟨gx, 0, none⟩) ys.length c]).run Try.prog w = .ok (.slice a' ys.length c') w' ∧ AppN e g w w' a' c' ys := by
  obtain ⟨i0, hi, hz0, hz1, hz2⟩ := info_parts e.hinfo
  have hby := e.hb
  rcases Nat.eq_zero_or_pos ys.length with h0 | h0
  · have hys : ys = [] := List.length_eq_zero_iff.1 h0
    subst hys
    refine ⟨some ⟨g, 0, none⟩, 0, w, ?_, Below.refl _ _, fun i hi => by simp at hi, ?_, .inr ⟨rfl, rfl, rfl⟩⟩
    · simp [Builtin.append_, run_underlying e.hund, sizeOf, typeInfo, hi, storeCells, go_sem]
    · rintro k ⟨o, q⟩
      cases q
      exact ⟨.inl rfl, hg⟩
  · obtain ⟨v', w', hr', h2, h3⟩ := run_append_arg_grows (P := Try.prog) w e.S ty e.E i0 e.zero e.n e.bytes e.hund hi hz0 hz1 hz2 e.hz e.hn ⟨g, 0, none⟩ 0 0 [] (by simp) (fun j u hj => by simp at hj) ⟨gx, 0, none⟩ ys.length c (ys.flatMap e.enc) (flat_len e.enc e.n e.hlen ys) (row_news hr) (by omega) (by unfold maxLen; omega) (Nat.le_trans (Nat.mul_le_mul_left _ hby) (by omega))
    have h1' : OwnR e w' w.heap.size v' ys := by unfold OwnR; rw [Nat.zero_add, List.nil_append] at h2; exact h2
    obtain ⟨a', c', rfl⟩ := h1'.form
    exact ⟨a', c', w', hr', below_none h3, h1'.at, fun k hk => ⟨.inr (h1'.bl k hk).1, (h1'.bl k hk).2⟩, .inl h1'⟩
theorem stepN {α : Type} {e : Elem α} {ops : Array Oper} {o : Oper} {a : Act} {K : Act → World → Prop} {Q : Exit → Act → World → Prop} {F : Prop} (hgd : o.guard = none) (s x : Operand)
    (ho : o.op = .call { callee := .builtin .append, args := #[s, x], argTypes := #[e.S, e.S] })
    {w : World} {ys : List α} (g : Nat) (hs : a.eval s = .slice (some ⟨g, 0, none⟩) 0 0) (hg : g < w.heap.size) (gx m c : Nat) (hx : a.eval x = .slice (some ⟨gx, 0, none⟩) m c) (hy : ys.length = m) (hr : RowAt e w (some ⟨gx, 0, none⟩) ys)
    (hlen : m ≤ 1048576)
    (h : ∀ a' c' w', AppN e g w w' a' c' ys → K (a.put o.dst (.slice a' m c')) w') :
    if Region.wanted o (yielded ops a.tmps) = true then Oper.wp Try.prog o a w K Q else F := by
  rw [if_pos (by simp [Region.wanted, hgd])]
  subst hy
  obtain ⟨a', c', w', hr', hA⟩ := run_app0 e o.type w g gx c ys hr hlen hg
  unfold Oper.wp execOp
  simp only [ho, resolve, invoke, builtin, Sem.run_bind, Sem.run_pure, Result.andThen_ok, List.map_toArray, List.map_cons, List.map_nil, hs, hx, hr']
  exact h a' c' w' hA
/-- As stepN, from a slice that may be nil. -/
theorem stepNA {α : Type} {e : Elem α} {ops : Array Oper} {o : Oper} {a : Act} {K : Act → World → Prop} {Q : Exit → Act → World → Prop} {F : Prop} (hgd : o.guard = none) (s x : Operand)
    (ho : o.op = .call { callee := .builtin .append, args := #[s, x], argTypes := #[e.S, e.S] })
    {w : World} {ys : List α} (g : Nat) (hs : a.eval s = .slice (some ⟨g, 0, none⟩) 0 0) (hg : g < w.heap.size) (ad : Option Addr) (m c : Nat) (hx : a.eval x = .slice ad m c) (hy : ys.length = m) (hr : RowAt e w ad ys) (had : AdG ad c)
    (hlen : m ≤ 1048576)
    (h : ∀ a' c' w', AppN e g w w' a' c' ys → K (a.put o.dst (.slice a' m c')) w') :
    if Region.wanted o (yielded ops a.tmps) = true then Oper.wp Try.prog o a w K Q else F := by
  rcases had with ⟨rfl, rfl⟩ | ⟨gx, rfl⟩
  · have hys : ys = [] := by
      cases ys with
      | nil => rfl
      | cons y l => obtain ⟨g, e1, _⟩ := hr 0 (by simp); simp at e1
    subst hys
    obtain rfl : m = 0 := by simpa using hy.symm
    rw [if_pos (by simp [Region.wanted, hgd])]
    obtain ⟨i0, hi, hz0, hz1, hz2⟩ := info_parts e.hinfo
    have hrun : (Builtin.append_ #[e.S, e.S] o.type #[.slice (some ⟨g, 0, none⟩) 0 0, .slice none 0 0]).run Try.prog w = .ok (.slice (some ⟨g, 0, none⟩) 0 0) w := by
      simp [Builtin.append_, run_underlying e.hund, sizeOf, typeInfo, hi, storeCells, go_sem]
    unfold Oper.wp execOp
    simp only [ho, resolve, invoke, builtin, Sem.run_bind, Sem.run_pure, Result.andThen_ok, List.map_toArray, List.map_cons, List.map_nil, hs, hx, hrun]
    refine h (some ⟨g, 0, none⟩) 0 w ⟨Below.refl _ _, fun i hi => by simp at hi, ?_, .inr ⟨rfl, rfl, rfl⟩⟩
    rintro k ⟨o, q⟩
    cases q
    exact ⟨.inl rfl, hg⟩
  · exact stepN hgd s x ho g hs hg gx m c hx hy hr hlen h
end Go.Proofs.Ytiligddjilcdhaa


/- A row appended to an empty slice without room: nothing that was there is changed. -/
namespace Go.Proofs.Ytiligddjilcdhaa
open Go.RowKit Plain
set_option linter.unusedVariables false

/-- A row that is owned, or an empty slice without room. -/
def Plain.OwnOr {α : Type} (e : Elem α) (w : World) (B : Nat) (a : Option Addr) (c : Nat) (xs : List α) : Prop := OwnR e w B (.slice a xs.length c) xs ∨ (xs = [] ∧ c = 0 ∧ ∃ g, a = some ⟨g, 0, none⟩ ∧ g < w.heap.size)
/-- What one element more leaves. -/
structure Plain.AppM {α : Type} (e : Elem α) (B : Nat) (w w' : World) (a : Option Addr) (c : Nat) (xs : List α) (x : α) (g' c' : Nat) : Prop where
  own : OwnR e w' B (.slice (some ⟨g', 0, none⟩) (xs.length + 1) c') (xs ++ [x])
  gr : w.grownBy w' none ∨ (OwnR e w B (.slice a xs.length c) xs ∧ w.grownBy w' (Value.slice a xs.length c).ownBlock)
  lies : inB a g' ∨ w.heap.size ≤ g'
theorem appM {α : Type} {e : Elem α} {ops : Array Oper} {rest : List Oper} {o : Oper} {a : Act} {Q : Exit → Act → World → Prop} (hgd : o.guard = none) (s x : Operand)
    (ho : o.op = .call { callee := .builtin .append, args := #[s, x], argTypes := #[e.S, e.S] })
    {w : World} {B : Nat} {ad : Option Addr} {cd : Nat} {xs : List α} {y : α} (hown : OwnOr e w B ad cd xs) (hs : a.eval s = .slice ad xs.length cd) (g c : Nat) (hx : a.eval x = .slice (some ⟨g, 0, none⟩) 1 c) (hr : RowAt e w (some ⟨g, 0, none⟩) [y])
    (hlen : xs.length + 1 < 100000000) (hB : B ≤ w.heap.size)
    (h : ∀ g' c' w', AppM e B w w' ad cd xs y g' c' → wpList Try.prog ops Q rest (a.put o.dst (.slice (some ⟨g', 0, none⟩) (xs.length + 1) c')) w') :
    wpList Try.prog ops Q (o :: rest) a w := by
  rcases hown with hown | ⟨rfl, rfl, g0, rfl, hg0⟩
  · exact appL hgd s x ho hown hs g 1 c hx rfl hr (by omega) hlen hB fun g' c' w' h1 h2 h3 => h g' c' w' ⟨h1, .inr ⟨hown, h2⟩, h3.imp (fun q => hown.inb q) (fun q => by omega)⟩
  · refine wpList_plain hgd fun K hK => ?_
    obtain ⟨a', c', w', hr', hA⟩ := run_app0 e o.type w g0 g c [y] hr (by simp) hg0
    have hs2 : a.eval s = .slice (some ⟨g0, 0, none⟩) 0 0 := hs
    have hx2 : a.eval x = .slice (some ⟨g, 0, none⟩) [y].length c := hx
    unfold Oper.wp execOp
    simp only [ho, resolve, invoke, builtin, Sem.run_bind, Sem.run_pure, Result.andThen_ok, List.map_toArray, List.map_cons, List.map_nil, hs2, hx2, hr']
    rcases hA.own with h1 | ⟨h1, _⟩
    · obtain ⟨g', cap, e1, hb1, _⟩ := World.ownsRow.form h1 (by simp)
      cases e1
      exact hK _ _ (h g' c' w' ⟨h1.le hB, .inl ⟨hA.below.os, hA.below.tape, hA.below.output, hA.below.size, fun k hk _ => hA.below.block k hk⟩, .inr hb1⟩)
    · cases h1
end Go.Proofs.Ytiligddjilcdhaa


/- Disks copied, by the specification, wherever their slices lie. -/
namespace Go.Proofs.Ytiligddjilcdhaa
open Go.RowKit Plain
set_option linter.unusedVariables false

/-- What l4Copy leaves. -/
def CpPost (live safe : List Fl) (ops : List Dop) (w : World) (e : Ending) (w' : World) : Prop :=
  ∃ aL cL aS cS aO cO B3, e = .returned (.agg #[.slice aL live.length cL, .slice aS safe.length cS, .slice aO ops.length cO]) ∧ RowAt fileE w' aL live ∧ RowAt fileE w' aS safe ∧ RowAt dopE w' aO ops ∧ (AdOk aL cL ∧ AdOk aS cS ∧ AdOk aO cO) ∧ OwnOr dopE w' B3 aO cO ops ∧ w.heap.size ≤ B3 ∧ B3 ≤ w'.heap.size ∧ (∀ g, inB aS g → g < B3) ∧ (∀ g, inB aL g → w.heap.size ≤ g) ∧ (∀ g, inB aS g → w.heap.size ≤ g ∧ g < w'.heap.size) ∧ (∀ g, inB aO g → w.heap.size ≤ g ∧ g < w'.heap.size) ∧ Below w.heap.size w w'

theorem adN {α : Type} {e : Elem α} {g : Nat} {w w' : World} {a : Option Addr} {c : Nat} {ys : List α} (h : AppN e g w w' a c ys) : AdOk a c := by
  rcases h.own with q | ⟨_, _, q⟩
  · exact q.ad
  · exact .inr ⟨g, q⟩
theorem Plain.OwnOr.setO {w : World} {B rb i : Nat} {u : Value} {a : Option Addr} {c : Nat} {xs : List Dop} (h : OwnOr dopE w B a c xs) (hB : rb < B) : OwnOr dopE (w.setCell ⟨rb, i, none⟩ u) B a c xs := by
  rcases h with h | ⟨h1, h2, g, h3, h4⟩
  · exact .inl (h.other fun g hg => by have := (World.ownsRow.lt h g hg).1; exact heap_set (by omega))
  · exact .inr ⟨h1, h2, g, h3, by simpa using h4⟩
/-- The block of the answer may be written. -/
structure Plain.NQ (b : Nat) (W : World) : Prop where
  lt : b < W.heap.size
  e0 : ∃ u, W.cell? ⟨b, 0, none⟩ = some u
  e1 : ∃ u, W.cell? ⟨b, 1, none⟩ = some u
  e2 : ∃ u, W.cell? ⟨b, 2, none⟩ = some u
  z0 : W.frozen? ⟨b, 0, none⟩ = false
  z1 : W.frozen? ⟨b, 1, none⟩ = false
  z2 : W.frozen? ⟨b, 2, none⟩ = false
/-- What holds while a disk is copied. -/
def Plain.SX (n : Nat) (W0 W : World) : Prop := Below (n + 1) W0 W ∧ NQ (n + 1) W
theorem Plain.SX.step {n : Nat} {W0 X X' : World} (h : SX n W0 X) (hb : Below X.heap.size X X') (hn : n + 1 ≤ W0.heap.size) : SX n W0 X' := by
  obtain ⟨h1, h2⟩ := h
  obtain ⟨u0, q0⟩ := h2.e0
  obtain ⟨u1, q1⟩ := h2.e1
  obtain ⟨u2, q2⟩ := h2.e2
  exact ⟨h1.trans (hb.mono (Nat.le_trans hn h1.size)), Nat.lt_of_lt_of_le h2.lt hb.size, ⟨u0, bcl hb h2.lt q0⟩, ⟨u1, bcl hb h2.lt q1⟩, ⟨u2, bcl hb h2.lt q2⟩, (hb.frozen (p := ⟨n + 1, 0, none⟩) h2.lt).trans h2.z0, (hb.frozen (p := ⟨n + 1, 1, none⟩) h2.lt).trans h2.z1, (hb.frozen (p := ⟨n + 1, 2, none⟩) h2.lt).trans h2.z2⟩
theorem Plain.SX.al {n : Nat} {W0 X : World} {o : Obj} (h : SX n W0 X) (hn : n + 1 ≤ W0.heap.size) : SX n W0 (X.alloc o) := h.step (bel1 X o) hn
theorem Plain.SX.ald {n : Nat} {W0 X : World} {o : Obj} (h : SX n W0 X.drew) (hn : n + 1 ≤ W0.heap.size) : SX n W0 (X.alloc o).drew := h.step (bel1 X.drew o) hn
theorem Plain.SX.set {n : Nat} {W0 X : World} {v0 v1 v2 : Value} (h : SX n W0 X) : SX n W0 (((X.setCell ⟨n + 1, 0, none⟩ v0).setCell ⟨n + 1, 1, none⟩ v1).setCell ⟨n + 1, 2, none⟩ v2) := by
  obtain ⟨h1, h2⟩ := h
  obtain ⟨u0, q0⟩ := h2.e0
  obtain ⟨u1, q1⟩ := h2.e1
  obtain ⟨u2, q2⟩ := h2.e2
  refine ⟨((h1.setCell (Nat.le_refl _) _).setCell (Nat.le_refl _) _).setCell (Nat.le_refl _) _, by simpa using h2.lt, ⟨v0, ?_⟩, ⟨v1, ?_⟩, ⟨v2, ?_⟩, ?_, ?_, ?_⟩
  · exact (cell_off (.inr (by decide))).trans ((cell_off (.inr (by decide))).trans (cell_set q0))
  · exact (cell_off (.inr (by decide))).trans (cell_set ((cell_off (.inr (by decide))).trans q1))
  · exact cell_set ((cell_off (.inr (by decide))).trans ((cell_off (.inr (by decide))).trans q2))
  · rw [World.frozen?_setCell, World.frozen?_setCell, World.frozen?_setCell]; exact h2.z0
  · rw [World.frozen?_setCell, World.frozen?_setCell, World.frozen?_setCell]; exact h2.z1
  · rw [World.frozen?_setCell, World.frozen?_setCell, World.frozen?_setCell]; exact h2.z2
theorem cpRet {w w4 : World} {B B3 rb : Nat} {y1 y2 y3 : Option Addr} {k1 k2 k3 : Nat} {live safe : List Fl} {ops : List Dop} (h1 : RowAt fileE w4 y1 live) (h2 : RowAt fileE w4 y2 safe) (h3 : RowAt dopE w4 y3 ops) (had : AdOk y1 k1 ∧ AdOk y2 k2 ∧ AdOk y3 k3) (h4 : OwnOr dopE w4 B3 y3 k3 ops) (hB3 : B ≤ B3) (hB4 : B3 ≤ w4.heap.size) (ap : ∀ k, inB y2 k → k < B3)
    (m1 : ∀ k, inB y1 k → B ≤ k) (m2 : ∀ k, inB y2 k → B ≤ k ∧ k < w4.heap.size) (m3 : ∀ k, inB y3 k → B ≤ k ∧ k < w4.heap.size) (hrb : w.heap.size ≤ rb) (hB : rb < B) (hb : Below w.heap.size w w4) : CpPost live safe ops w (.returned (.agg #[.slice y1 live.length k1, .slice y2 safe.length k2, .slice y3 ops.length k3])) (((w4.setCell ⟨rb, 0, none⟩ (.slice y1 live.length k1)).setCell ⟨rb, 1, none⟩ (.slice y2 safe.length k2)).setCell ⟨rb, 2, none⟩ (.slice y3 ops.length k3)) := by
  have n1 : live = [] ∨ ∀ k, inB y1 k → k ≠ rb := .inr fun k hk => by have := m1 k hk; omega
  have n2 : safe = [] ∨ ∀ k, inB y2 k → k ≠ rb := .inr fun k hk => by have := m2 k hk; omega
  have n3 : ops = [] ∨ ∀ k, inB y3 k → k ≠ rb := .inr fun k hk => by have := m3 k hk; omega
  have hr3 : rb < B3 := by omega
  exact ⟨y1, k1, y2, k2, y3, k3, B3, rfl, ((h1.setO n1).setO n1).setO n1, ((h2.setO n2).setO n2).setO n2, ((h3.setO n3).setO n3).setO n3, had, ((h4.setO hr3).setO hr3).setO hr3, by omega, by simpa using hB4, ap, fun k hk => by have := m1 k hk; omega, fun k hk => by have := m2 k hk; simp; omega, fun k hk => by have := m3 k hk; simp; omega, ((hb.setCell hrb _).setCell hrb _).setCell hrb _⟩

set_option maxRecDepth 10000 in
set_option maxHeartbeats 8000000 in
theorem l4Copy_calls (a1 : Option Addr) (nL cL : Nat) (live : List Fl) (a2 : Option Addr) (nS cS : Nat) (safe : List Fl) (a3 : Option Addr) (nO cO : Nat) (ops : List Dop) (w : World) (h : DiskAt w a1 nL cL live a2 nS cS safe a3 nO cO ops) :
    Calls Try.prog 40 #[.agg #[.slice a1 nL cL, .slice a2 nS cS, .slice a3 nO cO]] w (CpPost live safe ops w) := by
  obtain ⟨Wa, hWa⟩ : ∃ Wa, Wa = w.alloc (.cells #[.slice a1 nL cL, .slice a2 nS cS, .slice a3 nO cO] 31) := ⟨_, rfl⟩
  obtain ⟨W0, hW0⟩ : ∃ W0, W0 = Wa.alloc (.cells #[.slice none 0 0, .slice none 0 0, .slice none 0 0] 31) := ⟨_, rfl⟩
  have hba : Below w.heap.size w Wa := by rw [hWa]; exact bel1 _ _
  have hsa : Wa.heap.size = w.heap.size + 1 := by rw [hWa]; simp
  have hs0 : W0.heap.size = w.heap.size + 2 := by rw [hW0]; simp [hsa]
  have hb0 : Below Wa.heap.size Wa W0 := by rw [hW0]; exact bel1 _ _
  have c0 : W0.cell? ⟨w.heap.size, 0, none⟩ = some (.slice a1 nL cL) := bcl hb0 (by omega) (by rw [hWa]; simp [go_sem])
  have c1 : W0.cell? ⟨w.heap.size, 1, none⟩ = some (.slice a2 nS cS) := bcl hb0 (by omega) (by rw [hWa]; simp [go_sem])
  have c2 : W0.cell? ⟨w.heap.size, 2, none⟩ = some (.slice a3 nO cO) := bcl hb0 (by omega) (by rw [hWa]; simp [go_sem])
  have hr : ∀ i, i < 3 → W0.cell? ⟨w.heap.size + 1, i, none⟩ = some (.slice none 0 0) ∧ W0.frozen? ⟨w.heap.size + 1, i, none⟩ = false := by
    intro i hi
    rw [hW0, ← hsa]
    rcases i with _ | _ | _ | i
    all_goals first | omega | simp [go_sem]
  have HC := hide (fun (W : World) (hW : Below W0.heap.size W0 W) => And.intro (bcl hW (show w.heap.size < W0.heap.size by omega) c0) (And.intro (bcl hW (show w.heap.size < W0.heap.size by omega) c1) (bcl hW (show w.heap.size < W0.heap.size by omega) c2)))
  have HR := hide (fun (W : World) (hW : Below W0.heap.size W0 W) (i : Nat) (hi : i < 3) => And.intro (bcl hW (show w.heap.size + 1 < W0.heap.size by omega) (hr i hi).1) ((hW.frozen (p := ⟨w.heap.size + 1, i, none⟩) (show w.heap.size + 1 < W0.heap.size by omega)).trans (hr i hi).2))
  have HFIN := hide (fun (W : World) (hW : Below W0.heap.size W0 W) => belOn (belOn hba hb0) hW)
  have HD := hide (fun (W : World) (hW : Below W0.heap.size W0 W) => (h.below (belOn hba hb0)).below hW)
  have HW0 := hide (show (w.alloc (.cells #[.slice a1 nL cL, .slice a2 nS cS, .slice a3 nO cO] 31)).alloc (.cells #[.slice none 0 0, .slice none 0 0, .slice none 0 0] 31) = W0 from by rw [hW0, hWa])
  have HD1 := hide h.adl
  have HD2 := hide h.ads
  have HD3 := hide h.ado
  have HLL := hide h.ll
  have HLS := hide h.ls
  have HLO := hide h.lo
  have hbl := h.bl
  have hbs := h.bs
  have hbo := h.bo
  have HS0 := hide hs0
  have l0 : w.heap.size < W0.heap.size := by omega
  have l1 : w.heap.size + 1 < W0.heap.size := by omega
  obtain ⟨r0, z0⟩ := hr 0 (by decide)
  obtain ⟨r1, z1⟩ := hr 1 (by decide)
  obtain ⟨r2, z2⟩ := hr 2 (by decide)
  have hn1 : w.heap.size + 1 ≤ W0.heap.size := by omega
  have X0 := fun (W : World) (hW : SX w.heap.size W0 W) => bcl hW.1 (show w.heap.size < w.heap.size + 1 by omega) c0
  have X1 := fun (W : World) (hW : SX w.heap.size W0 W) => bcl hW.1 (show w.heap.size < w.heap.size + 1 by omega) c1
  have X2 := fun (W : World) (hW : SX w.heap.size W0 W) => bcl hW.1 (show w.heap.size < w.heap.size + 1 by omega) c2
  have hbw := belOn hba hb0
  have HRL := hide (fun (W : World) (hW : SX w.heap.size W0 W) => h.rl.below (hbw.trans (hW.1.mono (by omega))))
  have HRS := hide (fun (W : World) (hW : SX w.heap.size W0 W) => h.rs.below (hbw.trans (hW.1.mono (by omega))))
  have HRO := hide (fun (W : World) (hW : SX w.heap.size W0 W) => h.ro.below (hbw.trans (hW.1.mono (by omega))))
  have Q0 : SX w.heap.size W0 W0.drew := ⟨belDrew (Below.refl _ _), l1, ⟨_, r0⟩, ⟨_, r1⟩, ⟨_, r2⟩, z0, z1, z2⟩
  clear hba hb0 hWa hW0 hr h hsa hs0 HC HR hbw
  go_enter Try.func40, Try.ntmps40
  go_wp2_with fail
  rw [unhide HW0]
  go_region_held3 (fun w' => SX w.heap.size W0 w') (first | exact SX.ald (by assumption) hn1 | exact SX.al (by assumption) hn1 | exact Q3 | exact Q2 | exact Q1 | exact Q0 | exact SX.set Q3) (first
    | (refine stepNA (e := fileE) rfl (.tmp 3) (.tmp 5) rfl _ rfl (by first | omega | (simp <;> omega)) a1 nL cL rfl (unhide HLL) (unhide HRL _ (by assumption)) (unhide HD1) hbl ?_; intro y1 k1 w2 ap1; have Q1 : SX w.heap.size W0 w2 := SX.step (by assumption) ap1.below hn1; have Z2 := ap1.below.size; (try simp at Z2))
    | (refine stepNA (e := fileE) rfl (.tmp 7) (.tmp 9) rfl _ rfl (by first | omega | (simp <;> omega)) a2 nS cS rfl (unhide HLS) (unhide HRS _ (by assumption)) (unhide HD2) hbs ?_; intro y2 k2 w3 ap2; have Q2 : SX w.heap.size W0 w3 := SX.step (by assumption) ap2.below hn1; have Z3 := ap2.below.size; (try simp at Z3))
    | (refine stepNA (e := dopE) rfl (.tmp 11) (.tmp 13) rfl _ rfl (by first | omega | (simp <;> omega)) a3 nO cO rfl (unhide HLO) (unhide HRO _ (by assumption)) (unhide HD3) hbo ?_; intro y3 k3 w4 ap3; have Q3 : SX w.heap.size W0 w4 := SX.step (by assumption) ap3.below hn1; obtain ⟨-, nlt, ⟨u0, t0⟩, ⟨u1, t1⟩, ⟨u2, t2⟩, v0, v1, v2⟩ := Q3; have Q3 : SX w.heap.size W0 w4 := SX.step (by assumption) ap3.below hn1))
  all_goals (have B2 : Below W0.heap.size W0 _ := belOn (by first | exact belDrew (bel1 _ _) | exact belDrew (belOn (bel1 _ _) (bel1 _ _)) | exact belDrew (belOn (belOn (bel1 _ _) (bel1 _ _)) (bel1 _ _))) ap1.below)
  all_goals (have K23 : Below w2.heap.size w2 w3 := belOn (by first | exact Below.refl _ _ | exact bel1 _ _ | exact belOn (bel1 _ _) (bel1 _ _)) ap2.below)
  all_goals (have K34 : Below w3.heap.size w3 w4 := belOn (by first | exact Below.refl _ _ | exact bel1 _ _ | exact belOn (bel1 _ _) (bel1 _ _)) ap3.below)
  all_goals (have B4 := belOn B2 (belOn K23 K34))
  all_goals (have Z4 := ap3.below.size)
  all_goals (try simp at Z4)
  all_goals (have HY1 := hide (ap1.row.below (belOn K23 K34)))
  all_goals (have HY2 := hide (ap2.row.below K34))
  all_goals (have HY3 := hide ap3.row)
  all_goals (have HM1 := hide (show ∀ k, inB y1 k → W0.heap.size ≤ k from fun k hk => by rcases (ap1.bl k hk).1 with q | q; all_goals (first | omega | (simp at q; omega))))
  all_goals (have M2 : ∀ k, inB y2 k → W0.heap.size ≤ k ∧ k < w3.heap.size := fun k hk => by have h2 := (ap2.bl k hk).2; rcases (ap2.bl k hk).1 with q | q; all_goals (first | omega | (simp at q; omega)))
  all_goals (have HM2 := hide (show ∀ k, inB y2 k → W0.heap.size ≤ k ∧ k < w4.heap.size from fun k hk => by have := M2 k hk; have := K34.size; omega))
  all_goals (have HM3 := hide (show ∀ k, inB y3 k → W0.heap.size ≤ k ∧ k < w4.heap.size from fun k hk => by have h2 := (ap3.bl k hk).2; rcases (ap3.bl k hk).1 with q | q; all_goals (first | omega | (simp at q; omega))))
  all_goals (have HOO := hide (show ∃ B3, OwnOr dopE w4 B3 y3 k3 ops ∧ W0.heap.size ≤ B3 ∧ B3 ≤ w4.heap.size ∧ ∀ k, inB y2 k → k < B3 from by
    rcases ap3.own with q | ⟨q1, q2, q3⟩
    · refine ⟨_, .inl q, ?_, ap3.below.size, fun k hk => Nat.lt_of_lt_of_le (M2 k hk).2 ?_⟩
      all_goals (first | omega | (simp <;> omega))
    · exact ⟨w4.heap.size, .inr ⟨q1, q2, _, q3, (ap3.bl _ ⟨0, q3⟩).2⟩, by omega, Nat.le_refl _, fun k hk => by have := (M2 k hk).2; have := K34.size; omega⟩))
  all_goals (have HAD := hide (And.intro (adN ap1) (And.intro (adN ap2) (adN ap3))))
  all_goals (have HB4 := hide B4)
  all_goals clear ap1 ap2 ap3 M2 B2 B4 K23 K34 Z2 Z3 Z4 c0 c1 c2 r0 r1 r2 z0 z1 z2 Q0 Q1 Q2 Q3
  all_goals (try go_wp2_with fail)
  all_goals refine bodyPost_ret (v := .agg #[.slice y1 nL k1, .slice y2 nS k2, .slice y3 nO k3]) (by simp [results, Try.results40, go_sem, t0, t1, t2]) rfl ?_
  all_goals (have hn1 := unhide HLL)
  all_goals (have hn2 := unhide HLS)
  all_goals (have hn3 := unhide HLO)
  all_goals (subst hn1 hn2 hn3)
  all_goals (obtain ⟨B3, e1, e2, e3, e4⟩ := unhide HOO)
  all_goals exact cpRet (unhide HY1) (unhide HY2) (unhide HY3) (unhide HAD) e1 e2 e3 e4 (unhide HM1) (unhide HM2) (unhide HM3) (by omega) l1 (unhide HFIN _ (unhide HB4))
end Go.Proofs.Ytiligddjilcdhaa


/- One op done on a disk, by the specification. -/
namespace Go.Proofs.Ytiligddjilcdhaa
open Go.RowKit Plain
set_option linter.unusedVariables false

theorem spcRet {f : Value → Value} {w w7 : World} {rb : Nat} {y1 y2 y3 : Option Addr} {k1 k2 k3 : Nat} {live safe : List Fl} {ops : List Dop} (h1 : RowAt fileE w7 y1 live) (h2 : RowAt fileE w7 y2 safe) (h3 : RowAt dopE w7 y3 ops) (m1 : ∀ k, inB y1 k → k ≠ rb) (m2 : ∀ k, inB y2 k → k ≠ rb) (m3 : ∀ k, inB y3 k → k ≠ rb)
    (hrb : w.heap.size ≤ rb) (hb : Below w.heap.size w w7) : SpcPost f live safe ops w (.returned (f (.agg #[.slice y1 live.length k1, .slice y2 safe.length k2, .slice y3 ops.length k3]))) (((w7.setCell ⟨rb, 0, none⟩ (.slice y1 live.length k1)).setCell ⟨rb, 1, none⟩ (.slice y2 safe.length k2)).setCell ⟨rb, 2, none⟩ (.slice y3 ops.length k3)) :=
  ⟨y1, k1, y2, k2, y3, k3, rfl, ((h1.setO (.inr m1)).setO (.inr m1)).setO (.inr m1), ((h2.setO (.inr m2)).setO (.inr m2)).setO (.inr m2), ((h3.setO (.inr m3)).setO (.inr m3)).setO (.inr m3), ((hb.setCell hrb _).setCell hrb _).setCell hrb _⟩
/-- A disk that the specification answers: three rows in new blocks. -/
def SpcQ (f : Value → Value) (live safe : List Fl) (ops : List Dop) (w : World) (e : Ending) (w' : World) : Prop :=
  ∃ aL cL aS cS aO cO, e = .returned (f (.agg #[.slice aL live.length cL, .slice aS safe.length cS, .slice aO ops.length cO])) ∧ RowAt fileE w' aL live ∧ RowAt fileE w' aS safe ∧ RowAt dopE w' aO ops ∧ (AdOk aL cL ∧ AdOk aS cS ∧ AdOk aO cO) ∧ (∀ k, inB aL k → w.heap.size ≤ k) ∧ (∀ k, inB aS k → w.heap.size ≤ k) ∧ (∀ k, inB aO k → w.heap.size ≤ k) ∧ Below w.heap.size w w'
theorem spcRetQ {f : Value → Value} {w w7 : World} {rb : Nat} {y1 y2 y3 : Option Addr} {k1 k2 k3 : Nat} {live safe : List Fl} {ops : List Dop} (h1 : RowAt fileE w7 y1 live) (h2 : RowAt fileE w7 y2 safe) (h3 : RowAt dopE w7 y3 ops) (had : AdOk y1 k1 ∧ AdOk y2 k2 ∧ AdOk y3 k3) (m1 : ∀ k, inB y1 k → w.heap.size ≤ k ∧ k ≠ rb) (m2 : ∀ k, inB y2 k → w.heap.size ≤ k ∧ k ≠ rb) (m3 : ∀ k, inB y3 k → w.heap.size ≤ k ∧ k ≠ rb)
    (hrb : w.heap.size ≤ rb) (hb : Below w.heap.size w w7) : SpcQ f live safe ops w (.returned (f (.agg #[.slice y1 live.length k1, .slice y2 safe.length k2, .slice y3 ops.length k3]))) (((w7.setCell ⟨rb, 0, none⟩ (.slice y1 live.length k1)).setCell ⟨rb, 1, none⟩ (.slice y2 safe.length k2)).setCell ⟨rb, 2, none⟩ (.slice y3 ops.length k3)) :=
  have n1 := fun k hk => (m1 k hk).2
  have n2 := fun k hk => (m2 k hk).2
  have n3 := fun k hk => (m3 k hk).2
  ⟨y1, k1, y2, k2, y3, k3, rfl, ((h1.setO (.inr n1)).setO (.inr n1)).setO (.inr n1), ((h2.setO (.inr n2)).setO (.inr n2)).setO (.inr n2), ((h3.setO (.inr n3)).setO (.inr n3)).setO (.inr n3), had, fun k hk => (m1 k hk).1, fun k hk => (m2 k hk).1, fun k hk => (m3 k hk).1, ((hb.setCell hrb _).setCell hrb _).setCell hrb _⟩
theorem Plain.OwnOr.below {w w' : World} {B : Nat} {a : Option Addr} {c : Nat} {xs : List Dop} (h : OwnOr dopE w B a c xs) (hb : Below w.heap.size w w') : OwnOr dopE w' B a c xs := by
  rcases h with h | ⟨h1, h2, g, h3, h4⟩
  · exact .inl (h.keep hb)
  · exact .inr ⟨h1, h2, g, h3, Nat.lt_of_lt_of_le h4 hb.size⟩
theorem Plain.AppM.blk {α : Type} {e : Elem α} {B : Nat} {w w' : World} {a : Option Addr} {c : Nat} {xs : List α} {x : α} {g' c' : Nat} (h : AppM e B w w' a c xs x g' c') (k : Nat) (hk : k < w.heap.size) (hn : ¬ inB a k) : w'.heap[k]? = w.heap[k]? := by
  rcases h.gr with q | ⟨o, q⟩
  · exact q.block k hk (fun r => by cases r)
  · exact q.block k hk (fun r => hn (o.inb r.symm))
theorem Plain.AppM.below {α : Type} {e : Elem α} {B : Nat} {w w' : World} {a : Option Addr} {c : Nat} {xs : List α} {x : α} {g' c' : Nat} (h : AppM e B w w' a c xs x g' c') (hB : B ≤ w.heap.size) : Below B w w' := by
  rcases h.gr with q | ⟨o, q⟩
  · exact (below_none q).mono hB
  · exact own_below o q hB
theorem RowAt.offM {α β : Type} {e : Elem α} {e' : Elem β} {B : Nat} {w w' : World} {a : Option Addr} {c : Nat} {xs : List α} {x : α} {g' c' : Nat} {b : Option Addr} {ys : List β} (r : RowAt e' w b ys) (h : AppM e B w w' a c xs x g' c') (hn : OwnR e w B (.slice a xs.length c) xs → ∀ k, inB b k → ¬ inB a k) : RowAt e' w' b ys := fun i hi => by
  obtain ⟨k, e1, hl, hc⟩ := r i hi
  have hb : w'.heap[k]? = w.heap[k]? := by
    rcases h.gr with q | ⟨o, q⟩
    · exact q.block k hl (fun r => by cases r)
    · exact q.block k hl (fun r => hn o k ⟨0, e1⟩ (o.inb r.symm))
  have hz : w.heap.size ≤ w'.heap.size := by rcases h.gr with q | ⟨o, q⟩ <;> exact q.size
  exact ⟨k, e1, Nat.lt_of_lt_of_le hl hz, fun j hj => ⟨(World.cell?_of_block (a := ⟨k, i * e'.n + j, none⟩) hb).trans (hc j hj).1, (World.frozen?_of_block (a := ⟨k, i * e'.n + j, none⟩) hb).trans (hc j hj).2⟩⟩

set_option maxRecDepth 10000 in
set_option maxHeartbeats 8000000 in
theorem l4Act_calls (a1 : Option Addr) (nL cL : Nat) (live : List Fl) (a2 : Option Addr) (nS cS : Nat) (safe : List Fl) (a3 : Option Addr) (nO cO : Nat) (ops : List Dop) (kd : Int) (nm to dt : ByteArray) (w : World) (h : DiskAt w a1 nL cL live a2 nS cS safe a3 nO cO ops)
    (hfs : filesB live = true) (hO2 : nO ≤ 200) (hsm : SmO ⟨kd, nm, to, dt⟩) :
    Calls Try.prog 39 #[.agg #[.slice a1 nL cL, .slice a2 nS cS, .slice a3 nO cO], .agg #[.int .i64 kd, .string nm, .string to, .string dt]] w (SpcQ (fun v => .tuple #[v, .int .i64 (goA live nO [⟨kd, nm, to, dt⟩]).1]) (if (goA live nO [⟨kd, nm, to, dt⟩]).1 = 0 then (goA live nO [⟨kd, nm, to, dt⟩]).2 else live) safe (if (goA live nO [⟨kd, nm, to, dt⟩]).1 = 0 then ops ++ [⟨kd, nm, to, dt⟩] else ops) w) := by
  obtain ⟨Wa, hWa⟩ : ∃ Wa, Wa = w.alloc (.cells #[.slice a1 nL cL, .slice a2 nS cS, .slice a3 nO cO] 31) := ⟨_, rfl⟩
  obtain ⟨Wb, hWb⟩ : ∃ Wb, Wb = Wa.alloc (.cells #[.int .i64 kd, .string nm, .string to, .string dt] 49) := ⟨_, rfl⟩
  obtain ⟨W0, hW0⟩ : ∃ W0, W0 = Wb.alloc (.cells #[.slice none 0 0, .slice none 0 0, .slice none 0 0] 31) := ⟨_, rfl⟩
  have hba : Below w.heap.size w Wa := by rw [hWa]; exact bel1 _ _
  have hsa : Wa.heap.size = w.heap.size + 1 := by rw [hWa]; simp
  have hbb : Below Wa.heap.size Wa Wb := by rw [hWb]; exact bel1 _ _
  have hsb : Wb.heap.size = w.heap.size + 2 := by rw [hWb]; simp [hsa]
  have hs0 : W0.heap.size = w.heap.size + 3 := by rw [hW0]; simp [hsb]
  have hb0 : Below Wb.heap.size Wb W0 := by rw [hW0]; exact bel1 _ _
  have hbab := belOn hbb hb0
  have c0 : W0.cell? ⟨w.heap.size, 0, none⟩ = some (.slice a1 nL cL) := bcl hbab (by omega) (by rw [hWa]; simp [go_sem])
  have c1 : W0.cell? ⟨w.heap.size, 1, none⟩ = some (.slice a2 nS cS) := bcl hbab (by omega) (by rw [hWa]; simp [go_sem])
  have c2 : W0.cell? ⟨w.heap.size, 2, none⟩ = some (.slice a3 nO cO) := bcl hbab (by omega) (by rw [hWa]; simp [go_sem])
  have hop : ∀ i, i < 4 → W0.cell? ⟨w.heap.size + 1, i, none⟩ = (#[.int .i64 kd, .string nm, .string to, .string dt] : Array Value)[i]? := by
    intro i hi
    refine (hb0.cell (p := ⟨w.heap.size + 1, i, none⟩) (show w.heap.size + 1 < Wb.heap.size by omega)).trans ?_
    rw [hWb, ← hsa]
    rcases i with _ | _ | _ | _ | i
    all_goals first | omega | simp [go_sem]
  have hr : ∀ i, i < 3 → W0.cell? ⟨w.heap.size + 2, i, none⟩ = some (.slice none 0 0) ∧ W0.frozen? ⟨w.heap.size + 2, i, none⟩ = false := by
    intro i hi
    rw [hW0, ← hsb]
    rcases i with _ | _ | _ | i
    all_goals first | omega | simp [go_sem]
  have HC := hide (fun (W : World) (hW : Below W0.heap.size W0 W) => And.intro (bcl hW (show w.heap.size < W0.heap.size by omega) c0) (And.intro (bcl hW (show w.heap.size < W0.heap.size by omega) c1) (bcl hW (show w.heap.size < W0.heap.size by omega) c2)))
  have HP4 := hide (fun (W : World) (hW : Below W0.heap.size W0 W) => And.intro (bcl hW (show w.heap.size + 1 < W0.heap.size by omega) (hop 0 (by decide))) (And.intro (bcl hW (show w.heap.size + 1 < W0.heap.size by omega) (hop 1 (by decide))) (And.intro (bcl hW (show w.heap.size + 1 < W0.heap.size by omega) (hop 2 (by decide))) (bcl hW (show w.heap.size + 1 < W0.heap.size by omega) (hop 3 (by decide))))))
  have HR := hide (fun (W : World) (hW : Below W0.heap.size W0 W) (i : Nat) (hi : i < 3) => And.intro (bcl hW (show w.heap.size + 2 < W0.heap.size by omega) (hr i hi).1) ((hW.frozen (p := ⟨w.heap.size + 2, i, none⟩) (show w.heap.size + 2 < W0.heap.size by omega)).trans (hr i hi).2))
  have HFIN := hide (fun (W : World) (hW : Below W0.heap.size W0 W) => belOn (belOn hba hbab) hW)
  have HD := hide (fun (W : World) (hW : Below W0.heap.size W0 W) => (h.below (belOn hba hbab)).below hW)
  have HW0 := hide (show ((w.alloc (.cells #[.slice a1 nL cL, .slice a2 nS cS, .slice a3 nO cO] 31)).alloc (.cells #[.int .i64 kd, .string nm, .string to, .string dt] 49)).alloc (.cells #[.slice none 0 0, .slice none 0 0, .slice none 0 0] 31) = W0 from by rw [hW0, hWb, hWa])
  have HCP := hide (fun (W : World) (hW : Below W0.heap.size W0 W) => l4Copy_calls a1 nL cL live a2 nS cS safe a3 nO cO ops W (unhide HD _ hW))
  have HFO := hide (l4Form_calls ⟨kd, nm, to, dt⟩ W0 hsm.fit)
  have hbl := h.bl
  have HAD1 := hide h.adl
  have HDO := hide (fun (W : World) (hW : Below W0.heap.size W0 W) => l4Do_calls a1 nL cL live ⟨kd, nm, to, dt⟩ W h.ll (by have h1 := (files_small hfs).1; have h2 := h.ll; omega) h.fl hsm.fit (unhide HD _ hW).rl (unhide HAD1))
  have HFT := hide (do_fit hfs hsm)
  have HLO := hide h.lo
  have HLIT := hide (fun (W : World) => dopLit W ⟨kd, nm, to, dt⟩)
  have HS0 := hide hs0
  have hDV : dopV ⟨kd, nm, to, dt⟩ = .agg #[.int .i64 kd, .string nm, .string to, .string dt] := rfl
  rw [hDV] at HFO HDO
  unfold DoPost at HDO
  have hgo : goA live nO [⟨kd, nm, to, dt⟩] = if formB ⟨kd, nm, to, dt⟩ then (if (doF live ⟨kd, nm, to, dt⟩).2 then (if decide (nO < 200) && filesB (doF live ⟨kd, nm, to, dt⟩).1 then (0, (doF live ⟨kd, nm, to, dt⟩).1) else (4, [])) else (3, [])) else (2, []) := rfl
  obtain ⟨PC, hPC⟩ : ∃ x, (goA live nO [⟨kd, nm, to, dt⟩]).1 = x := ⟨_, rfl⟩
  obtain ⟨PL, hPL⟩ : ∃ x, (if (goA live nO [⟨kd, nm, to, dt⟩]).1 = 0 then (goA live nO [⟨kd, nm, to, dt⟩]).2 else live) = x := ⟨_, rfl⟩
  obtain ⟨PO, hPO⟩ : ∃ x, (if (goA live nO [⟨kd, nm, to, dt⟩]).1 = 0 then ops ++ [⟨kd, nm, to, dt⟩] else ops) = x := ⟨_, rfl⟩
  rw [hPL, hPO, hPC]
  have HP := hide (And.intro hPC (And.intro hPL hPO))
  generalize hfm : formB ⟨kd, nm, to, dt⟩ = FB at HFO hgo
  generalize doF live ⟨kd, nm, to, dt⟩ = D at HDO HFT hgo
  obtain ⟨nx, bb⟩ := D
  simp only at HDO HFT hgo
  have HGO := hide hgo
  clear hba hbb hb0 hbab hWa hWb hW0 hr h hsa hsb hs0 hop hfs hDV hPC hPL hPO hfm hgo
  cases FB with
  | false =>
    go_enter Try.func39, Try.ntmps39
    go_wp2_with fail
    rw [unhide HW0]
    clear c0 c1 c2
    refine (unhide HFO).mono ?_
    rintro e w1 ⟨rfl, hb1⟩
    have HB1 := hide hb1
    clear hb1
    obtain ⟨q0, q1, q2⟩ := unhide HC _ (unhide HB1)
    have HRX := hide (show goA live nO [⟨kd, nm, to, dt⟩] = (2, []) from by rw [unhide HGO]; rfl)
    go_wp2_with fail
    clear q0 q1 q2
    refine (unhide HCP _ (unhide HB1)).mono ?_
    rintro e wf ⟨aL, iL, aS, iS, aO, iO, B3, rfl, o1, o2, o3, ad, -, -, -, -, m1, m2, m3, hbf⟩
    have HBf := hide (belOn (unhide HB1) hbf)
    have HOf := hide (And.intro o1 (And.intro o2 (And.intro o3 (And.intro ad (And.intro m1 (And.intro m2 m3))))))
    obtain ⟨r0, z0⟩ := unhide HR _ (unhide HBf) 0 (by decide)
    obtain ⟨r1, z1⟩ := unhide HR _ (unhide HBf) 1 (by decide)
    obtain ⟨r2, z2⟩ := unhide HR _ (unhide HBf) 2 (by decide)
    clear o1 o2 o3 ad m1 m2 m3 hbf
    go_wp2_with fail
    refine bodyPost_ret (v := .tuple #[.agg #[.slice aL live.length iL, .slice aS safe.length iS, .slice aO ops.length iO], .int .i64 2]) (by simp [results, Try.results39, go_sem, r0, r1, r2]) rfl ?_
    obtain ⟨p1, p2, p4⟩ := unhide HP
    rw [unhide HRX] at p1 p2 p4
    have p1' : PC = 2 := p1.symm
    have p2' : PL = live := p2.symm
    have p4' : PO = ops := p4.symm
    subst p1' p2' p4'
    obtain ⟨o1, o2, o3, ad, m1, m2, m3⟩ := unhide HOf
    have hzz := (unhide HB1).size
    have hs0 := unhide HS0
    exact spcRetQ (rb := w.heap.size + 2) o1 o2 o3 ad (fun k hk => by have := m1 k hk; omega) (fun k hk => by have := (m2 k hk).1; omega) (fun k hk => by have := (m3 k hk).1; omega) (by omega) (unhide HFIN _ (unhide HBf))
  | true =>
    cases bb with
    | false =>
      go_enter Try.func39, Try.ntmps39
      go_wp2_with fail
      rw [unhide HW0]
      clear c0 c1 c2
      refine (unhide HFO).mono ?_
      rintro e w1 ⟨rfl, hb1⟩
      have HB1 := hide hb1
      obtain ⟨q0, q1, q2⟩ := unhide HC _ hb1
      obtain ⟨p0, p1, p2, p3⟩ := unhide HP4 _ hb1
      clear hb1
      go_wp2_with fail
      refine (unhide HDO _ (unhide HB1)).mono ?_
      rintro e w2 ⟨v, rfl, ov, hb2⟩
      have HB2 := hide (belOn (unhide HB1) hb2)
      clear hb2 q0 q1 q2 p0 p1 p2 p3 ov
      obtain ⟨q0, q1, q2⟩ := unhide HC _ (unhide HB2)
      have HRX := hide (show goA live nO [⟨kd, nm, to, dt⟩] = (3, []) from by rw [unhide HGO]; rfl)
      go_wp2_with fail
      clear q0 q1 q2
      refine (unhide HCP _ (unhide HB2)).mono ?_
      rintro e wf ⟨aL, iL, aS, iS, aO, iO, B3, rfl, o1, o2, o3, ad, -, -, -, -, m1, m2, m3, hbf⟩
      have HBf := hide (belOn (unhide HB2) hbf)
      have HOf := hide (And.intro o1 (And.intro o2 (And.intro o3 (And.intro ad (And.intro m1 (And.intro m2 m3))))))
      obtain ⟨r0, z0⟩ := unhide HR _ (unhide HBf) 0 (by decide)
      obtain ⟨r1, z1⟩ := unhide HR _ (unhide HBf) 1 (by decide)
      obtain ⟨r2, z2⟩ := unhide HR _ (unhide HBf) 2 (by decide)
      clear o1 o2 o3 ad m1 m2 m3 hbf
      go_wp2_with fail
      refine bodyPost_ret (v := .tuple #[.agg #[.slice aL live.length iL, .slice aS safe.length iS, .slice aO ops.length iO], .int .i64 3]) (by simp [results, Try.results39, go_sem, r0, r1, r2]) rfl ?_
      obtain ⟨p1, p2, p4⟩ := unhide HP
      rw [unhide HRX] at p1 p2 p4
      have p1' : PC = 3 := p1.symm
      have p2' : PL = live := p2.symm
      have p4' : PO = ops := p4.symm
      subst p1' p2' p4'
      obtain ⟨o1, o2, o3, ad, m1, m2, m3⟩ := unhide HOf
      have hzz := (unhide HB2).size
      have hs0 := unhide HS0
      exact spcRetQ (rb := w.heap.size + 2) o1 o2 o3 ad (fun k hk => by have := m1 k hk; omega) (fun k hk => by have := (m2 k hk).1; omega) (fun k hk => by have := (m3 k hk).1; omega) (by omega) (unhide HFIN _ (unhide HBf))
    | true =>
      by_cases h200 : nO < 200
      · have g200 : ((nO : Int) == 200) = false := by simp; omega
        cases hfl : filesB nx with
        | false =>
          go_enter Try.func39, Try.ntmps39
          go_wp2_with fail
          rw [unhide HW0]
          clear c0 c1 c2
          refine (unhide HFO).mono ?_
          rintro e w1 ⟨rfl, hb1⟩
          have HB1 := hide hb1
          obtain ⟨q0, q1, q2⟩ := unhide HC _ hb1
          obtain ⟨p0, p1, p2, p3⟩ := unhide HP4 _ hb1
          clear hb1
          go_wp2_with fail
          refine (unhide HDO _ (unhide HB1)).mono ?_
          rintro e w2 ⟨v, rfl, ov, hb2⟩
          obtain ⟨aN, cN, rfl⟩ := ov.form
          have HB2 := hide (belOn (unhide HB1) hb2)
          have HLF := hide (l4Files_calls aN nx.length cN nx w2 rfl (by have := (unhide HFT).2; omega) (unhide HFT).1 ov.at)
          rw [hfl] at HLF
          clear hb2 q0 q1 q2 p0 p1 p2 p3 ov
          obtain ⟨q0, q1, q2⟩ := unhide HC _ (unhide HB2)
          go_wp2_with fail
          refine (unhide HLF).mono ?_
          rintro e w3 ⟨rfl, hb3⟩
          have HB3 := hide (belOn (unhide HB2) hb3)
          clear hb3 q0 q1 q2
          obtain ⟨q0, q1, q2⟩ := unhide HC _ (unhide HB3)
          have HRX := hide (show goA live nO [⟨kd, nm, to, dt⟩] = (4, []) from by rw [unhide HGO, hfl, Bool.and_false]; rfl)
          go_wp2_with fail
          clear q0 q1 q2
          refine (unhide HCP _ (unhide HB3)).mono ?_
          rintro e wf ⟨aL, iL, aS, iS, aO, iO, B3, rfl, o1, o2, o3, ad, -, -, -, -, m1, m2, m3, hbf⟩
          have HBf := hide (belOn (unhide HB3) hbf)
          have HOf := hide (And.intro o1 (And.intro o2 (And.intro o3 (And.intro ad (And.intro m1 (And.intro m2 m3))))))
          obtain ⟨r0, z0⟩ := unhide HR _ (unhide HBf) 0 (by decide)
          obtain ⟨r1, z1⟩ := unhide HR _ (unhide HBf) 1 (by decide)
          obtain ⟨r2, z2⟩ := unhide HR _ (unhide HBf) 2 (by decide)
          clear o1 o2 o3 ad m1 m2 m3 hbf
          go_wp2_with fail
          refine bodyPost_ret (v := .tuple #[.agg #[.slice aL live.length iL, .slice aS safe.length iS, .slice aO ops.length iO], .int .i64 4]) (by simp [results, Try.results39, go_sem, r0, r1, r2]) rfl ?_
          obtain ⟨p1, p2, p4⟩ := unhide HP
          rw [unhide HRX] at p1 p2 p4
          have p1' : PC = 4 := p1.symm
          have p2' : PL = live := p2.symm
          have p4' : PO = ops := p4.symm
          subst p1' p2' p4'
          obtain ⟨o1, o2, o3, ad, m1, m2, m3⟩ := unhide HOf
          have hzz := (unhide HB3).size
          have hs0 := unhide HS0
          exact spcRetQ (rb := w.heap.size + 2) o1 o2 o3 ad (fun k hk => by have := m1 k hk; omega) (fun k hk => by have := (m2 k hk).1; omega) (fun k hk => by have := (m3 k hk).1; omega) (by omega) (unhide HFIN _ (unhide HBf))
        | true =>
          have HGX := hide (show goA live nO [⟨kd, nm, to, dt⟩] = (0, nx) from by rw [unhide HGO, hfl, decide_eq_true h200]; rfl)
          go_enter Try.func39, Try.ntmps39
          go_wp2_with fail
          rw [unhide HW0]
          clear c0 c1 c2
          refine (unhide HFO).mono ?_
          rintro e w1 ⟨rfl, hb1⟩
          have HB1 := hide hb1
          obtain ⟨q0, q1, q2⟩ := unhide HC _ hb1
          obtain ⟨p0, p1, p2, p3⟩ := unhide HP4 _ hb1
          clear hb1
          go_wp2_with fail
          refine (unhide HDO _ (unhide HB1)).mono ?_
          rintro e w2 ⟨v, rfl, ov, hb2⟩
          obtain ⟨aN, cN, rfl⟩ := ov.form
          have HB2 := hide (belOn (unhide HB1) hb2)
          have HLF := hide (l4Files_calls aN nx.length cN nx w2 rfl (by have := (unhide HFT).2; omega) (unhide HFT).1 ov.at)
          rw [hfl] at HLF
          have HOV := hide ov
          clear hb2 q0 q1 q2 p0 p1 p2 p3 ov
          obtain ⟨q0, q1, q2⟩ := unhide HC _ (unhide HB2)
          go_wp2_with fail
          refine (unhide HLF).mono ?_
          rintro e w3 ⟨rfl, hb3⟩
          have HB3 := hide (belOn (unhide HB2) hb3)
          have HN3 := hide ((unhide HOV).at.below hb3)
          have hz23 := hb3.size
          clear hb3 q0 q1 q2
          obtain ⟨q0, q1, q2⟩ := unhide HC _ (unhide HB3)
          go_wp2_with fail
          refine (unhide HCP _ (unhide HB3)).mono ?_
          rintro e w5 ⟨aL, iL, aS, iS, aO, iO, B3, rfl, o1, o2, o3, ad, oo, b1, b2, apS, m1, m2, m3, hb5⟩
          have HB5 := hide (belOn (unhide HB3) hb5)
          obtain ⟨Wl, hWl⟩ : ∃ Wl, Wl = (w5.alloc (.cells #[.slice aN nx.length cN, .slice aS safe.length iS, .slice aO ops.length iO] 31)).alloc (.cells #[.int .i64 kd, .string nm, .string to, .string dt] 49) := ⟨_, rfl⟩
          have hbl5 : Below w5.heap.size w5 Wl := by rw [hWl]; exact belOn (bel1 _ _) (bel1 _ _)
          have hsl : Wl.heap.size = w5.heap.size + 2 := by rw [hWl]; simp
          have HLT := hide (show RowAt dopE Wl (some ⟨w5.heap.size + 1, 0, none⟩) [⟨kd, nm, to, dt⟩] from by
            have := (unhide HLIT (w5.alloc (.cells #[.slice aN nx.length cN, .slice aS safe.length iS, .slice aO ops.length iO] 31))).at
            rw [hWl]
            simpa using this)
          have HOW := hide (oo.below hbl5)
          have HBO := hide (show ∀ g, inB aO g → w3.heap.size ≤ g ∧ g < w5.heap.size from fun g q => m3 g q)
          have HBN := hide (show ∀ g, inB aN g → w1.heap.size ≤ g ∧ g < w2.heap.size from fun g q => (unhide HOV).bl g q)
          have HRN := hide (((unhide HN3).below hb5).below hbl5)
          have HRS := hide (o2.below hbl5)
          have HMS := hide m2
          have HAD5 := hide (show AdOk aN cN ∧ AdOk aS iS from ⟨(unhide HOV).ad, ad.2.1⟩)
          have HB5l := hide (belOn (unhide HB5) hbl5)
          have d0 : Wl.cell? ⟨w5.heap.size, 0, none⟩ = some (.slice aN nx.length cN) := by rw [hWl]; exact bcl (bel1 _ _) (by simp) (by simp [go_sem])
          have d1 : Wl.cell? ⟨w5.heap.size, 1, none⟩ = some (.slice aS safe.length iS) := by rw [hWl]; exact bcl (bel1 _ _) (by simp) (by simp [go_sem])
          have d2 : Wl.cell? ⟨w5.heap.size, 2, none⟩ = some (.slice aO ops.length iO) := by rw [hWl]; exact bcl (bel1 _ _) (by simp) (by simp [go_sem])
          have dz : Wl.frozen? ⟨w5.heap.size, 2, none⟩ = false := by rw [hWl]; exact ((bel1 (w5.alloc (.cells #[.slice aN nx.length cN, .slice aS safe.length iS, .slice aO ops.length iO] 31)) _).frozen (p := ⟨w5.heap.size, 2, none⟩) (by simp)).trans (by simp [go_sem])
          obtain ⟨r0, z0⟩ := unhide HR _ (unhide HB5l) 0 (by decide)
          obtain ⟨r1, z1⟩ := unhide HR _ (unhide HB5l) 1 (by decide)
          obtain ⟨r2, z2⟩ := unhide HR _ (unhide HB5l) 2 (by decide)
          have hz5 := hb5.size
          have hz3 := (unhide HB3).size
          have hs0 := unhide HS0
          have hno := unhide HLO
          have ow1 : Wl.heap.size > w5.heap.size := by omega
          have ow2 : w.heap.size + 2 < w3.heap.size := by omega
          have ow3 : w.heap.size + 2 < w5.heap.size := by omega
          have ow4 : w3.heap.size ≤ Wl.heap.size := by omega
          have ow5 : w5.heap.size ≠ w.heap.size + 2 := by omega
          have ow6 : w.heap.size + 2 < w1.heap.size := by have := (unhide HB1).size; omega
          have HN5 := hide (show ¬ inB aO w5.heap.size from fun q => by have := (unhide HBO _ q).2; omega)
          have HNr := hide (show ¬ inB aO (w.heap.size + 2) from fun q => by have := (unhide HBO _ q).1; omega)
          have hBl : B3 ≤ Wl.heap.size := by omega
          have HAPS := hide apS
          have hzl : ops.length + 1 < 100000000 := by omega
          obtain ⟨q0, q1, q2⟩ := unhide HC _ (unhide HB5)
          obtain ⟨p0, p1, p2, p3⟩ := unhide HP4 _ (unhide HB5)
          have lp : w.heap.size + 1 < w5.heap.size := lt_of_cell p0
          have ne1 : ¬ w5.heap.size = w.heap.size + 1 := by omega
          have HWl := hide hWl.symm
          clear o1 o2 o3 oo ad apS m1 m2 m3 hb5 hbl5 hWl hsl hs0 hno hfl
          go_wp2_with (at_builtin; rw [unhide HWl]; go_must (refine appM (e := dopE) rfl _ _ rfl (unhide HOW) rfl (w5.heap.size + 1) 1 rfl (unhide HLT) hzl hBl ?_); intro g7 c7 w7 ap7; have a5 := ap7.blk w5.heap.size (by omega) (unhide HN5); have ar := ap7.blk (w.heap.size + 2) (by omega) (unhide HNr); have y0 := (World.cell?_of_block (a := ⟨w5.heap.size, 0, none⟩) a5).trans d0; have y1 := (World.cell?_of_block (a := ⟨w5.heap.size, 1, none⟩) a5).trans d1; have y2 := (World.cell?_of_block (a := ⟨w5.heap.size, 2, none⟩) a5).trans d2; have yf := (World.frozen?_of_block (a := ⟨w5.heap.size, 2, none⟩) a5).trans dz; have x0 := (World.cell?_of_block (a := ⟨w.heap.size + 2, 0, none⟩) ar).trans r0; have x1 := (World.cell?_of_block (a := ⟨w.heap.size + 2, 1, none⟩) ar).trans r1; have x2 := (World.cell?_of_block (a := ⟨w.heap.size + 2, 2, none⟩) ar).trans r2; have f0 := (World.frozen?_of_block (a := ⟨w.heap.size + 2, 0, none⟩) ar).trans z0; have f1 := (World.frozen?_of_block (a := ⟨w.heap.size + 2, 1, none⟩) ar).trans z1; have f2 := (World.frozen?_of_block (a := ⟨w.heap.size + 2, 2, none⟩) ar).trans z2; have k0 : (w7.setCell ⟨w5.heap.size, 2, none⟩ (.slice (some ⟨g7, 0, none⟩) (ops.length + 1) c7)).cell? ⟨w5.heap.size, 0, none⟩ = some (.slice aN nx.length cN) := (cell_off (.inr (by decide))).trans y0; have k1 : (w7.setCell ⟨w5.heap.size, 2, none⟩ (.slice (some ⟨g7, 0, none⟩) (ops.length + 1) c7)).cell? ⟨w5.heap.size, 1, none⟩ = some (.slice aS safe.length iS) := (cell_off (.inr (by decide))).trans y1; have k2 : (w7.setCell ⟨w5.heap.size, 2, none⟩ (.slice (some ⟨g7, 0, none⟩) (ops.length + 1) c7)).cell? ⟨w5.heap.size, 2, none⟩ = some (.slice (some ⟨g7, 0, none⟩) (ops.length + 1) c7) := cell_set y2; have k3 : (w7.setCell ⟨w5.heap.size, 2, none⟩ (.slice (some ⟨g7, 0, none⟩) (ops.length + 1) c7)).cell? ⟨w.heap.size + 2, 0, none⟩ = some (.slice none 0 0) := (cell_off (.inl ow5)).trans x0; have k4 : (w7.setCell ⟨w5.heap.size, 2, none⟩ (.slice (some ⟨g7, 0, none⟩) (ops.length + 1) c7)).cell? ⟨w.heap.size + 2, 1, none⟩ = some (.slice none 0 0) := (cell_off (.inl ow5)).trans x1; have k5 : (w7.setCell ⟨w5.heap.size, 2, none⟩ (.slice (some ⟨g7, 0, none⟩) (ops.length + 1) c7)).cell? ⟨w.heap.size + 2, 2, none⟩ = some (.slice none 0 0) := (cell_off (.inl ow5)).trans x2)
          refine bodyPost_ret (v := .tuple #[.agg #[.slice aN nx.length cN, .slice aS safe.length iS, .slice (some ⟨g7, 0, none⟩) (ops.length + 1) c7], .int .i64 0]) (by simp [results, Try.results39, go_sem, k3, k4, k5]) rfl ?_
          obtain ⟨e1, e2, e4⟩ := unhide HP
          rw [unhide HGX] at e1 e2 e4
          have e1' : PC = 0 := e1.symm
          have e2' : PL = nx := e2.symm
          have e4' : PO = ops ++ [⟨kd, nm, to, dt⟩] := e4.symm
          subst e1' e2' e4'
          have hg7 : w3.heap.size ≤ g7 := by
            rcases ap7.lies with q | q
            · exact (unhide HBO g7 q).1
            · omega
          have hg75 : g7 ≠ w5.heap.size := by
            rcases ap7.lies with q | q
            · have := (unhide HBO g7 q).2; omega
            · omega
          have hlen : (ops ++ [(⟨kd, nm, to, dt⟩ : Dop)]).length = ops.length + 1 := by simp
          have RN := (unhide HRN).offM ap7 (fun _ k hk q => by have := (unhide HBN k hk).2; have := (unhide HBO k q).1; omega)
          have RS := (unhide HRS).offM ap7 (fun o k hk q => by have := unhide HAPS k hk; have := (o.bl k q).1; omega)
          have mS := unhide HMS
          have hfin := spcRetQ (f := fun v => .tuple #[v, .int .i64 0]) (w := w) (rb := w.heap.size + 2) (k1 := cN) (k2 := iS) (k3 := c7) (RN.setO (b := w5.heap.size) (i := 2) (u := .slice (some ⟨g7, 0, none⟩) (ops.length + 1) c7) (.inr (fun k hk => by have := (unhide HBN k hk).2; omega))) (RS.setO (b := w5.heap.size) (i := 2) (u := .slice (some ⟨g7, 0, none⟩) (ops.length + 1) c7) (.inr (fun k hk => by have := (mS k hk).2; omega))) (ap7.own.at.setO (b := w5.heap.size) (i := 2) (u := .slice (some ⟨g7, 0, none⟩) (ops.length + 1) c7) (.inr (fun k hk => by obtain ⟨o, e⟩ := hk; cases e; exact hg75))) ⟨(unhide HAD5).1, (unhide HAD5).2, .inr ⟨g7, rfl⟩⟩ (fun k hk => by have := (unhide HBN k hk).1; omega) (fun k hk => by have := (mS k hk).1; omega) (fun k hk => by obtain ⟨o, e⟩ := hk; cases e; omega) (by omega) (((unhide HFIN _ (unhide HB5l)).trans ((ap7.below hBl).mono (show w.heap.size ≤ B3 by omega))).setCell (show w.heap.size ≤ w5.heap.size by omega) _)
          rw [hlen] at hfin
          exact hfin
      · have g200 : ((nO : Int) == 200) = true := by simp; omega
        go_enter Try.func39, Try.ntmps39
        go_wp2_with fail
        rw [unhide HW0]
        clear c0 c1 c2
        refine (unhide HFO).mono ?_
        rintro e w1 ⟨rfl, hb1⟩
        have HB1 := hide hb1
        obtain ⟨q0, q1, q2⟩ := unhide HC _ hb1
        obtain ⟨p0, p1, p2, p3⟩ := unhide HP4 _ hb1
        clear hb1
        go_wp2_with fail
        refine (unhide HDO _ (unhide HB1)).mono ?_
        rintro e w2 ⟨v, rfl, ov, hb2⟩
        have HB2 := hide (belOn (unhide HB1) hb2)
        clear hb2 q0 q1 q2 p0 p1 p2 p3 ov
        obtain ⟨q0, q1, q2⟩ := unhide HC _ (unhide HB2)
        have HRX := hide (show goA live nO [⟨kd, nm, to, dt⟩] = (4, []) from by rw [unhide HGO, decide_eq_false h200]; rfl)
        go_wp2_with fail
        clear q0 q1 q2
        refine (unhide HCP _ (unhide HB2)).mono ?_
        rintro e wf ⟨aL, iL, aS, iS, aO, iO, B3, rfl, o1, o2, o3, ad, -, -, -, -, m1, m2, m3, hbf⟩
        have HBf := hide (belOn (unhide HB2) hbf)
        have HOf := hide (And.intro o1 (And.intro o2 (And.intro o3 (And.intro ad (And.intro m1 (And.intro m2 m3))))))
        obtain ⟨r0, z0⟩ := unhide HR _ (unhide HBf) 0 (by decide)
        obtain ⟨r1, z1⟩ := unhide HR _ (unhide HBf) 1 (by decide)
        obtain ⟨r2, z2⟩ := unhide HR _ (unhide HBf) 2 (by decide)
        clear o1 o2 o3 ad m1 m2 m3 hbf
        go_wp2_with fail
        refine bodyPost_ret (v := .tuple #[.agg #[.slice aL live.length iL, .slice aS safe.length iS, .slice aO ops.length iO], .int .i64 4]) (by simp [results, Try.results39, go_sem, r0, r1, r2]) rfl ?_
        obtain ⟨p1, p2, p4⟩ := unhide HP
        rw [unhide HRX] at p1 p2 p4
        have p1' : PC = 4 := p1.symm
        have p2' : PL = live := p2.symm
        have p4' : PO = ops := p4.symm
        subst p1' p2' p4'
        obtain ⟨o1, o2, o3, ad, m1, m2, m3⟩ := unhide HOf
        have hzz := (unhide HB2).size
        have hs0 := unhide HS0
        exact spcRetQ (rb := w.heap.size + 2) o1 o2 o3 ad (fun k hk => by have := m1 k hk; omega) (fun k hk => by have := (m2 k hk).1; omega) (fun k hk => by have := (m3 k hk).1; omega) (by omega) (unhide HFIN _ (unhide HBf))
theorem rowNil2 {α : Type} (e : Elem α) (W : World) (a : Option Addr) : RowAt e W a [] := fun i hi => by simp at hi
end Go.Proofs.Ytiligddjilcdhaa

