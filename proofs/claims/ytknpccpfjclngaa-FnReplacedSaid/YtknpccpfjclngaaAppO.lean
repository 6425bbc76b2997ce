/- Rows that begin anywhere in their block are appended; disks whose ops do. -/
import Derived.Test.YtknpccpfjclngaaStpM
import Derived.Test.YtknpccpfjclngaaDskW
import Derived.Test.YtknpccpfjclngaaDskV
namespace Go.Proofs.Ytknpccpfjclngaa
open Go.RowKit Plain
set_option linter.unusedVariables false

/-- A slice's address: none, or anywhere in a block. -/
def Plain.AdN (a : Option Addr) (c : Nat) : Prop := (a = none ∧ c = 0) ∨ ∃ g b, a = some ⟨g, b, none⟩
theorem Plain.AdOk.toN {a : Option Addr} {c : Nat} (h : AdOk a c) : AdN a c := h.imp id fun ⟨g, e⟩ => ⟨g, 0, e⟩
/-- A disk whose ops begin anywhere, or nowhere. -/
structure Plain.DiskN (W : World) (aL : Option Addr) (nL cL : Nat) (live : List Fl) (aS : Option Addr) (nS cS : Nat) (safe : List Fl) (aO : Option Addr) (nO cO : Nat) (ops : List Dop) : Prop extends DiskO W aL nL cL live aS nS cS safe aO nO cO ops where
  ado : AdN aO cO
theorem Plain.DiskN.below {W W' : World} {aL : Option Addr} {nL cL : Nat} {live : List Fl} {aS : Option Addr} {nS cS : Nat} {safe : List Fl} {aO : Option Addr} {nO cO : Nat} {ops : List Dop} (h : DiskN W aL nL cL live aS nS cS safe aO nO cO ops) (hb : Below W.heap.size W W') : DiskN W' aL nL cL live aS nS cS safe aO nO cO ops := ⟨h.toDiskO.below hb, h.ado⟩
theorem Plain.DiskAt.toN {W : World} {aL : Option Addr} {nL cL : Nat} {live : List Fl} {aS : Option Addr} {nS cS : Nat} {safe : List Fl} {aO : Option Addr} {nO cO : Nat} {ops : List Dop} (h : DiskAt W aL nL cL live aS nS cS safe aO nO cO ops) : DiskN W aL nL cL live aS nS cS safe aO nO cO ops := ⟨h.toO, h.ado.toN⟩
theorem row_newsO {α : Type} {e : Elem α} {w : World} {gx b : Nat} {ys : List α} (hr : RowO e w (some ⟨gx, b, none⟩) ys) : ∀ j u, (ys.flatMap e.enc)[j]? = some u → w.cell? ((⟨gx, b, none⟩ : Addr).add j) = some u := by
  intro j u hj
  have hjl : j < ys.length * e.n := by
    have := (List.getElem?_eq_some_iff.1 hj).1
    rw [flat_len e.enc e.n e.hlen] at this
    exact this
  have hn := e.hn
  have hq : j / e.n < ys.length := Nat.div_lt_of_lt_mul (by rw [Nat.mul_comm]; exact hjl)
  have hm : j % e.n < e.n := Nat.mod_lt _ hn
  have hd : j / e.n * e.n + j % e.n = j := by rw [Nat.mul_comm]; exact Nat.div_add_mod j e.n
  obtain ⟨g', b', e1, hl, hc⟩ := hr (j / e.n) hq
  cases e1
  have h1 := (hc (j % e.n) hm).1
  rw [Nat.add_assoc, hd] at h1
  have h2 := flat_get e.enc e.n e.hlen ys (j / e.n) (j % e.n) hq hm
  rw [hd] at h2
  rw [show (⟨gx, b, none⟩ : Addr).add j = ⟨gx, b + j, none⟩ from by unfold Addr.add; split <;> simp_all, h1, ← h2]
  exact hj
theorem run_app0O {α : Type} (e : Elem α) (ty : TypeId) (w : World) (g gx b c : Nat) (ys : List α) (hr : RowO e w (some ⟨gx, b, none⟩) ys) (hlen : ys.length ≤ 1048576) (hg : g < w.heap.size) :
    ∃ a' c' w', (Builtin.append_ #[e.S, e.S] ty #[.slice (some ⟨g, 0, none⟩) 0 0, .slice (some ⟨gx, b, none⟩) ys.length c]).run Try.prog w = .ok (.slice a' ys.length c') w' ∧ AppN e g w w' a' c' ys := by
  obtain ⟨i0, hi, hz0, hz1, hz2⟩ := info_parts e.hinfo
  have hby := e.hb
  rcases Nat.eq_zero_or_pos ys.length with h0 | h0
  · have hys : ys = [] := List.length_eq_zero_iff.1 h0
    subst hys
    refine ⟨some ⟨g, 0, none⟩, 0, w, ?_, Below.refl _ _, fun i hi => by simp at hi, ?_, .inr ⟨rfl, rfl, rfl⟩⟩
    · simp [Builtin.append_, run_underlying e.hund, sizeOf, typeInfo, hi, storeCells, go_sem]
    · rintro k ⟨o, q⟩
      cases q
      exact ⟨.inl rfl, hg⟩
  · obtain ⟨v', w', hr', h2, h3⟩ := run_append_arg_grows (P := Try.prog) w e.S ty e.E i0 e.zero e.n e.bytes e.hund hi hz0 hz1 hz2 e.hz e.hn ⟨g, 0, none⟩ 0 0 [] (by simp) (fun j u hj => by simp at hj) ⟨gx, b, none⟩ ys.length c (ys.flatMap e.enc) (flat_len e.enc e.n e.hlen ys) (row_newsO hr) (by omega) (by unfold maxLen; omega) (Nat.le_trans (Nat.mul_le_mul_left _ hby) (by omega))
    have h1' : OwnR e w' w.heap.size v' ys := by unfold OwnR; rw [Nat.zero_add, List.nil_append] at h2; exact h2
    obtain ⟨a', c', rfl⟩ := h1'.form
    exact ⟨a', c', w', hr', below_none h3, h1'.at, fun k hk => ⟨.inr (h1'.bl k hk).1, (h1'.bl k hk).2⟩, .inl h1'⟩
theorem stepNOs {α : Type} {e : Elem α} {ops : Array Oper} {o : Oper} {a : Act} {K : Act → World → Prop} {Q : Exit → Act → World → Prop} {F : Prop} (hgd : o.guard = none) (s x : Operand)
    (ho : o.op = .call { callee := .builtin .append, args := #[s, x], argTypes := #[e.S, e.S] })
    {w : World} {ys : List α} (g : Nat) (hs : a.eval s = .slice (some ⟨g, 0, none⟩) 0 0) (hg : g < w.heap.size) (gx b m c : Nat) (hx : a.eval x = .slice (some ⟨gx, b, none⟩) m c) (hy : ys.length = m) (hr : RowO e w (some ⟨gx, b, none⟩) ys)
    (hlen : m ≤ 1048576)
    (h : ∀ a' c' w', AppN e g w w' a' c' ys → K (a.put o.dst (.slice a' m c')) w') :
    if Region.wanted o (yielded ops a.tmps) = true then Oper.wp Try.prog o a w K Q else F := by
  rw [if_pos (by simp [Region.wanted, hgd])]
  subst hy
  obtain ⟨a', c', w', hr', hA⟩ := run_app0O e o.type w g gx b c ys hr hlen hg
  unfold Oper.wp execOp
  simp only [ho, resolve, invoke, builtin, Sem.run_bind, Sem.run_pure, Result.andThen_ok, List.map_toArray, List.map_cons, List.map_nil, hs, hx, hr']
  exact h a' c' w' hA
/-- As stepNOs, from a slice that may be nil. -/
theorem stepNO {α : Type} {e : Elem α} {ops : Array Oper} {o : Oper} {a : Act} {K : Act → World → Prop} {Q : Exit → Act → World → Prop} {F : Prop} (hgd : o.guard = none) (s x : Operand)
    (ho : o.op = .call { callee := .builtin .append, args := #[s, x], argTypes := #[e.S, e.S] })
    {w : World} {ys : List α} (g : Nat) (hs : a.eval s = .slice (some ⟨g, 0, none⟩) 0 0) (hg : g < w.heap.size) (ad : Option Addr) (m c : Nat) (hx : a.eval x = .slice ad m c) (hy : ys.length = m) (hr : RowO e w ad ys) (had : AdN ad c)
    (hlen : m ≤ 1048576)
    (h : ∀ a' c' w', AppN e g w w' a' c' ys → K (a.put o.dst (.slice a' m c')) w') :
    if Region.wanted o (yielded ops a.tmps) = true then Oper.wp Try.prog o a w K Q else F := by
  rcases had with ⟨rfl, rfl⟩ | ⟨gx, b, rfl⟩
  · have hys : ys = [] := by
      cases ys with
      | nil => rfl
      | cons y l => obtain ⟨g, b, e1, _⟩ := hr 0 (by simp); simp at e1
    subst hys
    obtain rfl : m = 0 := by simpa using hy.symm
    rw [if_pos (by simp [Region.wanted, hgd])]
    obtain ⟨i0, hi, hz0, hz1, hz2⟩ := info_parts e.hinfo
    have hrun : (Builtin.append_ #[e.S, e.S] o.type #[.slice (some ⟨g, 0, none⟩) 0 0, .slice none 0 0]).run Try.prog w = .ok (.slice (some ⟨g, 0, none⟩) 0 0) w := by
      simp [Builtin.append_, run_underlying e.hund, sizeOf, typeInfo, hi, storeCells, go_sem]
    unfold Oper.wp execOp
    simp only [ho, resolve, invoke, builtin, Sem.run_bind, Sem.run_pure, Result.andThen_ok, List.map_toArray, List.map_cons, List.map_nil, hs, hx, hrun]
    refine h (some ⟨g, 0, none⟩) 0 w ⟨Below.refl _ _, fun i hi => by simp at hi, ?_, .inr ⟨rfl, rfl, rfl⟩⟩
    rintro k ⟨o, q⟩
    cases q
    exact ⟨.inl rfl, hg⟩
  · exact stepNOs hgd s x ho g hs hg gx b m c hx hy hr hlen h
theorem appGO {α : Type} {e : Elem α} {ops : Array Oper} {rest : List Oper} {o : Oper} {a : Act} {Q : Exit → Act → World → Prop} (hgd : o.guard = none) (s x : Operand)
    (ho : o.op = .call { callee := .builtin .append, args := #[s, x], argTypes := #[e.S, e.S] })
    {w : World} {B : Nat} {v : Value} {xs ys : List α} (hown : OwnR e w B v xs) (hs : a.eval s = v) (ad : Option Addr) (m c : Nat) (hx : a.eval x = .slice ad m c) (hy : ys.length = m) (hr : RowO e w ad ys) (had : AdN ad c)
    (hlen : xs.length + m < 100000000) (hB : B ≤ w.heap.size)
    (h : ∀ v' w', OwnR e w' B v' (xs ++ ys) → Below B w w' → wpList Try.prog ops Q rest (a.put o.dst v') w') :
    wpList Try.prog ops Q (o :: rest) a w := by
  obtain ⟨i0, hi, hz0, hz1, hz2⟩ := info_parts e.hinfo
  subst hy
  rcases had with ⟨rfl, rfl⟩ | ⟨g, b, rfl⟩
  · have hys : ys = [] := by
      cases ys with
      | nil => rfl
      | cons y l => obtain ⟨g, b, e1, _⟩ := hr 0 (by simp); simp at e1
    subst hys
    refine wpList_plain hgd fun K hK => ?_
    have hrun := run_append_owned_none (P := Try.prog) w B e.S o.type e.E i0 e.n e.hund hi v xs.length (xs.flatMap e.enc) hown
    have hx2 : a.eval x = .slice none 0 0 := hx
    unfold Oper.wp execOp
    simp only [ho, resolve, invoke, builtin, Sem.run_bind, Sem.run_pure, Result.andThen_ok, List.map_toArray, List.map_cons, List.map_nil, hs, hx2, hrun]
    exact hK _ _ (h v w (by rw [List.append_nil]; exact hown) (Below.refl _ _))
  · have hby := e.hb
    refine wpList_append_own _ hgd s x e.S ho B e.E i0 e.zero e.n e.bytes e.hund hi hz0 hz1 hz2 e.hz e.hn v xs.length (xs.flatMap e.enc) hs hown
      ⟨g, b, none⟩ ys.length c (ys.flatMap e.enc) hx (flat_len e.enc e.n e.hlen ys) ?_ ?_ (by unfold maxLen; omega) ?_ hB ?_
    · exact row_newsO hr
    · intro u hu
      obtain ⟨y, _, hy⟩ := List.mem_flatMap.1 hu
      exact e.hone y u hy
    · exact Nat.le_trans (Nat.mul_le_mul_left _ hby) (by omega)
    · intro v' w' h1 h2 _
      refine h v' w' ?_ (own_below hown h2 hB)
      unfold OwnR
      rw [List.flatMap_append, List.length_append]
      exact h1
end Go.Proofs.Ytknpccpfjclngaa
