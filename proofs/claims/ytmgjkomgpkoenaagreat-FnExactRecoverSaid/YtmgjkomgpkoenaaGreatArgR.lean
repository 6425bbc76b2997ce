/- Rows that are arguments: read anywhere in their block. -/
import Derived.Test.YtmgjkomgpkoenaaGreatStrR
import Derived.Lib.SmallJoins
import Derived.ChangeSame
namespace Go.Proofs.YtmgjkomgpkoenaaGreat
open Go.RowKit Plain
set_option linter.unusedVariables false

/-- The slice at a holds xs, each in n cells. -/
def Plain.ArgAt {α : Type} (n : Nat) (en : α → List Value) (W : World) (a : Option Addr) (xs : List α) : Prop := ∀ i (h : i < xs.length), ∃ g o, a = some ⟨g, o, none⟩ ∧ g < W.heap.size ∧ ∀ j, j < n → W.cell? ⟨g, o + i * n + j, none⟩ = (en xs[i])[j]?
theorem Plain.ArgAt.below {α : Type} {n : Nat} {en : α → List Value} {W W' : World} {a : Option Addr} {xs : List α} (h : ArgAt n en W a xs) (hb : Below W.heap.size W W') : ArgAt n en W' a xs := fun i hi => by
  obtain ⟨g, o, e, hl, hc⟩ := h i hi
  exact ⟨g, o, e, Nat.lt_of_lt_of_le hl hb.size, fun j hj => (hb.cell (p := ⟨g, o + i * n + j, none⟩) hl).trans (hc j hj)⟩
/-- An argument that is a slice. -/
structure Plain.ArgRow {α : Type} (n : Nat) (en : α → List Value) (good : α → Prop) (W : World) (a : Option Addr) (k c : Nat) (xs : List α) : Prop where
  len : xs.length = k
  le : k ≤ maxLen
  good : ∀ z ∈ xs, good z
  row : ArgAt n en W a xs

theorem Plain.add2 (b off x j : Nat) : ((⟨b, off, none⟩ : Addr).add x).add j = ⟨b, off + x + j, none⟩ := by unfold Addr.add; split <;> split <;> simp_all
theorem openArg {H : Type} {enc : TypeId × Value → H} {W : World} {spare : Nat → Bool} {held : Bool} {α : Type} (n : Nat) (en : α → List Value) (good : α → Prop) {t e : TypeId} {fuel : Nat} {v : Value} {x : DataW H × List MemPlace}
    (ht : Tryz.prog.underlying t = some (.slice e)) (hc : Tryz.prog.cellsOf e = n) (hn : 0 < n)
    (rd : ∀ m us y, DataW.trod enc Tryz.prog W 0 spare held m e us = some y → ∃ z, us = en z ∧ good z) (h : DataW.trod enc Tryz.prog W 0 spare held fuel t [v] = some x) :
    ∃ a k c xs, v = .slice a k c ∧ ArgRow n en good W a k c xs := by
  rcases DataW.trod_slice ht h with ⟨h0, _⟩ | ⟨a, len, cap, elems, rest, m, _, h1, _, hb, hl, hm, hlen, hel, _, _⟩
  · exact ⟨none, 0, 0, [], by simpa using h0, rfl, Nat.zero_le _, fun z hz => by simp at hz, fun i hi => by simp at hi⟩
  have each : ∀ i : Fin len, ∃ z, (∀ j, j < n → W.cell? ((a.add (i.val * n)).add j) = (en z)[j]?) ∧ (en z).length = n ∧ good z := by
    intro i
    have h2 := hel i.val i.isLt
    rw [hc, List.getElem?_eq_getElem (by rw [hlen]; exact i.isLt), Option.bind_eq_some_iff] at h2
    obtain ⟨us, hus, hy⟩ := h2
    obtain ⟨z, rfl, hg⟩ := rd m us _ hy
    obtain ⟨_, hl2, hcell⟩ := World.cells?_some hus
    exact ⟨z, hcell, hl2, hg⟩
  refine ⟨some a, len, cap, List.ofFn fun i => Classical.choose (each i), by simpa using h1, by simp, Nat.le_trans hl hm, ?_, ?_⟩
  · intro z hz
    rw [List.mem_ofFn] at hz
    obtain ⟨i, rfl⟩ := hz
    exact (Classical.choose_spec (each i)).2.2
  · intro i hi
    have hi2 : i < len := by simpa using hi
    obtain ⟨s1, s2, _⟩ := Classical.choose_spec (each ⟨i, hi2⟩)
    obtain ⟨b, off, spot⟩ := a
    obtain ⟨t1, t2, _⟩ := Classical.choose_spec (each ⟨0, by omega⟩)
    have h0 := t1 0 hn
    rw [List.getElem?_eq_getElem (by rw [t2]; exact hn)] at h0
    have hspot : spot = none := by have h5 := World.cell?_spot h0; simpa [Addr.add] using h5
    subst hspot
    refine ⟨b, off, rfl, ?_, fun j hj => ?_⟩
    · rw [add2] at h0; exact lt_of_cell h0
    · have h4 := s1 j hj
      rw [add2] at h4
      rw [h4, List.getElem_ofFn]

namespace Plain
def fileL (f : ByteArray × ByteArray) : List Value := [.string f.1, .string f.2]
def goodF (f : ByteArray × ByteArray) : Prop := f.1.size ≤ maxLen ∧ f.2.size ≤ maxLen
end Plain

set_option maxRecDepth 100000 in
theorem rdFile {H : Type} {enc : TypeId × Value → H} {W : World} {spare : Nat → Bool} {held : Bool} : ∀ m us y, DataW.trod enc Tryz.prog W 0 spare held m 97 us = some y → ∃ z, us = fileL z ∧ goodF z := by
  intro m us y h
  obtain ⟨y0, y1, k, _, hl, h0, h1⟩ := Go.ChangeShapes.trod_struct2 Tryz.underlying97 h
  have hl2 : us.length = 2 := hl.trans (by kernel_rfl)
  match us, hl2 with
  | [u0, u1], _ =>
    obtain ⟨s0, e0, _, w0⟩ := DataW.trod_string Tryz.underlying9 (show DataW.trod enc Tryz.prog W 0 spare held k 9 [u0] = some y0 from h0)
    obtain ⟨s1, e1, _, w1⟩ := DataW.trod_string Tryz.underlying9 (show DataW.trod enc Tryz.prog W 0 spare held k 9 [u1] = some y1 from h1)
    simp at e0 e1
    subst e0 e1
    exact ⟨(s0, s1), rfl, w0, w1⟩

namespace Plain
/-- An op of a disk. -/
structure Dop where
  kind : Int
  name : ByteArray
  to : ByteArray
  data : ByteArray
/-- An entry of a journal. -/
structure Ent where
  term : Int
  kind : Int
  body : ByteArray
def dopL (o : Dop) : List Value := [.int .i64 o.kind, .string o.name, .string o.to, .string o.data]
def goodO (o : Dop) : Prop := (Lit.int .i64 o.kind).wf = true ∧ o.name.size ≤ maxLen ∧ o.to.size ≤ maxLen ∧ o.data.size ≤ maxLen
def entL (e : Ent) : List Value := [.int .i64 e.term, .int .i64 e.kind, .string e.body]
def goodE (e : Ent) : Prop := (Lit.int .i64 e.term).wf = true ∧ (Lit.int .i64 e.kind).wf = true ∧ e.body.size ≤ maxLen
end Plain

set_option maxRecDepth 100000 in
theorem rdDop {H : Type} {enc : TypeId × Value → H} {W : World} {spare : Nat → Bool} {held : Bool} : ∀ m us y, DataW.trod enc Tryz.prog W 0 spare held m 99 us = some y → ∃ z, us = dopL z ∧ goodO z := by
  intro m us y h
  obtain ⟨y0, y1, y2, y3, k, _, hl, h0, h1, h2, h3⟩ := Go.Joins.trod_struct4 Tryz.underlying99 h
  have hl2 : us.length = 4 := hl.trans (by kernel_rfl)
  match us, hl2 with
  | [u0, u1, u2, u3], _ =>
    obtain ⟨s0, e0, _, w0⟩ := DataW.trod_int Tryz.underlying2 (show DataW.trod enc Tryz.prog W 0 spare held k 2 [u0] = some y0 from h0)
    obtain ⟨s1, e1, _, w1⟩ := DataW.trod_string Tryz.underlying9 (show DataW.trod enc Tryz.prog W 0 spare held k 9 [u1] = some y1 from h1)
    obtain ⟨s2, e2, _, w2⟩ := DataW.trod_string Tryz.underlying9 (show DataW.trod enc Tryz.prog W 0 spare held k 9 [u2] = some y2 from h2)
    obtain ⟨s3, e3, _, w3⟩ := DataW.trod_string Tryz.underlying9 (show DataW.trod enc Tryz.prog W 0 spare held k 9 [u3] = some y3 from h3)
    simp at e0 e1 e2 e3
    subst e0 e1 e2 e3
    exact ⟨⟨s0, s1, s2, s3⟩, rfl, w0, w1, w2, w3⟩

set_option maxRecDepth 100000 in
theorem rdEnt {H : Type} {enc : TypeId × Value → H} {W : World} {spare : Nat → Bool} {held : Bool} : ∀ m us y, DataW.trod enc Tryz.prog W 0 spare held m 81 us = some y → ∃ z, us = entL z ∧ goodE z := by
  intro m us y h
  obtain ⟨xs, k, _, _, hl, hlen, hf⟩ := DataW.trod_struct Tryz.underlying81 h
  have hl2 : us.length = 3 := hl.trans (by kernel_rfl)
  match us, hl2, xs, hlen with
  | [u0, u1, u2], _, [y0, y1, y2], _ =>
    obtain ⟨s0, e0, _, w0⟩ := DataW.trod_int Tryz.underlying2 (show DataW.trod enc Tryz.prog W 0 spare held k 2 [u0] = some y0 from hf 0 _ rfl)
    obtain ⟨s1, e1, _, w1⟩ := DataW.trod_int Tryz.underlying2 (show DataW.trod enc Tryz.prog W 0 spare held k 2 [u1] = some y1 from hf 1 _ rfl)
    obtain ⟨s2, e2, _, w2⟩ := DataW.trod_string Tryz.underlying9 (show DataW.trod enc Tryz.prog W 0 spare held k 9 [u2] = some y2 from hf 2 _ rfl)
    simp at e0 e1 e2
    subst e0 e1 e2
    exact ⟨⟨s0, s1, s2⟩, rfl, w0, w1, w2⟩
end Go.Proofs.YtmgjkomgpkoenaaGreat
