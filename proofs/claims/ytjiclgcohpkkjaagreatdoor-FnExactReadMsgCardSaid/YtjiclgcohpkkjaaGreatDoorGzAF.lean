/- Texts of one kind, put together. -/
import Derived.Test.YtjiclgcohpkkjaaGreatDoorGzAE
import Derived.Lib.SmallJoins
import Derived.ChangeSame
import Derived.Test.YtjiclgcohpkkjaaGreatDoorFour
import Derived.Deep.RegionWith
import Derived.Test.YtjiclgcohpkkjaaGreatDoorGzAC
import Derived.Deep.QuietTactic
import Derived.BigQuiet

/- Rows that are arguments: read anywhere in their block. -/
namespace Go.Proofs.YtjiclgcohpkkjaaGreatDoor
open Go.RowKit Plain
set_option linter.unusedVariables false

/-- The slice at a holds xs, each in n cells. -/
def Plain.ArgAt {α : Type} (n : Nat) (en : α → List Value) (W : World) (a : Option Addr) (xs : List α) : Prop := ∀ i (h : i < xs.length), ∃ g o, a = some ⟨g, o, none⟩ ∧ g < W.heap.size ∧ ∀ j, j < n → W.cell? ⟨g, o + i * n + j, none⟩ = (en xs[i])[j]?
theorem Plain.ArgAt.below {α : Type} {n : Nat} {en : α → List Value} {W W' : World} {a : Option Addr} {xs : List α} (h : ArgAt n en W a xs) (hb : Below W.heap.size W W') : ArgAt n en W' a xs := fun i hi => by
  obtain ⟨g, o, e, hl, hc⟩ := h i hi
  exact ⟨g, o, e, Nat.lt_of_lt_of_le hl hb.size, fun j hj => (hb.cell (p := ⟨g, o + i * n + j, none⟩) hl).trans (hc j hj)⟩
/-- An argument that is a slice. -/
structure Plain.ArgRow {α : Type} (n : Nat) (en : α → List Value) (good : α → Prop) (W : World) (a : Option Addr) (k c : Nat) (xs : List α) : Prop where
  len : xs.length = k
  le : k ≤ maxLen
  good : ∀ z ∈ xs, good z
  row : ArgAt n en W a xs

theorem Plain.add2 (b off x j : Nat) : ((⟨b, off, none⟩ : Addr).add x).add j = ⟨b, off + x + j, none⟩ := by unfold Addr.add; split <;> split <;> simp_all
theorem openArg {H : Type} {enc : TypeId × Value → H} {W : World} {spare : Nat → Bool} {held : Bool} {α : Type} (n : Nat) (en : α → List Value) (good : α → Prop) {t e : TypeId} {fuel : Nat} {v : Value} {x : DataW H × List MemPlace}
    (ht : Tryz.prog.underlying t = some (.slice e)) (hc : Tryz.prog.cellsOf e = n) (hn : 0 < n)
    (rd : ∀ m us y, DataW.trod enc Tryz.prog W 0 spare held m e us = some y → ∃ z, us = en z ∧ good z) (h : DataW.trod enc Tryz.prog W 0 spare held fuel t [v] = some x) :
    ∃ a k c xs, v = .slice a k c ∧ ArgRow n en good W a k c xs := by
  rcases DataW.trod_slice ht h with ⟨h0, _⟩ | ⟨a, len, cap, elems, rest, m, _, h1, _, hb, hl, hm, hlen, hel, _, _⟩
  · exact ⟨none, 0, 0, [], by simpa using h0, rfl, Nat.zero_le _, fun z hz => by simp at hz, fun i hi => by simp at hi⟩
  have each : ∀ i : Fin len, ∃ z, (∀ j, j < n → W.cell? ((a.add (i.val * n)).add j) = (en z)[j]?) ∧ (en z).length = n ∧ good z := by
    intro i
    have h2 := hel i.val i.isLt
    rw [hc, List.getElem?_eq_getElem (by rw [hlen]; exact i.isLt), Option.bind_eq_some_iff] at h2
    obtain ⟨us, hus, hy⟩ := h2
    obtain ⟨z, rfl, hg⟩ := rd m us _ hy
    obtain ⟨_, hl2, hcell⟩ := World.cells?_some hus
    exact ⟨z, hcell, hl2, hg⟩
  refine ⟨some a, len, cap, List.ofFn fun i => Classical.choose (each i), by simpa using h1, by simp, Nat.le_trans hl hm, ?_, ?_⟩
  · intro z hz
    rw [List.mem_ofFn] at hz
    obtain ⟨i, rfl⟩ := hz
    exact (Classical.choose_spec (each i)).2.2
  · intro i hi
    have hi2 : i < len := by simpa using hi
    obtain ⟨s1, s2, _⟩ := Classical.choose_spec (each ⟨i, hi2⟩)
    obtain ⟨b, off, spot⟩ := a
    obtain ⟨t1, t2, _⟩ := Classical.choose_spec (each ⟨0, by omega⟩)
    have h0 := t1 0 hn
    rw [List.getElem?_eq_getElem (by rw [t2]; exact hn)] at h0
    have hspot : spot = none := by have h5 := World.cell?_spot h0; simpa [Addr.add] using h5
    subst hspot
    refine ⟨b, off, rfl, ?_, fun j hj => ?_⟩
    · rw [add2] at h0; exact lt_of_cell h0
    · have h4 := s1 j hj
      rw [add2] at h4
      rw [h4, List.getElem_ofFn]

namespace Plain
def fileL (f : ByteArray × ByteArray) : List Value := [.string f.1, .string f.2]
def goodF (f : ByteArray × ByteArray) : Prop := f.1.size ≤ maxLen ∧ f.2.size ≤ maxLen
end Plain



namespace Plain
/-- An op of a disk. -/
structure Dop where
  kind : Int
  name : ByteArray
  to : ByteArray
  data : ByteArray
/-- An entry of a journal. -/
structure Ent where
  term : Int
  kind : Int
  body : ByteArray
def dopL (o : Dop) : List Value := [.int .i64 o.kind, .string o.name, .string o.to, .string o.data]
def goodO (o : Dop) : Prop := (Lit.int .i64 o.kind).wf = true ∧ o.name.size ≤ maxLen ∧ o.to.size ≤ maxLen ∧ o.data.size ≤ maxLen
def entL (e : Ent) : List Value := [.int .i64 e.term, .int .i64 e.kind, .string e.body]
def goodE (e : Ent) : Prop := (Lit.int .i64 e.term).wf = true ∧ (Lit.int .i64 e.kind).wf = true ∧ e.body.size ≤ maxLen
end Plain



end Go.Proofs.YtjiclgcohpkkjaaGreatDoor

/- The texts by which the exact laws mark memory. -/
namespace Go.Proofs.YtjiclgcohpkkjaaGreatDoor
open Go.RowKit Plain
set_option linter.unusedVariables false

namespace Plain
/-- A number's decimal digits ahead of out. -/
def decB : Nat → Nat → ByteArray → ByteArray
  | 0, _, out => out
  | f + 1, k, out => if k = 0 then out else decB f (k / 10) (strOfNums [((48 + k % 10 : Nat) : Int)] ++ out)
def mtx (k : Nat) : ByteArray := ⟨#[109]⟩ ++ decB k k ⟨#[]⟩
theorem decB_zero (f : Nat) (out : ByteArray) : decB f 0 out = out := by cases f <;> simp [decB]
theorem decB_step (f k : Nat) (out : ByteArray) (h : 0 < k) (hf : k ≤ f) : ∃ f', f = f' + 1 ∧ k / 10 ≤ f' ∧ decB f k out = decB f' (k / 10) (strOfNums [((48 + k % 10 : Nat) : Int)] ++ out) := by
  obtain ⟨f', rfl⟩ : ∃ f', f = f' + 1 := ⟨f - 1, by omega⟩
  exact ⟨f', rfl, by omega, by rw [decB, if_neg (by omega)]⟩
end Plain

set_option maxHeartbeats 1000000 in
theorem markText_calls (k : Nat) (w : World) (h1 : 1 ≤ k) (h2 : k ≤ 1000000000) :
    Calls Tryz.prog 69 #[.int .i64 k] w fun e w' => e = .returned (.string (mtx k)) ∧ Below w.heap.size w w' := by
  have hm : mtx k = ⟨#[109]⟩ ++ decB k k ⟨#[]⟩ := rfl
  have HM := hide hm
  clear hm
  have i1 : (1 : Int) ≤ (k : Int) := by omega
  go_enter Tryz.func69, Tryz.ntmps69
  go_wp2_with fail
  go_loopw [0, 3] (fun n t wr => ∃ (j f : Nat) (out : ByteArray), n = .int .i64 j ∧ t = .string out ∧ j + out.size ≤ k ∧ j ≤ f ∧ Hid (decB f j out = decB k k ⟨#[]⟩) ∧ Hid (Below w.heap.size w wr)) (fun n _ _ => (intOf n).toNat)
  case atStart => exact ⟨k, k, ⟨#[]⟩, rfl, rfl, Nat.le_refl _, Nat.le_refl _, rfl, Below.refl _ _⟩
  case round =>
    obtain ⟨j, f, out, rfl, rfl, hj, hf, HD, HB⟩ := hrel
    by_cases hj0 : 0 < j
    · obtain ⟨f', rfl, hf', hst⟩ := decB_step f j out hj0 hf
      have hnx := hide (hst.symm.trans (unhide HD))
      clear hst HD
      obtain ⟨d, hd⟩ : ∃ d, j % 10 = d := ⟨_, rfl⟩
      obtain ⟨q, hq⟩ : ∃ q, j / 10 = q := ⟨_, rfl⟩
      rw [hd, hq] at hnx
      rw [hq] at hf'
      have t1 : Int.tmod (j : Int) 10 = (d : Int) := by rw [← hd]; rfl
      have t2 : Int.tdiv (j : Int) 10 = (q : Int) := by rw [← hq]; rfl
      have hd10 : d < 10 := by omega
      have hqj : q < j := by omega
      have j0 : (0 : Int) < (j : Int) := by omega
      have hcv : ∀ W : World, (convert 33 9 (.slice (some ⟨W.heap.size, 0, none⟩) 1 1)).run Tryz.prog (W.alloc (.cells #[.int .u8 (48 + (d : Int))] 5)) = .ok (.string (strOfNums [48 + (d : Int)])) (W.alloc (.cells #[.int .u8 (48 + (d : Int))] 5)) := fun W => conv1 W _
      have hs1 : (strOfNums [48 + (d : Int)]).size = 1 := strOfNums_size _
      clear hd hq
      go_wp2_with fail
      go_roundw
      case rel => exact ⟨q, f', _, rfl, rfl, by rw [ByteArray.size_append, hs1]; omega, hf', hnx, hide ((unhide HB).alloc (unhide HB).size _)⟩
      case measure => simp [intOf]; omega
    · obtain rfl : j = 0 := by omega
      have hfin := unhide HD
      rw [decB_zero] at hfin
      have HF := hide hfin
      clear HD hfin
      go_wp2_with fail
      go_ret
      exact ⟨by rw [unhide HM, ← unhide HF]; rfl, unhide HB⟩

theorem markText_at (x : Int) (k : Nat) (w : World) (hx : x = (k : Int)) (h1 : 1 ≤ k) (h2 : k ≤ 1000000000) :
    Calls Tryz.prog 69 #[.int .i64 x] w fun e w' => e = .returned (.string (mtx k)) ∧ Below w.heap.size w w' := by
  subst hx
  exact markText_calls k w h1 h2
end Go.Proofs.YtjiclgcohpkkjaaGreatDoor


/- Rows of texts marked and looked at again, as the exact laws do it. -/
namespace Go.Proofs.YtjiclgcohpkkjaaGreatDoor
open Go.RowKit Plain
set_option linter.unusedVariables false

theorem RowAt.ofS {W : World} {a : Option Addr} {xs : List ByteArray} (h : ∀ i (hi : i < xs.length), ∃ g, a = some ⟨g, 0, none⟩ ∧ g < W.heap.size ∧ W.cell? ⟨g, i, none⟩ = some (.string xs[i]) ∧ W.frozen? ⟨g, i, none⟩ = false) : RowAt strE W a xs := by
  intro i hi
  obtain ⟨g, e, hl, hc, hf⟩ := h i hi
  refine ⟨g, e, hl, fun j hj => ?_⟩
  obtain rfl : j = 0 := by have : strE.n = 1 := rfl; omega
  rw [show i * strE.n + 0 = i from Nat.mul_one i]
  exact ⟨hc, hf⟩
theorem RowAt.setS {W : World} {g : Nat} {L : List ByteArray} (h : RowAt strE W (some ⟨g, 0, none⟩) L) (k : Nat) (hk : k < L.length) (y : ByteArray) : RowAt strE (W.setCell ⟨g, k, none⟩ (.string y)) (some ⟨g, 0, none⟩) (L.set k y) := by
  apply RowAt.ofS
  intro i hi
  rw [List.length_set] at hi
  obtain ⟨g', e, hl, hc, hf⟩ := h.str i hi
  cases e
  refine ⟨g, rfl, by simpa using hl, ?_, by simpa using hf⟩
  by_cases e : k = i
  · subst e
    rw [World.cell?_setCell_same' _ _ _ (by rw [hc]; rfl)]
    simp
  · rw [World.cell?_setCell_other _ ⟨g, k, none⟩ ⟨g, i, none⟩ _ (fun q => e (by have := congrArg Addr.off q; simpa using this)), hc]
    simp [e]

namespace Plain
/-- What the marking leaves. -/
def mkS (b n : Nat) : List ByteArray := (List.range n).map fun i : Nat => mtx (b + i)
theorem mkS_length (b n : Nat) : (mkS b n).length = n := by simp [mkS]
theorem mkS_get (b n k : Nat) (h : k < (mkS b n).length) : (mkS b n)[k] = mtx (b + k) := by simp [mkS]
def mixS (b : Nat) (fs : List ByteArray) (k : Nat) : List ByteArray := mkS b k ++ fs.drop k
theorem mixS_length (b : Nat) (fs : List ByteArray) (k : Nat) (h : k ≤ fs.length) : (mixS b fs k).length = fs.length := by simp [mixS, mkS_length]; omega
theorem mixS_zero (b : Nat) (fs : List ByteArray) : mixS b fs 0 = fs := by simp [mixS, mkS]
theorem mixS_end (b : Nat) (fs : List ByteArray) : mixS b fs fs.length = mkS b fs.length := by simp [mixS]
theorem mixS_next (b : Nat) (fs : List ByteArray) (k : Nat) (h : k < fs.length) : (mixS b fs k).set k (mtx (b + k)) = mixS b fs (k + 1) := by
  have hl := mkS_length b k
  unfold mixS
  rw [List.set_append_right _ _ (by omega), hl, Nat.sub_self, List.drop_eq_getElem_cons h, List.set_cons_zero]
  simp [mkS, List.range_succ]
end Plain



end Go.Proofs.YtjiclgcohpkkjaaGreatDoor

/- Rows of any element: made of zero values, one cell of one element set. -/
namespace Go.Proofs.YtjiclgcohpkkjaaGreatDoor
open Go.RowKit Plain
set_option linter.unusedVariables false

namespace Plain
theorem made_flat (z : Array Value) (hz : 0 < z.size) : ∀ n, (madeCells z (n * z.size)).toList = (List.replicate n ()).flatMap fun _ => z.toList
  | 0 => by simp [madeCells]
  | n + 1 => by
    have ih := made_flat z hz n
    unfold madeCells at ih ⊢
    rw [Array.toList_map, Array.toList_range] at ih ⊢
    rw [Nat.succ_mul, List.range_add, List.map_append, ih, List.replicate_succ', List.flatMap_append, List.map_map]
    congr 1
    simp only [List.flatMap_cons, List.flatMap_nil, List.append_nil]
    apply List.ext_getElem?
    intro i
    by_cases hi : i < z.size
    · have h2 : (n * z.size + i) % z.size = i := by rw [Nat.mul_add_mod_self_right, Nat.mod_eq_of_lt hi]
      simp [hi, h2]
    · simp [hi]
theorem flat_setJ {α β : Type} (f : α → List β) (n : Nat) (h : ∀ x, (f x).length = n) (u : β) (j : Nat) (hj : j < n) : ∀ (xs : List α) (k : Nat) (hk : k < xs.length) (y : α), f y = (f xs[k]).set j u → (xs.set k y).flatMap f = (xs.flatMap f).set (k * n + j) u
  | [], k, hk, y, hy => by simp at hk
  | x :: l, 0, hk, y, hy => by
    rw [List.set_cons_zero, List.flatMap_cons, List.flatMap_cons, Nat.zero_mul, Nat.zero_add, List.set_append_left _ _ (by rw [h]; exact hj), hy]
    rfl
  | x :: l, k + 1, hk, y, hy => by
    rw [List.set_cons_succ, List.flatMap_cons, List.flatMap_cons, flat_setJ f n h u j hj l k (by simpa using hk) y (by simpa using hy), List.set_append_right _ _ (by rw [h, Nat.succ_mul]; omega), h, show (k + 1) * n + j - n = k * n + j from by rw [Nat.succ_mul]; omega]
end Plain
theorem make_row {α : Type} (e : Elem α) (n : Nat) (w : World) (hn : n ≤ 10000000) : (Instr.makeSlice e.S (.int .i64 n) (.int .i64 n)).run Tryz.prog w = .ok (.slice (some ⟨w.heap.size, 0, none⟩) n n) (w.alloc (.cells (madeCells e.zero.cells (n * e.n)) e.E)) := by
  obtain ⟨i0, hi, hz0, hz1, hz2⟩ := info_parts e.hinfo
  have hb := e.hb
  have hb2 : i0.bytes * n ≤ 1000 * 10000000 := Nat.mul_le_mul (by rw [hz2]; exact hb) hn
  have := run_make w e.S e.E i0 e.zero e.hund hi hz0 .i64 .i64 n n (by omega) (by omega) (by have h3 : ((i0.bytes * n : Nat) : Int) ≤ ((1000 * 10000000 : Nat) : Int) := Int.ofNat_le.2 hb2; rw [Int.natCast_mul] at h3; exact Int.le_trans h3 (by decide)) (by omega)
  rw [hz1] at this
  exact this
theorem own_made {α : Type} (e : Elem α) (z : α) (hz : e.zero.cells.toList = e.enc z) (n : Nat) (w : World) (hn : n ≤ 10000000) : OwnR e (w.alloc (.cells (madeCells e.zero.cells (n * e.n)) e.E)) w.heap.size (.slice (some ⟨w.heap.size, 0, none⟩) n n) (List.replicate n z) := by
  unfold OwnR
  have := World.ownsRow_lit (base := w.heap.size) (e := e.E) (size := e.n) w (madeCells e.zero.cells (n * e.n)) n (Nat.le_refl _) (by unfold maxLen; omega) (by simp [size_madeCells])
  have hf := made_flat e.zero.cells (by rw [e.hz]; exact e.hn) n
  rw [e.hz] at hf
  rw [hf, hz] at this
  rw [List.length_replicate]
  have h2 : (List.replicate n z).flatMap e.enc = (List.replicate n ()).flatMap fun _ => e.enc z := by
    clear this hf
    induction n with
    | zero => rfl
    | succ n ih => rw [List.replicate_succ, List.replicate_succ, List.flatMap_cons, List.flatMap_cons, ih (by omega)]
  rw [h2]
  exact this
theorem OwnR.setJ {α : Type} {e : Elem α} {W : World} {B g n cap : Nat} {xs : List α} (h : OwnR e W B (.slice (some ⟨g, 0, none⟩) n cap) xs) (hn : xs.length = n) (k : Nat) (hk : k < xs.length) (j : Nat) (hj : j < e.n) (u : Value) (y : α) (hy : e.enc y = (e.enc xs[k]).set j u) :
    OwnR e (W.setCell ⟨g, k * e.n + j, none⟩ u) B (.slice (some ⟨g, 0, none⟩) n cap) (xs.set k y) := by
  unfold OwnR at h ⊢
  rw [List.length_set, flat_setJ e.enc e.n e.hlen u j hj xs k hk y hy]
  subst hn
  exact (World.ownsRow.stored h (k * e.n + j) u).1
theorem RowAt.setJ {α : Type} {e : Elem α} {W : World} {g : Nat} {L : List α} (h : RowAt e W (some ⟨g, 0, none⟩) L) (k : Nat) (hk : k < L.length) (j : Nat) (hj : j < e.n) (u : Value) (y : α) (hy : e.enc y = (e.enc L[k]).set j u) :
    RowAt e (W.setCell ⟨g, k * e.n + j, none⟩ u) (some ⟨g, 0, none⟩) (L.set k y) := by
  intro i hi
  rw [List.length_set] at hi
  obtain ⟨g', e1, hl, hc⟩ := h i hi
  cases e1
  refine ⟨g, rfl, by simpa using hl, fun m hm => ⟨?_, by rw [World.frozen?_setCell]; exact (hc m hm).2⟩⟩
  have hdist : i * e.n + m = k * e.n + j ↔ i = k ∧ m = j := by
    constructor
    · intro q
      have h1 : (i * e.n + m) / e.n = (k * e.n + j) / e.n := by rw [q]
      have h2 : (i * e.n + m) % e.n = (k * e.n + j) % e.n := by rw [q]
      have hp := e.hn
      rw [Nat.mul_comm i, Nat.mul_comm k, Nat.mul_add_div hp, Nat.mul_add_div hp, Nat.div_eq_of_lt hm, Nat.div_eq_of_lt hj] at h1
      rw [Nat.mul_add_mod_self_right, Nat.mul_add_mod_self_right, Nat.mod_eq_of_lt hm, Nat.mod_eq_of_lt hj] at h2
      exact ⟨by omega, h2⟩
    · rintro ⟨rfl, rfl⟩; rfl
  by_cases hik : i = k
  · subst hik
    rw [List.getElem_set_self, hy]
    by_cases hmj : m = j
    · subst hmj
      rw [World.cell?_setCell_same' _ _ _ (by rw [(hc m hm).1, List.getElem?_eq_getElem (by rw [e.hlen]; exact hm)]; rfl), List.getElem?_set_self (by rw [e.hlen]; exact hm)]
    · rw [World.cell?_setCell_other _ ⟨g, i * e.n + j, none⟩ ⟨g, i * e.n + m, none⟩ _ (fun q => hmj (hdist.1 (by have := congrArg Addr.off q; simpa using this.symm)).2), (hc m hm).1, List.getElem?_set_ne (fun q => hmj q.symm)]
  · rw [World.cell?_setCell_other _ ⟨g, k * e.n + j, none⟩ ⟨g, i * e.n + m, none⟩ _ (fun q => hik (hdist.1 (by have := congrArg Addr.off q; simpa using this.symm)).1), (hc m hm).1, List.getElem_set_ne (fun q => hik q.symm)]
end Go.Proofs.YtjiclgcohpkkjaaGreatDoor


/- Manifests: when one is right, and its text: both programs by their contracts. -/
namespace Go.Proofs.YtjiclgcohpkkjaaGreatDoor
open Go.RowKit Plain
set_option linter.unusedVariables false

namespace Plain
theorem bel1 (w : World) (o : Obj) : Below w.heap.size w (w.alloc o) := (Below.refl _ _).alloc (Nat.le_refl _) _
theorem bcl {w w' : World} {B : Nat} (h : Below B w w') {g i : Nat} {v : Value} (hg : g < B) (hc : w.cell? ⟨g, i, none⟩ = some v) : w'.cell? ⟨g, i, none⟩ = some v := (h.cell (p := ⟨g, i, none⟩) hg).trans hc
theorem belOn {w W W' : World} (h0 : Below w.heap.size w W) (h1 : Below W.heap.size W W') : Below w.heap.size w W' := h0.trans (h1.mono h0.size)
end Plain









end Go.Proofs.YtjiclgcohpkkjaaGreatDoor

/- What is left of a purse. -/
namespace Go.Proofs.YtjiclgcohpkkjaaGreatDoor.Plain
open Go.RowKit
set_option linter.unusedVariables false
/-- What is left of a purse behind n. -/
def purse (left : Int) (n : Nat) : Int := if left < n then -1 else left - n
theorem purse_no {left : Int} {n : Nat} (h : left < n) : purse left n = -1 := if_pos h
theorem purse_yes {left : Int} {n : Nat} (h : ¬ left < n) : purse left n = left - n := if_neg h
theorem purse_step {r : Int} {a b : Nat} (h : ¬ r < (a : Int)) : purse r (a + b) = purse (r - a) b := by
  unfold purse
  by_cases h2 : r - a < (b : Int)
  · rw [if_pos h2, if_pos (by omega)]
  · rw [if_neg h2, if_neg (by omega)]; omega
theorem belQ {B : Nat} {w w' : World} (h : Below B w w') (k : Nat) : Below B w (w'.drewN k) := ⟨h.os, h.tape, h.output, h.size, h.block⟩
end Go.Proofs.YtjiclgcohpkkjaaGreatDoor.Plain


/- Rows of entries, as the exact laws copy, measure and compare them. -/
namespace Go.Proofs.YtjiclgcohpkkjaaGreatDoor
open Go.RowKit Plain
set_option linter.unusedVariables false

/-- Entries as elements. -/
def entE : Elem Ent where
  E := 51
  S := 22
  n := 3
  bytes := 32
  zero := .agg #[.int .i64 0, .int .i64 0, .string ⟨#[]⟩]
  enc := fun e => [.int .i64 e.term, .int .i64 e.kind, .string e.body]
  hund := Tryz.underlying22
  hinfo := by kernel_rfl
  hz := rfl
  hn := by decide
  hb := by decide
  hlen := fun _ => rfl
  hone := fun x u hu => by simp at hu; rcases hu with rfl | rfl | rfl <;> rfl

namespace Plain
def totE (fs : List Ent) : Nat := (fs.map fun f => f.body.size).sum
theorem totE_drop (fs : List Ent) (k : Nat) (h : k < fs.length) : totE (fs.drop k) = (fs[k].body.size) + totE (fs.drop (k + 1)) := by rw [totE, List.drop_eq_getElem_cons h, List.map_cons, List.sum_cons]; rfl
theorem totE_end (fs : List Ent) (k : Nat) (h : fs.length ≤ k) : totE (fs.drop k) = 0 := by rw [List.drop_of_length_le h]; rfl
theorem totE_mem (fs : List Ent) (f : Ent) (h : f ∈ fs) : f.body.size ≤ totE fs := by
  induction fs with
  | nil => simp at h
  | cons g t ih =>
    have e : totE (g :: t) = (g.body.size) + totE t := by rw [totE, List.map_cons, List.sum_cons]; rfl
    rw [e]
    rcases List.mem_cons.1 h with rfl | h
    · omega
    · have := ih h; omega
theorem ArgAt.e {W : World} {a : Option Addr} {xs : List Ent} (h : ArgAt 3 entL W a xs) (i : Nat) (hi : i < xs.length) : ∃ g o, a = some ⟨g, o, none⟩ ∧ g < W.heap.size ∧ W.cell? ⟨g, o + i * 3, none⟩ = some (.int .i64 xs[i].term) ∧ W.cell? ⟨g, o + i * 3 + 1, none⟩ = some (.int .i64 xs[i].kind) ∧ W.cell? ⟨g, o + i * 3 + 2, none⟩ = some (.string xs[i].body) := by
  obtain ⟨g, o, e, hl, hc⟩ := h i hi
  exact ⟨g, o, e, hl, hc 0 (by decide), hc 1 (by decide), hc 2 (by decide)⟩
end Plain
theorem RowAt.ex {W : World} {a : Option Addr} {xs : List Ent} (h : RowAt entE W a xs) (i : Nat) (hi : i < xs.length) : ∃ g, a = some ⟨g, 0, none⟩ ∧ g < W.heap.size ∧ W.cell? ⟨g, i * 3, none⟩ = some (.int .i64 xs[i].term) ∧ W.cell? ⟨g, i * 3 + 1, none⟩ = some (.int .i64 xs[i].kind) ∧ W.cell? ⟨g, i * 3 + 2, none⟩ = some (.string xs[i].body) := by
  obtain ⟨g, e, hl, hc⟩ := h i hi
  exact ⟨g, e, hl, (hc 0 (by decide)).1, (hc 1 (by decide)).1, (hc 2 (by decide)).1⟩





theorem eqEntry_calls (tm : Int) (kd : Int) (bd : ByteArray) (w : World) : Calls Tryz.prog 67 #[.agg #[.int .i64 tm, .int .i64 kd, .string bd], .agg #[.int .i64 tm, .int .i64 kd, .string bd]] w fun e w' => e = .returned (.bool true) ∧ Below w.heap.size w w' := by
  have HB := hide (belOn (bel1 w (.cells #[.int .i64 tm, .int .i64 kd, .string bd] 51)) (bel1 _ (.cells #[.int .i64 tm, .int .i64 kd, .string bd] 51)))
  go_enter Tryz.func67, Tryz.ntmps67
  go_wp2_with fail
  go_ret
  exact ⟨rfl, unhide HB⟩





set_option maxRecDepth 10000 in
set_option maxHeartbeats 1000000 in
theorem eqEntryS_calls (a1 a2 : Option Addr) (c1 c2 n : Nat) (ls : List Ent) (w : World) (hn : ls.length = n) (hn2 : n ≤ 100000000) (h1 : RowAt entE w a1 ls) (h2 : RowAt entE w a2 ls) :
    Calls Tryz.prog 28 #[.slice a1 n c1, .slice a2 n c2] w fun e w' => e = .returned (.bool true) ∧ Below w.heap.size w w' := by
  have H1 := hide h1
  have H2 := hide h2
  have HN := hide hn
  clear h1 h2 hn
  go_enter Tryz.func28, Tryz.ntmps28
  go_wp2_with fail
  go_loopw [5] (fun i wr => ∃ (k : Nat), i = .int .i64 k ∧ k ≤ n ∧ Hid (Below w.heap.size w wr)) (fun i _ => n - (intOf i).toNat)
  case atStart => exact ⟨0, rfl, by omega, Below.refl _ _⟩
  case round =>
    obtain ⟨k, rfl, hk, HB⟩ := hrel
    by_cases hlt : k < n
    · have hkl : k < ls.length := by rw [unhide HN]; exact hlt
      obtain ⟨g1, e1, l1, p0, p1, p2⟩ := ((unhide H1).below (unhide HB)).ex k hkl
      obtain ⟨g2, e2, l2, q0, q1, q2⟩ := ((unhide H2).below (unhide HB)).ex k hkl
      generalize ls[k] = x at p0 p1 p2 p2 q0 q1 q2
      obtain ⟨tm, kd, bd⟩ := x
      simp only at p0 p1 p2 p2 q0 q1 q2
      clear H1 H2 hkl
      subst e1 e2
      have i0 : (0 : Int) ≤ (k : Int) := by omega
      have i1 : (k : Int) < (n : Int) := by omega
      go_wp2_with fail
      go_region_with (go_at_call 67; refine (eqEntry_calls tm kd bd _).mono ?_; rintro e w1 ⟨rfl, hb1⟩)
      all_goals (try go_wp2_with fail)
      all_goals exact ⟨⟨k + 1, by go_num, by omega, hide (belOn (unhide HB) (bOfDrew hb1))⟩, by simp [intOf]; omega⟩
    · obtain rfl : k = n := by omega
      go_wp2_with fail
      go_ret
      exact ⟨rfl, unhide HB⟩
end Go.Proofs.YtjiclgcohpkkjaaGreatDoor


/- Rows of numbers, as the exact laws copy, measure and compare them. -/
namespace Go.Proofs.YtjiclgcohpkkjaaGreatDoor
open Go.RowKit Plain
set_option linter.unusedVariables false

namespace Plain
def intL (z : Int) : List Value := [.int .i64 z]
def goodI (z : Int) : Prop := (Lit.int .i64 z).wf = true
end Plain
theorem rdInt {H : Type} {enc : TypeId × Value → H} {W : World} {spare : Nat → Bool} {held : Bool} : ∀ m us y, DataW.trod enc Tryz.prog W 0 spare held m 2 us = some y → ∃ z, us = intL z ∧ goodI z := by
  intro m us y h
  obtain ⟨s0, e0, _, w0⟩ := DataW.trod_int Tryz.underlying2 h
  exact ⟨s0, by simpa [intL] using e0, w0⟩
/-- Numbers as elements. -/
def i64E : Elem Int where
  E := 2
  S := 23
  n := 1
  bytes := 8
  zero := .int .i64 0
  enc := intL
  hund := Tryz.underlying23
  hinfo := by kernel_rfl
  hz := rfl
  hn := by decide
  hb := by decide
  hlen := fun _ => rfl
  hone := fun x u hu => by simp [intL] at hu; subst hu; rfl
theorem Plain.ArgAt.ix {W : World} {a : Option Addr} {xs : List Int} (h : ArgAt 1 intL W a xs) (i : Nat) (hi : i < xs.length) : ∃ g o, a = some ⟨g, o, none⟩ ∧ g < W.heap.size ∧ W.cell? ⟨g, o + i, none⟩ = some (.int .i64 xs[i]) := by
  obtain ⟨g, o, e, hl, hc⟩ := h i hi
  have := hc 0 (by decide)
  rw [Nat.mul_one, Nat.add_zero] at this
  exact ⟨g, o, e, hl, this⟩
theorem RowAt.ix {W : World} {a : Option Addr} {xs : List Int} (h : RowAt i64E W a xs) (i : Nat) (hi : i < xs.length) : ∃ g, a = some ⟨g, 0, none⟩ ∧ g < W.heap.size ∧ W.cell? ⟨g, i, none⟩ = some (.int .i64 xs[i]) ∧ W.frozen? ⟨g, i, none⟩ = false := by
  obtain ⟨g, e1, hl, h1⟩ := h i hi
  have := h1 0 (by decide)
  rw [show i * i64E.n + 0 = i from Nat.mul_one i] at this
  exact ⟨g, e1, hl, this⟩





set_option maxRecDepth 10000 in
set_option maxHeartbeats 1000000 in
theorem eqInt64S_calls (a1 a2 : Option Addr) (c1 c2 n : Nat) (ls : List Int) (w : World) (hn : ls.length = n) (hn2 : n ≤ 100000000) (h1 : RowAt i64E w a1 ls) (h2 : RowAt i64E w a2 ls) :
    Calls Tryz.prog 68 #[.slice a1 n c1, .slice a2 n c2] w fun e w' => e = .returned (.bool true) ∧ Below w.heap.size w w' := by
  have H1 := hide h1
  have H2 := hide h2
  have HN := hide hn
  clear h1 h2 hn
  go_enter Tryz.func68, Tryz.ntmps68
  go_wp2_with fail
  go_loopw [5] (fun i wr => ∃ (k : Nat), i = .int .i64 k ∧ k ≤ n ∧ Hid (Below w.heap.size w wr)) (fun i _ => n - (intOf i).toNat)
  case atStart => exact ⟨0, rfl, by omega, Below.refl _ _⟩
  case round =>
    obtain ⟨k, rfl, hk, HB⟩ := hrel
    by_cases hlt : k < n
    · have hkl : k < ls.length := by rw [unhide HN]; exact hlt
      obtain ⟨g1, e1, l1, p0, -⟩ := ((unhide H1).below (unhide HB)).ix k hkl
      obtain ⟨g2, e2, l2, q0, -⟩ := ((unhide H2).below (unhide HB)).ix k hkl
      generalize ls[k] = x at p0 q0
      clear H1 H2 hkl
      subst e1 e2
      have i0 : (0 : Int) ≤ (k : Int) := by omega
      have i1 : (k : Int) < (n : Int) := by omega
      go_wp2_with fail
      go_quiet (fail)
      all_goals (try go_wp2_with fail)
      all_goals exact ⟨⟨k + 1, by go_num, by omega, hide (belQ (unhide HB) _)⟩, by simp [intOf]; omega⟩
    · obtain rfl : k = n := by omega
      go_wp2_with fail
      go_ret
      exact ⟨rfl, unhide HB⟩
end Go.Proofs.YtjiclgcohpkkjaaGreatDoor

