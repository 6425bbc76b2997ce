/- Texts of one kind, put together. -/
import Derived.Test.YtldgkpnlplfopaaGreatDoorAppG
import Derived.Maps.AppendAt
import Derived.Test.YtldgkpnlplfopaaGreatDoorStM
import Derived.Test.YtldgkpnlplfopaaGreatDoorTzA
import Derived.Stop.BytesEq
import Derived.Deep.QuietTactic
import Derived.BigQuiet
import Derived.Shelf.SlMaps.Clone
import Derived.Lib.SlMapFilter
import Derived.Maps.RangeWalk
import Derived.Laws.IdiomRangeMap
import Derived.Deep.LoopGhost

/- Appends that tell where the row lies. -/
namespace Go.Proofs.YtldgkpnlplfopaaGreatDoor
open Go.RowKit Plain
set_option linter.unusedVariables false

theorem rowNews {α : Type} {e : Elem α} {w : World} {g : Nat} {ys : List α} (hr : RowAt e w (some ⟨g, 0, none⟩) ys) : ∀ j u, (ys.flatMap e.enc)[j]? = some u → w.cell? ((⟨g, 0, none⟩ : Addr).add j) = some u := by
  intro j u hj
  have hjl : j < ys.length * e.n := by
    have := (List.getElem?_eq_some_iff.1 hj).1
    rw [flat_len e.enc e.n e.hlen] at this
    exact this
  have hn := e.hn
  have hq : j / e.n < ys.length := Nat.div_lt_of_lt_mul (by rw [Nat.mul_comm]; exact hjl)
  have hm : j % e.n < e.n := Nat.mod_lt _ hn
  have hd : j / e.n * e.n + j % e.n = j := by rw [Nat.mul_comm]; exact Nat.div_add_mod j e.n
  obtain ⟨g', e1, hl, hc⟩ := hr (j / e.n) hq
  cases e1
  have h1 := (hc (j % e.n) hm).1
  rw [hd] at h1
  have h2 := flat_get e.enc e.n e.hlen ys (j / e.n) (j % e.n) hq hm
  rw [hd] at h2
  rw [show (⟨g, 0, none⟩ : Addr).add j = ⟨g, j, none⟩ from by unfold Addr.add; split <;> simp_all, h1, ← h2]
  exact hj
/-- A whole row is appended; where what comes lies. -/
theorem appAt {α : Type} {e : Elem α} {ops : Array Oper} {rest : List Oper} {o : Oper} {a : Act} {Q : Exit → Act → World → Prop} (hgd : o.guard = none) (s x : Operand)
    (ho : o.op = .call { callee := .builtin .append, args := #[s, x], argTypes := #[e.S, e.S] })
    {w : World} {B : Nat} {v : Value} {xs ys : List α} (hown : OwnR e w B v xs) (hs : a.eval s = v) (ad : Option Addr) (m c : Nat) (hx : a.eval x = .slice ad m c) (hy : ys.length = m) (hr : RowAt e w ad ys) (had : AdG ad c)
    (hlen : xs.length + m < 100000000) (hB : B ≤ w.heap.size)
    (h : ∀ v' w', OwnR e w' B v' (xs ++ ys) → Below B w w' → w.grownBy w' v.ownBlock → (v'.ownBlock = v.ownBlock ∨ v'.ownBlock = some w.heap.size) → wpList Tryz.prog ops Q rest (a.put o.dst v') w') :
    wpList Tryz.prog ops Q (o :: rest) a w := by
  obtain ⟨i0, hi, hz0, hz1, hz2⟩ := info_parts e.hinfo
  subst hy
  refine wpList_plain hgd fun K hK => ?_
  rcases had with ⟨rfl, rfl⟩ | ⟨g, rfl⟩
  · have hys : ys = [] := by
      cases ys with
      | nil => rfl
      | cons y l => obtain ⟨g, e1, _⟩ := hr 0 (by simp); simp at e1
    subst hys
    have hrun := run_append_owned_none (P := Tryz.prog) w B e.S o.type e.E i0 e.n e.hund hi v xs.length (xs.flatMap e.enc) hown
    have hx2 : a.eval x = .slice none 0 0 := hx
    unfold Oper.wp execOp
    simp only [ho, resolve, invoke, builtin, Sem.run_bind, Sem.run_pure, Result.andThen_ok, List.map_toArray, List.map_cons, List.map_nil, hs, hx2, hrun]
    exact hK _ _ (h v w (by rw [List.append_nil]; exact hown) (Below.refl _ _) ⟨rfl, rfl, rfl, Nat.le_refl _, fun _ _ _ => rfl⟩ (.inl rfl))
  · have hby := e.hb
    obtain ⟨v', w', hrun, h2, h3, _, h5⟩ := run_append_own_at (P := Tryz.prog) w B e.S o.type e.E i0 e.zero e.n e.bytes e.hund hi hz0 hz1 hz2 e.hz e.hn v xs.length (xs.flatMap e.enc) hown ⟨g, 0, none⟩ ys.length c (ys.flatMap e.enc) (flat_len e.enc e.n e.hlen ys) (rowNews hr) (fun u hu => by
      obtain ⟨y, _, hy⟩ := List.mem_flatMap.1 hu
      exact e.hone y u hy) (by unfold maxLen; omega) (Nat.le_trans (Nat.mul_le_mul_left _ hby) (by omega)) hB
    unfold Oper.wp execOp
    simp only [ho, resolve, invoke, builtin, Sem.run_bind, Sem.run_pure, Result.andThen_ok, List.map_toArray, List.map_cons, List.map_nil, hs, hx, hrun]
    refine hK _ _ (h v' w' ?_ (own_below hown h3 hB) h3 h5)
    unfold OwnR
    rw [List.flatMap_append, List.length_append]
    exact h2
/-- One element is appended; where what comes lies. -/
theorem appRAt {α : Type} {e : Elem α} {ops : Array Oper} {rest : List Oper} {o : Oper} {a : Act} {Q : Exit → Act → World → Prop} (hgd : o.guard = none) (s x : Operand)
    (ho : o.op = .call { callee := .builtin .append, args := #[s, x], argTypes := #[e.S, e.S] })
    {w : World} {B : Nat} {v : Value} {xs : List α} (hown : OwnR e w B v xs) (hs : a.eval s = v) (y : α) {cs : Array Value} (hcs : cs.toList = e.enc y)
    (gx : Nat) (hx : a.eval x = .slice (some ⟨gx, 0, none⟩) 1 1) (hgx : gx = w.heap.size) (hlen : xs.length < 100000000) (hB : B ≤ w.heap.size)
    (h : ∀ v' w', OwnR e w' B v' (xs ++ [y]) → Below B w w' → (w.alloc (.cells cs e.E)).grownBy w' v.ownBlock → (v'.ownBlock = v.ownBlock ∨ v'.ownBlock = some (w.heap.size + 1)) → wpList Tryz.prog ops Q rest (a.put o.dst v') w') :
    wpList Tryz.prog ops Q (o :: rest) a (w.alloc (.cells cs e.E)) := by
  subst hgx
  obtain ⟨i0, hi, hz0, hz1, hz2⟩ := info_parts e.hinfo
  have ha := World.ownsRow.alloc hown (.cells cs e.E)
  have hnew : (w.alloc (.cells cs e.E)).heap[w.heap.size]? = some (.cells cs e.E) := (MapKept.heap_alloc w _).1
  have hby := e.hb
  refine wpList_plain hgd fun K hK => ?_
  obtain ⟨v', w', hrun, h2, h3, _, h5⟩ := run_append_own_at (P := Tryz.prog) (w.alloc (.cells cs e.E)) B e.S o.type e.E i0 e.zero e.n e.bytes e.hund hi hz0 hz1 hz2 e.hz e.hn v xs.length (xs.flatMap e.enc) ha ⟨w.heap.size, 0, none⟩ 1 1 (e.enc y) (by rw [e.hlen, Nat.one_mul]) (by rw [← hcs]; exact World.news_of_block hnew) (e.hone y) (by unfold maxLen; omega) (Nat.le_trans (Nat.mul_le_mul_left _ hby) (by omega)) (by simp; omega)
  rw [show (w.alloc (.cells cs e.E)).heap.size = w.heap.size + 1 from by simp] at h5
  unfold Oper.wp execOp
  simp only [ho, resolve, invoke, builtin, Sem.run_bind, Sem.run_pure, Result.andThen_ok, List.map_toArray, List.map_cons, List.map_nil, hs, hx, hrun]
  refine hK _ _ (h v' w' ?_ (((Below.refl B w).alloc hB _).trans (own_below ha h3 (by simp; omega))) h3 h5)
  unfold OwnR
  rw [List.flatMap_append, List.length_append]
  simpa using h2
end Go.Proofs.YtldgkpnlplfopaaGreatDoor


/- Three rows of texts that lie apart. -/
namespace Go.Proofs.YtldgkpnlplfopaaGreatDoor
open Go.RowKit Go.Maps Plain
set_option linter.unusedVariables false

namespace Plain
/-- Two rows that do not lie in one block. -/
def ApT (u v : Value) : Prop := ∀ g, u.ownBlock = some g → v.ownBlock ≠ some g
theorem ApT.symm {u v : Value} (h : ApT u v) : ApT v u := fun g hv hu => h g hu hv
theorem keptT {α : Type} {e : Elem α} {W w' : World} {B : Nat} {u v : Value} {L : List α} (h : OwnR e W B v L) (ha : ApT u v) (hg : W.grownBy w' u.ownBlock) : OwnR e w' B v L := by
  refine World.ownsRow.kept h hg ?_
  cases hu : u.ownBlock with
  | none =>
    cases hx : v.ownBlock with
    | none => exact .inl rfl
    | some g => exact .inr (by simp)
  | some g => exact .inr (ha g hu)
theorem ApT.next {α : Type} {e : Elem α} {W : World} {B : Nat} {u u' v : Value} {L : List α} (h : ApT u v) (hv : OwnR e W B v L) {H : Nat} (hw : W.heap.size ≤ H) (hu : u'.ownBlock = u.ownBlock ∨ u'.ownBlock = some H) : ApT u' v := by
  intro g hg q
  rcases hu with e | e
  · exact h g (by rw [← e]; exact hg) q
  · rw [e] at hg
    have h1 : H = g := by simpa using hg
    have := (World.ownsRow.lt hv g q).2
    omega
theorem ApT.new {α β : Type} {e : Elem α} {e' : Elem β} {W W' : World} {B B' : Nat} {u v : Value} {L : List α} {M : List β} (hu : OwnR e W B u L) (hv : OwnR e' W' B' v M) (hB : W.heap.size ≤ B') : ApT u v := by
  intro g hg q
  have h1 := (World.ownsRow.lt hu g hg).2
  have h2 := (World.ownsRow.lt hv g q).1
  omega
structure Tri (W : World) (B : Nat) (v1 v2 v3 : Value) (l1 l2 l3 : List ByteArray) : Prop where
  o1 : OwnR strE W B v1 l1
  o2 : OwnR strE W B v2 l2
  o3 : OwnR strE W B v3 l3
  a12 : ApT v1 v2
  a13 : ApT v1 v3
  a23 : ApT v2 v3
theorem Tri.rot {W : World} {B : Nat} {v1 v2 v3 : Value} {l1 l2 l3 : List ByteArray} (h : Tri W B v1 v2 v3 l1 l2 l3) : Tri W B v2 v3 v1 l2 l3 l1 := ⟨h.o2, h.o3, h.o1, h.a23, h.a12.symm, h.a13.symm⟩
theorem Tri.keep {W W' : World} {B : Nat} {v1 v2 v3 : Value} {l1 l2 l3 : List ByteArray} (h : Tri W B v1 v2 v3 l1 l2 l3) (hb : Below W.heap.size W W') : Tri W' B v1 v2 v3 l1 l2 l3 := ⟨h.o1.keep hb, h.o2.keep hb, h.o3.keep hb, h.a12, h.a13, h.a23⟩
theorem Tri.app {W w' : World} {B : Nat} {v1 v1' v2 v3 : Value} {l1 l1' l2 l3 : List ByteArray} (h : Tri W B v1 v2 v3 l1 l2 l3) (o : OwnR strE w' B v1' l1') (hg : W.grownBy w' v1.ownBlock) (hw : v1'.ownBlock = v1.ownBlock ∨ v1'.ownBlock = some W.heap.size) : Tri w' B v1' v2 v3 l1' l2 l3 :=
  ⟨o, keptT h.o2 h.a12 hg, keptT h.o3 h.a13 hg, h.a12.next h.o2 (Nat.le_refl _) hw, h.a13.next h.o3 (Nat.le_refl _) hw, h.a23⟩
end Plain
theorem tri_made (w : World) : Tri (((w.alloc (.cells #[] 9)).alloc (.cells #[] 9)).alloc (.cells #[] 9)) w.heap.size (.slice (some ⟨w.heap.size, 0, none⟩) 0 0) (.slice (some ⟨w.heap.size + 1, 0, none⟩) 0 0) (.slice (some ⟨w.heap.size + 1 + 1, 0, none⟩) 0 0) [] [] [] := by
  have s1 : (w.alloc (.cells #[] 9)).heap.size = w.heap.size + 1 := by simp
  have s2 : ((w.alloc (.cells #[] 9)).alloc (.cells #[] 9)).heap.size = w.heap.size + 1 + 1 := by simp
  have o1 := ownR_empty strE w w.heap.size (Nat.le_refl _)
  have o2 := ownR_empty strE (w.alloc (.cells #[] 9)) w.heap.size (by omega)
  have o3 := ownR_empty strE ((w.alloc (.cells #[] 9)).alloc (.cells #[] 9)) w.heap.size (by omega)
  rw [s1] at o2
  rw [s2] at o3
  have b1 : ∀ W : World, Below W.heap.size W (W.alloc (.cells #[] 9)) := fun W => (Below.refl _ _).alloc (Nat.le_refl _) _
  refine ⟨(o1.keep (b1 _)).keep (b1 _), o2.keep (b1 _), o3, ?_, ?_, ?_⟩
  · intro g hg q
    simp [Value.ownBlock] at hg q
    omega
  · intro g hg q
    simp [Value.ownBlock] at hg q
    omega
  · intro g hg q
    simp [Value.ownBlock] at hg q
    omega

namespace Plain
/-- What one set has under a branch and the other has not. -/
def lsB (A B : List ByteArray) (q : Nat × Nat) : List ByteArray := (A.filter (preB (prT q))).filter fun x => !anyB (B.filter (preB (prT q))) x
theorem lsB_len (A B : List ByteArray) (q : Nat × Nat) (h : A.length ≤ 200) : (lsB A B q).length ≤ 200 := by
  unfold lsB
  have h1 := List.length_filter_le (fun x => !anyB (B.filter (preB (prT q))) x) (A.filter (preB (prT q)))
  have h2 := List.length_filter_le (preB (prT q)) A
  omega
theorem flat_le (A B : List ByteArray) (h : A.length ≤ 200) : ∀ (u : List (Nat × Nat)), (u.flatMap (lsB A B)).length ≤ 200 * u.length
  | [] => by simp
  | q :: u => by
    rw [List.flatMap_cons, List.length_append, List.length_cons]
    have := flat_le A B h u
    have := lsB_len A B q h
    omega
def stOk (A B : List ByteArray) : Bool := setB A && setB B
def asL (A B : List ByteArray) : List ByteArray := if stOk A B then (askB (dfB A B)).map prT else []
def mrL (A B : List ByteArray) : List ByteArray := if stOk A B then (unlB (dfB A B)).flatMap (lsB A B) else []
def leL (A B : List ByteArray) : List ByteArray := if stOk A B then (unlB (dfB A B)).flatMap (lsB B A) else []
theorem nd_same {A : List ByteArray} {q : Nat × Nat} : nodeU (2 - q.1) (A.filter (preB (prT q))) (prT q) = ndB A q := nodeU_filt _ _ _ _ fun s h => h
theorem blw_sx {q : Nat × Nat} (h : gdB q) (h1 : q.1 < 2) : blwL (prT q) 16 = (sxB q).map prT := by
  unfold blwL sxB
  rw [List.map_map]
  apply List.map_congr_left
  intro c hc
  exact (prT_next h h1 c (List.mem_range.1 hc)).symm
end Plain
end Go.Proofs.YtldgkpnlplfopaaGreatDoor


/- Two trees are asked, by the program. -/
namespace Go.Proofs.YtldgkpnlplfopaaGreatDoor
open Go.RowKit Go.Maps Plain
set_option linter.unusedVariables false

theorem encK_cell {x : List UInt8} (h : x.length = 32) : encK x = x.map Extern.Stop.cell := by
  unfold encK
  rw [padK_id h]
  rfl
theorem eqK {x y : List UInt8} (hx : x.length = 32) (hy : y.length = 32) (w : World) : (Op.equalIn 10000 63 (.agg (encK x).toArray) (.agg (encK y).toArray)).run Tryz.prog w = .ok (x == y) w := by
  rw [encK_cell hx, encK_cell hy]
  exact run_equalIn_bytes w 9998 63 5 32 Tryz.underlying63 Tryz.underlying5 (fun w => by kernel_rfl) x y hx hy
theorem belQT {B : Nat} {w w' : World} (h : Below B w w') (k : Nat) : Below B w (w'.drewN k) := ⟨h.os, h.tape, h.output, h.size, h.block⟩
theorem sxL_B (q : Nat × Nat) : sxL q.1 q.2 16 = sxB q := rfl

set_option maxRecDepth 100000 in
set_option maxHeartbeats 8000000 in
theorem askedOf_calls (ba na bb nb : Nat) (kA kB : Nat × Nat → List UInt8) (fa fb : Nat → Nat → Option (List UInt8)) (ha : ∀ q, gdB q → fa q.1 q.2 = some (kA q)) (hb : ∀ q, gdB q → fb q.1 q.2 = some (kB q)) (h32a : ∀ q, (kA q).length = 32) (h32b : ∀ q, (kB q).length = 32) (w : World) (hA : TrAt w ba na fa) (hB : TrAt w bb nb fb) :
    Calls Tryz.prog 22 #[.map (some ba), .map (some bb)] w fun e w' => ∃ v1 v2, e = .returned (.tuple #[v1, v2]) ∧ OwnR brE w' w.heap.size v1 (askB fun q => !(kA q == kB q)) ∧ OwnR brE w' w.heap.size v2 (unlB fun q => !(kA q == kB q)) ∧ Below w.heap.size w w' := by
  have hal := hA.lt
  have hbl := hB.lt
  obtain ⟨d, hd⟩ : ∃ d : Nat × Nat → Bool, (fun q => !(kA q == kB q)) = d := ⟨_, rfl⟩
  have HD := hide (fun q => (show d q = !(kA q == kB q) from by rw [← hd]))
  rw [hd]
  clear hd
  have HLA := hide (fun (W : World) (hW : Below w.heap.size w W) (q : Nat × Nat) (hq : gdB q) => (hA.below hW hal).look hq.1 (gdB_lt hq) (ha q hq))
  have HLB := hide (fun (W : World) (hW : Below w.heap.size w W) (q : Nat × Nat) (hq : gdB q) => (hB.below hW hbl).look hq.1 (gdB_lt hq) (hb q hq))
  have HEQ := hide (fun (W : World) (q : Nat × Nat) => eqK (h32a q) (h32b q) W)
  unfold brV at HLA HLB
  obtain ⟨W0, hW0⟩ : ∃ W0, w.alloc (.cells #[.int .i64 0, .int .u8 0] 56) = W0 := ⟨_, rfl⟩
  have hb0 : Below w.heap.size w W0 := by rw [← hW0]; exact (Below.refl _ _).alloc (Nat.le_refl _) _
  have hO0 : OwnR brE W0 w.heap.size (.slice (some ⟨w.heap.size, 0, none⟩) 1 1) (stB d 0).1 := by
    rw [← hW0]
    refine ⟨by simp [stB, brE], .inr ⟨w.heap.size, 1, #[.int .i64 0, .int .u8 0], rfl, Nat.le_refl _, heap_alloc_new _ _, by simp [stB], by unfold maxLen; omega, by simp [brE], ?_⟩⟩
    simp [stB, brE]
  have HO0 := hide hO0
  have HB0 := hide hb0
  have HW := hide hW0
  clear hA hB ha hb h32a h32b hW0 hb0 hO0
  go_enter Tryz.func22, Tryz.ntmps22
  go_wp2_with fail
  rw [unhide HW]
  go_loopw [4, 5, 6, 7] (fun s4 s5 s6 _ wr => ∃ (i m mu : Nat) (b1 b2 : Option Addr) (d1 d2 : Nat), s6 = .int .i64 i ∧ s4 = .slice b1 m d1 ∧ s5 = .slice b2 mu d2 ∧ i ≤ m ∧ m ≤ 273 ∧ Hid ((stB d i).1.length = m) ∧ Hid (OwnR brE wr w.heap.size (.slice b1 m d1) (stB d i).1) ∧ Hid (OwnR brE wr w.heap.size (.slice b2 mu d2) (stB d i).2) ∧ Hid (ApT (.slice b1 m d1) (.slice b2 mu d2)) ∧ Hid (Below w.heap.size w wr)) (fun _ _ s6 _ _ => 273 - (intOf s6).toNat)
  case atStart => exact ⟨0, 1, 0, _, none, _, 0, rfl, rfl, rfl, by omega, by omega, hide rfl, HO0, hide (ownR_nil _ _ _), hide (fun g _ => by simp [Value.ownBlock]), HB0⟩
  case round =>
    clear HO0 HB0 HW
    obtain ⟨i, m, mu, b1, b2, d1, d2, rfl, rfl, rfl, him, hm, HM, HO, HU, HAP, HBw⟩ := hrel
    by_cases hlt : i < m
    · have hil : i < (stB d i).1.length := by rw [unhide HM]; exact hlt
      have hinv := stB_inv d i (by omega)
      obtain ⟨q, hq⟩ : ∃ q, (stB d i).1[i] = q := ⟨_, rfl⟩
      have hqi : (stB d i).1[i]? = some q := by rw [List.getElem?_eq_getElem hil, hq]
      have hgd : gdB q := hinv.good q (by rw [← hq]; exact List.getElem_mem _)
      obtain ⟨g, e1, hgl, q0, q1⟩ := (unhide HO).at.br i hil
      rw [hq] at q0 q1
      subst e1
      have HSM := hide (fun hd => stB_same d i q hqi hd)
      have HLF := hide (fun hd h2 => stB_leaf d i q hqi hd h2)
      have HMO := hide (fun hd h2 => stB_more d i q hqi hd h2)
      have HIN := hide (fun (hx : i + 1 ≤ (stB d (i + 1)).1.length) => (stB_inv d (i + 1) hx).len hx)
      have hfw := hinv.few
      have HDQ := hide (unhide HD q)
      have hmu : (stB d i).2.length = mu := by
        obtain ⟨x2, y2, f2⟩ := (unhide HU).form
        injection f2 with f2a f2b f2c
        exact f2b.symm
      have hmub : mu ≤ 273 := by omega
      have HMU := hide hmu
      obtain ⟨n1, hn1⟩ : ∃ n1, q.1 = n1 := ⟨_, rfl⟩
      obtain ⟨z, hz⟩ : ∃ z, q.2 = z := ⟨_, rfl⟩
      have hn2 : n1 ≤ 2 := by rw [← hn1]; exact hgd.1
      have HLA1 := hide (fun (W : World) (hW : Below w.heap.size w W) => unhide HLA W hW q hgd)
      have HLB1 := hide (fun (W : World) (hW : Below w.heap.size w W) => unhide HLB W hW q hgd)
      have HEQ1 := hide (fun (W : World) => unhide HEQ W q)
      have HLE := hide (fun W => isLeaf_calls n1 z hn2 W)
      have HSX := hide (fun (h2 : n1 < 2) (W : World) => (show Calls Tryz.prog 40 #[brV n1 z] W fun e w' => ∃ u, e = .returned u ∧ OwnR brE w' W.heap.size u (sxB q) ∧ Below W.heap.size W w' from by
        have := sixteen_calls n1 z h2 (by rw [← hz]; exact gdB_lt16 hgd (by omega)) W
        rw [← hn1, ← hz, sxL_B, hn1, hz] at this
        exact this))
      rw [hn1] at q0 HLA1 HLB1
      rw [hz] at q1 HLA1 HLB1
      have HN1 := hide hn1
      have HQP := hide (show q = (n1, z) from by rw [← hn1, ← hz])
      obtain ⟨r, hr⟩ : ∃ r, (kA q == kB q) = r := ⟨_, rfl⟩
      rw [hr] at HDQ HEQ1
      generalize kA q = xa at HLA1 HEQ1
      generalize kB q = xb at HLB1 HEQ1
      unfold brV at HLE HSX
      have hinf := infB2 (.int .i64 (n1 : Int)) (.int .u8 (z : Int))
      have hall := allB2 (n1 : Int) (z : Int) .i64 .u8
      have hold : (#[.int .i64 0, .int .u8 0] : Array Value).size = (#[.int .i64 (n1 : Int), .int .u8 (z : Int)] : Array Value).size := rfl
      obtain ⟨W4, hW4⟩ : ∃ W4, wr.alloc (.cells #[.int .i64 0, .int .u8 0] 56) = W4 := ⟨_, rfl⟩
      have hnew4 : W4.heap[wr.heap.size]? = some (.cells #[.int .i64 0, .int .u8 0] 56 (0, 0)) := by rw [← hW4]; exact heap_alloc_new _ _
      have hs4 : wr.heap.size < W4.heap.size := by rw [← hW4]; simp
      have HB4 := hide (show Below wr.heap.size wr W4 from by rw [← hW4]; exact (Below.refl _ _).alloc (Nat.le_refl _) _)
      have i0 : (0 : Int) ≤ (i : Int) := by omega
      have i1 : (i : Int) < (m : Int) := by omega
      clear hq hqi hil hgd hinv hn1 hz hr hmu HLA HLB HEQ HD
      go_wp2_with (first
        | (refine wpList_store_any rfl 56 (.tmp 7) (.tmp 19) rfl wr.heap.size #[.int .i64 (n1 : Int), .int .u8 (z : Int)] rfl rfl 56 #[.int .i64 0, .int .u8 0] (by first | exact hnew4 | (rw [hW4]; exact hnew4)) hinf hold hall ?_; intro w5 hrow5 hgr5 hsz5; (try rw [hW4] at hgr5 hsz5)))
      have HX5 := hide ((unhide HB4).grown hgr5 (Nat.le_of_lt hs4) (fun k e => by cases e; exact Nat.le_refl _))
      have hl5 : wr.heap.size < w5.heap.size := by omega
      have D0 : ∀ W : World, Below w5.heap.size w5 W → W.cell? ⟨wr.heap.size, 0, none⟩ = some (.int .i64 (n1 : Int)) := fun W hW => by rw [cell_of_row _ _ 0 _ _ _ ((hW.block _ hl5).trans hrow5)]; rfl
      have D1 : ∀ W : World, Below w5.heap.size w5 W → W.cell? ⟨wr.heap.size, 1, none⟩ = some (.int .u8 (z : Int)) := fun W hW => by rw [cell_of_row _ _ 1 _ _ _ ((hW.block _ hl5).trans hrow5)]; rfl
      have hLA := fun k => unhide HLA1 (w5.drewN k) (belOnT (unhide HBw) (belQT (unhide HX5) k))
      have hLB := fun k => unhide HLB1 (w5.drewN k) (belOnT (unhide HBw) (belQT (unhide HX5) k))
      have hEQ := fun k => unhide HEQ1 (w5.drewN k)
      have p00 := D0 w5 (Below.refl _ _)
      have p01 := D1 w5 (Below.refl _ _)
      have HO0 := hide (fun k => (show OwnR brE (w5.drewN k) w.heap.size (.slice (some ⟨g, 0, none⟩) m d1) (stB d i).1 from (unhide HO).keep (belQT (unhide HX5) k)))
      have HU0 := hide (fun k => (show OwnR brE (w5.drewN k) w.heap.size (.slice b2 mu d2) (stB d i).2 from (unhide HU).keep (belQT (unhide HX5) k)))
      have HF0 := hide (fun k => And.intro (belOnT (unhide HBw) (belQT (unhide HX5) k)) (And.intro (D0 _ (belQT (Below.refl _ _) k)) (And.intro (D1 _ (belQT (Below.refl _ _) k)) (show wr.heap.size < (w5.drewN k).heap.size from hl5))))
      clear hgr5 hsz5 q0 q1 HO HU HB4 hnew4 HX5 HLA1 HLB1 HEQ1 D0 D1 hrow5
      go_quiet (fail)
      have HO5 := hide (unhide HO0 nq)
      have HU5 := hide (unhide HU0 nq)
      obtain ⟨hBd, p0, p1, hl6⟩ := unhide HF0 nq
      have HBd := hide hBd
      clear hLA hLB hEQ hBd HO0 HU0 HF0 p00 p01
      generalize w5.drewN nq = W6 at HO5 HU5 p0 p1 hl6 HBd ⊢
      cases r with
      | true =>
        have hst := unhide HSM (by rw [unhide HDQ]; rfl)
        have HST := hide hst
        have HML := hide (show (stB d (i + 1)).1.length = m from by rw [hst]; exact unhide HM)
        clear hst p0 p1
        go_wp2_with fail
        go_roundw
        case rel => exact ⟨i + 1, m, mu, _, _, _, _, by go_num, rfl, rfl, by omega, by omega, HML, hide (by rw [unhide HST]; exact unhide HO5), hide (by rw [unhide HST]; exact unhide HU5), HAP, HBd⟩
        case measure => simp [intOf]; omega
      | false =>
        have hdt : d q = true := by rw [unhide HDQ]; rfl
        by_cases h2 : n1 = 2
        · have hst := unhide HLF hdt (by rw [unhide HN1]; exact h2)
          have HST := hide hst
          have HML := hide (show (stB d (i + 1)).1.length = m from by rw [hst]; exact unhide HM)
          rw [show decide ((n1 : Int) = 2) = true from by simp; omega] at HLE
          have H2 := hide h2
          clear hst HSM HLF HMO HIN HSX h2
          go_wp2_with fail
          refine (unhide HLE _).mono ?_
          rintro e w6 ⟨rfl, hb6⟩
          have r0 := (hb6.cell (p := ⟨wr.heap.size, 0, none⟩) hl6).trans p0
          have r1 := (hb6.cell (p := ⟨wr.heap.size, 1, none⟩) hl6).trans p1
          have HO6 := hide ((unhide HO5).keep hb6)
          have HU6 := hide ((unhide HU5).keep hb6)
          have HB6 := hide (belOnT (unhide HBd) hb6)
          have hz6 := (unhide HB6).size
          clear p0 p1 hb6 HO5 HU5 HBd HLE
          go_wp2_with (at_builtin; refine appRAt (e := brE) rfl _ _ rfl (unhide HU6) rfl (n1, z) rfl _ rfl rfl (by rw [unhide HMU]; omega) hz6 ?_; intro v7 w7 hO7 hb7 hg7 hw7)
          obtain ⟨a7, c7, hv7⟩ := hO7.form
          have ho7 : OwnR brE w7 w.heap.size (.slice (some ⟨g, 0, none⟩) m d1) (stB d i).1 := keptT ((unhide HO6).keep ((Below.refl _ _).alloc (Nat.le_refl _) _)) (unhide HAP).symm hg7
          have hap7 : ApT (.slice (some ⟨g, 0, none⟩) m d1) v7 := ((unhide HAP).symm.next (unhide HO6) (Nat.le_succ _) hw7).symm
          rw [List.length_append, unhide HMU, List.length_singleton] at hv7
          subst hv7
          have HO7 := hide ho7
          have HU7 := hide hO7
          have HAP7 := hide hap7
          have HB7 := hide ((unhide HB6).trans hb7)
          clear ho7 hO7 hap7 hb7 hg7 hw7 HO6 HU6 HB6 r0 r1
          go_wp2_with fail
          go_roundw
          case rel => exact ⟨i + 1, m, mu + 1, _, _, _, _, by go_num, rfl, rfl, by omega, by omega, HML, hide (by rw [unhide HST]; exact unhide HO7), hide (by rw [unhide HST]; simp only; rw [unhide HQP]; exact unhide HU7), HAP7, HB7⟩
          case measure => simp [intOf]; omega
        · have hlt2 : n1 < 2 := by omega
          have hst := unhide HMO hdt (by rw [unhide HN1]; exact h2)
          have HST := hide hst
          have hml2 : (stB d (i + 1)).1.length = m + 16 := by rw [hst]; simp only [List.length_append, sxB_len]; rw [unhide HM]
          have hm16 : m + 16 ≤ 273 := by
            have := unhide HIN (by rw [hml2]; omega)
            omega
          have HML := hide hml2
          rw [show decide ((n1 : Int) = 2) = false from by simp; omega] at HLE
          have HSX1 := hide (unhide HSX hlt2)
          clear hst HSM HLF HMO HIN HSX hml2 h2
          go_wp2_with fail
          refine (unhide HLE _).mono ?_
          rintro e w6 ⟨rfl, hb6⟩
          have r0 := (hb6.cell (p := ⟨wr.heap.size, 0, none⟩) hl6).trans p0
          have r1 := (hb6.cell (p := ⟨wr.heap.size, 1, none⟩) hl6).trans p1
          have HO6 := hide ((unhide HO5).keep hb6)
          have HU6 := hide ((unhide HU5).keep hb6)
          have HB6 := hide (belOnT (unhide HBd) hb6)
          clear p0 p1 hb6 HO5 HU5 HBd HLE
          go_wp2_with fail
          refine (unhide HSX1 _).mono ?_
          rintro e w7 ⟨v7, rfl, o7, hb7⟩
          obtain ⟨a7, c7, hv7⟩ := o7.form
          rw [sxB_len] at hv7
          subst hv7
          have HO7 := hide ((unhide HO6).keep hb7)
          have HU7 := hide ((unhide HU6).keep hb7)
          have HB7 := hide (belOnT (unhide HB6) hb7)
          have HY7 := hide o7
          have hz7 := (unhide HB7).size
          have hlb : (stB d i).1.length + 16 < 100000000 := by rw [unhide HM]; omega
          clear o7 hb7 HO6 HU6 HB6 HSX1 r0 r1
          go_wp2_with (at_builtin; refine appAt (e := brE) rfl _ _ rfl (unhide HO7) rfl a7 16 c7 rfl (sxB_len q) (unhide HY7).at (unhide HY7).adG hlb hz7 ?_; intro v8 w8 hO8 hb8 hg8 hw8)
          obtain ⟨a8, c8, hv8⟩ := hO8.form
          have hu8 : OwnR brE w8 w.heap.size (.slice b2 mu d2) (stB d i).2 := keptT (unhide HU7) (unhide HAP) hg8
          have hap8 : ApT v8 (.slice b2 mu d2) := (unhide HAP).next (unhide HU7) (Nat.le_refl _) hw8
          rw [List.length_append, unhide HM, sxB_len] at hv8
          subst hv8
          have HO8 := hide hO8
          have HU8 := hide hu8
          have HAP8 := hide hap8
          have HB8 := hide ((unhide HB7).trans hb8)
          clear hO8 hu8 hap8 hb8 hg8 hw8 HO7 HU7 HB7 HY7
          go_wp2_with fail
          go_roundw
          case rel => exact ⟨i + 1, m + 16, mu, _, _, _, _, by go_num, rfl, rfl, by omega, by omega, HML, hide (by rw [unhide HST]; exact unhide HO8), hide (by rw [unhide HST]; exact unhide HU8), HAP8, HB8⟩
          case measure => simp [intOf]; omega
    · obtain rfl : i = m := by omega
      have hfin := stB_fin d i (unhide HM)
      have h1 := unhide HO
      have h2 := unhide HU
      rw [hfin] at h1 h2
      have H1 := hide h1
      have H2 := hide h2
      clear h1 h2 hfin HO HU
      go_wp2_with fail
      exact bodyPost_ret (v := .tuple #[_, _]) (by simp [results, Tryz.results22, go_sem]) rfl ⟨_, _, rfl, unhide H1, unhide H2, unhide HBw⟩
end Go.Proofs.YtldgkpnlplfopaaGreatDoor


/- What lies under some branches, by the program. -/
namespace Go.Proofs.YtldgkpnlplfopaaGreatDoor
open Go.RowKit Go.Maps Plain
set_option linter.unusedVariables false

namespace Plain
/-- The texts of the keys under a branch. -/
def utB (ks : List (List UInt8)) (q : Nat × Nat) : List ByteArray := (ks.filter (hoB q.1 q.2)).map dgT
theorem utB_len (ks : List (List UInt8)) (q : Nat × Nat) : (utB ks q).length ≤ ks.length := by
  unfold utB
  rw [List.length_map]
  exact List.length_filter_le _ _
theorem utB_all (ks : List (List UInt8)) : ∀ (l : List (Nat × Nat)), (l.flatMap (utB ks)).length ≤ ks.length * l.length
  | [] => by simp
  | q :: l => by
    rw [List.flatMap_cons, List.length_append, List.length_cons, Nat.mul_add, Nat.mul_one]
    have := utB_all ks l
    have := utB_len ks q
    omega
end Plain

set_option maxRecDepth 100000 in
set_option maxHeartbeats 4000000 in
theorem underAny_calls (a : Option Addr) (m c : Nat) (L : List (Nat × Nat)) (a' : Option Addr) (m' c' : Nat) (ks : List (List UInt8)) (w : World) (hr : RowAt brE w a L) (hm : L.length = m) (hm2 : m ≤ 273) (hg : ∀ q ∈ L, gdB q) (hr' : RowAt keyE w a' ks) (hm' : ks.length = m') (hm2' : m' ≤ 200) (h32 : ∀ x ∈ ks, x.length = 32) :
    Calls Tryz.prog 26 #[.slice a m c, .slice a' m' c'] w fun e w' => ∃ v, e = .returned v ∧ OwnR strE w' w.heap.size v (L.flatMap (utB ks)) ∧ Below w.heap.size w w' := by
  have HR := hide (fun (W : World) (hW : Below w.heap.size w W) => hr.below hW)
  have HM := hide hm
  have HG := hide hg
  have HUN := hide (fun (W : World) (hW : Below w.heap.size w W) (q : Nat × Nat) (hq : gdB q) => under_calls q.1 q.2 hq.1 (gdB_lt hq) a' m' c' ks W (hr'.below hW) hm' (by omega) h32)
  have HTX := hide (fun (W : World) (q : Nat × Nat) (a1 : Option Addr) (n1 c1 : Nat) (r : RowAt keyE W a1 (ks.filter (hoB q.1 q.2))) (hn : (ks.filter (hoB q.1 q.2)).length = n1) => (show Calls Tryz.prog 46 #[.slice a1 n1 c1] W fun e w' => ∃ v, e = .returned v ∧ OwnR strE w' W.heap.size v (utB ks q) ∧ Below W.heap.size W w' from textsOf_calls a1 n1 c1 _ W r hn (by have := List.length_filter_le (hoB q.1 q.2) ks; omega) (fun x hx => h32 x (List.mem_filter.1 hx).1)))
  have HUL := hide (fun q => (show (utB ks q).length ≤ 200 from by have := utB_len ks q; omega))
  have HAL := hide (fun (i : Nat) => (show ((L.take i).flatMap (utB ks)).length ≤ 200 * 273 from by
    have h1 := utB_all ks (L.take i)
    have h2 : ks.length * (L.take i).length ≤ 200 * 273 := Nat.mul_le_mul (by omega) (by rw [List.length_take]; omega)
    omega))
  clear hr hm hg hr' hm' h32
  go_enter Tryz.func26, Tryz.ntmps26
  go_wp2_with fail
  go_loopw [5, 7, 10] (fun s5 _ s10 wr => ∃ (i : Nat) (ta : Option Addr) (tc tn : Nat), s10 = .int .i64 i ∧ s5 = .slice ta tn tc ∧ i ≤ m ∧ Hid (OwnR strE wr w.heap.size (.slice ta tn tc) ((L.take i).flatMap (utB ks))) ∧ Hid (Below w.heap.size w wr)) (fun _ _ s10 _ => m - (intOf s10).toNat)
  case atStart => exact ⟨0, none, 0, 0, rfl, rfl, by omega, hide (ownR_nil _ _ _), hide (Below.refl _ _)⟩
  case round =>
    obtain ⟨i, ta, tc, tn, rfl, rfl, hi, HO, HB⟩ := hrel
    by_cases hlt : i < m
    · have hil : i < L.length := by rw [unhide HM]; exact hlt
      obtain ⟨g, e1, hgl, q0, q1⟩ := (unhide HR wr (unhide HB)).br i hil
      subst e1
      have hgd := unhide HG L[i] (List.getElem_mem _)
      have HNX := hide (show (L.take (i + 1)).flatMap (utB ks) = (L.take i).flatMap (utB ks) ++ utB ks L[i] from by rw [List.take_succ_eq_append_getElem hil, List.flatMap_append, List.flatMap_cons, List.flatMap_nil, List.append_nil])
      generalize L[i] = q at q0 q1 hgd HNX
      have hal := unhide HAL i
      have HU1 := hide (fun (W : World) (hW : Below w.heap.size w W) => unhide HUN W hW q hgd)
      have HT1 := hide (fun (W : World) => unhide HTX W q)
      have hul := unhide HUL q
      obtain ⟨n1, hn1⟩ : ∃ n1, q.1 = n1 := ⟨_, rfl⟩
      obtain ⟨z, hz⟩ : ∃ z, q.2 = z := ⟨_, rfl⟩
      rw [hn1] at q0 HU1 HT1
      rw [hz] at q1 HU1 HT1
      generalize utB ks q = T at HNX HT1 hul
      unfold brV at HU1
      generalize ks.filter (hoB n1 z) = fs at HU1 HT1
      obtain ⟨M, hM⟩ : ∃ M, fs.length = M := ⟨_, rfl⟩
      obtain ⟨mt, hmt⟩ : ∃ mt, T.length = mt := ⟨_, rfl⟩
      rw [hmt] at hul
      have HMF := hide hM
      have HMT := hide hmt
      have hinf := infB2 (.int .i64 (n1 : Int)) (.int .u8 (z : Int))
      have hall := allB2 (n1 : Int) (z : Int) .i64 .u8
      have hold : (#[.int .i64 0, .int .u8 0] : Array Value).size = (#[.int .i64 (n1 : Int), .int .u8 (z : Int)] : Array Value).size := rfl
      obtain ⟨W4, hW4⟩ : ∃ W4, wr.alloc (.cells #[.int .i64 0, .int .u8 0] 56) = W4 := ⟨_, rfl⟩
      have hnew4 : W4.heap[wr.heap.size]? = some (.cells #[.int .i64 0, .int .u8 0] 56 (0, 0)) := by rw [← hW4]; exact heap_alloc_new _ _
      have hs4 : wr.heap.size < W4.heap.size := by rw [← hW4]; simp
      have HB4 := hide (show Below wr.heap.size wr W4 from by rw [← hW4]; exact (Below.refl _ _).alloc (Nat.le_refl _) _)
      have i0 : (0 : Int) ≤ (i : Int) := by omega
      have i1 : (i : Int) < (m : Int) := by omega
      clear hM hmt hn1 hz hil hgd
      go_wp2_with (first
        | (refine wpList_store_any rfl 56 (.tmp 7) (.tmp 13) rfl wr.heap.size #[.int .i64 (n1 : Int), .int .u8 (z : Int)] rfl rfl 56 #[.int .i64 0, .int .u8 0] (by first | exact hnew4 | (rw [hW4]; exact hnew4)) hinf hold hall ?_; intro w5 hrow5 hgr5 hsz5; (try rw [hW4] at hgr5 hsz5))
        | (refine wpList_load_row rfl 56 (.tmp 7) rfl wr.heap.size rfl 56 #[.int .i64 (n1 : Int), .int .u8 (z : Int)] (0, 0) _ hrow5 Tryz.underlying56 rfl hinf ?_))
      have HB5 := hide ((unhide HB4).grown hgr5 (Nat.le_of_lt hs4) (fun k e => by cases e; exact Nat.le_refl _))
      have HO5 := hide ((unhide HO).keep (unhide HB5))
      have HW5 := hide (belOnT (unhide HB) (unhide HB5))
      clear hrow5 hgr5 hsz5 q0 q1 HO HB4 HB5 hnew4
      refine (unhide HU1 _ (unhide HW5)).mono ?_
      rintro e w6 ⟨v6, rfl, o6, hb6⟩
      obtain ⟨a6, c6, hv6⟩ := o6.form
      rw [unhide HMF] at hv6
      subst hv6
      have HO6 := hide ((unhide HO5).keep hb6)
      have HW6 := hide (belOnT (unhide HW5) hb6)
      have HT6 := hide (unhide HT1 w6 a6 M c6 o6.at (unhide HMF))
      clear o6 hb6 HO5 HW5 HU1 HT1
      go_wp2_with fail
      refine (unhide HT6).mono ?_
      rintro e w7 ⟨v7, rfl, o7, hb7⟩
      obtain ⟨a7, c7, hv7⟩ := o7.form
      rw [unhide HMT] at hv7
      subst hv7
      have HO7 := hide ((unhide HO6).keep hb7)
      have HW7 := hide (belOnT (unhide HW6) hb7)
      have HY7 := hide o7
      have hz7 := (unhide HW7).size
      have hlb : ((L.take i).flatMap (utB ks)).length + mt < 100000000 := by omega
      clear o7 hb7 HO6 HW6 HT6
      go_wp2_with (at_builtin; refine appAt (e := strE) rfl _ _ rfl (unhide HO7) rfl a7 mt c7 rfl (unhide HMT) (unhide HY7).at (unhide HY7).adG hlb hz7 ?_; intro v8 w8 hO8 hb8 hg8 hw8)
      obtain ⟨a8, c8, hv8⟩ := hO8.form
      subst hv8
      have HO8 := hide hO8
      have HW8 := hide ((unhide HW7).trans hb8)
      clear hO8 hb8 hg8 hw8 HO7 HW7 HY7
      go_wp2_with fail
      go_roundw
      case rel => exact ⟨i + 1, a8, c8, _, by go_num, rfl, by omega, hide (by rw [unhide HNX]; exact unhide HO8), HW8⟩
      case measure => simp [intOf]; omega
    · obtain rfl : i = m := by omega
      have hO := unhide HO
      rw [List.take_of_length_le (by rw [unhide HM]; exact Nat.le_refl _)] at hO
      have HX := hide hO
      clear hO HO
      go_wp2_with fail
      go_ret
      exact ⟨_, rfl, unhide HX, unhide HB⟩
end Go.Proofs.YtldgkpnlplfopaaGreatDoor


/- What one set has and another has not, by the program. -/
namespace Go.Proofs.YtldgkpnlplfopaaGreatDoor
open Go.RowKit Go.Maps Plain
set_option linter.unusedVariables false

set_option maxRecDepth 100000 in
set_option maxHeartbeats 2000000 in
theorem cloneK (b n : Nat) (D : DataW Unit) (w : World) (hown : w.ownsMap Tryz.prog 63 anyR b n D) :
    Calls Tryz.prog 48 #[.map (some b)] w fun e w' => e = .returned (.map (some w.heap.size)) ∧ w'.ownsMap Tryz.prog 63 anyR w.heap.size n D ∧ Below w.heap.size w w' := by
  have hlt := hown.lt
  obtain ⟨es, clock, hb, F, hs, hD⟩ := hown
  have hq := fun w => run_eql_map_nil_sl (P := Tryz.prog) w 44 _ _ (some b) Tryz.underlying44
  have HX := hide (show (w.alloc (.map es clock)).ownsMap Tryz.prog 63 anyR w.heap.size n D from ⟨es, clock, (MapKept.heap_alloc w _).1, F, hs, hD⟩)
  clear F hs hD
  go_enter Tryz.func48, Tryz.ntmps48
  go_wp2
  rw [run_callFunc_extern Tryz.func65 (by kernel_rfl) (by kernel_rfl) (by kernel_rfl) (e := Extern.MapsClone.clone) (by kernel_rfl), run_maps_clone_sl w 44 hb]
  simp only [Result.andThen]
  rw [Oper.upon_value]
  go_wp2
  rw [run_typeAssert_map_sl _ 44 _ _ _ _ Tryz.underlying44]
  simp only [Result.andThen]
  rw [Oper.upon_value]
  go_wp2
  go_ret
  exact ⟨rfl, unhide HX, (Below.refl _ w).alloc (Nat.le_refl _) _⟩

set_option maxRecDepth 100000 in
set_option maxHeartbeats 2000000 in
theorem without1_calls (x : List UInt8) (hx : x.length = 32) (Bo bo no : Nat) (Do : DataW Unit) (W : World) (hm : W.cell? ⟨Bo, 0, none⟩ = some (.map (some bo))) (hown : W.ownsMap Tryz.prog 63 anyR bo no Do) :
    Calls Tryz.prog 50 #[.agg (encK x).toArray, .agg #[], .pointer (some ⟨Bo, 0, none⟩)] W fun e w' => e = .returned (.bool (Maps.has Do (keyLK x))) ∧ Below W.heap.size W w' := by
  have hBo : Bo < W.heap.size := lt_of_cell hm
  obtain ⟨W2, hW2⟩ : ∃ W2, (W.alloc (.cells (encK x).toArray 63)).alloc (.cells #[] 71) = W2 := ⟨_, rfl⟩
  have hb2 : Below W.heap.size W W2 := by rw [← hW2]; exact ((Below.refl _ _).alloc (Nat.le_refl _) _).alloc (by simp) _
  have hrow : W2.heap[W.heap.size]? = some (.cells (encK x).toArray 63 (0, 0)) := by
    rw [← hW2, heap_alloc_old _ _ (by simp)]
    exact heap_alloc_new _ _
  have hm2 : W2.cell? ⟨Bo, 0, none⟩ = some (.map (some bo)) := (hb2.cell (p := ⟨Bo, 0, none⟩) hBo).trans hm
  have HM2 := hide (show W2.ownsMap Tryz.prog 63 anyR bo no Do from by rw [← hW2]; exact (hown.alloc _).alloc _)
  have hz0 : ∀ W : World, (zeroValue 71).run Tryz.prog W = .ok (.agg #[]) W := fun W => by kernel_rfl
  have HZ0 := hide hz0
  have hinx := infX x
  have HB2 := hide hb2
  have HW2 := hide hW2
  clear hz0 hb2 hown hm hW2
  obtain ⟨r, hr⟩ : ∃ r, Maps.has Do (keyLK x) = r := ⟨_, rfl⟩
  rw [hr]
  go_enter Tryz.func50, Tryz.ntmps50
  go_upto_region 1 with fail
  rw [unhide HW2]
  go_wp2_with (first
    | (refine wpList_load_row rfl 63 (.tmp 3) rfl W.heap.size rfl 63 (encK x).toArray (0, 0) _ hrow Tryz.underlying63 rfl hinx ?_)
    | (at_lookup; refine wpList_lookup_own_unit _ rfl _ _ 44 rfl 63 71 keyedK Tryz.underlying44 (unhide HZ0 _) bo no Do rfl (unhide HM2) _ _ rfl (keyK_of x) ?_; rw [hr]))
  go_ret
  exact ⟨rfl, (unhide HB2).alloc (unhide HB2).size _⟩

theorem unit_inv {c : Value} {yd : DataW Unit} {yp : List MemPlace} (h : anyR c = some (yd, yp)) : c = .agg #[] := by
  unfold anyR unitElem at h
  split at h
  · split at h
    · rename_i cs hs
      rw [Array.eq_empty_of_size_eq_zero hs]
    · simp at h
  · simp at h

set_option maxRecDepth 100000 in
set_option maxHeartbeats 4000000 in
theorem delK (b n : Nat) (D : DataW Unit) (Bo bo no : Nat) (Do : DataW Unit) (w : World) (hown : w.ownsMap Tryz.prog 63 anyR b n D) (hm : w.cell? ⟨Bo, 0, none⟩ = some (.map (some bo))) (hownO : w.ownsMap Tryz.prog 63 anyR bo no Do) (hne : bo ≠ b) (hneB : Bo ≠ b) :
    Calls Tryz.prog 49 #[.map (some b), .func (.func 50) #[] #[.pointer (some ⟨Bo, 0, none⟩)]] w fun e w' => e = .returned (.tuple #[]) ∧ w'.ownsMap Tryz.prog 63 anyR b n (Lib.deleteFuncD (fun kl _ => Maps.has Do kl) D) ∧ w.grownBy w' (some b) := by
  have eg : ∀ args w, (callFunc 50 args).run Tryz.prog w = .ok (.enter 50 args) w := enters_of Tryz.func50 (by kernel_rfl) rfl
  have HD := hide (fun (W : World) (hW : w.grownBy W (some b)) (x : List UInt8) (hx : x.length = 32) => without1_calls x hx Bo bo no Do W (hW.cell hm (by intro q; simp at q; exact hneB q)) (hownO.kept hW (by intro q; simp at q; exact hne q)))
  obtain ⟨es0, rfl, hap, hkeys⟩ := hown.entries keyedK
  clear hm hownO
  go_enter Tryz.func49, Tryz.ntmps49
  go_wp2_with (first
    | (at_range; refine wpList_range_own _ rfl _ 44 rfl 63 71 keyedK Tryz.underlying44 anyR b n _ rfl hown ?_; intro w0 hrg0 hg0 hs0)
    | go_in)
  go_frame
  go_loopw [8, 9, 10, 11, 12, 4, 5] (fun _ _ _ _ _ _ _ wr => ∃ (left : Lit → Bool) (cnt : Nat), wr.ranges Tryz.prog 63 anyR b w.heap.size n (Fk (fun kl _ => Maps.has Do kl) es0 left) left cnt ∧ w.grownBy wr (some b))
    (fun _ _ _ _ _ _ _ wr => wr.rangeLeft b w.heap.size)
  case atStart => exact ⟨_, _, by rw [Fk_start hkeys]; exact hrg0, hg0.but _⟩
  case round =>
    obtain ⟨left, cnt, hrg, hgw⟩ := hrel
    go_wp2_with (first
      | (at_next; refine wpList_next_ranges _ rfl _ rfl 63 keyedK anyR valK id (fun key kl hk => by obtain ⟨x, e, hx⟩ := keyK_inv hk; exact ⟨⟨x, hx⟩, e⟩) (fun v _ _ => ⟨v, rfl⟩) b w.heap.size n _ _ _ rfl hrg ?_ ?_)
      | go_in)
    · intro _ hl0
      go_wp2
      go_end0
      exact ⟨rfl, by rw [← Fk_end hl0]; exact hrg.owns, hgw⟩
    · intro x hx c kl yd yp w1 cnt1 hkey hlx hv hat hrg1 hlt hg1 hs1 hen
      obtain rfl : keyLK x = kl := Option.some.inj ((keyK_of x).symm.trans hkey)
      have hgw1 := hgw.andThen hg1 (fun j hj => by cases hj; exact Or.inl (Nat.le_refl _))
      simp only [valK] at hen
      have hcu : c = .agg #[] := unit_inv hv
      subst hcu
      have hinx := infX x
      have H32X := hide (s32X x)
      have honx := oneX x
      have hbl := hrg1.owns.lt
      have hrl := hrg1.lt
      obtain ⟨W2, hW2⟩ : ∃ W2, (w1.alloc (.cells #[.int .u8 0, .int .u8 0, .int .u8 0, .int .u8 0, .int .u8 0, .int .u8 0, .int .u8 0, .int .u8 0, .int .u8 0, .int .u8 0, .int .u8 0, .int .u8 0, .int .u8 0, .int .u8 0, .int .u8 0, .int .u8 0, .int .u8 0, .int .u8 0, .int .u8 0, .int .u8 0, .int .u8 0, .int .u8 0, .int .u8 0, .int .u8 0, .int .u8 0, .int .u8 0, .int .u8 0, .int .u8 0, .int .u8 0, .int .u8 0, .int .u8 0, .int .u8 0] 63)).alloc (.cells #[] 71) = W2 := ⟨_, rfl⟩
      have hrow2 : W2.heap[w1.heap.size]? = some (.cells (keyC zeroK) 63 (0, 0)) := by
        rw [← hW2, ← zeroK_cells, heap_alloc_old _ _ (by simp)]
        exact heap_alloc_new _ _
      have hs2 : W2.heap.size = w1.heap.size + 2 := by rw [← hW2]; simp
      have hb2 : Below w1.heap.size w1 W2 := by rw [← hW2]; exact ((Below.refl _ _).alloc (Nat.le_refl _) _).alloc (by simp) _
      have hzk : (keyC zeroK).size = (encK x).toArray.size := by rw [← unhide H32X]; rfl
      have HC := hide (fun (W : World) (hW : w.grownBy W (some b)) => unhide HD W hW x hx)
      have hgw2 : w.grownBy W2 (some b) := gbT hgw1 (gbB hb2 _)
      have hwz : w.heap.size ≤ w1.heap.size := hgw1.size
      have HG := hide (fun (w3 w4 : World) (hgr3 : W2.grownBy w3 (some w1.heap.size)) (hb4 : Below w3.heap.size w3 w4) => (show w1.grownBy w4 none from ⟨hb4.os.trans (hgr3.os.trans hb2.os), hb4.tape.trans (hgr3.tape.trans hb2.tape), hb4.output.trans (hgr3.output.trans hb2.output), Nat.le_trans (Nat.le_trans hb2.size hgr3.size) hb4.size, fun k hk _ => (hb4.block k (Nat.lt_of_lt_of_le hk (Nat.le_trans hb2.size hgr3.size))).trans ((hgr3.block k (Nat.lt_of_lt_of_le hk hb2.size) (by intro q; simp at q; omega)).trans (hb2.block k hk))⟩))
      clear hs1
      cases hp : Maps.has Do (keyLK x) with
      | false =>
        rw [hp] at HC
        go_wp2_with (first
          | (go_at_fn 50; refine (unhide HC w3 hgw3).mono ?_; rintro e w4 ⟨rfl, hb4⟩)
          | (refine wpList_store_any rfl 63 (.tmp 4) (.tmp 11) rfl w1.heap.size (encK x).toArray rfl rfl 63 (keyC zeroK) (by first | exact hrow2 | (rw [hW2]; exact hrow2)) hinx hzk honx ?_; intro w3 hrow3 hgr3 hsz3; (try rw [hW2] at hgr3 hsz3); have hgw3 : w.grownBy w3 (some b) := gbN hgw2 hgr3 hwz)
          | (refine wpList_load_row rfl 63 (.tmp 4) rfl w1.heap.size rfl 63 (encK x).toArray (0, 0) _ hrow3 Tryz.underlying63 rfl hinx ?_)
          | go_in)
        have hg4 := unhide HG w3 w4 hgr3 hb4
        have hrg4 := hrg1.kept hg4 (by simp) (by simp)
        go_roundw
        case rel => exact ⟨_, cnt1, by rw [← Fk_stays hap (keyLK_ok x) hlx hp hat]; exact hrg4, gbT hgw3 (gbB hb4 _)⟩
        case measure => rw [hrg4.left_eq, hrg.left_eq]; exact hlt
      | true =>
        rw [hp] at HC
        go_wp2_with (first
          | (go_at_fn 50; refine (unhide HC w3 hgw3).mono ?_; rintro e w4 ⟨rfl, hb4⟩; have hrow4 := (hb4.block w1.heap.size (by omega)).trans hrow3; have hg4 := unhide HG w3 w4 hgr3 hb4; have hrg4 := hrg1.kept hg4 (by simp) (by simp))
          | (refine wpList_store_any rfl 63 (.tmp 4) (.tmp 11) rfl w1.heap.size (encK x).toArray rfl rfl 63 (keyC zeroK) (by first | exact hrow2 | (rw [hW2]; exact hrow2)) hinx hzk honx ?_; intro w3 hrow3 hgr3 hsz3; (try rw [hW2] at hgr3 hsz3); have hgw3 : w.grownBy w3 (some b) := gbN hgw2 hgr3 hwz)
          | (refine wpList_load_row rfl 63 (.tmp 4) rfl w1.heap.size rfl 63 (encK x).toArray (0, 0) _ hrow4 Tryz.underlying63 rfl hinx ?_)
          | (refine wpList_load_row rfl 63 (.tmp 4) rfl w1.heap.size rfl 63 (encK x).toArray (0, 0) _ hrow3 Tryz.underlying63 rfl hinx ?_)
          | (at_delete; refine wpList_delete_ranges _ rfl _ _ 44 63 rfl 71 keyedK Tryz.underlying44 anyR b w.heap.size n _ _ _ rfl hrg4 _ _ rfl (keyK_of x) ?_; intro w5 cnt5 hrg5 hle5 hturn5; go_frame)
          | go_in)
        rw [strike_twice] at hrg5
        go_roundw
        case rel => exact ⟨_, cnt5, by rw [← Fk_struck hap (keyLK_ok x) hlx hp hat]; exact hrg5, gbT (gbT hgw3 (gbB hb4 _)) hturn5.grown⟩
        case measure => rw [hrg5.left_eq, hrg.left_eq]; omega
end Go.Proofs.YtldgkpnlplfopaaGreatDoor


/- What a set has and another has not, as texts; how that agrees with the specification. -/
namespace Go.Proofs.YtldgkpnlplfopaaGreatDoor
open Go.RowKit Go.Maps Plain
set_option linter.unusedVariables false

namespace Plain
theorem stB_good (d : Nat × Nat → Bool) : ∀ i, ∀ q ∈ (stB d i).1, gdB q
  | 0 => fun q hq => by simp [stB] at hq; subst hq; exact ⟨by simp, by simp⟩
  | i + 1 => by
    have ih := stB_good d i
    cases hq : (stB d i).1[i]? with
    | none =>
      have e : stB d (i + 1) = stB d i := by rw [stB, hq]
      rw [e]
      exact ih
    | some q =>
      obtain ⟨h1, h2⟩ := List.getElem?_eq_some_iff.1 hq
      have hg : gdB q := ih q (by rw [← h2]; exact List.getElem_mem _)
      cases hd : d q with
      | false => rw [stB_same d i q hq hd]; exact ih
      | true =>
        by_cases h2 : q.1 = 2
        · rw [stB_leaf d i q hq hd h2]; exact ih
        · rw [stB_more d i q hq hd h2]
          intro x hx
          rcases List.mem_append.1 hx with e | e
          · exact ih x e
          · exact (gdB_next hg (by have := hg.1; omega) x e).1
theorem stB_like {d d' : Nat × Nat → Bool} (h : ∀ q, gdB q → d q = d' q) : ∀ i, stB d i = stB d' i
  | 0 => rfl
  | i + 1 => by
    have ih := stB_like h i
    cases hq : (stB d i).1[i]? with
    | none => rw [stB, hq, stB, ← ih, hq]
    | some q =>
      obtain ⟨h1, h2⟩ := List.getElem?_eq_some_iff.1 hq
      have hg : gdB q := stB_good d i q (by rw [← h2]; exact List.getElem_mem _)
      rw [stB, hq, stB, ← ih, hq]
      simp only [h q hg]
theorem askB_like {d d' : Nat × Nat → Bool} (h : ∀ q, gdB q → d q = d' q) : askB d = askB d' := by unfold askB; rw [stB_like h]
theorem unlB_like {d d' : Nat × Nat → Bool} (h : ∀ q, gdB q → d q = d' q) : unlB d = unlB d' := by unfold unlB; rw [stB_like h]
theorem exist_end (d : Nat × Nat → Bool) : ∃ i, (stB d i).1.length = i ∧ stB d i = (askB d, unlB d) := by
  have hlen : ∀ i, i ≤ (stB d i).1.length ∨ ∃ j, (stB d j).1.length = j := by
    intro i
    induction i with
    | zero => exact .inl (Nat.zero_le _)
    | succ i ih =>
      rcases ih with h | h
      · by_cases e : (stB d i).1.length = i
        · exact .inr ⟨i, e⟩
        · left
          have h1 : i < (stB d i).1.length := by omega
          have hq : (stB d i).1[i]? = some (stB d i).1[i] := List.getElem?_eq_getElem h1
          generalize (stB d i).1[i] = q at hq
          cases hd : d q with
          | false => rw [stB_same d i q hq hd]; omega
          | true =>
            by_cases h2 : q.1 = 2
            · rw [stB_leaf d i q hq hd h2]; simp only; omega
            · rw [stB_more d i q hq hd h2]; simp only [List.length_append]; omega
      · exact .inr h
  have hex : ∃ j, (stB d j).1.length = j := by
    rcases hlen 274 with h | h
    · have := (stB_inv d 274 h).len h
      omega
    · exact h
  obtain ⟨j, hj⟩ := hex
  exact ⟨j, hj, stB_fin d j hj⟩
theorem ask_facts (d : Nat × Nat → Bool) : (askB d).length ≤ 273 ∧ (∀ q ∈ askB d, gdB q) ∧ (unlB d).length ≤ 273 ∧ ∀ q ∈ unlB d, gdB q := by
  obtain ⟨i, h1, h2⟩ := exist_end d
  have hv := stB_inv d i (by omega)
  have hl := hv.len (by omega)
  have hf := hv.few
  have hg := hv.good
  have hu := hv.unl
  rw [h2] at hl hf hg hu h1
  simp only at hl hf hg hu h1
  exact ⟨hl, hg, by omega, fun q hq => (hu q hq).1⟩
/-- What one set has and the other has not. -/
def exB (A B : List ByteArray) : List ByteArray := A.filter fun x => !anyB B x
theorem exB_set {A B : List ByteArray} (h : setB A = true) : (exB A B).length ≤ 200 ∧ (∀ s ∈ exB A B, digB s = true) ∧ Strict (exB A B) := by
  obtain ⟨s1, s2, s3⟩ := setB_all h
  exact ⟨Nat.le_trans (List.length_filter_le _ _) s1, fun s hs => s2 s (List.mem_filter.1 hs).1, List.Pairwise.filter _ s3⟩
theorem exB_mem {A B : List ByteArray} (x : ByteArray) : x ∈ exB A B ↔ x ∈ A ∧ x ∉ B := by
  unfold exB
  rw [List.mem_filter]
  constructor
  · rintro ⟨h1, h2⟩
    refine ⟨h1, fun q => ?_⟩
    rw [(anyB_mem B x).2 q] at h2
    simp at h2
  · rintro ⟨h1, h2⟩
    refine ⟨h1, ?_⟩
    have : anyB B x = false := by
      rw [Bool.eq_false_iff]
      exact fun q => h2 ((anyB_mem B x).1 q)
    rw [this]
    rfl
theorem ut_ls {A B : List ByteArray} (hA : setB A = true) {q : Nat × Nat} (hq : gdB q) : utB ((exB A B).map kyL) q = lsB A B q := by
  obtain ⟨s1, s2, s3⟩ := exB_set (B := B) hA
  unfold utB
  have hf := filt_map (p := prT q) (ls := exB A B) (prT_ok hq) s2
  rw [prT_size hq, prT_br hq] at hf
  rw [hf, map_back fun s hs => s2 s (List.mem_filter.1 hs).1]
  unfold exB lsB
  rw [List.filter_filter, List.filter_filter]
  apply List.filter_congr
  intro x _
  cases hp : preB (prT q) x with
  | false => simp
  | true =>
    have : anyB (B.filter (preB (prT q))) x = anyB B x := by
      rw [Bool.eq_iff_iff, anyB_mem, anyB_mem, List.mem_filter]
      exact ⟨fun h => h.1, fun h => ⟨h, hp⟩⟩
    simp [this]
theorem flat_ls {A B : List ByteArray} (hA : setB A = true) : ∀ (u : List (Nat × Nat)), (∀ q ∈ u, gdB q) → u.flatMap (utB ((exB A B).map kyL)) = u.flatMap (lsB A B)
  | [], _ => rfl
  | q :: u, h => by
    rw [List.flatMap_cons, List.flatMap_cons, ut_ls hA (h q (by simp)), flat_ls hA u fun x hx => h x (List.mem_cons_of_mem _ hx)]
theorem grF_root {ks : List (List UInt8)} {q : Nat × Nat} (hq : gdB q) {f : Nat → Nat → Option (List UInt8)} : grF ks 0 0 f q.1 q.2 = some (tN ks q.1 q.2) := by
  unfold grF
  rw [if_pos ⟨Nat.zero_le _, by rw [Nat.sub_zero]; exact Nat.div_eq_of_lt hq.2⟩]
theorem df_like {A B : List ByteArray} (hA : setB A = true) (hB : setB B = true) : ∀ q, gdB q → (!(tN (A.map kyL) q.1 q.2 == tN (B.map kyL) q.1 q.2)) = dfB A B q := by
  intro q hq
  rw [tN_nd (setB_all hA).2.1 hq, tN_nd (setB_all hB).2.1 hq]
  unfold dfB
  by_cases h : ndB A q = ndB B q
  · simp [h]
  · have h2 : kyL (ndB A q) ≠ kyL (ndB B q) := fun e => h (kyL_inj (nodeU_dig _ _ _) (nodeU_dig _ _ _) e)
    simp [h, h2]
end Plain

theorem has_delF {D : DataW Unit} (hD : IsMap D) (pd : Lit → Bool) (k : Lit) : Maps.has (Lib.deleteFuncD (fun kl _ => pd kl) D) k = (Maps.has D k && !pd k) := by
  cases D with
  | map es =>
    show (es.filter fun p => !pd p.1).any (fun p => p.1.sameKey k) = (es.any (fun p => p.1.sameKey k) && !pd k)
    rw [Bool.eq_iff_iff, Bool.and_eq_true, List.any_eq_true, List.any_eq_true]
    constructor
    · rintro ⟨p, hp, hs⟩
      have hm := List.mem_filter.1 hp
      have e := WideAt.sameKey_eq hs
      exact ⟨⟨p, hm.1, hs⟩, by rw [← e]; exact hm.2⟩
    · rintro ⟨⟨p, hp, hs⟩, hn⟩
      have e := WideAt.sameKey_eq hs
      exact ⟨p, List.mem_filter.2 ⟨hp, by rw [e]; exact hn⟩, hs⟩
  | _ => exact absurd hD (by simp [IsMap])
theorem size_delF {D : DataW Unit} (pd : Lit → DataW Unit → Bool) : Maps.size (Lib.deleteFuncD pd D) ≤ Maps.size D := by
  cases D with
  | map es => exact List.length_filter_le _ _
  | _ => exact Nat.le_refl _

set_option maxRecDepth 100000 in
set_option maxHeartbeats 2000000 in
theorem without_calls (bs ns bo no : Nat) (A B : List ByteArray) (hA : setB A = true) (hB : setB B = true) (w : World) (h : KSet w bs ns (A.map kyL)) (h' : KSet w bo no (B.map kyL)) :
    Calls Tryz.prog 27 #[.map (some bs), .map (some bo)] w fun e w' => ∃ b, e = .returned (.map (some b)) ∧ KLe w' b ns ((exB A B).map kyL) ∧ Below w.heap.size w w' := by
  obtain ⟨D, hD, hs, hk⟩ := h
  obtain ⟨Do, hDo, hso, hko⟩ := h'
  obtain ⟨W0, hW0⟩ : ∃ W0, w.alloc (.cells #[.map (some bo)] 44) = W0 := ⟨_, rfl⟩
  have hb0 : Below w.heap.size w W0 := by rw [← hW0]; exact (Below.refl _ _).alloc (Nat.le_refl _) _
  have hl0 : w.heap.size < W0.heap.size := by rw [← hW0]; simp
  have hc0 : W0.cell? ⟨w.heap.size, 0, none⟩ = some (.map (some bo)) := by rw [← hW0, cell_of_row _ _ 0 _ _ _ (heap_alloc_new _ _)]; rfl
  have hD0 : W0.ownsMap Tryz.prog 63 anyR bs ns D := by rw [← hW0]; exact hD.alloc _
  have hO0 : W0.ownsMap Tryz.prog 63 anyR bo no Do := by rw [← hW0]; exact hDo.alloc _
  have hbol := hO0.lt
  have HCL := hide (cloneK bs ns D W0 hD0)
  have HDE := hide (fun (W : World) (hW : Below W0.heap.size W0 W) (hown : W.ownsMap Tryz.prog 63 anyR W0.heap.size ns D) => delK W0.heap.size ns D w.heap.size bo no Do W hown ((hW.cell (p := ⟨w.heap.size, 0, none⟩) hl0).trans hc0) (hO0.kept (gbB hW none) (by simp)) (by omega) (by omega))
  have HEND := hide (fun (W : World) (q : W.ownsMap Tryz.prog 63 anyR W0.heap.size ns (Lib.deleteFuncD (fun kl _ => Maps.has Do kl) D)) => (show KLe W W0.heap.size ns ((exB A B).map kyL) from ⟨_, q, by
    have h1 := size_delF (D := D) (fun kl _ => Maps.has Do kl)
    have h2 := (setB_all hA).1
    rw [hs, List.length_map] at h1
    omega, fun x hx => by
    rw [has_delF hD.isMap, Bool.and_eq_true, hk x hx]
    constructor
    · rintro ⟨h1, h2⟩
      obtain ⟨s, hs1, rfl⟩ := List.mem_map.1 h1
      refine List.mem_map.2 ⟨s, (exB_mem s).2 ⟨hs1, fun hb => ?_⟩, rfl⟩
      rw [(hko _ (kyL_len s)).2 (List.mem_map.2 ⟨s, hb, rfl⟩)] at h2
      simp at h2
    · intro h1
      obtain ⟨s, hs1, rfl⟩ := List.mem_map.1 h1
      obtain ⟨m1, m2⟩ := (exB_mem s).1 hs1
      refine ⟨List.mem_map.2 ⟨s, m1, rfl⟩, ?_⟩
      have : Maps.has Do (keyLK (kyL s)) = false := by
        rw [Bool.eq_false_iff]
        intro q
        exact m2 ((mem_kyL (setB_all hB).2.1 ((setB_all hA).2.1 s m1)).1 ((hko _ (kyL_len s)).1 q))
      rw [this]
      rfl⟩))
  have HB0 := hide hb0
  have HW := hide hW0
  clear hD hs hk hDo hso hko hb0 hW0 hc0 hD0 hO0
  go_enter Tryz.func27, Tryz.ntmps27
  go_wp2_with fail
  rw [unhide HW]
  refine (unhide HCL).mono ?_
  rintro e w1 ⟨rfl, ho1, hb1⟩
  have HB1 := hide ((unhide HB0).trans (hb1.mono (Nat.le_of_lt hl0)))
  have HD1 := hide (unhide HDE w1 hb1 ho1)
  have hz1 := hb1.size
  clear ho1 hb1 HCL HDE HW HB0
  go_wp2_with fail
  refine (unhide HD1).mono ?_
  rintro e w2 ⟨rfl, ho2, hg2⟩
  have HX := hide (unhide HEND w2 ho2)
  have HB2 := hide ((unhide HB1).grown hg2 (unhide HB1).size (fun k e => by cases e; omega))
  clear ho2 hg2 HEND
  go_wp2_with fail
  go_ret
  exact ⟨_, rfl, unhide HX, unhide HB2⟩
end Go.Proofs.YtldgkpnlplfopaaGreatDoor

