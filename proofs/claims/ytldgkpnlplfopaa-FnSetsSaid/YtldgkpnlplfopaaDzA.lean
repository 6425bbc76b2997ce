/- Texts of one kind, put together. -/
import Derived.Test.YtldgkpnlplfopaaMem
import Derived.Deep.AppendLies
import Derived.Test.YtldgkpnlplfopaaPlain
import Derived.Lib.SlBytesConst
import Derived.Laws.MakeOwn

/- The specification's drawer: whatever it draws is within its bounds, and it moves nothing but its own place. -/
namespace Go.Proofs.Ytldgkpnlplfopaa
open Go.RowKit Plain
set_option linter.unusedVariables false

namespace Plain
/-- A drawer lies in block R: its bytes are the slice (a, len, cap) that holds zs, its place is p. -/
structure RdAt (w : World) (R : Nat) (a : Option Addr) (len cap : Nat) (zs : List Int) (p : Nat) : Prop where
  c0 : w.cell? ⟨R, 0, none⟩ = some (.slice a len cap)
  c1 : w.cell? ⟨R, 1, none⟩ = some (.int .i64 p)
  fz : w.frozen? ⟨R, 1, none⟩ = false
  le : p ≤ len
  small : len ≤ 1048576
  row : IsRow .u8 w a len cap zs
  apart : ∀ x, a = some x → 0 < zs.length → x.block < R

def Rd (w : World) (R : Nat) (a : Option Addr) (len cap : Nat) (zs : List Int) : Prop := ∃ p, RdAt w R a len cap zs p

theorem IsRow.only {w w' : World} {k : IntKind} {a : Option Addr} {len cap : Nat} {zs : List Int} {q : Addr} (h : IsRow k w a len cap zs) (ho : OnlyAt q w w') (hq : ∀ x, a = some x → 0 < zs.length → x.block < w.heap.size ∧ x.block ≠ q.block) : IsRow k w' a len cap zs := by
  rcases h with h | ⟨x, hx, h1, h2, h3, h4, h5⟩
  · exact .inl h
  · refine .inr ⟨x, hx, h1, h2, h3, fun i hi => ?_, h5⟩
    have hb : (x.add i).block = x.block := by unfold Addr.add; split <;> rfl
    have := hq x hx (by omega)
    rw [ho.cell (x.add i) (by rw [hb]; exact this.1) (fun e => this.2 (by rw [← hb, e]))]
    exact h4 i hi

theorem RdAt.only {w w' : World} {R : Nat} {a : Option Addr} {len cap : Nat} {zs : List Int} {p p' : Nat} (h : RdAt w R a len cap zs p) (ho : OnlyAt ⟨R, 1, none⟩ w w') (hc : w'.cell? ⟨R, 1, none⟩ = some (.int .i64 p')) (hp : p' ≤ len) : RdAt w' R a len cap zs p' := by
  have hR := lt_of_cell h.c0
  exact ⟨(ho.cell ⟨R, 0, none⟩ hR (by simp)).trans h.c0, hc, (ho.frozen ⟨R, 1, none⟩ hR).trans h.fz, hp, h.small,
    h.row.only ho (fun x hx hz => ⟨by have := h.apart x hx hz; simp at hR; omega, by have := h.apart x hx hz; simp; omega⟩), h.apart⟩

theorem Rd.below {w w' : World} {R : Nat} {a : Option Addr} {len cap : Nat} {zs : List Int} (h : Rd w R a len cap zs) (hb : Below w.heap.size w w') : Rd w' R a len cap zs := by
  obtain ⟨p, h⟩ := h
  have ho : OnlyAt ⟨R, 1, none⟩ w w' := OnlyAt.of_below hb
  exact ⟨p, h.only ho ((hb.cell (p := ⟨R, 1, none⟩) (lt_of_cell h.c1)).trans h.c1) h.le⟩

theorem Rd.lt {w : World} {R : Nat} {a : Option Addr} {len cap : Nat} {zs : List Int} (h : Rd w R a len cap zs) : R < w.heap.size := by
  obtain ⟨p, h⟩ := h; exact lt_of_cell h.c0
end Plain

set_option maxHeartbeats 1000000 in
theorem next_calls (R : Nat) (a : Option Addr) (len cap : Nat) (zs : List Int) (w : World) (h : Rd w R a len cap zs) :
    Calls Try.prog 32 #[.pointer (some ⟨R, 0, none⟩)] w fun e w' => ∃ v : Int, e = .returned (.int .i64 v) ∧ 0 ≤ v ∧ v ≤ 255 ∧ Rd w' R a len cap zs ∧ OnlyAt ⟨R, 1, none⟩ w w' := by
  obtain ⟨p, hp⟩ := h
  have HP := hide hp
  obtain ⟨c0, c1, fz, le, small, row, apart⟩ := hp
  clear apart
  by_cases hlt : p < len
  · rcases row with ⟨_, h, _⟩ | ⟨x, rfl, h1, h2, h3, h4, h5⟩
    · omega
    · obtain ⟨b, off, spot⟩ := x
      have hc := h4 p (by omega)
      have hspot : spot = none := by simpa [Addr.add] using World.cell?_spot (h4 0 (by omega))
      subst hspot
      have hcp : w.cell? ⟨b, off + p, none⟩ = some (.int .u8 (zs.getD p 0)) := by
        rw [show (⟨b, off, none⟩ : Addr).add p = ⟨b, off + p, none⟩ from by unfold Addr.add; split <;> simp_all] at hc
        exact hc
      have hap : b ≠ R := by have := (unhide HP).apart _ rfl (by omega); simp at this; omega
      have hrng := Go.range_u8 h5 p
      have hzz : zs.getD p 0 = zs[p]?.getD 0 := by simp [List.getD]
      rw [hzz] at hcp
      obtain ⟨z, hz⟩ : ∃ z, zs[p]?.getD 0 = z := ⟨_, rfl⟩
      rw [hz] at hcp hrng
      clear h4 h5 hc hzz hz
      go_enter Try.func32, Try.ntmps32
      go_wp2
      go_region
      all_goals (try go_wp2)
      go_region
      all_goals (try go_wp2)
      all_goals go_ret
      all_goals
        have ho : OnlyAt ⟨R, 1, none⟩ w ((w.setCell ⟨R, 1, none⟩ (.int .i64 ((p : Int) + 1))).drewN 2) := (OnlyAt.setCell _ _ _).drewN 2
        have hcc : ((w.setCell ⟨R, 1, none⟩ (.int .i64 ((p : Int) + 1))).drewN 2).cell? ⟨R, 1, none⟩ = some (.int .i64 ((p + 1 : Nat) : Int)) := (World.cell?_setCell_same _ _ _ c1).trans (by go_num)
        exact ⟨z, rfl, hrng.1, hrng.2, ⟨p + 1, (unhide HP).only ho hcc (by omega)⟩, ho⟩
  · go_enter Try.func32, Try.ntmps32
    go_wp2
    go_region
    all_goals (try go_wp2)
    all_goals go_ret
    all_goals exact ⟨0, rfl, by omega, by omega, ⟨p, (unhide HP).only ((OnlyAt.refl _ _).drewN 1) c1 le⟩, (OnlyAt.refl _ _).drewN 1⟩

theorem below_calls (R : Nat) (a : Option Addr) (len cap : Nat) (zs : List Int) (n : Int) (w : World) (h : Rd w R a len cap zs) (h1 : 1 ≤ n) (h2 : n ≤ 60000) :
    Calls Try.prog 18 #[.pointer (some ⟨R, 0, none⟩), .int .i64 n] w fun e w' => ∃ v : Int, e = .returned (.int .i64 v) ∧ 0 ≤ v ∧ v < n ∧ Rd w' R a len cap zs ∧ OnlyAt ⟨R, 1, none⟩ w w' := by
  have H := hide h
  clear h
  by_cases h3 : n ≤ 1
  · go_enter Try.func18, Try.ntmps18
    go_wp2
    go_ret
    exact ⟨0, rfl, by omega, by omega, unhide H, OnlyAt.refl _ _⟩
  · by_cases h4 : n ≤ 256
    · go_enter Try.func18, Try.ntmps18
      go_wp2_with fail
      refine (next_calls R a len cap zs _ (unhide H)).mono ?_
      rintro e w1 ⟨v, rfl, hv0, hv1, hR1, ho1⟩
      have HR1 := hide hR1
      clear hR1
      go_wp2
      go_ret
      exact ⟨v % n, by first | rfl | (simp), Int.emod_nonneg _ (by omega), Int.emod_lt_of_pos _ (by omega), unhide HR1, ho1⟩
    · go_enter Try.func18, Try.ntmps18
      go_wp2_with fail
      refine (next_calls R a len cap zs _ (unhide H)).mono ?_
      rintro e w1 ⟨v, rfl, hv0, hv1, hR1, ho1⟩
      have HR1 := hide hR1
      clear hR1
      go_wp2_with fail
      refine (next_calls R a len cap zs _ (unhide HR1)).mono ?_
      rintro e w2 ⟨u, rfl, hu0, hu1, hR2, ho2⟩
      have HR2 := hide hR2
      clear hR2
      go_wp2
      go_ret
      exact ⟨(v * 256 + u) % n, by first | rfl | (simp), Int.emod_nonneg _ (by omega), Int.emod_lt_of_pos _ (by omega), unhide HR2, ho1.trans ho2⟩

theorem once_calls (R : Nat) (a : Option Addr) (len cap : Nat) (zs : List Int) (n : Int) (w : World) (h : Rd w R a len cap zs) (h1 : 1 ≤ n) (h2 : n ≤ 60000) :
    Calls Try.prog 14 #[.pointer (some ⟨R, 0, none⟩), .int .i64 n] w fun e w' => ∃ v : Bool, e = .returned (.bool v) ∧ Rd w' R a len cap zs ∧ OnlyAt ⟨R, 1, none⟩ w w' := by
  have H := hide h
  clear h
  go_enter Try.func14, Try.ntmps14
  go_wp2_with fail
  refine (below_calls R a len cap zs n _ (unhide H) h1 h2).mono ?_
  rintro e w1 ⟨v, rfl, hv0, hv1, hR1, ho1⟩
  have HR1 := hide hR1
  clear hR1
  go_wp2
  go_ret
  exact ⟨_, rfl, unhide HR1, ho1⟩

theorem bits_u64_range (op : BinOp) (x y : Int) : 0 ≤ bits op .u64 x y ∧ bits op .u64 x y < 18446744073709551616 := by
  unfold bits
  simp only
  rw [IntKind.wrap_u64]
  omega

end Go.Proofs.Ytldgkpnlplfopaa

/- The drawer's numbers near bounds, and the words and numbers for Rotate. -/
namespace Go.Proofs.Ytldgkpnlplfopaa
open Go.RowKit Plain
set_option linter.unusedVariables false

namespace Plain
theorem near_rules {lo hi v : Int} (h1 : lo ≤ hi) (h2 : -1000000 ≤ lo) (h3 : hi ≤ 10000000000000) (hv0 : 0 ≤ v) (hv1 : v < 18446744073709551616) :
    IntKind.u64.wrap (hi - lo + 1) = hi - lo + 1 ∧ 0 ≤ v / 2 % (hi - lo + 1) ∧ v / 2 % (hi - lo + 1) ≤ hi - lo := by
  refine ⟨by rw [IntKind.wrap_u64]; omega, Int.emod_nonneg _ (by omega), ?_⟩
  have := Int.emod_lt_of_pos (v / 2) (show 0 < hi - lo + 1 by omega)
  omega
end Plain



theorem open_calls (a : Option Addr) (len cap : Nat) (zs : List Int) (w : World) (h : IsRow .u8 w a len cap zs) (hl : len ≤ 1048576) :
    Calls Try.prog 12 #[.slice a len cap] w fun e w' => e = .returned (.pointer (some ⟨w.heap.size, 0, none⟩)) ∧ Rd w' w.heap.size a len cap zs ∧ Below w.heap.size w w' := by
  have H := hide h
  have hap : ∀ x, a = some x → 0 < zs.length → x.block < w.heap.size := by
    intro x hx hz
    subst hx
    rcases h with ⟨h, _⟩ | ⟨y, hy, h1, h2, h3, h4, h5⟩
    · simp at h
    · have hc := lt_of_cell (h4 0 hz)
      have e : y = x := by simpa using hy.symm
      have hb : (y.add 0).block = y.block := by unfold Addr.add; split <;> rfl
      rw [hb, e] at hc
      exact hc
  have HA := hide hap
  clear h hap
  go_enter Try.func12, Try.ntmps12
  go_wp2
  go_ret
  have hb : Below w.heap.size w (w.alloc (.cells #[.slice a len cap, .int .i64 0] 62)) := (Below.refl _ _).alloc (Nat.le_refl _) _
  refine ⟨rfl, ⟨0, ⟨by simp, by simp, by simp, by omega, hl, ?_, unhide HA⟩⟩, hb⟩
  exact (unhide H).only (q := ⟨w.heap.size, 0, none⟩) (OnlyAt.of_below hb) (fun x hx hz => ⟨unhide HA x hx hz, by have := unhide HA x hx hz; simp; omega⟩)



end Go.Proofs.Ytldgkpnlplfopaa

/- The text that DrawSum draws is short. -/
namespace Go.Proofs.Ytldgkpnlplfopaa
open Go.RowKit Plain
set_option linter.unusedVariables false

theorem own_only {w w' : World} {B R : Nat} {v : Value} {xs : List Int} (h : OwnB w B v xs) (ho : OnlyAt ⟨R, 1, none⟩ w w') (hR : R < B) : OwnB w' B v xs := by
  rcases h with ⟨hl, h1 | ⟨g, cap, cur, rfl, hg, hb, hr⟩⟩
  · exact ⟨hl, .inl h1⟩
  · refine ⟨hl, .inr ⟨g, cap, cur, rfl, hg, ?_, hr⟩⟩
    have hlt : g < w.heap.size := by
      rcases Nat.lt_or_ge g w.heap.size with h | h
      · exact h
      · rw [Array.getElem?_eq_none h] at hb; cases hb
    rw [ho.block g hlt (by simp; omega)]
    exact hb

theorem Plain.Rd.onlyB {w w' : World} {R B : Nat} {a : Option Addr} {len cap : Nat} {zs : List Int} (h : Rd w R a len cap zs) (hb : Below B w w') (hR : R < B) : Rd w' R a len cap zs := by
  obtain ⟨p, h⟩ := h
  refine ⟨p, ⟨(hb.cell (p := ⟨R, 0, none⟩) hR).trans h.c0, (hb.cell (p := ⟨R, 1, none⟩) hR).trans h.c1, (hb.frozen (p := ⟨R, 1, none⟩) hR).trans h.fz, h.le, h.small, ?_, h.apart⟩⟩
  rcases h.row with hr | ⟨x, hx, h1, h2, h3, h4, h5⟩
  · exact .inl hr
  · refine .inr ⟨x, hx, h1, h2, h3, fun i hi => ?_, h5⟩
    have hbk : (x.add i).block = x.block := by unfold Addr.add; split <;> rfl
    rw [hb.cell (p := x.add i) (by rw [hbk]; have := h.apart x hx (by omega); omega)]
    exact h4 i hi

end Go.Proofs.Ytldgkpnlplfopaa

/- How far a drawing has come. -/
namespace Go.Proofs.Ytldgkpnlplfopaa
open Go.RowKit Plain
set_option linter.unusedVariables false

namespace Plain
theorem OnlyAt.c {R b i : Nat} {W W' : World} {v : Value} (ho : OnlyAt ⟨R, 1, none⟩ W W') (hc : W.cell? ⟨b, i, none⟩ = some v) (hb : b ≠ R) : W'.cell? ⟨b, i, none⟩ = some v :=
  (ho.cell ⟨b, i, none⟩ (lt_of_cell hc) (fun e => hb (congrArg Addr.block e))).trans hc
theorem OnlyAt.z {R b i : Nat} {W W' : World} (ho : OnlyAt ⟨R, 1, none⟩ W W') (hb : b < W.heap.size) (hf : W.frozen? ⟨b, i, none⟩ = false) : W'.frozen? ⟨b, i, none⟩ = false := (ho.frozen ⟨b, i, none⟩ hb).trans hf
theorem OnlyAt.setNew2 {a : Addr} {u v : World} (h : OnlyAt a u v) {q : Addr} (hq : u.heap.size ≤ q.block) (x : Value) : OnlyAt a u (v.setCell q x) :=
  ⟨h.os, h.tape, h.output, by simpa using h.size, fun k hk hne => (Below.heap_setCell _ _ _ _ (by omega)).trans (h.block k hk hne), fun c hc hne => (World.cell?_setCell_other v q c x (fun e => by subst e; omega)).trans (h.cell c hc hne), fun c hc => by simpa using h.frozen c hc⟩
/-- From w the drawing has come to W. -/
structure DS (w : World) (R : Nat) (a : Option Addr) (len cap : Nat) (zs : List Int) (W : World) : Prop where
  rd : Rd W R a len cap zs
  only : OnlyAt ⟨R, 1, none⟩ w W
theorem DS.start {w : World} {R : Nat} {a : Option Addr} {len cap : Nat} {zs : List Int} (h : Rd w R a len cap zs) : DS w R a len cap zs w := ⟨h, OnlyAt.refl _ _⟩
theorem DS.call {w W W' : World} {R : Nat} {a : Option Addr} {len cap : Nat} {zs : List Int} (h : DS w R a len cap zs W) (h1 : Rd W' R a len cap zs) (h2 : OnlyAt ⟨R, 1, none⟩ W W') : DS w R a len cap zs W' := ⟨h1, h.only.trans h2⟩
theorem DS.below {w W W' : World} {R : Nat} {a : Option Addr} {len cap : Nat} {zs : List Int} (h : DS w R a len cap zs W) (h2 : Below W.heap.size W W') : DS w R a len cap zs W' := ⟨h.rd.below h2, h.only.trans (OnlyAt.of_below h2)⟩
theorem DS.alloc {w W : World} {R : Nat} {a : Option Addr} {len cap : Nat} {zs : List Int} (h : DS w R a len cap zs W) (o : Obj) : DS w R a len cap zs (W.alloc o) := h.below ((Below.refl _ _).alloc (Nat.le_refl _) _)
theorem DS.set {w W : World} {R : Nat} {a : Option Addr} {len cap : Nat} {zs : List Int} (h : DS w R a len cap zs W) {b i : Nat} (hR : R < w.heap.size) (hb : w.heap.size ≤ b) (v : Value) : DS w R a len cap zs (W.setCell ⟨b, i, none⟩ v) :=
  ⟨h.rd.onlyB (B := b) ((Below.refl b W).setCell (Nat.le_refl _) _) (by omega), h.only.setNew2 (q := ⟨b, i, none⟩) hb v⟩
theorem DS.drewN {w W : World} {R : Nat} {a : Option Addr} {len cap : Nat} {zs : List Int} (h : DS w R a len cap zs W) (k : Nat) : DS w R a len cap zs (W.drewN k) :=
  ⟨by obtain ⟨p, hp⟩ := h.rd; exact ⟨p, hp.only ((OnlyAt.refl _ _).drewN k) hp.c1 hp.le⟩, h.only.drewN k⟩
theorem OnlyAt.thenBelow {a : Addr} {u v w : World} {B : Nat} (h : OnlyAt a u v) (hb : Below B v w) (hB : u.heap.size ≤ B) : OnlyAt a u w :=
  ⟨hb.os.trans h.os, hb.tape.trans h.tape, hb.output.trans h.output, Nat.le_trans h.size hb.size, fun k hk hne => (hb.block k (by omega)).trans (h.block k hk hne), fun c hc hne => (hb.cell (by omega)).trans (h.cell c hc hne), fun c hc => (hb.frozen (by omega)).trans (h.frozen c hc)⟩
theorem DS.belowB {w W W' : World} {R B : Nat} {a : Option Addr} {len cap : Nat} {zs : List Int} (h : DS w R a len cap zs W) (hb : Below B W W') (hR : R < B) (hB : w.heap.size ≤ B) : DS w R a len cap zs W' := ⟨h.rd.onlyB hb hR, h.only.thenBelow hb hB⟩
theorem DS.drew {w W : World} {R : Nat} {a : Option Addr} {len cap : Nat} {zs : List Int} (h : DS w R a len cap zs W) : DS w R a len cap zs W.drew := h.drewN 1
end Plain
end Go.Proofs.Ytldgkpnlplfopaa


/- Rows of the call's own, whatever their elements: made, appended to, read. -/
namespace Go.Proofs.Ytldgkpnlplfopaa
open Go.RowKit Plain
set_option linter.unusedVariables false

/-- How values of a type lie in a row's cells, over this program's types. -/
structure Elem (α : Type) where
  E : TypeId
  S : TypeId
  n : Nat
  bytes : Nat
  zero : Value
  enc : α → List Value
  hund : Try.prog.underlying S = some (.slice E)
  hinfo : (Try.prog.info? E).map (fun i => (i.zero, i.size, i.bytes)) = some (some zero, n, bytes)
  hz : zero.cells.size = n
  hn : 0 < n
  hb : bytes ≤ 1000
  hlen : ∀ x, (enc x).length = n
  hone : ∀ x, ∀ u ∈ enc x, u.oneCell' = true

namespace Plain
theorem flat_len {α β : Type} (f : α → List β) (n : Nat) (h : ∀ x, (f x).length = n) (xs : List α) : (xs.flatMap f).length = xs.length * n := by
  induction xs with
  | nil => simp
  | cons x l ih => rw [List.flatMap_cons, List.length_append, ih, h, List.length_cons, Nat.add_mul, Nat.one_mul, Nat.add_comm]
theorem flat_get {α β : Type} (f : α → List β) (n : Nat) (h : ∀ x, (f x).length = n) (xs : List α) (i j : Nat) (hi : i < xs.length) (hj : j < n) : (xs.flatMap f)[i * n + j]? = (f xs[i])[j]? := by
  induction xs generalizing i with
  | nil => simp at hi
  | cons x l ih =>
    cases i with
    | zero => rw [List.flatMap_cons, List.getElem?_append_left (by rw [h]; omega)]; simp
    | succ i =>
      rw [List.flatMap_cons, List.getElem?_append_right (by rw [h, Nat.succ_mul]; omega), h, show (i + 1) * n + j - n = i * n + j from by rw [Nat.succ_mul]; omega]
      simpa using ih i (by simpa using hi)
end Plain

/-- The value v is a slice which the call owns (from block B on), holding xs. -/
def OwnR {α : Type} (e : Elem α) (W : World) (B : Nat) (v : Value) (xs : List α) : Prop := W.ownsRow B e.E e.n v xs.length (xs.flatMap e.enc)

section
variable {α : Type} {e : Elem α} {W w' : World} {B : Nat} {v : Value} {xs : List α}

theorem ownR_nil (e : Elem α) (W : World) (B : Nat) : OwnR e W B (.slice none 0 0) [] := World.ownsRow_nil _ _ _ _
theorem ownR_empty (e : Elem α) (W : World) (B : Nat) (hB : B ≤ W.heap.size) : OwnR e (W.alloc (.cells #[] e.E)) B (.slice (some ⟨W.heap.size, 0, none⟩) 0 0) [] :=
  World.ownsRow_made W #[] 0 hB (by unfold maxLen; omega) (by simp)

theorem OwnR.le (h : OwnR e W B v xs) {B' : Nat} (hB : B' ≤ B) : OwnR e W B' v xs := by
  refine ⟨h.1, ?_⟩
  rcases h.2 with ⟨a, b⟩ | ⟨g, cap, cur, a, b, c⟩
  · exact .inl ⟨a, b⟩
  · exact .inr ⟨g, cap, cur, a, Nat.le_trans hB b, c⟩
theorem OwnR.below {b : Nat} (h : OwnR e W B v xs) (hb : Below b W w') (hbs : ∀ g, v.ownBlock = some g → g < b) : OwnR e w' B v xs := by
  refine ⟨h.1, ?_⟩
  rcases h.2 with ⟨a, c⟩ | ⟨g, cap, cur, rfl, c, d, r⟩
  · exact .inl ⟨a, c⟩
  · exact .inr ⟨g, cap, cur, rfl, c, (hb.block g (hbs g rfl)).trans d, r⟩
theorem OwnR.lt (h : OwnR e W B v xs) : ∀ g, v.ownBlock = some g → g < W.heap.size := fun g hg => (World.ownsRow.lt h g hg).2
theorem OwnR.keep (h : OwnR e W B v xs) (hb : Below W.heap.size W w') : OwnR e w' B v xs := h.below hb h.lt
theorem OwnR.form (h : OwnR e W B v xs) : ∃ a cap, v = .slice a xs.length cap := by
  rcases h.2 with ⟨a, c⟩ | ⟨g, cap, cur, rfl, c, d, r⟩
  · exact ⟨none, 0, by rw [a, c]⟩
  · exact ⟨_, cap, rfl⟩
theorem OwnR.drewN (h : OwnR e W B v xs) (k : Nat) : OwnR e (W.drewN k) B v xs := h
end

theorem appR {α : Type} {e : Elem α} {ops : Array Oper} {rest : List Oper} {o : Oper} {a : Act} {Q : Exit → Act → World → Prop} (hgd : o.guard = none) (s x : Operand)
    (ho : o.op = .call { callee := .builtin .append, args := #[s, x], argTypes := #[e.S, e.S] })
    {w : World} {B : Nat} {v : Value} {xs : List α} (hown : OwnR e w B v xs) (hs : a.eval s = v) (y : α) {cs : Array Value} (hcs : cs.toList = e.enc y)
    (gx : Nat) (hx : a.eval x = .slice (some ⟨gx, 0, none⟩) 1 1) (hgx : gx = w.heap.size) (hlen : xs.length < 100000000) (hB : B ≤ w.heap.size)
    (h : ∀ v' w', OwnR e w' B v' (xs ++ [y]) → Below B w w' → (w.alloc (.cells cs e.E)).grownBy w' v.ownBlock → wpList Try.prog ops Q rest (a.put o.dst v') w') :
    wpList Try.prog ops Q (o :: rest) a (w.alloc (.cells cs e.E)) := by
  subst hgx
  obtain ⟨i0, hi, hz0, hz1, hz2⟩ := info_parts e.hinfo
  have ha := World.ownsRow.alloc hown (.cells cs e.E)
  have hnew : (w.alloc (.cells cs e.E)).heap[w.heap.size]? = some (.cells cs e.E) := (MapKept.heap_alloc w _).1
  have hby := e.hb
  refine wpList_append_own _ hgd s x e.S ho B e.E i0 e.zero e.n e.bytes e.hund hi hz0 hz1 hz2 e.hz e.hn v xs.length (xs.flatMap e.enc) hs ha
    ⟨w.heap.size, 0, none⟩ 1 1 (e.enc y) hx (by rw [e.hlen, Nat.one_mul]) (by rw [← hcs]; exact World.news_of_block hnew) (e.hone y) (by unfold maxLen; omega) ?_ (by simp; omega) ?_
  · exact Nat.le_trans (Nat.mul_le_mul_left _ hby) (by omega)
  · intro v' w' h1 h2 _
    refine h v' w' ?_ (((Below.refl B w).alloc hB _).trans (own_below ha h2 (by simp; omega))) h2
    unfold OwnR
    rw [List.flatMap_append, List.length_append]
    simpa using h1

/-- The slice at a holds xs, in a block that may be written. -/
def RowAt {α : Type} (e : Elem α) (W : World) (a : Option Addr) (xs : List α) : Prop := ∀ i (h : i < xs.length), ∃ g, a = some ⟨g, 0, none⟩ ∧ g < W.heap.size ∧
  ∀ j, j < e.n → W.cell? ⟨g, i * e.n + j, none⟩ = (e.enc xs[i])[j]? ∧ W.frozen? ⟨g, i * e.n + j, none⟩ = false
theorem RowAt.below {α : Type} {e : Elem α} {W W' : World} {a : Option Addr} {xs : List α} (h : RowAt e W a xs) (hb : Below W.heap.size W W') : RowAt e W' a xs := fun i hi => by
  obtain ⟨g, e1, hl, h1⟩ := h i hi
  exact ⟨g, e1, Nat.lt_of_lt_of_le hl hb.size, fun j hj => ⟨(hb.cell (p := ⟨g, i * e.n + j, none⟩) hl).trans (h1 j hj).1, (hb.frozen (p := ⟨g, i * e.n + j, none⟩) hl).trans (h1 j hj).2⟩⟩
theorem OwnR.at {α : Type} {e : Elem α} {W : World} {B : Nat} {a : Option Addr} {n c : Nat} {xs : List α} (h : OwnR e W B (.slice a n c) xs) : RowAt e W a xs := by
  intro i hi
  obtain ⟨a', cap', he⟩ := h.form
  obtain ⟨rfl, rfl, rfl⟩ : a = a' ∧ n = xs.length ∧ c = cap' := by simpa using he
  rcases h.2 with ⟨e1, h0⟩ | ⟨g, cap, cur, e1, hg, hc, _⟩
  · omega
  · obtain ⟨rfl, _, rfl⟩ : a = some ⟨g, 0, none⟩ ∧ xs.length = xs.length ∧ c = cap := by simpa using e1
    have hlt : g < W.heap.size := by
      rcases Nat.lt_or_ge g W.heap.size with h | h
      · exact h
      · rw [Array.getElem?_eq_none h] at hc; cases hc
    refine ⟨g, rfl, hlt, fun j hj => ⟨?_, World.ownsRow.frozenAt h _⟩⟩
    have hin : i * e.n + j < xs.length * e.n := by
      have : (i + 1) * e.n ≤ xs.length * e.n := Nat.mul_le_mul_right _ hi
      rw [Nat.succ_mul] at this
      omega
    rw [World.ownsRow.cellAt h _ hin, flat_get e.enc e.n e.hlen xs i j hi hj]

/-- Texts as elements. -/
def strE : Elem ByteArray where
  E := 9
  S := 24
  n := 1
  bytes := 16
  zero := .string ⟨#[]⟩
  enc := fun s => [.string s]
  hund := Try.underlying24
  hinfo := by kernel_rfl
  hz := rfl
  hn := by decide
  hb := by decide
  hlen := fun _ => rfl
  hone := fun x u hu => by simp at hu; subst hu; rfl
theorem RowAt.str {W : World} {a : Option Addr} {xs : List ByteArray} (h : RowAt strE W a xs) (i : Nat) (hi : i < xs.length) : ∃ g, a = some ⟨g, 0, none⟩ ∧ g < W.heap.size ∧ W.cell? ⟨g, i, none⟩ = some (.string xs[i]) ∧ W.frozen? ⟨g, i, none⟩ = false := by
  obtain ⟨g, e1, hl, h1⟩ := h i hi
  have := h1 0 (by decide)
  rw [show i * strE.n + 0 = i from Nat.mul_one i] at this
  exact ⟨g, e1, hl, this⟩
end Go.Proofs.Ytldgkpnlplfopaa


/- A row that is owned, behind a cell that is written elsewhere. -/
namespace Go.Proofs.Ytldgkpnlplfopaa
open Go.RowKit Plain
set_option linter.unusedVariables false

theorem OwnR.onlN {α : Type} {e : Elem α} {W w' : World} {B : Nat} {v : Value} {xs : List α} {q : Addr} (h : OwnR e W B v xs) (ho : OnlyAt q W w') (hq : q.block < B) : OwnR e w' B v xs := by
  have hlt := h.lt
  refine ⟨h.1, ?_⟩
  rcases h.2 with ⟨a, c⟩ | ⟨g, cap, cur, rfl, c, d, r⟩
  · exact .inl ⟨a, c⟩
  · exact .inr ⟨g, cap, cur, rfl, c, (ho.block g (hlt g rfl) (by omega)).trans d, r⟩
end Go.Proofs.Ytldgkpnlplfopaa


/- More plain facts on numbers and texts in bytes. -/
namespace Go.Proofs.Ytldgkpnlplfopaa.Plain
open Go Go.RowKit
set_option linter.unusedVariables false

theorem putL_length (f m : Nat) : (putL f m).length ≤ f + 1 := by
  induction f generalizing m with
  | zero => simp [putL]
  | succ f ih =>
    unfold putL
    split
    · simp
    · have := ih (m / 128); simp; omega

theorem putS_size (n : Int) : (putS n).size ≤ 6 := by
  unfold putS
  split
  · rw [strOfNums_size]; exact putL_length 5 _
  · simp

end Go.Proofs.Ytldgkpnlplfopaa.Plain


/- Blobs that are drawn are short; bytes that are made. -/
namespace Go.Proofs.Ytldgkpnlplfopaa
open Go.RowKit Plain
set_option linter.unusedVariables false

namespace Plain
def dataL : List ByteArray := [⟨#[]⟩, ⟨#[97]⟩, ⟨#[98]⟩, ⟨#[97, 98, 99]⟩, ⟨#[108, 97, 121, 101, 114]⟩, ⟨#[99, 111, 110, 102, 105, 103]⟩, ⟨#[122, 122, 57]⟩, ⟨#[48]⟩]
def dataV : Array Value := (dataL.map Value.string).toArray
theorem dataV_get (k : Nat) (h : k < 8) : dataV[k]? = some (.string (dataL.getD k ByteArray.empty)) := by
  match k, h with
  | 0, _ => rfl
  | 1, _ => rfl
  | 2, _ => rfl
  | 3, _ => rfl
  | 4, _ => rfl
  | 5, _ => rfl
  | 6, _ => rfl
  | 7, _ => rfl
theorem data_size : ∀ k : Fin 8, (dataL.getD k.val ByteArray.empty).size ≤ 6 := by decide +kernel
def hiV : Array Value := #[.int .i64 200, .int .i64 20000, .int .i64 1000000000000]
theorem hiV_get (k : Nat) (h : k < 3) : ∃ x : Int, hiV[k]? = some (.int .i64 x) ∧ 0 ≤ x ∧ x ≤ 1000000000000 := by
  match k, h with
  | 0, _ => exact ⟨_, rfl, by omega, by omega⟩
  | 1, _ => exact ⟨_, rfl, by omega, by omega⟩
  | 2, _ => exact ⟨_, rfl, by omega, by omega⟩
end Plain

theorem data_calls (R : Nat) (a : Option Addr) (len cap : Nat) (zs : List Int) (w : World) (h : Rd w R a len cap zs) :
    Calls Try.prog 47 #[.pointer (some ⟨R, 0, none⟩)] w fun e w' => ∃ s : ByteArray, e = .returned (.string s) ∧ s.size ≤ 6 ∧ Rd w' R a len cap zs ∧ OnlyAt ⟨R, 1, none⟩ w w' := by
  have hlt := h.lt
  have hb1 : Below w.heap.size w (w.alloc (.cells dataV 9)) := (Below.refl _ _).alloc (Nat.le_refl _) _
  have H1 := hide (h.below hb1)
  clear h
  go_enter Try.func47, Try.ntmps47
  go_wp2_with fail
  refine (below_calls R a len cap zs 8 _ (unhide H1) (by omega) (by omega)).mono ?_
  rintro e w2 ⟨v, rfl, hv0, hv1, hR2, ho2⟩
  obtain ⟨K, rfl⟩ := Int.eq_ofNat_of_zero_le hv0
  have hK : K < 8 := by omega
  have hc : w2.cell? ⟨w.heap.size, K, none⟩ = some (.string (dataL.getD K ByteArray.empty)) := by
    rw [ho2.cell ⟨w.heap.size, K, none⟩ (by simp) (by simp)]
    exact (cell_of_row _ _ K dataV _ _ (show (w.alloc _).heap[w.heap.size]? = _ from (MapKept.heap_alloc w _).1)).trans (dataV_get K hK)
  have hs := data_size ⟨K, hK⟩
  simp only at hs
  generalize dataL.getD K ByteArray.empty = s at hc hs
  have HR2 := hide hR2
  have hoo := hide ((OnlyAt.of_below (a := ⟨R, 1, none⟩) hb1).trans ho2)
  clear hR2 ho2 hb1
  go_wp2_with fail
  go_ret
  exact ⟨s, rfl, hs, unhide HR2, unhide hoo⟩

def zerosA (n : Nat) : Array Value := madeCells #[.int .u8 0] (n * 1)
theorem zerosA_get (n i : Nat) (h : i < n) : (zerosA n)[i]? = some (.int .u8 0) := by
  simp [zerosA, madeCells, h, Nat.mod_one]
theorem make_bytes (n : Nat) (w : World) (hn : n ≤ 30000) : (Instr.makeSlice 22 (.int .i64 n) (.int .i64 n)).run Try.prog w = .ok (.slice (some ⟨w.heap.size, 0, none⟩) n n) (w.alloc (.cells (zerosA n) 5)) := by
  obtain ⟨i0, hi, hz0, hz1, hz2⟩ := info_parts info5
  have := run_make w 22 5 i0 (.int .u8 0) Try.underlying22 hi hz0 .i64 .i64 n n (by omega) (by omega) (by rw [hz2]; omega) (by omega)
  rw [hz1] at this
  exact this
end Go.Proofs.Ytldgkpnlplfopaa

