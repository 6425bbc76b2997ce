/- Texts of one kind, put together. -/
import Derived.Test.YtldgkpnlplfopaaGreatDoorMem
import Derived.Test.YtldgkpnlplfopaaGreatDoorGen
import Derived.Test.YtldgkpnlplfopaaGreatDoorPlain
import Derived.Lib.SlBytesConst
import Derived.Laws.MakeOwn
import Derived.Test.YtldgkpnlplfopaaGreatDoorShaP
import Derived.Test.YtldgkpnlplfopaaGreatDoorHzA
import Derived.Test.YtldgkpnlplfopaaGreatDoorShaG
import Derived.Test.YtldgkpnlplfopaaGreatDoorRzE
import Derived.Test.YtldgkpnlplfopaaGreatDoorAppG

/- The specification's drawer: whatever it draws is within its bounds, and it moves nothing but its own place. -/
namespace Go.Proofs.YtldgkpnlplfopaaGreatDoor
open Go.RowKit Plain
set_option linter.unusedVariables false

namespace Plain
/-- A drawer lies in block R: its bytes are the slice (a, len, cap) that holds zs, its place is p. -/
structure RdAt (w : World) (R : Nat) (a : Option Addr) (len cap : Nat) (zs : List Int) (p : Nat) : Prop where
  c0 : w.cell? ⟨R, 0, none⟩ = some (.slice a len cap)
  c1 : w.cell? ⟨R, 1, none⟩ = some (.int .i64 p)
  fz : w.frozen? ⟨R, 1, none⟩ = false
  le : p ≤ len
  small : len ≤ 1048576
  row : IsRow .u8 w a len cap zs
  apart : ∀ x, a = some x → 0 < zs.length → x.block < R

def Rd (w : World) (R : Nat) (a : Option Addr) (len cap : Nat) (zs : List Int) : Prop := ∃ p, RdAt w R a len cap zs p

theorem IsRow.only {w w' : World} {k : IntKind} {a : Option Addr} {len cap : Nat} {zs : List Int} {q : Addr} (h : IsRow k w a len cap zs) (ho : OnlyAt q w w') (hq : ∀ x, a = some x → 0 < zs.length → x.block < w.heap.size ∧ x.block ≠ q.block) : IsRow k w' a len cap zs := by
  rcases h with h | ⟨x, hx, h1, h2, h3, h4, h5⟩
  · exact .inl h
  · refine .inr ⟨x, hx, h1, h2, h3, fun i hi => ?_, h5⟩
    have hb : (x.add i).block = x.block := by unfold Addr.add; split <;> rfl
    have := hq x hx (by omega)
    rw [ho.cell (x.add i) (by rw [hb]; exact this.1) (fun e => this.2 (by rw [← hb, e]))]
    exact h4 i hi

theorem RdAt.only {w w' : World} {R : Nat} {a : Option Addr} {len cap : Nat} {zs : List Int} {p p' : Nat} (h : RdAt w R a len cap zs p) (ho : OnlyAt ⟨R, 1, none⟩ w w') (hc : w'.cell? ⟨R, 1, none⟩ = some (.int .i64 p')) (hp : p' ≤ len) : RdAt w' R a len cap zs p' := by
  have hR := lt_of_cell h.c0
  exact ⟨(ho.cell ⟨R, 0, none⟩ hR (by simp)).trans h.c0, hc, (ho.frozen ⟨R, 1, none⟩ hR).trans h.fz, hp, h.small,
    h.row.only ho (fun x hx hz => ⟨by have := h.apart x hx hz; simp at hR; omega, by have := h.apart x hx hz; simp; omega⟩), h.apart⟩

theorem Rd.below {w w' : World} {R : Nat} {a : Option Addr} {len cap : Nat} {zs : List Int} (h : Rd w R a len cap zs) (hb : Below w.heap.size w w') : Rd w' R a len cap zs := by
  obtain ⟨p, h⟩ := h
  have ho : OnlyAt ⟨R, 1, none⟩ w w' := OnlyAt.of_below hb
  exact ⟨p, h.only ho ((hb.cell (p := ⟨R, 1, none⟩) (lt_of_cell h.c1)).trans h.c1) h.le⟩

theorem Rd.lt {w : World} {R : Nat} {a : Option Addr} {len cap : Nat} {zs : List Int} (h : Rd w R a len cap zs) : R < w.heap.size := by
  obtain ⟨p, h⟩ := h; exact lt_of_cell h.c0
end Plain

set_option maxHeartbeats 1000000 in
theorem next_calls (R : Nat) (a : Option Addr) (len cap : Nat) (zs : List Int) (w : World) (h : Rd w R a len cap zs) :
    Calls Tryz.prog 33 #[.pointer (some ⟨R, 0, none⟩)] w fun e w' => ∃ v : Int, e = .returned (.int .i64 v) ∧ 0 ≤ v ∧ v ≤ 255 ∧ Rd w' R a len cap zs ∧ OnlyAt ⟨R, 1, none⟩ w w' := by
  obtain ⟨p, hp⟩ := h
  have HP := hide hp
  obtain ⟨c0, c1, fz, le, small, row, apart⟩ := hp
  clear apart
  by_cases hlt : p < len
  · rcases row with ⟨_, h, _⟩ | ⟨x, rfl, h1, h2, h3, h4, h5⟩
    · omega
    · obtain ⟨b, off, spot⟩ := x
      have hc := h4 p (by omega)
      have hspot : spot = none := by simpa [Addr.add] using World.cell?_spot (h4 0 (by omega))
      subst hspot
      have hcp : w.cell? ⟨b, off + p, none⟩ = some (.int .u8 (zs.getD p 0)) := by
        rw [show (⟨b, off, none⟩ : Addr).add p = ⟨b, off + p, none⟩ from by unfold Addr.add; split <;> simp_all] at hc
        exact hc
      have hap : b ≠ R := by have := (unhide HP).apart _ rfl (by omega); simp at this; omega
      have hrng := Go.range_u8 h5 p
      have hzz : zs.getD p 0 = zs[p]?.getD 0 := by simp [List.getD]
      rw [hzz] at hcp
      obtain ⟨z, hz⟩ : ∃ z, zs[p]?.getD 0 = z := ⟨_, rfl⟩
      rw [hz] at hcp hrng
      clear h4 h5 hc hzz hz
      go_enter Tryz.func33, Tryz.ntmps33
      go_wp2
      go_region
      all_goals (try go_wp2)
      go_region
      all_goals (try go_wp2)
      all_goals go_ret
      all_goals
        have ho : OnlyAt ⟨R, 1, none⟩ w ((w.setCell ⟨R, 1, none⟩ (.int .i64 ((p : Int) + 1))).drewN 2) := (OnlyAt.setCell _ _ _).drewN 2
        have hcc : ((w.setCell ⟨R, 1, none⟩ (.int .i64 ((p : Int) + 1))).drewN 2).cell? ⟨R, 1, none⟩ = some (.int .i64 ((p + 1 : Nat) : Int)) := (World.cell?_setCell_same _ _ _ c1).trans (by go_num)
        exact ⟨z, rfl, hrng.1, hrng.2, ⟨p + 1, (unhide HP).only ho hcc (by omega)⟩, ho⟩
  · go_enter Tryz.func33, Tryz.ntmps33
    go_wp2
    go_region
    all_goals (try go_wp2)
    all_goals go_ret
    all_goals exact ⟨0, rfl, by omega, by omega, ⟨p, (unhide HP).only ((OnlyAt.refl _ _).drewN 1) c1 le⟩, (OnlyAt.refl _ _).drewN 1⟩

theorem below_calls (R : Nat) (a : Option Addr) (len cap : Nat) (zs : List Int) (n : Int) (w : World) (h : Rd w R a len cap zs) (h1 : 1 ≤ n) (h2 : n ≤ 60000) :
    Calls Tryz.prog 15 #[.pointer (some ⟨R, 0, none⟩), .int .i64 n] w fun e w' => ∃ v : Int, e = .returned (.int .i64 v) ∧ 0 ≤ v ∧ v < n ∧ Rd w' R a len cap zs ∧ OnlyAt ⟨R, 1, none⟩ w w' := by
  have H := hide h
  clear h
  by_cases h3 : n ≤ 1
  · go_enter Tryz.func15, Tryz.ntmps15
    go_wp2
    go_ret
    exact ⟨0, rfl, by omega, by omega, unhide H, OnlyAt.refl _ _⟩
  · by_cases h4 : n ≤ 256
    · go_enter Tryz.func15, Tryz.ntmps15
      go_wp2_with fail
      refine (next_calls R a len cap zs _ (unhide H)).mono ?_
      rintro e w1 ⟨v, rfl, hv0, hv1, hR1, ho1⟩
      have HR1 := hide hR1
      clear hR1
      go_wp2
      go_ret
      exact ⟨v % n, by first | rfl | (simp), Int.emod_nonneg _ (by omega), Int.emod_lt_of_pos _ (by omega), unhide HR1, ho1⟩
    · go_enter Tryz.func15, Tryz.ntmps15
      go_wp2_with fail
      refine (next_calls R a len cap zs _ (unhide H)).mono ?_
      rintro e w1 ⟨v, rfl, hv0, hv1, hR1, ho1⟩
      have HR1 := hide hR1
      clear hR1
      go_wp2_with fail
      refine (next_calls R a len cap zs _ (unhide HR1)).mono ?_
      rintro e w2 ⟨u, rfl, hu0, hu1, hR2, ho2⟩
      have HR2 := hide hR2
      clear hR2
      go_wp2
      go_ret
      exact ⟨(v * 256 + u) % n, by first | rfl | (simp), Int.emod_nonneg _ (by omega), Int.emod_lt_of_pos _ (by omega), unhide HR2, ho1.trans ho2⟩

theorem once_calls (R : Nat) (a : Option Addr) (len cap : Nat) (zs : List Int) (n : Int) (w : World) (h : Rd w R a len cap zs) (h1 : 1 ≤ n) (h2 : n ≤ 60000) :
    Calls Tryz.prog 14 #[.pointer (some ⟨R, 0, none⟩), .int .i64 n] w fun e w' => ∃ v : Bool, e = .returned (.bool v) ∧ Rd w' R a len cap zs ∧ OnlyAt ⟨R, 1, none⟩ w w' := by
  have H := hide h
  clear h
  go_enter Tryz.func14, Tryz.ntmps14
  go_wp2_with fail
  refine (below_calls R a len cap zs n _ (unhide H) h1 h2).mono ?_
  rintro e w1 ⟨v, rfl, hv0, hv1, hR1, ho1⟩
  have HR1 := hide hR1
  clear hR1
  go_wp2
  go_ret
  exact ⟨_, rfl, unhide HR1, ho1⟩

theorem bits_u64_range (op : BinOp) (x y : Int) : 0 ≤ bits op .u64 x y ∧ bits op .u64 x y < 18446744073709551616 := by
  unfold bits
  simp only
  rw [IntKind.wrap_u64]
  omega

end Go.Proofs.YtldgkpnlplfopaaGreatDoor

/- The drawer's numbers near bounds, and the words and numbers for Rotate. -/
namespace Go.Proofs.YtldgkpnlplfopaaGreatDoor
open Go.RowKit Plain
set_option linter.unusedVariables false

namespace Plain
theorem near_rules {lo hi v : Int} (h1 : lo ≤ hi) (h2 : -1000000 ≤ lo) (h3 : hi ≤ 10000000000000) (hv0 : 0 ≤ v) (hv1 : v < 18446744073709551616) :
    IntKind.u64.wrap (hi - lo + 1) = hi - lo + 1 ∧ 0 ≤ v / 2 % (hi - lo + 1) ∧ v / 2 % (hi - lo + 1) ≤ hi - lo := by
  refine ⟨by rw [IntKind.wrap_u64]; omega, Int.emod_nonneg _ (by omega), ?_⟩
  have := Int.emod_lt_of_pos (v / 2) (show 0 < hi - lo + 1 by omega)
  omega
end Plain



theorem open_calls (a : Option Addr) (len cap : Nat) (zs : List Int) (w : World) (h : IsRow .u8 w a len cap zs) (hl : len ≤ 1048576) :
    Calls Tryz.prog 12 #[.slice a len cap] w fun e w' => e = .returned (.pointer (some ⟨w.heap.size, 0, none⟩)) ∧ Rd w' w.heap.size a len cap zs ∧ Below w.heap.size w w' := by
  have H := hide h
  have hap : ∀ x, a = some x → 0 < zs.length → x.block < w.heap.size := by
    intro x hx hz
    subst hx
    rcases h with ⟨h, _⟩ | ⟨y, hy, h1, h2, h3, h4, h5⟩
    · simp at h
    · have hc := lt_of_cell (h4 0 hz)
      have e : y = x := by simpa using hy.symm
      have hb : (y.add 0).block = y.block := by unfold Addr.add; split <;> rfl
      rw [hb, e] at hc
      exact hc
  have HA := hide hap
  clear h hap
  go_enter Tryz.func12, Tryz.ntmps12
  go_wp2
  go_ret
  have hb : Below w.heap.size w (w.alloc (.cells #[.slice a len cap, .int .i64 0] 65)) := (Below.refl _ _).alloc (Nat.le_refl _) _
  refine ⟨rfl, ⟨0, ⟨by simp, by simp, by simp, by omega, hl, ?_, unhide HA⟩⟩, hb⟩
  exact (unhide H).only (q := ⟨w.heap.size, 0, none⟩) (OnlyAt.of_below hb) (fun x hx hz => ⟨unhide HA x hx hz, by have := unhide HA x hx hz; simp; omega⟩)



end Go.Proofs.YtldgkpnlplfopaaGreatDoor

/- The text that DrawSum draws is short. -/
namespace Go.Proofs.YtldgkpnlplfopaaGreatDoor
open Go.RowKit Plain
set_option linter.unusedVariables false

theorem own_only {w w' : World} {B R : Nat} {v : Value} {xs : List Int} (h : OwnB w B v xs) (ho : OnlyAt ⟨R, 1, none⟩ w w') (hR : R < B) : OwnB w' B v xs := by
  rcases h with ⟨hl, h1 | ⟨g, cap, cur, rfl, hg, hb, hr⟩⟩
  · exact ⟨hl, .inl h1⟩
  · refine ⟨hl, .inr ⟨g, cap, cur, rfl, hg, ?_, hr⟩⟩
    have hlt : g < w.heap.size := by
      rcases Nat.lt_or_ge g w.heap.size with h | h
      · exact h
      · rw [Array.getElem?_eq_none h] at hb; cases hb
    rw [ho.block g hlt (by simp; omega)]
    exact hb

theorem Plain.Rd.onlyB {w w' : World} {R B : Nat} {a : Option Addr} {len cap : Nat} {zs : List Int} (h : Rd w R a len cap zs) (hb : Below B w w') (hR : R < B) : Rd w' R a len cap zs := by
  obtain ⟨p, h⟩ := h
  refine ⟨p, ⟨(hb.cell (p := ⟨R, 0, none⟩) hR).trans h.c0, (hb.cell (p := ⟨R, 1, none⟩) hR).trans h.c1, (hb.frozen (p := ⟨R, 1, none⟩) hR).trans h.fz, h.le, h.small, ?_, h.apart⟩⟩
  rcases h.row with hr | ⟨x, hx, h1, h2, h3, h4, h5⟩
  · exact .inl hr
  · refine .inr ⟨x, hx, h1, h2, h3, fun i hi => ?_, h5⟩
    have hbk : (x.add i).block = x.block := by unfold Addr.add; split <;> rfl
    rw [hb.cell (p := x.add i) (by rw [hbk]; have := h.apart x hx (by omega); omega)]
    exact h4 i hi

end Go.Proofs.YtldgkpnlplfopaaGreatDoor

/- How far a drawing has come. -/
namespace Go.Proofs.YtldgkpnlplfopaaGreatDoor
open Go.RowKit Plain
set_option linter.unusedVariables false

namespace Plain
theorem OnlyAt.c {R b i : Nat} {W W' : World} {v : Value} (ho : OnlyAt ⟨R, 1, none⟩ W W') (hc : W.cell? ⟨b, i, none⟩ = some v) (hb : b ≠ R) : W'.cell? ⟨b, i, none⟩ = some v :=
  (ho.cell ⟨b, i, none⟩ (lt_of_cell hc) (fun e => hb (congrArg Addr.block e))).trans hc
theorem OnlyAt.z {R b i : Nat} {W W' : World} (ho : OnlyAt ⟨R, 1, none⟩ W W') (hb : b < W.heap.size) (hf : W.frozen? ⟨b, i, none⟩ = false) : W'.frozen? ⟨b, i, none⟩ = false := (ho.frozen ⟨b, i, none⟩ hb).trans hf
theorem OnlyAt.setNew2 {a : Addr} {u v : World} (h : OnlyAt a u v) {q : Addr} (hq : u.heap.size ≤ q.block) (x : Value) : OnlyAt a u (v.setCell q x) :=
  ⟨h.os, h.tape, h.output, by simpa using h.size, fun k hk hne => (Below.heap_setCell _ _ _ _ (by omega)).trans (h.block k hk hne), fun c hc hne => (World.cell?_setCell_other v q c x (fun e => by subst e; omega)).trans (h.cell c hc hne), fun c hc => by simpa using h.frozen c hc⟩
/-- From w the drawing has come to W. -/
structure DS (w : World) (R : Nat) (a : Option Addr) (len cap : Nat) (zs : List Int) (W : World) : Prop where
  rd : Rd W R a len cap zs
  only : OnlyAt ⟨R, 1, none⟩ w W
theorem DS.start {w : World} {R : Nat} {a : Option Addr} {len cap : Nat} {zs : List Int} (h : Rd w R a len cap zs) : DS w R a len cap zs w := ⟨h, OnlyAt.refl _ _⟩
theorem DS.call {w W W' : World} {R : Nat} {a : Option Addr} {len cap : Nat} {zs : List Int} (h : DS w R a len cap zs W) (h1 : Rd W' R a len cap zs) (h2 : OnlyAt ⟨R, 1, none⟩ W W') : DS w R a len cap zs W' := ⟨h1, h.only.trans h2⟩
theorem DS.below {w W W' : World} {R : Nat} {a : Option Addr} {len cap : Nat} {zs : List Int} (h : DS w R a len cap zs W) (h2 : Below W.heap.size W W') : DS w R a len cap zs W' := ⟨h.rd.below h2, h.only.trans (OnlyAt.of_below h2)⟩
theorem DS.alloc {w W : World} {R : Nat} {a : Option Addr} {len cap : Nat} {zs : List Int} (h : DS w R a len cap zs W) (o : Obj) : DS w R a len cap zs (W.alloc o) := h.below ((Below.refl _ _).alloc (Nat.le_refl _) _)
theorem DS.set {w W : World} {R : Nat} {a : Option Addr} {len cap : Nat} {zs : List Int} (h : DS w R a len cap zs W) {b i : Nat} (hR : R < w.heap.size) (hb : w.heap.size ≤ b) (v : Value) : DS w R a len cap zs (W.setCell ⟨b, i, none⟩ v) :=
  ⟨h.rd.onlyB (B := b) ((Below.refl b W).setCell (Nat.le_refl _) _) (by omega), h.only.setNew2 (q := ⟨b, i, none⟩) hb v⟩
theorem DS.drewN {w W : World} {R : Nat} {a : Option Addr} {len cap : Nat} {zs : List Int} (h : DS w R a len cap zs W) (k : Nat) : DS w R a len cap zs (W.drewN k) :=
  ⟨by obtain ⟨p, hp⟩ := h.rd; exact ⟨p, hp.only ((OnlyAt.refl _ _).drewN k) hp.c1 hp.le⟩, h.only.drewN k⟩
theorem OnlyAt.thenBelow {a : Addr} {u v w : World} {B : Nat} (h : OnlyAt a u v) (hb : Below B v w) (hB : u.heap.size ≤ B) : OnlyAt a u w :=
  ⟨hb.os.trans h.os, hb.tape.trans h.tape, hb.output.trans h.output, Nat.le_trans h.size hb.size, fun k hk hne => (hb.block k (by omega)).trans (h.block k hk hne), fun c hc hne => (hb.cell (by omega)).trans (h.cell c hc hne), fun c hc => (hb.frozen (by omega)).trans (h.frozen c hc)⟩
theorem DS.belowB {w W W' : World} {R B : Nat} {a : Option Addr} {len cap : Nat} {zs : List Int} (h : DS w R a len cap zs W) (hb : Below B W W') (hR : R < B) (hB : w.heap.size ≤ B) : DS w R a len cap zs W' := ⟨h.rd.onlyB hb hR, h.only.thenBelow hb hB⟩
theorem DS.drew {w W : World} {R : Nat} {a : Option Addr} {len cap : Nat} {zs : List Int} (h : DS w R a len cap zs W) : DS w R a len cap zs W.drew := h.drewN 1
end Plain
end Go.Proofs.YtldgkpnlplfopaaGreatDoor


/- A row that is owned, behind a cell that is written elsewhere. -/
namespace Go.Proofs.YtldgkpnlplfopaaGreatDoor
open Go.RowKit Plain
set_option linter.unusedVariables false

theorem OwnR.onlN {α : Type} {e : Elem α} {W w' : World} {B : Nat} {v : Value} {xs : List α} {q : Addr} (h : OwnR e W B v xs) (ho : OnlyAt q W w') (hq : q.block < B) : OwnR e w' B v xs := by
  have hlt := h.lt
  refine ⟨h.1, ?_⟩
  rcases h.2 with ⟨a, c⟩ | ⟨g, cap, cur, rfl, c, d, r⟩
  · exact .inl ⟨a, c⟩
  · exact .inr ⟨g, cap, cur, rfl, c, (ho.block g (hlt g rfl) (by omega)).trans d, r⟩
end Go.Proofs.YtldgkpnlplfopaaGreatDoor


/- More plain facts on numbers and texts in bytes. -/
namespace Go.Proofs.YtldgkpnlplfopaaGreatDoor.Plain
open Go Go.RowKit
set_option linter.unusedVariables false

theorem putL_length (f m : Nat) : (putL f m).length ≤ f + 1 := by
  induction f generalizing m with
  | zero => simp [putL]
  | succ f ih =>
    unfold putL
    split
    · simp
    · have := ih (m / 128); simp; omega

theorem putS_size (n : Int) : (putS n).size ≤ 6 := by
  unfold putS
  split
  · rw [strOfNums_size]; exact putL_length 5 _
  · simp

end Go.Proofs.YtldgkpnlplfopaaGreatDoor.Plain


/- Blobs that are drawn are short; bytes that are made. -/
namespace Go.Proofs.YtldgkpnlplfopaaGreatDoor
open Go.RowKit Plain
set_option linter.unusedVariables false

namespace Plain
def dataL : List ByteArray := [⟨#[]⟩, ⟨#[97]⟩, ⟨#[98]⟩, ⟨#[97, 98, 99]⟩, ⟨#[108, 97, 121, 101, 114]⟩, ⟨#[99, 111, 110, 102, 105, 103]⟩, ⟨#[122, 122, 57]⟩, ⟨#[48]⟩]
def dataV : Array Value := (dataL.map Value.string).toArray
theorem dataV_get (k : Nat) (h : k < 8) : dataV[k]? = some (.string (dataL.getD k ByteArray.empty)) := by
  match k, h with
  | 0, _ => rfl
  | 1, _ => rfl
  | 2, _ => rfl
  | 3, _ => rfl
  | 4, _ => rfl
  | 5, _ => rfl
  | 6, _ => rfl
  | 7, _ => rfl
theorem data_size : ∀ k : Fin 8, (dataL.getD k.val ByteArray.empty).size ≤ 6 := by decide +kernel
def hiV : Array Value := #[.int .i64 200, .int .i64 20000, .int .i64 1000000000000]
theorem hiV_get (k : Nat) (h : k < 3) : ∃ x : Int, hiV[k]? = some (.int .i64 x) ∧ 0 ≤ x ∧ x ≤ 1000000000000 := by
  match k, h with
  | 0, _ => exact ⟨_, rfl, by omega, by omega⟩
  | 1, _ => exact ⟨_, rfl, by omega, by omega⟩
  | 2, _ => exact ⟨_, rfl, by omega, by omega⟩
end Plain



def zerosA (n : Nat) : Array Value := madeCells #[.int .u8 0] (n * 1)
theorem zerosA_get (n i : Nat) (h : i < n) : (zerosA n)[i]? = some (.int .u8 0) := by
  simp [zerosA, madeCells, h, Nat.mod_one]
theorem make_bytes (n : Nat) (w : World) (hn : n ≤ 30000) : (Instr.makeSlice 22 (.int .i64 n) (.int .i64 n)).run Tryz.prog w = .ok (.slice (some ⟨w.heap.size, 0, none⟩) n n) (w.alloc (.cells (zerosA n) 5)) := by
  obtain ⟨i0, hi, hz0, hz1, hz2⟩ := info_parts info5
  have := run_make w 22 5 i0 (.int .u8 0) Tryz.underlying22 hi hz0 .i64 .i64 n n (by omega) (by omega) (by rw [hz2]; omega) (by omega)
  rw [hz1] at this
  exact this
end Go.Proofs.YtldgkpnlplfopaaGreatDoor


/- What is drawn for numbers and texts is short; what is drawn as a number is one. -/
namespace Go.Proofs.YtldgkpnlplfopaaGreatDoor
open Go.RowKit Plain
set_option linter.unusedVariables false



end Go.Proofs.YtldgkpnlplfopaaGreatDoor

/- What is drawn for references: short texts. -/
namespace Go.Proofs.YtldgkpnlplfopaaGreatDoor
open Go.RowKit Plain
set_option linter.unusedVariables false

namespace Plain
def repoL : List ByteArray := [⟨#[97, 112, 112]⟩, ⟨#[97, 47, 98]⟩, ⟨#[108, 105, 98, 47, 119, 101, 98, 45, 49]⟩, ⟨#[120, 46, 121, 47, 122, 95, 95, 113]⟩, ⟨#[109, 45, 45, 110]⟩, ⟨#[97, 112, 112]⟩]
def repoV : Array Value := (repoL.map Value.string).toArray
theorem repoV_get (k : Nat) (h : k < 6) : repoV[k]? = some (.string (repoL.getD k ByteArray.empty)) := by
  match k, h with
  | 0, _ => rfl
  | 1, _ => rfl
  | 2, _ => rfl
  | 3, _ => rfl
  | 4, _ => rfl
  | 5, _ => rfl
theorem repo_size : ∀ k : Fin 6, (repoL.getD k.val ByteArray.empty).size ≤ 9 := by decide +kernel

def taggL : List ByteArray := [⟨#[118, 49]⟩, ⟨#[108, 97, 116, 101, 115, 116]⟩, ⟨#[86, 50, 46, 48]⟩, ⟨#[95, 120]⟩, ⟨#[118, 49]⟩, ⟨#[49, 45, 97]⟩]
def taggV : Array Value := (taggL.map Value.string).toArray
theorem taggV_get (k : Nat) (h : k < 6) : taggV[k]? = some (.string (taggL.getD k ByteArray.empty)) := by
  match k, h with
  | 0, _ => rfl
  | 1, _ => rfl
  | 2, _ => rfl
  | 3, _ => rfl
  | 4, _ => rfl
  | 5, _ => rfl
theorem tagg_size : ∀ k : Fin 6, (taggL.getD k.val ByteArray.empty).size ≤ 6 := by decide +kernel
end Plain







end Go.Proofs.YtldgkpnlplfopaaGreatDoor

/- Sets of digests that are drawn. -/
namespace Go.Proofs.YtldgkpnlplfopaaGreatDoor
open Go.RowKit Plain
set_option linter.unusedVariables false

namespace Plain
def eigL : List ByteArray := [⟨#[97]⟩, ⟨#[98]⟩, ⟨#[99]⟩, ⟨#[100]⟩, ⟨#[101]⟩, ⟨#[102]⟩, ⟨#[103]⟩, ⟨#[104]⟩]
def eigV : Array Value := #[.string ⟨#[97]⟩, .string ⟨#[98]⟩, .string ⟨#[99]⟩, .string ⟨#[100]⟩, .string ⟨#[101]⟩, .string ⟨#[102]⟩, .string ⟨#[103]⟩, .string ⟨#[104]⟩]
theorem eigV_get : ∀ (K : Nat), K < 8 → eigV[K]? = some (.string (eigL.getD K ByteArray.empty)) := by
  intro K h
  match K, h with
  | 0, _ => rfl
  | 1, _ => rfl
  | 2, _ => rfl
  | 3, _ => rfl
  | 4, _ => rfl
  | 5, _ => rfl
  | 6, _ => rfl
  | 7, _ => rfl
theorem eig_size : ∀ (K : Nat), K < 8 → (eigL.getD K ByteArray.empty).size = 1 := by
  intro K h
  match K, h with
  | 0, _ => rfl
  | 1, _ => rfl
  | 2, _ => rfl
  | 3, _ => rfl
  | 4, _ => rfl
  | 5, _ => rfl
  | 6, _ => rfl
  | 7, _ => rfl
/-- Texts that are all among others and each once are no more. -/
theorem nodup_len : ∀ (l m : List ByteArray), l.Nodup → (∀ x ∈ l, x ∈ m) → l.length ≤ m.length
  | [], m, _, _ => by simp
  | a :: l, m, hn, h => by
    have ha := h a (by simp)
    obtain ⟨m1, m2, rfl⟩ := List.append_of_mem ha
    rw [List.nodup_cons] at hn
    have := nodup_len l (m1 ++ m2) hn.2 fun x hx => by
      have h1 := h x (List.mem_cons_of_mem _ hx)
      rw [List.mem_append, List.mem_cons] at h1
      rw [List.mem_append]
      rcases h1 with q | rfl | q
      · exact .inl q
      · exact absurd hx hn.1
      · exact .inr q
    rw [List.length_cons, List.length_append, List.length_cons]
    rw [List.length_append] at this
    omega
theorem strict_nodup {l : List ByteArray} (h : Strict l) : l.Nodup := h.imp fun {a b} h e => by subst e; exact ltB_irrefl _ h
end Plain

set_option maxRecDepth 10000 in
set_option maxHeartbeats 4000000 in
theorem set_calls (R : Nat) (a : Option Addr) (len cap : Nat) (zs : List Int) (w : World) (h : Rd w R a len cap zs) :
    Calls Tryz.prog 32 #[.pointer (some ⟨R, 0, none⟩)] w fun e w' => ∃ (v : Value) (ds : List ByteArray), e = .returned v ∧ Hid (OwnR strE w' w.heap.size v ds) ∧ Hid (∀ s ∈ ds, s.size ≤ 100) ∧ ds.length ≤ 12 ∧ Rd w' R a len cap zs ∧ OnlyAt ⟨R, 1, none⟩ w w' := by
  have hR := h.lt
  have hl : len ≤ 1048576 := by obtain ⟨p, hp⟩ := h; exact hp.small
  have c0 : w.cell? ⟨R, 0, none⟩ = some (.slice a len cap) := by obtain ⟨p, hp⟩ := h; exact hp.c0
  have HO0 := hide (ownR_empty strE w w.heap.size (Nat.le_refl _))
  have HD0 := hide ((DS.start h).alloc (.cells #[] 9))
  have c1 : (w.alloc (.cells #[] 9)).cell? ⟨R, 0, none⟩ = some (.slice a len cap) := by obtain ⟨p, hp⟩ := (unhide HD0).rd; exact hp.c0
  clear h
  go_enter Tryz.func32, Tryz.ntmps32
  go_wp2_with fail
  obtain ⟨N, hN⟩ : ∃ N : Int, min 6 (1 + (len : Int) / 3) = N := ⟨_, rfl⟩
  have hN1 : 1 ≤ N := by omega
  have hN6 : N ≤ 6 := by omega
  rw [hN]
  clear hN c0 c1
  refine (below_calls R a len cap zs N _ (unhide HD0).rd hN1 (by omega)).mono ?_
  rintro e w1 ⟨v, rfl, hv0, hv1, hR1, ho1⟩
  obtain ⟨V, rfl⟩ := Int.eq_ofNat_of_zero_le hv0
  have HD1 := hide ((unhide HD0).call hR1 ho1)
  have HO1 := hide ((unhide HO0).onlN ho1 (by simp; omega))
  have hz1 : w.heap.size ≤ w1.heap.size := by have := ho1.size; simp at this; omega
  clear hR1 ho1 HD0 HO0
  go_wp2_with fail
  go_loopw [3, 4] (fun s3 s4 wr => ∃ (j : Nat) (ds : List ByteArray), s4 = .int .i64 j ∧ j ≤ 5 ∧ ds.length + 2 * j ≤ 12 ∧ w.heap.size ≤ wr.heap.size ∧ Hid (∀ s ∈ ds, s.size ≤ 100) ∧ Hid (DS w R a len cap zs wr) ∧ Hid (OwnR strE wr w.heap.size s3 ds)) (fun _ s4 _ => (intOf s4).toNat)
  case atStart => exact ⟨V, [], rfl, by omega, by simp; omega, hz1, hide (fun s hs => by cases hs), HD1, HO1⟩
  case round =>
    clear HO1 HD1 hz1 hv0 hv1
    obtain ⟨j, ds, rfl, hj, hds, hz, HF, HD, HO⟩ := hrel
    obtain ⟨av, cv, hv⟩ := (unhide HO).form
    obtain ⟨q, hq⟩ : ∃ q, ds.length = q := ⟨_, rfl⟩
    rw [hq] at hv hds
    subst hv
    by_cases hj0 : 0 < j
    · obtain ⟨j', rfl⟩ : ∃ j', j = j' + 1 := ⟨j - 1, by omega⟩
      have hjp : (0 : Int) < ((j' + 1 : Nat) : Int) := by omega
      have hjm : IntKind.i64.wrap (((j' + 1 : Nat) : Int) - 1) = (j' : Int) := by rw [IntKind.wrap_i64]; omega
      have hbA : Below wr.heap.size wr (wr.alloc (.cells eigV 9)) := (Below.refl _ _).alloc (Nat.le_refl _) _
      have HDA := hide ((unhide HD).below hbA)
      have HOA := hide ((unhide HO).keep hbA)
      have HNW := hide (h_new wr (.cells eigV 9) rfl)
      have hRw : R < wr.heap.size := by omega
      clear hbA HD HO
      go_wp2_with fail
      refine (below_calls R a len cap zs 8 _ (unhide HDA).rd (by omega) (by omega)).mono ?_
      rintro e w2 ⟨v, rfl, hv0, hv1, hR2, ho2⟩
      obtain ⟨K, rfl⟩ := Int.eq_ofNat_of_zero_le hv0
      have hK : K < 8 := by omega
      have hc : w2.cell? ⟨wr.heap.size, K, none⟩ = some (.string (eigL.getD K ByteArray.empty)) := by
        rw [ho2.cell ⟨wr.heap.size, K, none⟩ (by simp) (by simp <;> omega)]
        exact (cell_of_row _ _ K eigV _ _ (unhide HNW)).trans (eigV_get K hK)
      have hs1 := eig_size K hK
      generalize eigL.getD K ByteArray.empty = s at hc hs1
      have HD2 := hide ((unhide HDA).call hR2 ho2)
      have HO2 := hide ((unhide HOA).onlN ho2 (by simp; omega))
      have hz2 : w.heap.size ≤ w2.heap.size := by have := ho2.size; simp at this; omega
      clear hR2 ho2 HDA HOA HNW
      go_wp2_with fail
      refine (specDigest_calls s _ (by omega)).mono ?_
      rintro e w3 ⟨rfl, hb3⟩
      have HD3 := hide ((unhide HD2).below hb3)
      have HO3 := hide ((unhide HO2).keep hb3)
      have hz3 : w.heap.size ≤ w3.heap.size := Nat.le_trans hz2 hb3.size
      have hgz := digestB_size s
      generalize digestB s = g at hgz
      have hlen : ds.length < 100000000 := by omega
      have HLQ := hide (show (ds ++ [g]).length = q + 1 from by rw [List.length_append, hq]; rfl)
      have HFG := hide (show ∀ s ∈ ds ++ [g], s.size ≤ 100 from fun s hs => by
        rcases List.mem_append.1 hs with h | h
        · exact unhide HF s h
        · obtain rfl := List.mem_singleton.1 h; omega)
      clear hb3 HD2 HO2 hc HF
      go_wp2_with (at_builtin; go_must (refine appR (e := strE) rfl _ _ rfl (unhide HO3) rfl g rfl _ rfl rfl hlen hz3 ?_); intro v' w6 hown6 hb6 hg6; obtain ⟨av', cv', hv'⟩ := hown6.form; rw [unhide HLQ] at hv'; subst hv')
      have HO6 := hide hown6
      have HD6 := hide ((unhide HD3).belowB hb6 hR (Nat.le_refl _))
      have hz6 : w.heap.size ≤ w6.heap.size := by have := hb6.size; omega
      clear hown6 hb6 hg6 HO3 HD3
      refine (once_calls R a len cap zs 4 _ (unhide HD6).rd (by omega) (by omega)).mono ?_
      rintro e w7 ⟨b, rfl, hR7, ho7⟩
      have HD7 := hide ((unhide HD6).call hR7 ho7)
      have HO7 := hide ((unhide HO6).onlN ho7 (by simp; omega))
      have hz7 : w.heap.size ≤ w7.heap.size := Nat.le_trans hz6 ho7.size
      clear hR7 ho7 HD6 HO6
      cases b with
      | false =>
        go_wp2_with fail
        go_roundw
        case rel => exact ⟨j', ds ++ [g], by go_num, by omega, by rw [unhide HLQ]; omega, hz7, HFG, HD7, HO7⟩
        case measure => simp [intOf]
      | true =>
        obtain ⟨g7, e7, l7, p7, -⟩ := (unhide HO7).at.str q (by rw [unhide HLQ]; omega)
        have hgq : (ds ++ [g])[q]'(by rw [unhide HLQ]; omega) = g := by simp [← hq]
        rw [hgq] at p7
        subst e7
        have iq : IntKind.i64.wrap (((q + 1 : Nat) : Int) - 1) = (q : Int) := by rw [IntKind.wrap_i64]; omega
        have iq0 : (0 : Int) ≤ (q : Int) := by omega
        have iq1 : (q : Int) < ((q + 1 : Nat) : Int) := by omega
        clear hgq
        have z2 : (g.extract 0 70).size = 70 := by rw [ByteArray.size_extract]; omega
        have i70 : (70 : Int) ≤ (g.size : Int) := by omega
        have HBW := hide (below_calls R a len cap zs 16 w7.drew ((unhide HD7).drew.rd) (by omega) (by omega))
        have HOd := hide (show OwnR strE w7.drew w.heap.size (.slice (some ⟨g7, 0, none⟩) (q + 1) cv') (ds ++ [g]) from unhide HO7)
        have hlen8 : (ds ++ [g]).length < 100000000 := by rw [unhide HLQ]; omega
        have hzd : w.heap.size ≤ w7.drew.heap.size := hz7
        go_wp2_with fail
        go_region_law (first
          | (refine stepGG (e := strE) rfl _ _ rfl (w := w8) (unhide HO8) (by simp [Act.eval]) T rfl _ (by simp [Act.eval]) rfl hlen8 hz8 ?_; intro v' w9 hown9 hb9 hg9; obtain ⟨a9, c9, hv9⟩ := hown9.form; rw [unhide HL9] at hv9; subst hv9)
          | (go_simp; refine (unhide HBW).mono ?_; rintro e w8 ⟨x8, rfl, hx0, hx1, hR8, ho8⟩; obtain ⟨K8, rfl⟩ := Int.eq_ofNat_of_zero_le hx0; have HD8 := hide ((unhide HD7).drew.call hR8 ho8); have HO8 := hide ((unhide HOd).onlN ho8 (show R < w.heap.size from hR)); have hz8 : w.heap.size ≤ w8.heap.size := Nat.le_trans hzd ho8.size; have zH : (⟨#[48, 49, 50, 51, 52, 53, 54, 55, 56, 57, 97, 98, 99, 100, 101, 102]⟩ : ByteArray).size = 16 := rfl; have i16 : (K8 : Int) ≤ 16 := (by omega); have z3 : ((⟨#[48, 49, 50, 51, 52, 53, 54, 55, 56, 57, 97, 98, 99, 100, 101, 102]⟩ : ByteArray).extract K8 16).size = 16 - K8 := (by { rw [ByteArray.size_extract, zH]; omega }); have i18 : (1 : Int) ≤ ((16 - K8 : Nat) : Int) := (by omega); have i17 : (1 : Int) ≤ (((⟨#[48, 49, 50, 51, 52, 53, 54, 55, 56, 57, 97, 98, 99, 100, 101, 102]⟩ : ByteArray).extract K8 16).size : Int) := (by omega); have z4 : (((⟨#[48, 49, 50, 51, 52, 53, 54, 55, 56, 57, 97, 98, 99, 100, 101, 102]⟩ : ByteArray).extract K8 16).extract 0 1).size = 1 := (by { rw [ByteArray.size_extract]; omega }); obtain ⟨T, hT⟩ : ∃ T, g.extract 0 70 ++ ((⟨#[48, 49, 50, 51, 52, 53, 54, 55, 56, 57, 97, 98, 99, 100, 101, 102]⟩ : ByteArray).extract K8 16).extract 0 1 = T := ⟨_, rfl⟩; have hTz : T.size ≤ 100 := (by { rw [← hT, ByteArray.size_append, z2, z4]; omega }); have HL9 := hide (show (ds ++ [g] ++ [T]).length = q + 1 + 1 from by { rw [List.length_append, unhide HLQ]; rfl }); have HTZ := hide hTz; clear hTz hR8 ho8))
        all_goals (try go_wp2_with fail)
        all_goals go_roundw
        all_goals first
          | exact ⟨j', ds ++ [g] ++ [T], by go_num, by omega, by rw [unhide HL9]; omega, by have := hb9.size; omega, hide (fun s hs => by
              rcases List.mem_append.1 hs with h | h
              · exact unhide HFG s h
              · obtain rfl := List.mem_singleton.1 h; exact unhide HTZ), hide ((unhide HD8).belowB hb9 hR (Nat.le_refl _)), hide hown9⟩
          | (simp [intOf])
    · obtain rfl : j = 0 := by omega
      go_wp2_with fail
      refine (l1Rising_calls av q cv ds wr hq (by omega) (unhide HO).at.strs).mono ?_
      rintro e w2 ⟨v2, out, rfl, o2, HS2, hb2⟩
      have HO2 := hide (o2.le hz)
      have HD2 := hide ((unhide HD).below hb2)
      have hol : out.length ≤ 12 := by
        have := nodup_len out ds (strict_nodup (unhide HS2).1) fun x hx => ((unhide HS2).2 x).1 hx
        omega
      have HFO := hide (fun s (hs : s ∈ out) => unhide HF s (((unhide HS2).2 s).1 hs))
      clear o2 hb2 HS2
      go_wp2_with fail
      go_ret
      exact ⟨v2, out, rfl, HO2, HFO, hol, (unhide HD2).rd, (unhide HD2).only⟩

set_option maxRecDepth 10000 in
set_option maxHeartbeats 4000000 in
theorem oddSet_calls (R : Nat) (a : Option Addr) (len cap : Nat) (zs : List Int) (w : World) (h : Rd w R a len cap zs) :
    Calls Tryz.prog 13 #[.pointer (some ⟨R, 0, none⟩)] w fun e w' => ∃ (v : Value) (ds : List ByteArray), e = .returned v ∧ Hid (OwnR strE w' w.heap.size v ds) ∧ Hid (∀ s ∈ ds, s.size ≤ 100) ∧ ds.length ≤ 24 ∧ Rd w' R a len cap zs ∧ OnlyAt ⟨R, 1, none⟩ w w' := by
  have hR := h.lt
  have HD0 := hide (DS.start h)
  have HST := hide (set_calls R a len cap zs w h)
  clear h
  go_enter Tryz.func13, Tryz.ntmps13
  go_wp2_with fail
  refine (unhide HST).mono ?_
  rintro e w1 ⟨v, ds, rfl, HO1, HF, hdl, hR1, ho1⟩
  obtain ⟨av, cv, hv⟩ := (unhide HO1).form
  obtain ⟨q, hq⟩ : ∃ q, ds.length = q := ⟨_, rfl⟩
  rw [hq] at hv hdl
  subst hv
  have HD1 := hide ((unhide HD0).call hR1 ho1)
  have hz1 := ho1.size
  clear hR1 ho1 HST HD0
  go_wp2_with fail
  refine (below_calls R a len cap zs 24 _ (unhide HD1).rd (by omega) (by omega)).mono ?_
  rintro e w2 ⟨u, rfl, hu0, hu1, hR2, ho2⟩
  have HD2 := hide ((unhide HD1).call hR2 ho2)
  have HO2 := hide ((unhide HO1).onlN ho2 (by simp; omega))
  have hz2 : w.heap.size ≤ w2.heap.size := Nat.le_trans hz1 ho2.size
  have hlen : ds.length < 100000000 := by omega
  clear hR2 ho2 HD1 HO1
  by_cases c0 : u = 0
  · subst c0
    have HL := hide (show (ds ++ [(⟨#[115, 104, 97, 50, 53, 54, 58]⟩ : ByteArray)]).length = q + 1 from by rw [List.length_append, hq]; rfl)
    go_wp2_with (at_builtin; go_must (refine appR (e := strE) rfl _ _ rfl (unhide HO2) rfl (⟨#[115, 104, 97, 50, 53, 54, 58]⟩ : ByteArray) rfl _ rfl rfl hlen hz2 ?_); intro v' w6 hown6 hb6 hg6; obtain ⟨av', cv', hv'⟩ := hown6.form; rw [unhide HL] at hv'; subst hv')
    go_ret
    have HD6 := (unhide HD2).belowB hb6 hR (Nat.le_refl _)
    exact ⟨.slice av' (q + 1) cv', _, rfl, hide hown6, hide (fun s hs => by
      rcases List.mem_append.1 hs with h | h
      · exact unhide HF s h
      · obtain rfl := List.mem_singleton.1 h; decide), by rw [unhide HL]; omega, HD6.rd, HD6.only⟩
  · have b0 : (u == 0) = false := by simpa using c0
    by_cases c1 : u = 1
    · subst c1
      have HL := hide (show (ds ++ ds).length = q + q from by rw [List.length_append, hq])
      have hlen2 : ds.length + q < 100000000 := by omega
      have HAD := hide (unhide HO2).adG
      have HAT := hide (unhide HO2).at
      go_wp2_with (at_builtin; go_must (refine appGG (e := strE) rfl _ _ rfl (unhide HO2) rfl av q cv rfl hq (unhide HAT) (unhide HAD) hlen2 hz2 ?_); intro v' w6 hown6 hb6; obtain ⟨av', cv', hv'⟩ := hown6.form; rw [unhide HL] at hv'; subst hv')
      go_ret
      have HD6 := (unhide HD2).belowB hb6 hR (Nat.le_refl _)
      exact ⟨.slice av' (q + q) cv', _, rfl, hide hown6, hide (fun s hs => by
        rcases List.mem_append.1 hs with h | h
        · exact unhide HF s h
        · exact unhide HF s h), by rw [unhide HL]; omega, HD6.rd, HD6.only⟩
    · have b1 : (u == 1) = false := by simpa using c1
      go_wp2_with fail
      go_ret
      exact ⟨.slice av q cv, ds, rfl, HO2, HF, by omega, (unhide HD2).rd, (unhide HD2).only⟩
end Go.Proofs.YtldgkpnlplfopaaGreatDoor


/- Texts compared and looked for, as the laws do it. -/
namespace Go.Proofs.YtldgkpnlplfopaaGreatDoor
open Go.RowKit Plain
set_option linter.unusedVariables false

set_option maxHeartbeats 1000000 in
theorem sameTexts_calls (a1 a2 : Option Addr) (c1 c2 n : Nat) (ls : List ByteArray) (w : World) (hn : ls.length = n) (hn2 : n ≤ 100000000) (h1 : StrsAt w a1 ls) (h2 : StrsAt w a2 ls) :
    Calls Tryz.prog 11 #[.slice a1 n c1, .slice a2 n c2] w fun e w' => e = .returned (.bool true) ∧ Below w.heap.size w w' := by
  have H1 := hide h1
  have H2 := hide h2
  have HN := hide hn
  clear h1 h2 hn
  go_enter Tryz.func11, Tryz.ntmps11
  go_wp2_with fail
  go_loopw [5] (fun i wr => ∃ (k : Nat), i = .int .i64 k ∧ k ≤ n ∧ Hid (Below w.heap.size w wr)) (fun i _ => n - (intOf i).toNat)
  case atStart => exact ⟨0, rfl, by omega, Below.refl _ _⟩
  case round =>
    obtain ⟨k, rfl, hk, HB⟩ := hrel
    by_cases hlt : k < n
    · obtain ⟨g1, o1, e1, l1, p1⟩ := (unhide H1).below (unhide HB) k (by rw [unhide HN]; exact hlt)
      obtain ⟨g2, o2, e2, l2, p2⟩ := (unhide H2).below (unhide HB) k (by rw [unhide HN]; exact hlt)
      generalize (ls[k]'(by rw [unhide HN]; exact hlt)) = x at p1 p2
      clear H1 H2
      subst e1 e2
      have i0 : (0 : Int) ≤ (k : Int) := by omega
      have i1 : (k : Int) < (n : Int) := by omega
      go_wp2_with fail
      go_region
      all_goals (try go_wp2_with fail)
      all_goals exact ⟨⟨k + 1, by go_num, by omega, hide (belDrew (unhide HB))⟩, by simp [intOf]; omega⟩
    · obtain rfl : k = n := by omega
      go_wp2_with fail
      go_ret
      exact ⟨rfl, unhide HB⟩

set_option maxHeartbeats 1000000 in
theorem hasText_calls (a : Option Addr) (n c : Nat) (ls : List ByteArray) (s : ByteArray) (w : World) (hn : ls.length = n) (hn2 : n ≤ 100000000) (h : StrsAt w a ls) :
    Calls Tryz.prog 9 #[.slice a n c, .string s] w fun e w' => e = .returned (.bool (anyB ls s)) ∧ w = w' := by
  have H := hide h
  have HN := hide hn
  clear h hn
  go_enter Tryz.func9, Tryz.ntmps9
  go_wp2_with fail
  go_loop [5] (fun i => ∃ k : Nat, i = .int .i64 k ∧ k ≤ n ∧ Hid ((ls.drop k).any (fun x => x.toList == s.toList) = anyB ls s)) (fun i => n - (intOf i).toNat)
  case atStart => exact ⟨0, rfl, by omega, hide (by rw [List.drop_zero]; rfl)⟩
  case round =>
    obtain ⟨k, rfl, hk, HR⟩ := hrel
    by_cases hlk : k < n
    · have hkl : k < ls.length := by rw [unhide HN]; exact hlk
      obtain ⟨g, o, e1, l1, p1⟩ := unhide H k hkl
      have hst := any_step (fun x => x.toList == s.toList) ls k hkl
      generalize ls[k] = x at p1 hst
      have i0 : (0 : Int) ≤ (k : Int) := by omega
      have i1 : (k : Int) < (n : Int) := by omega
      subst e1
      cases hx : (x.toList == s.toList) with
      | true =>
        have HF := hide (show anyB ls s = true from by rw [← unhide HR, hst, hx]; rfl)
        clear hst HR
        go_wp2_with fail
        go_ret
        exact ⟨by rw [unhide HF]; rfl, rfl⟩
      | false =>
        have HF := hide (show (ls.drop (k + 1)).any (fun x => x.toList == s.toList) = anyB ls s from by rw [← unhide HR, hst, hx]; rfl)
        clear hst HR
        go_wp2_with fail
        go_round
        case rel => exact ⟨k + 1, by go_num, by omega, HF⟩
        case measure => simp [intOf]; omega
    · have HF := unhide HR
      rw [List.drop_of_length_le (by rw [unhide HN]; omega)] at HF
      have HFF := hide HF
      clear HR HF
      go_wp2_with fail
      go_ret
      exact ⟨by rw [← unhide HFF]; rfl, rfl⟩

end Go.Proofs.YtldgkpnlplfopaaGreatDoor


/- The laws' own test of a code's length. -/
namespace Go.Proofs.YtldgkpnlplfopaaGreatDoor
open Go.RowKit Plain
set_option linter.unusedVariables false

theorem big_calls (a : Option Addr) (len cap : Nat) (w : World) (h : len ≤ maxLen) :
    Calls Tryz.prog 4 #[.slice a len cap] w fun e w' => e = .returned (.bool (decide (1048576 < (len : Int)))) ∧ w = w' := by
  unfold maxLen at h
  go_enter Tryz.func4, Tryz.ntmps4
  go_wp2
  go_ret
  exact ⟨rfl, rfl⟩

namespace Plain
theorem IsRow.len {w : World} {k : IntKind} {a : Option Addr} {len cap : Nat} {zs : List Int} (h : IsRow k w a len cap zs) : len ≤ maxLen := by
  rcases h with ⟨_, h, _⟩ | ⟨x, _, h1, h2, _⟩
  · omega
  · omega
end Plain
end Go.Proofs.YtldgkpnlplfopaaGreatDoor

