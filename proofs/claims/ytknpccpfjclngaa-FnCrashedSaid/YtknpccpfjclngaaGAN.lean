/- Texts of one kind, put together. -/
import Derived.Test.YtknpccpfjclngaaGAD
import Derived.Test.YtknpccpfjclngaaGAB
import Derived.Lib.SlBytesConst
import Derived.Laws.MakeOwn

/- Blobs that are drawn are short; bytes that are made. -/
namespace Go.Proofs.Ytknpccpfjclngaa
open Go.RowKit Plain
set_option linter.unusedVariables false

namespace Plain
def dataL : List ByteArray := [⟨#[]⟩, ⟨#[97]⟩, ⟨#[98]⟩, ⟨#[97, 98, 99]⟩, ⟨#[108, 97, 121, 101, 114]⟩, ⟨#[99, 111, 110, 102, 105, 103]⟩, ⟨#[122, 122, 57]⟩, ⟨#[48]⟩]
def dataV : Array Value := (dataL.map Value.string).toArray
theorem dataV_get (k : Nat) (h : k < 8) : dataV[k]? = some (.string (dataL.getD k ByteArray.empty)) := by
  match k, h with
  | 0, _ => rfl
  | 1, _ => rfl
  | 2, _ => rfl
  | 3, _ => rfl
  | 4, _ => rfl
  | 5, _ => rfl
  | 6, _ => rfl
  | 7, _ => rfl
theorem data_size : ∀ k : Fin 8, (dataL.getD k.val ByteArray.empty).size ≤ 6 := by decide +kernel
end Plain

theorem data_calls (R : Nat) (a : Option Addr) (len cap : Nat) (zs : List Int) (w : World) (h : Rd w R a len cap zs) :
    Calls Try.prog 39 #[.pointer (some ⟨R, 0, none⟩)] w fun e w' => ∃ s : ByteArray, e = .returned (.string s) ∧ s.size ≤ 6 ∧ Rd w' R a len cap zs ∧ OnlyAt ⟨R, 1, none⟩ w w' := by
  have hlt := h.lt
  have hb1 : Below w.heap.size w (w.alloc (.cells dataV 9)) := (Below.refl _ _).alloc (Nat.le_refl _) _
  have H1 := hide (h.below hb1)
  clear h
  go_enter Try.func39, Try.ntmps39
  go_wp2_with fail
  refine (below_calls R a len cap zs 8 _ (unhide H1) (by omega) (by omega)).mono ?_
  rintro e w2 ⟨v, rfl, hv0, hv1, hR2, ho2⟩
  obtain ⟨K, rfl⟩ := Int.eq_ofNat_of_zero_le hv0
  have hK : K < 8 := by omega
  have hc : w2.cell? ⟨w.heap.size, K, none⟩ = some (.string (dataL.getD K ByteArray.empty)) := by
    rw [ho2.cell ⟨w.heap.size, K, none⟩ (by simp) (by simp)]
    exact (cell_of_row _ _ K dataV _ _ (show (w.alloc _).heap[w.heap.size]? = _ from (MapKept.heap_alloc w _).1)).trans (dataV_get K hK)
  have hs := data_size ⟨K, hK⟩
  simp only at hs
  generalize dataL.getD K ByteArray.empty = s at hc hs
  have HR2 := hide hR2
  have hoo := hide ((OnlyAt.of_below (a := ⟨R, 1, none⟩) hb1).trans ho2)
  clear hR2 ho2 hb1
  go_wp2_with fail
  go_ret
  exact ⟨s, rfl, hs, unhide HR2, unhide hoo⟩

def zerosA (n : Nat) : Array Value := madeCells #[.int .u8 0] (n * 1)
theorem zerosA_get (n i : Nat) (h : i < n) : (zerosA n)[i]? = some (.int .u8 0) := by
  simp [zerosA, madeCells, h, Nat.mod_one]
end Go.Proofs.Ytknpccpfjclngaa


/- How far a drawing has come. -/
namespace Go.Proofs.Ytknpccpfjclngaa
open Go.RowKit Plain
set_option linter.unusedVariables false

namespace Plain
theorem OnlyAt.c {R b i : Nat} {W W' : World} {v : Value} (ho : OnlyAt ⟨R, 1, none⟩ W W') (hc : W.cell? ⟨b, i, none⟩ = some v) (hb : b ≠ R) : W'.cell? ⟨b, i, none⟩ = some v :=
  (ho.cell ⟨b, i, none⟩ (lt_of_cell hc) (fun e => hb (congrArg Addr.block e))).trans hc
theorem OnlyAt.z {R b i : Nat} {W W' : World} (ho : OnlyAt ⟨R, 1, none⟩ W W') (hb : b < W.heap.size) (hf : W.frozen? ⟨b, i, none⟩ = false) : W'.frozen? ⟨b, i, none⟩ = false := (ho.frozen ⟨b, i, none⟩ hb).trans hf
theorem OnlyAt.setNew2 {a : Addr} {u v : World} (h : OnlyAt a u v) {q : Addr} (hq : u.heap.size ≤ q.block) (x : Value) : OnlyAt a u (v.setCell q x) :=
  ⟨h.os, h.tape, h.output, by simpa using h.size, fun k hk hne => (Below.heap_setCell _ _ _ _ (by omega)).trans (h.block k hk hne), fun c hc hne => (World.cell?_setCell_other v q c x (fun e => by subst e; omega)).trans (h.cell c hc hne), fun c hc => by simpa using h.frozen c hc⟩
/-- From w the drawing has come to W. -/
structure DS (w : World) (R : Nat) (a : Option Addr) (len cap : Nat) (zs : List Int) (W : World) : Prop where
  rd : Rd W R a len cap zs
  only : OnlyAt ⟨R, 1, none⟩ w W
theorem DS.call {w W W' : World} {R : Nat} {a : Option Addr} {len cap : Nat} {zs : List Int} (h : DS w R a len cap zs W) (h1 : Rd W' R a len cap zs) (h2 : OnlyAt ⟨R, 1, none⟩ W W') : DS w R a len cap zs W' := ⟨h1, h.only.trans h2⟩
theorem DS.below {w W W' : World} {R : Nat} {a : Option Addr} {len cap : Nat} {zs : List Int} (h : DS w R a len cap zs W) (h2 : Below W.heap.size W W') : DS w R a len cap zs W' := ⟨h.rd.below h2, h.only.trans (OnlyAt.of_below h2)⟩
theorem DS.alloc {w W : World} {R : Nat} {a : Option Addr} {len cap : Nat} {zs : List Int} (h : DS w R a len cap zs W) (o : Obj) : DS w R a len cap zs (W.alloc o) := h.below ((Below.refl _ _).alloc (Nat.le_refl _) _)
theorem DS.set {w W : World} {R : Nat} {a : Option Addr} {len cap : Nat} {zs : List Int} (h : DS w R a len cap zs W) {b i : Nat} (hR : R < w.heap.size) (hb : w.heap.size ≤ b) (v : Value) : DS w R a len cap zs (W.setCell ⟨b, i, none⟩ v) :=
  ⟨h.rd.onlyB (B := b) ((Below.refl b W).setCell (Nat.le_refl _) _) (by omega), h.only.setNew2 (q := ⟨b, i, none⟩) hb v⟩
theorem DS.drewN {w W : World} {R : Nat} {a : Option Addr} {len cap : Nat} {zs : List Int} (h : DS w R a len cap zs W) (k : Nat) : DS w R a len cap zs (W.drewN k) :=
  ⟨by obtain ⟨p, hp⟩ := h.rd; exact ⟨p, hp.only ((OnlyAt.refl _ _).drewN k) hp.c1 hp.le⟩, h.only.drewN k⟩
theorem OnlyAt.thenBelow {a : Addr} {u v w : World} {B : Nat} (h : OnlyAt a u v) (hb : Below B v w) (hB : u.heap.size ≤ B) : OnlyAt a u w :=
  ⟨hb.os.trans h.os, hb.tape.trans h.tape, hb.output.trans h.output, Nat.le_trans h.size hb.size, fun k hk hne => (hb.block k (by omega)).trans (h.block k hk hne), fun c hc hne => (hb.cell (by omega)).trans (h.cell c hc hne), fun c hc => (hb.frozen (by omega)).trans (h.frozen c hc)⟩
theorem DS.drew {w W : World} {R : Nat} {a : Option Addr} {len cap : Nat} {zs : List Int} (h : DS w R a len cap zs W) : DS w R a len cap zs W.drew := h.drewN 1
end Plain
end Go.Proofs.Ytknpccpfjclngaa

