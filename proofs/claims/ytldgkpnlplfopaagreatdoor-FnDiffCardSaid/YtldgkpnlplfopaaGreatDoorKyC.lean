/- Keys of digests: how they lie, how the program compares and sorts them. -/
import Derived.Test.YtldgkpnlplfopaaGreatDoorSrtK
import Derived.Test.YtldgkpnlplfopaaGreatDoorSrtW
import Derived.Test.YtldgkpnlplfopaaGreatDoorShlK
import Derived.Test.YtldgkpnlplfopaaGreatDoorHzA
import Derived.Test.YtldgkpnlplfopaaGreatDoorRzE
import Derived.Lib.Bytealg
namespace Go.Proofs.YtldgkpnlplfopaaGreatDoor
open Go.RowKit Go.Sort Plain
set_option linter.unusedVariables false

namespace Plain
/-- Thirty-two bytes, of whatever list. -/
def padK (k : List UInt8) : List UInt8 := (List.range 32).map fun i => k.getD i 0
theorem padK_len (k : List UInt8) : (padK k).length = 32 := by simp [padK]
theorem padK_id {k : List UInt8} (h : k.length = 32) : padK k = k := by
  apply List.ext_getElem
  · rw [padK_len, h]
  · intro i h1 h2
    simp [padK, List.getD, List.getElem?_eq_getElem h2]
def encK (k : List UInt8) : List Value := (padK k).map fun b => .int .u8 (b.toNat : Int)
theorem encK_len (k : List UInt8) : (encK k).length = 32 := by simp [encK, padK_len]
def cfK (x y : List UInt8) : Int := Lib.compareBytes (padK x) (padK y)
theorem cb_neg : ∀ a b : List UInt8, Lib.compareBytes a b < 0 ↔ a < b
  | [], [] => by simp [Lib.compareBytes]
  | [], b :: bs => by simp [Lib.compareBytes]
  | a :: l, [] => by simp [Lib.compareBytes]
  | a :: l, b :: bs => by
    rw [Lib.compareBytes, List.cons_lt_cons_iff]
    by_cases h1 : a < b
    · simp [h1]
    · by_cases h2 : b < a
      · have hne : a ≠ b := fun e => by subst e; exact h1 h2
        simp [h1, h2, hne]
      · have he : a = b := UInt8.le_antisymm (UInt8.not_lt.1 h2) (UInt8.not_lt.1 h1)
        subst he
        simp [h1, cb_neg l bs]
theorem ltK (x y : List UInt8) : ltOf cfK x y = decide (padK x < padK y) := by
  unfold ltOf cfK
  rw [decide_eq_decide]
  exact cb_neg _ _
theorem swoK : SWO (ltOf cfK) where
  irrefl x := by rw [ltK]; simp
  trans x y z h1 h2 := by
    rw [ltK] at *
    simp only [decide_eq_true_eq] at *
    exact List.lt_trans h1 h2
  ntrans x y z h1 h2 := by
    rw [ltK] at *
    simp only [decide_eq_false_iff_not] at *
    intro h3
    have h4 : padK z ≤ padK y := List.not_lt.1 h2
    have h5 : padK y ≤ padK x := List.not_lt.1 h1
    exact absurd h3 (List.not_lt.2 (List.le_trans h4 h5))
end Plain

/-- Keys as elements. -/
def keyE : Elem (List UInt8) where
  E := 63
  S := 53
  n := 32
  bytes := 32
  zero := .agg (keyC zeroK)
  enc := encK
  hund := Tryz.underlying53
  hinfo := by kernel_rfl
  hz := by kernel_rfl
  hn := by decide
  hb := by decide
  hlen := encK_len
  hone := fun x u hu => by
    obtain ⟨b, _, rfl⟩ := List.mem_map.1 hu
    rfl

theorem run_loadBytes {P : Program} (W : World) (b : Nat) : ∀ (ks : List UInt8) (off : Nat) (acc : ByteArray), (∀ i (h : i < ks.length), W.cell? ⟨b, off + i, none⟩ = some (.int .u8 (ks[i].toNat : Int))) → (Extern.Bytes.loadBytes ⟨b, off, none⟩ ks.length acc).run P W = .ok ⟨acc.data ++ ks.toArray⟩ W
  | [], off, acc, _ => by
    show (pure acc : Sem ByteArray).run P W = _
    simp [Sem.run_pure]
  | k :: ks, off, acc, h => by
    have h0 := h 0 (by simp)
    rw [Nat.add_zero] at h0
    have h1 := run_loadBytes (P := P) W b ks (off + 1) (acc.push (Int.toNat (k.toNat : Int)).toUInt8) (fun i hi => by
      have := h (i + 1) (by simpa using hi)
      rw [show off + 1 + i = off + (i + 1) from by omega]
      simpa using this)
    have hadd : (⟨b, off, none⟩ : Addr).add 1 = ⟨b, off + 1, none⟩ := by simp [Addr.add]
    rw [List.length_cons]
    unfold Extern.Bytes.loadBytes
    simp only [Sem.run_bind]
    have hl : (load ⟨b, off, none⟩).run P W = .ok (.int .u8 (k.toNat : Int)) W := by simp [go_sem, h0]
    rw [hl]
    simp only [Result.andThen, hadd]
    rw [h1]
    simp
theorem run_compareK (W : World) (b1 b2 c1 c2 : Nat) (x y : List UInt8) (hx : x.length = 32) (hy : y.length = 32) (h1 : ∀ i (h : i < x.length), W.cell? ⟨b1, i, none⟩ = some (.int .u8 (x[i].toNat : Int))) (h2 : ∀ i (h : i < y.length), W.cell? ⟨b2, i, none⟩ = some (.int .u8 (y[i].toNat : Int))) :
    (Extern.BytealgCompare.compare #[.slice (some ⟨b1, 0, none⟩) 32 c1, .slice (some ⟨b2, 0, none⟩) 32 c2]).run Tryz.prog W = .ok (.int .i64 (Lib.compareBytes x y)) W := by
  have e1 := run_loadBytes (P := Tryz.prog) W b1 x 0 .empty (fun i hi => by rw [Nat.zero_add]; exact h1 i hi)
  have e2 := run_loadBytes (P := Tryz.prog) W b2 y 0 .empty (fun i hi => by rw [Nat.zero_add]; exact h2 i hi)
  rw [hx] at e1
  rw [hy] at e2
  change Sem.run Tryz.prog (do pure (goInt (Extern.BytealgCompare.cmp (← Extern.Bytes.loadBytes ⟨b1, 0, none⟩ 32 .empty) (← Extern.Bytes.loadBytes ⟨b2, 0, none⟩ 32 .empty)))) W = _
  simp only [Sem.run_bind, Sem.run_pure, Result.andThen, e1, e2]
  rw [Lib.cmp_eq]
  have e3 : ∀ l : List UInt8, ((ByteArray.empty.data ++ l.toArray : Array UInt8)).toList = l := fun l => by
    rw [show ByteArray.empty.data = #[] from rfl]
    simp
  rw [e3, e3]
  rfl

set_option maxRecDepth 10000 in
set_option maxHeartbeats 1000000 in
theorem bytesCompare_calls (W : World) (b1 b2 c1 c2 : Nat) (x y : List UInt8) (hx : x.length = 32) (hy : y.length = 32) (h1 : ∀ i (h : i < x.length), W.cell? ⟨b1, i, none⟩ = some (.int .u8 (x[i].toNat : Int))) (h2 : ∀ i (h : i < y.length), W.cell? ⟨b2, i, none⟩ = some (.int .u8 (y[i].toNat : Int))) :
    Calls Tryz.prog 45 #[.slice (some ⟨b1, 0, none⟩) 32 c1, .slice (some ⟨b2, 0, none⟩) 32 c2] W fun e w' => e = .returned (.int .i64 (Lib.compareBytes x y)) ∧ w' = W := by
  have hcall : (callFunc 63 #[.slice (some ⟨b1, 0, none⟩) 32 c1, .slice (some ⟨b2, 0, none⟩) 32 c2]).run Tryz.prog W = .ok (.value (.int .i64 (Lib.compareBytes x y))) W := by
    rw [run_callFunc_extern Tryz.func63 (by kernel_rfl) (by kernel_rfl) (by kernel_rfl) (e := Extern.BytealgCompare.compare) (by kernel_rfl), run_compareK W b1 b2 c1 c2 x y hx hy h1 h2]
    rfl
  clear h1 h2
  generalize Lib.compareBytes x y = r at hcall
  go_enter Tryz.func45, Tryz.ntmps45
  go_wp2
  go_ret
  exact ⟨rfl, rfl⟩
end Go.Proofs.YtldgkpnlplfopaaGreatDoor
