/- The program's cursor: what take, rest and number of it answer and where they leave it. -/
import Derived.Test.YtkeindhefiaghaaMem
namespace Go.Proofs.Ytkeindhefiaghaa
open Go.RowKit Plain
set_option linter.unusedVariables false

theorem take_short (b off : Nat) (s : ByteArray) (p : Nat) (n : Int) (w : World) (hc0 : w.cell? ⟨b, off, none⟩ = some (.string s)) (hc1 : w.cell? ⟨b, off + 1, none⟩ = some (.int .i64 p))
    (hs : s.size ≤ 1000000000000) (hp : p ≤ s.size) (hn0 : 0 ≤ n) (hn : (s.size : Int) - p < n) :
    Calls Try.prog 121 #[.pointer (some ⟨b, off, none⟩), .int .i64 n] w fun e w' => e = .returned (.tuple #[.string ByteArray.empty, .bool false]) ∧ ∃ k, w' = w.drewN k := by
  go_enter Try.func121, Try.ntmps121
  go_wp2
  go_region
  all_goals (try go_wp2)
  all_goals go_ret2
  all_goals exact ⟨rfl, 1, rfl⟩

theorem take_ok (b off : Nat) (s : ByteArray) (p : Nat) (n : Int) (w : World) (hc0 : w.cell? ⟨b, off, none⟩ = some (.string s)) (hc1 : w.cell? ⟨b, off + 1, none⟩ = some (.int .i64 p))
    (hf : w.frozen? ⟨b, off + 1, none⟩ = false)
    (hs : s.size ≤ 1000000000000) (hp : p ≤ s.size) (hn0 : 0 ≤ n) (hn : n ≤ (s.size : Int) - p) :
    Calls Try.prog 121 #[.pointer (some ⟨b, off, none⟩), .int .i64 n] w fun e w' => e = .returned (.tuple #[.string (s.extract p (p + n.toNat)), .bool true]) ∧ OnlyAt ⟨b, off + 1, none⟩ w w' ∧ w'.cell? ⟨b, off + 1, none⟩ = some (.int .i64 (p + n)) := by
  obtain ⟨m, rfl⟩ := Int.eq_ofNat_of_zero_le hn0
  rw [Int.toNat_natCast]
  go_enter Try.func121, Try.ntmps121
  go_wp2
  go_region
  all_goals (try go_wp2)
  all_goals go_region
  all_goals (try go_wp2)
  all_goals go_ret2
  all_goals exact ⟨rfl, (OnlyAt.setCell _ _ _).drewN 2, World.cell?_setCell_same _ _ _ hc1⟩

theorem rest_ok (b off : Nat) (s : ByteArray) (p : Nat) (w : World) (hc0 : w.cell? ⟨b, off, none⟩ = some (.string s)) (hc1 : w.cell? ⟨b, off + 1, none⟩ = some (.int .i64 p))
    (hs : s.size ≤ 1000000000000) (hp : p ≤ s.size) :
    Calls Try.prog 67 #[.pointer (some ⟨b, off, none⟩)] w fun e w' => e = .returned (.string (s.extract p s.size)) ∧ ∃ k, w' = w.drewN k := by
  go_enter Try.func67, Try.ntmps67
  go_wp2
  go_region
  all_goals (try go_wp2)
  all_goals go_ret
  all_goals exact ⟨rfl, 1, rfl⟩

/-- What the reader's number answers, and where its cursor stands behind it. -/
def numV (r : Option (Nat × Nat)) : Value := match r with
  | none => .tuple #[.int .i64 0, .bool false]
  | some (v, l) => .tuple #[.int .i64 v, .bool true]
def numAt (p : Nat) (r : Option (Nat × Nat)) : Nat := match r with
  | none => p
  | some (v, l) => p + l

end Go.Proofs.Ytkeindhefiaghaa