/- Manifests marked and looked at again, as the exact laws do it. -/
import Derived.Test.YtkeindhefiaghaaManJ
import Derived.Test.YtkeindhefiaghaaStrQ
namespace Go.Proofs.Ytkeindhefiaghaa
open Go.RowKit Plain
set_option linter.unusedVariables false

theorem markManifest_calls (cf : ByteArray) (b : Nat) (a : Option Addr) (c n : Nat) (fs : List ByteArray) (w : World) (hb1 : 1 ≤ b) (hb2 : b ≤ 100000000) (hn : fs.length = n) (hn2 : n ≤ 100000000) (h1 : RowAt strE w a fs) :
    Calls Try.prog 43 #[.agg #[.string cf, .slice a n c], .int .i64 b] w fun e w' => e = .returned (.int .i64 ((b + n : Nat) : Int)) ∧ RowAt strE w' a (mkS b n) ∧ OnlyRow a w w' := by
  have hb0 := bel1 w (.cells #[.string cf, .slice a n c] 26)
  have HB0 := hide (OnlyRow.of (a := a) hb0)
  have HC := hide (markStringS_calls b a c n fs _ hb1 hb2 hn hn2 (h1.below hb0))
  clear h1 hn hb0
  go_enter Try.func43, Try.ntmps43
  go_wp2_with fail
  refine (unhide HC).mono ?_
  rintro e w1 ⟨rfl, hr1, hb1⟩
  have HB1 := hide ((unhide HB0).trans hb1)
  have HR1 := hide hr1
  clear hb1 hr1 HC HB0
  go_wp2_with fail
  go_ret
  exact ⟨rfl, unhide HR1, unhide HB1⟩

theorem heldManifest_calls (cf : ByteArray) (b : Nat) (a : Option Addr) (c n : Nat) (w : World) (hb1 : 1 ≤ b) (hb2 : b ≤ 100000000) (hn2 : n ≤ 100000000) (h1 : RowAt strE w a (mkS b n)) :
    Calls Try.prog 44 #[.agg #[.string cf, .slice a n c], .int .i64 b] w fun e w' => e = .returned (.int .i64 ((b + n : Nat) : Int)) ∧ Below w.heap.size w w' := by
  have hb0 := bel1 w (.cells #[.string cf, .slice a n c] 26)
  have HB0 := hide hb0
  have HC := hide (heldStringS_calls b a c n _ hb1 hb2 hn2 (h1.below hb0))
  clear h1 hb0
  obtain ⟨M, hM⟩ : ∃ M, b + n = M := ⟨_, rfl⟩
  rw [hM] at HC ⊢
  go_enter Try.func44, Try.ntmps44
  go_wp2_with fail
  refine (unhide HC).mono ?_
  rintro e w1 ⟨rfl, hb1⟩
  have HB1 := hide (belOn (unhide HB0) hb1)
  clear hb1 HC HB0
  go_wp2_with fail
  go_ret
  exact ⟨rfl, unhide HB1⟩
theorem Plain.Mc.onlyRow {M : Nat} {c : ByteArray} {v : Value} {a : Option Addr} {w w' : World} (h : Mc M c v w) (ho : OnlyRow a w w') (hne : ∀ o, a ≠ some ⟨M, o, none⟩) : Mc M c v w' :=
  ⟨(ho.cell h.lt hne).trans h.c0, (ho.cell h.lt hne).trans h.c1, (ho.frozen h.lt hne).trans h.f0, (ho.frozen h.lt hne).trans h.f1, Nat.lt_of_lt_of_le h.lt ho.size⟩
end Go.Proofs.Ytkeindhefiaghaa
