/- Commands copied, measured and compared, by the laws' texts. -/
import Derived.Test.YtnkjdojpegmlcaaDoorFmdI
namespace Go.Proofs.YtnkjdojpegmlcaaDoor
open Go.RowKit Plain
set_option linter.unusedVariables false

set_option maxRecDepth 10000 in
theorem toCmd_calls (ss sr op : Int) (rp tg dg tx : ByteArray) (w : World) : Calls Tryd.prog 7 #[.agg #[.int .i64 ss, .int .i64 sr, .int .i64 op, .string rp, .string tg, .string dg, .string tx]] w fun e w' => e = .returned (.agg #[.int .i64 ss, .int .i64 sr, .int .i64 op, .string rp, .string tg, .string dg, .string tx]) ∧ Below w.heap.size w w' := by
  go_enter Tryd.func7, Tryd.ntmps7
  go_wp2
  exact bodyPost_ret (v := .agg #[.int .i64 ss, .int .i64 sr, .int .i64 op, .string rp, .string tg, .string dg, .string tx]) (by simp [results, Tryd.results7, go_sem]) rfl ⟨rfl, (((Below.refl _ _).alloc (Nat.le_refl _) _).alloc (by simp) _).alloc (by simp; omega) _⟩

set_option maxRecDepth 10000 in
set_option maxHeartbeats 1000000 in
theorem szCmd_yes (ss sr op : Int) (rp tg dg tx : ByteArray) (w : World) (h : rp.size + tg.size + dg.size + tx.size ≤ 1048576) :
    Calls Tryd.prog 5 #[.agg #[.int .i64 ss, .int .i64 sr, .int .i64 op, .string rp, .string tg, .string dg, .string tx], .int .i64 1048576] w fun e w' => (∃ r : Nat, e = .returned (.int .i64 r)) ∧ Below w.heap.size w w' := by
  have HB := hide (bel1 w (.cells #[.int .i64 ss, .int .i64 sr, .int .i64 op, .string rp, .string tg, .string dg, .string tx] 23))
  obtain ⟨R, hR⟩ : ∃ R : Nat, R + (rp.size + tg.size + dg.size + tx.size) = 1048576 := ⟨1048576 - (rp.size + tg.size + dg.size + tx.size), by omega⟩
  have HR := hide hR
  clear hR
  go_enter Tryd.func5, Tryd.ntmps5
  go_wp2
  go_ret
  refine ⟨⟨R, ?_⟩, unhide HB⟩
  show Ending.returned (.int .i64 _) = Ending.returned (.int .i64 _)
  have := unhide HR
  congr 2
  omega

set_option maxRecDepth 10000 in
set_option maxHeartbeats 1000000 in
theorem szCmd_no (ss sr op : Int) (rp tg dg tx : ByteArray) (w : World) (h : ¬ rp.size + tg.size + dg.size + tx.size ≤ 1048576) (h1 : rp.size ≤ maxLen) (h2 : tg.size ≤ maxLen) (h3 : dg.size ≤ maxLen) (h4 : tx.size ≤ maxLen) :
    Calls Tryd.prog 5 #[.agg #[.int .i64 ss, .int .i64 sr, .int .i64 op, .string rp, .string tg, .string dg, .string tx], .int .i64 1048576] w fun e w' => e = .returned (.int .i64 (-1)) ∧ Below w.heap.size w w' := by
  unfold maxLen at h1 h2 h3 h4
  have HB := hide (bel1 w (.cells #[.int .i64 ss, .int .i64 sr, .int .i64 op, .string rp, .string tg, .string dg, .string tx] 23))
  by_cases g1 : 1048576 < rp.size
  · go_enter Tryd.func5, Tryd.ntmps5
    go_wp2
    go_ret
    exact ⟨rfl, unhide HB⟩
  by_cases g2 : 1048576 < rp.size + tg.size
  · go_enter Tryd.func5, Tryd.ntmps5
    go_wp2
    go_ret
    exact ⟨rfl, unhide HB⟩
  by_cases g3 : 1048576 < rp.size + tg.size + dg.size
  · go_enter Tryd.func5, Tryd.ntmps5
    go_wp2
    go_ret
    exact ⟨rfl, unhide HB⟩
  · go_enter Tryd.func5, Tryd.ntmps5
    go_wp2
    go_ret
    exact ⟨rfl, unhide HB⟩

set_option maxRecDepth 10000 in
theorem eqCmd_calls (ss sr op : Int) (rp tg dg tx : ByteArray) (w : World) : Calls Tryd.prog 11 #[.agg #[.int .i64 ss, .int .i64 sr, .int .i64 op, .string rp, .string tg, .string dg, .string tx], .agg #[.int .i64 ss, .int .i64 sr, .int .i64 op, .string rp, .string tg, .string dg, .string tx]] w fun e w' => e = .returned (.bool true) ∧ Below w.heap.size w w' := by
  have HB := hide (belOn (bel1 w (.cells #[.int .i64 ss, .int .i64 sr, .int .i64 op, .string rp, .string tg, .string dg, .string tx] 26)) (bel1 _ (.cells #[.int .i64 ss, .int .i64 sr, .int .i64 op, .string rp, .string tg, .string dg, .string tx] 26)))
  go_enter Tryd.func11, Tryd.ntmps11
  go_wp2_with fail
  go_ret
  exact ⟨rfl, unhide HB⟩
end Go.Proofs.YtnkjdojpegmlcaaDoor
