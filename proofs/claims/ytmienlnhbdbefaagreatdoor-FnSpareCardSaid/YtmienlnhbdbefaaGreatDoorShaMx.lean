/- Mixed of the program and of the specification. -/
import Derived.Test.YtmienlnhbdbefaaGreatDoorShaT
import Derived.Test.YtmienlnhbdbefaaGreatDoorShaY
namespace Go.Proofs.YtmienlnhbdbefaaGreatDoor
open Go.RowKit Plain
set_option linter.unusedVariables false

namespace Plain
def mixB (s t : ByteArray) : ByteArray := s ++ ⟨#[0]⟩ ++ t
def mxI (s t : ByteArray) : Int := bits .or .u64 ((sumL (mixB s t)).getD 0 0 * 4294967296) ((sumL (mixB s t)).getD 1 0)
theorem mixB_size (s t : ByteArray) : (mixB s t).size = s.size + 1 + t.size := by simp [mixB]; rfl
theorem sumL_length (s : ByteArray) : (sumL s).length = 8 := hN_length _ _
theorem sumL_word (s : ByteArray) : ∀ x ∈ sumL s, Word x := hN_word _ _
end Plain

theorem implMixed_calls (s t : ByteArray) (w : World) (hK : KAt w) (hs : s.size ≤ 1048576) (ht : t.size ≤ 1048576) :
    Calls Tryz.prog 59 #[.string s, .string t] w fun r w' => r = .returned (.int .u64 (mxI s t)) ∧ Below w.heap.size w w' := by
  have HK := hide hK
  clear hK
  go_enter Tryz.func59, Tryz.ntmps59
  go_wp2_with fail
  refine (Sum_calls (mixB s t) _ (unhide HK) (by rw [mixB_size]; omega)).mono ?_
  rintro e w1 ⟨rfl, hW, hb, hz⟩
  have hmx : mxI s t = bits .or .u64 ((sumL (mixB s t)).getD 0 0 * 4294967296) ((sumL (mixB s t)).getD 1 0) := rfl
  have hv8 := sumL_length (mixB s t)
  have hvw := sumL_word (mixB s t)
  generalize sumL (mixB s t) = v at hW hv8 hvw hmx
  obtain ⟨v0, v1, v2, v3, v4, v5, v6, v7, rfl⟩ := list8 hv8
  obtain ⟨⟨q0, q1, q2, q3, q4, q5, q6, q7⟩, -⟩ := words8 hW
  obtain ⟨x0, x1⟩ := hvw v0 (by simp)
  obtain ⟨y0, y1⟩ := hvw v1 (by simp)
  have HMX := hide hmx
  have HB := hide hb
  clear hmx hvw hv8 hb hW q2 q3 q4 q5 q6 q7
  go_wp2_with fail
  go_region
  all_goals (try go_wp2)
  go_ret
  exact ⟨by rw [unhide HMX]; rfl, (unhide HB).drew⟩

theorem specMixed_calls (s t : ByteArray) (w : World) (hs : s.size ≤ 1048576) (ht : t.size ≤ 1048576) :
    Calls Tryz.prog 66 #[.string s, .string t] w fun r w' => r = .returned (.int .u64 (mxI s t)) ∧ Below w.heap.size w w' := by
  go_enter Tryz.func66, Tryz.ntmps66
  go_wp2_with fail
  refine (specSum_calls (mixB s t) _ (by rw [mixB_size]; omega)).mono ?_
  rintro e w1 ⟨g, c, rfl, hg, hz, hW, hb⟩
  have hmx : mxI s t = bits .or .u64 ((sumL (mixB s t)).getD 0 0 * 4294967296) ((sumL (mixB s t)).getD 1 0) := rfl
  have hv8 := sumL_length (mixB s t)
  have hvw := sumL_word (mixB s t)
  generalize sumL (mixB s t) = v at hW hv8 hvw hmx
  obtain ⟨v0, v1, v2, v3, v4, v5, v6, v7, rfl⟩ := list8 hv8
  obtain ⟨⟨q0, q1, q2, q3, q4, q5, q6, q7⟩, -⟩ := words8 hW
  obtain ⟨x0, x1⟩ := hvw v0 (by simp)
  obtain ⟨y0, y1⟩ := hvw v1 (by simp)
  have HMX := hide hmx
  have HB := hide hb
  clear hmx hvw hv8 hb hW q2 q3 q4 q5 q6 q7
  go_wp2_with fail
  go_region
  all_goals (try go_wp2)
  go_ret
  exact ⟨by rw [unhide HMX]; rfl, (unhide HB).drew⟩
end Go.Proofs.YtmienlnhbdbefaaGreatDoor
