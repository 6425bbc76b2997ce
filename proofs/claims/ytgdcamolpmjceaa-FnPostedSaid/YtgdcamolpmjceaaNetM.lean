/- Nets as plain mathematics; what a packet's ends may be, by both programs. -/
import Derived.Test.YtgdcamolpmjceaaRzE
import Derived.Test.YtgdcamolpmjceaaMan
import Derived.Test.YtgdcamolpmjceaaPktR
import Derived.Deep.QuietTactic
import Derived.BigQuiet
namespace Go.Proofs.Ytgdcamolpmjceaa
open Go.RowKit Plain
set_option linter.unusedVariables false

namespace Plain
def nodeB (n : Int) : Bool := decide (1 ≤ n) && decide (n ≤ 50)
def endsB (f t : Int) (b : ByteArray) : Bool := (nodeB f && nodeB t) && decide (b.size ≤ 20000)
def pktB (nx p : Int) (e : Pkt) : Bool := (decide (p < e.id) && decide (e.id < nx)) && endsB e.src e.dst e.body
def okP (nx : Int) : Int → List Pkt → Bool
  | _, [] => true
  | p, e :: l => pktB nx p e && okP nx e.id l
def prevI (es : List Pkt) : Nat → Int
  | 0 => 0
  | k + 1 => ((es[k]?).map fun e => e.id).getD 0
theorem okP_step (nx : Int) (es : List Pkt) (k : Nat) (h : k < es.length) : okP nx (prevI es k) (es.drop k) = (pktB nx (prevI es k) es[k] && okP nx (prevI es (k + 1)) (es.drop (k + 1))) := by
  rw [List.drop_eq_getElem_cons h, okP]
  congr 2
  rw [prevI, List.getElem?_eq_getElem h]
  rfl
def netB (nx : Int) (es : List Pkt) : Bool := (decide (1 ≤ nx) && decide (nx ≤ 1000000000000)) && (decide (es.length ≤ 300) && okP nx 0 es)
end Plain

set_option maxRecDepth 10000 in
theorem nodeIdOk_calls (n : Int) (w : World) : Calls Try.prog 21 #[.int .i64 n] w fun e w' => e = .returned (.bool (nodeB n)) ∧ w = w' := by
  obtain ⟨R, hR⟩ : ∃ R, nodeB n = R := ⟨_, rfl⟩
  rw [hR]
  unfold nodeB at hR
  have HR := hide hR
  clear hR
  go_enter Try.func21, Try.ntmps21
  go_wp2
  all_goals go_ret
  all_goals refine ⟨?_, rfl⟩
  all_goals (show Ending.returned (.bool _) = Ending.returned (.bool _); rw [← unhide HR]; congr 2; rw [Bool.eq_iff_iff]; simp; try omega)

set_option maxRecDepth 10000 in
set_option maxHeartbeats 1000000 in
theorem formOk_calls (f t : Int) (b : ByteArray) (w : World) (hb : b.size ≤ 1000000000000) : Calls Try.prog 31 #[.int .i64 f, .int .i64 t, .string b] w fun e w' => e = .returned (.bool (endsB f t b)) ∧ w = w' := by
  unfold endsB
  cases hf : nodeB f with
  | false =>
    have HF := hide hf
    clear hf
    go_enter Try.func31, Try.ntmps31
    go_wp2_with fail
    refine (nodeIdOk_calls f _).mono ?_
    rintro e w1 ⟨rfl, rfl⟩
    rw [unhide HF]
    go_wp2_with fail
    go_ret
    exact ⟨rfl, rfl⟩
  | true =>
    have HF := hide hf
    cases ht : nodeB t with
    | false =>
      have HT := hide ht
      clear hf ht
      go_enter Try.func31, Try.ntmps31
      go_wp2_with fail
      refine (nodeIdOk_calls f _).mono ?_
      rintro e w1 ⟨rfl, rfl⟩
      rw [unhide HF]
      go_wp2_with fail
      refine (nodeIdOk_calls t _).mono ?_
      rintro e w1 ⟨rfl, rfl⟩
      rw [unhide HT]
      go_wp2_with fail
      go_ret
      exact ⟨rfl, rfl⟩
    | true =>
      have HT := hide ht
      clear hf ht
      obtain ⟨R, hR⟩ : ∃ R, decide (b.size ≤ 20000) = R := ⟨_, rfl⟩
      rw [hR]
      have HR := hide hR
      clear hR
      go_enter Try.func31, Try.ntmps31
      go_wp2_with fail
      refine (nodeIdOk_calls f _).mono ?_
      rintro e w1 ⟨rfl, rfl⟩
      rw [unhide HF]
      go_wp2_with fail
      refine (nodeIdOk_calls t _).mono ?_
      rintro e w1 ⟨rfl, rfl⟩
      rw [unhide HT]
      go_wp2_with fail
      go_ret
      refine ⟨?_, rfl⟩
      show Ending.returned (.bool _) = Ending.returned (.bool _)
      rw [← unhide HR]
      congr 2
      rw [Bool.eq_iff_iff]
      simp
      try omega

set_option maxRecDepth 10000 in
set_option maxHeartbeats 1000000 in
theorem l8Ends_calls (f t : Int) (b : ByteArray) (w : World) (hb : b.size ≤ 1000000000000) : Calls Try.prog 30 #[.int .i64 f, .int .i64 t, .string b] w fun e w' => e = .returned (.bool (endsB f t b)) ∧ w = w' := by
  unfold endsB nodeB
  cases hf : (decide (1 ≤ f) && decide (f ≤ 50)) with
  | false =>
    have HF := hide hf
    clear hf
    go_enter Try.func30, Try.ntmps30
    go_wp2_with fail
    refine (l1In_calls f _ _ _).mono ?_
    rintro e w1 ⟨rfl, rfl⟩
    rw [unhide HF]
    go_wp2_with fail
    go_ret
    exact ⟨rfl, rfl⟩
  | true =>
    have HF := hide hf
    cases ht : (decide (1 ≤ t) && decide (t ≤ 50)) with
    | false =>
      have HT := hide ht
      clear hf ht
      go_enter Try.func30, Try.ntmps30
      go_wp2_with fail
      refine (l1In_calls f _ _ _).mono ?_
      rintro e w1 ⟨rfl, rfl⟩
      rw [unhide HF]
      go_wp2_with fail
      refine (l1In_calls t _ _ _).mono ?_
      rintro e w1 ⟨rfl, rfl⟩
      rw [unhide HT]
      go_wp2_with fail
      go_ret
      exact ⟨rfl, rfl⟩
    | true =>
      have HT := hide ht
      clear hf ht
      obtain ⟨R, hR⟩ : ∃ R, decide (b.size ≤ 20000) = R := ⟨_, rfl⟩
      rw [hR]
      have HR := hide hR
      clear hR
      go_enter Try.func30, Try.ntmps30
      go_wp2_with fail
      refine (l1In_calls f _ _ _).mono ?_
      rintro e w1 ⟨rfl, rfl⟩
      rw [unhide HF]
      go_wp2_with fail
      refine (l1In_calls t _ _ _).mono ?_
      rintro e w1 ⟨rfl, rfl⟩
      rw [unhide HT]
      go_wp2_with fail
      go_ret
      refine ⟨?_, rfl⟩
      show Ending.returned (.bool _) = Ending.returned (.bool _)
      rw [← unhide HR]
      congr 2
      rw [Bool.eq_iff_iff]
      simp
      try omega
end Go.Proofs.Ytgdcamolpmjceaa
