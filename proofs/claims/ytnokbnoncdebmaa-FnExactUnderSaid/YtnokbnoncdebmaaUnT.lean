/- Under by the specification. -/
import Derived.Test.YtnokbnoncdebmaaUnS
namespace Go.Proofs.Ytnokbnoncdebmaa
open Go.RowKit Go.Maps Plain
set_option linter.unusedVariables false

namespace Plain
/-- What Under answers. -/
def undL (ls : List ByteArray) (p : ByteArray) : List ByteArray := if setB ls && prB p then ls.filter (preB p) else []
end Plain

set_option maxRecDepth 10000 in
set_option maxHeartbeats 2000000 in
theorem spec_Under (a : Option Addr) (n c : Nat) (ls : List ByteArray) (p : ByteArray) (w : World) (h : TxtsAt w a n ls) (hp : p.size ≤ 1000000000) :
    Calls Try.prog 7 #[.slice a n c, .string p] w fun e w' => ∃ v, e = .returned v ∧ OwnR strE w' w.heap.size v (undL ls p) ∧ Below w.heap.size w w' := by
  have HS := hide (l7Set_calls a n c ls w h)
  have HP := hide (fun W => l7Prefix_calls p W hp)
  unfold undL
  cases hs : setB ls with
  | false =>
    rw [hs] at HS
    clear h
    go_enter Try.func7, Try.ntmps7
    go_wp2_with fail
    refine (unhide HS).mono ?_
    rintro e w1 ⟨rfl, hb1⟩
    have hz := hb1.size
    go_wp2_with fail
    go_ret
    exact ⟨_, rfl, ownR_empty strE w1 w.heap.size hz, hb1.alloc hz _⟩
  | true =>
    rw [hs] at HS
    cases hq : prB p with
    | false =>
      rw [hq] at HP
      clear h
      go_enter Try.func7, Try.ntmps7
      go_wp2_with fail
      refine (unhide HS).mono ?_
      rintro e w1 ⟨rfl, hb1⟩
      have hz := hb1.size
      go_wp2_with fail
      refine (unhide HP _).mono ?_
      rintro e w2 ⟨rfl, rfl⟩
      go_wp2_with fail
      go_ret
      exact ⟨_, rfl, ownR_empty strE w1 w.heap.size hz, hb1.alloc hz _⟩
    | true =>
      rw [hq] at HP
      have hp2 : p.size ≤ 2 := by
        unfold prB at hq
        rw [Bool.and_eq_true] at hq
        have := of_decide_eq_true hq.2
        omega
      have HU := hide (fun (W : World) (hW : Below w.heap.size w W) => l7Under_calls a n c ls p W (h.below hW) (fun s q => (digB_form ((setB_all hs).2.1 s q)).1) hp2)
      clear h
      go_enter Try.func7, Try.ntmps7
      go_wp2_with fail
      refine (unhide HS).mono ?_
      rintro e w1 ⟨rfl, hb1⟩
      have hz := hb1.size
      go_wp2_with fail
      refine (unhide HP _).mono ?_
      rintro e w2 ⟨rfl, rfl⟩
      go_wp2_with fail
      refine (unhide HU _ hb1).mono ?_
      rintro e w3 ⟨v, rfl, hO, hb3⟩
      obtain ⟨a3, c3, rfl⟩ := hO.form
      have HO := hide (OwnR.le hO hz)
      have HB := hide (hb1.trans (hb3.mono hz))
      clear hO hb3 hb1
      go_wp2_with fail
      go_ret
      exact ⟨_, rfl, unhide HO, unhide HB⟩
end Go.Proofs.Ytnokbnoncdebmaa
