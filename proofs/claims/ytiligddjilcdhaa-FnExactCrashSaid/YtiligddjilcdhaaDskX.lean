/- A disk that an exact law copies is one that the programs bear. -/
import Derived.Test.YtiligddjilcdhaaDskR
import Derived.Test.YtiligddjilcdhaaDskI
namespace Go.Proofs.Ytiligddjilcdhaa
open Go.RowKit Plain
set_option linter.unusedVariables false

/-- What the measure of a disk bounds. -/
structure Plain.DskSm (nL nS nO : Nat) (live safe : List Fl) (ops : List Dop) : Prop where
  ll : live.length = nL
  ls : safe.length = nS
  lo : ops.length = nO
  bl : nL ≤ 1048576
  bs : nS ≤ 1048576
  bo : nO ≤ 1048576
  fl : FitF live
  fs : FitF safe
  fo : ∀ o ∈ ops, SmO o
theorem Plain.dsk_sm {W : World} {aL : Option Addr} {nL cL : Nat} {live : List Fl} {aS : Option Addr} {nS cS : Nat} {safe : List Fl} {aO : Option Addr} {nO cO : Nat} {ops : List Dop}
    (h : DskArg W aL nL cL live aS nS cS safe aO nO cO ops) (hz : totD live safe ops ≤ 1048576) : DskSm nL nS nO live safe ops := by
  unfold totD at hz
  have h1 := h.l.len
  have h2 := h.s.len
  have h3 := h.o.len
  refine ⟨h1, h2, h3, by omega, by omega, by omega, fun f hf => ?_, fun f hf => ?_, fun o ho => ?_⟩
  · have := totF_mem live f hf; omega
  · have := totF_mem safe f hf; omega
  · have := totO_mem ops o ho; exact ⟨by omega, by omega, by omega⟩
theorem Plain.dsk_at {W : World} {B nL nS nO : Nat} {live safe : List Fl} {ops : List Dop} {g1 g2 g3 : Nat} (h : DskSm nL nS nO live safe ops)
    (h1 : OwnR fileE W B (.slice (some ⟨g1, 0, none⟩) nL nL) live) (h2 : OwnR fileE W B (.slice (some ⟨g2, 0, none⟩) nS nS) safe) (h3 : OwnR dopE W B (.slice (some ⟨g3, 0, none⟩) nO nO) ops) :
    DiskAt W (some ⟨g1, 0, none⟩) nL nL live (some ⟨g2, 0, none⟩) nS nS safe (some ⟨g3, 0, none⟩) nO nO ops :=
  ⟨h1.at, h2.at, h3.at, h.ll, h.ls, h.lo, h1.ad, h2.ad, h3.ad, h.fl, h.fs, h.fo, h.bl, h.bs, h.bo⟩
end Go.Proofs.Ytiligddjilcdhaa
