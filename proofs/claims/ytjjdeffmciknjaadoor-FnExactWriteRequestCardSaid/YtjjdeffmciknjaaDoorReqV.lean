/- What the measure of a request gives. -/
import Derived.Test.YtjjdeffmciknjaaDoorReqR
namespace Go.Proofs.YtjjdeffmciknjaaDoor.Plain
open Go.RowKit
set_option linter.unusedVariables false

/-- What is known of a request that is not too long. -/
structure ReqSm (m p : ByteArray) (nq : Nat) (qs : List Hd) (nh : Nat) (hs : List Hd) (bd : ByteArray) : Prop where
  lq : qs.length = nq
  lh : hs.length = nh
  bq : nq ≤ 1048576
  bh : nh ≤ 1048576
  sq : smallH qs
  sh : smallH hs
  sm : m.size ≤ 1000000000
  sp : p.size ≤ 1000000000
  sb : bd.size ≤ 1000000000
theorem sm_of {W : World} {m p : ByteArray} {aq : Option Addr} {nq cq : Nat} {qs : List Hd} {ah : Option Addr} {nh ch : Nat} {hs : List Hd} {bd : ByteArray} (h : ReqArg W m p aq nq cq qs ah nh ch hs bd) (hb : totR m p qs hs bd ≤ 1048576) : ReqSm m p nq qs nh hs bd := by
  have h1 := h.q.len
  have h2 := h.h.len
  unfold totR at hb
  exact ⟨h1, h2, by omega, by omega, fun x hx => by have := totH_mem qs x hx; omega, fun x hx => by have := totH_mem hs x hx; omega, by omega, by omega, by omega⟩
theorem ReqSm.at {W : World} {m p : ByteArray} {aq : Option Addr} {nq : Nat} {qs : List Hd} {ah : Option Addr} {nh : Nat} {hs : List Hd} {bd : ByteArray} (h : ReqSm m p nq qs nh hs bd) (h1 : RowAt hdrE W aq qs) (h2 : RowAt hdrE W ah hs) : ReqAt W m p aq nq qs ah nh hs bd :=
  ⟨h.lq, h.lh, h.bq, h.bh, h.sq, h.sh, h.sm, h.sp, h.sb, h1, h2⟩
end Go.Proofs.YtjjdeffmciknjaaDoor.Plain
