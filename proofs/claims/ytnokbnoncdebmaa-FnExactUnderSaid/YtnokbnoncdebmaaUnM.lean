/- Which keys lie under a branch: the mathematics. -/
import Derived.Test.YtnokbnoncdebmaaUnD
namespace Go.Proofs.Ytnokbnoncdebmaa
open Go.RowKit Go.Maps Plain
set_option linter.unusedVariables false

namespace Plain
theorem ho_pre (l pl : List UInt8) (h : HexL l) (hp : HexL pl) (hl : 2 ≤ l.length) (hk : pl.length ≤ 2) : decide (((kyP l).getD 0 0).toNat / 2 ^ (4 * (2 - pl.length)) = brN pl) = (l.take pl.length == pl) := by
  match l, hl, h with
  | c0 :: c1 :: r, _, h =>
    have h0 := h c0 (by simp)
    have h1 := h c1 (by simp)
    have n1 := by1_nat h0 h1
    have e0 := hexI_bounds (c0.toNat : Int)
    have e1 := hexI_bounds (c1.toNat : Int)
    rw [kyP, show (by1 c0 c1 :: kyP r).getD 0 0 = by1 c0 c1 from rfl]
    match pl, hk, hp with
    | [], _, _ =>
      have : (by1 c0 c1).toNat / 256 = 0 := by omega
      simp [brN, this]
    | [a], _, hp =>
      have ha := hp a (by simp)
      have q := hexI_lt h0 ha
      have : (by1 c0 c1).toNat / 16 = (hexI c0.toNat).toNat := by omega
      rw [Bool.eq_iff_iff]
      simp [brN, this, ← q.2]
      omega
    | [a, b], _, hp =>
      have ha := hp a (by simp)
      have hb := hp b (by simp)
      have q := hexI_lt h0 ha
      have q2 := hexI_lt h1 hb
      have f0 := hexI_bounds (a.toNat : Int)
      have f1 := hexI_bounds (b.toNat : Int)
      rw [Bool.eq_iff_iff]
      simp [brN, ← q.2, ← q2.2]
      omega
    | _ :: _ :: _ :: _, hk, _ => simp at hk
theorem prB_hex {p : ByteArray} (h : prB p = true) : p.size ≤ 2 ∧ HexL p.data.toList := by
  unfold prB at h
  rw [Bool.and_eq_true] at h
  have h2 := of_decide_eq_true h.2
  refine ⟨by omega, fun c hc => ?_⟩
  have h3 := h.1
  unfold hexFrom at h3
  rw [List.drop_zero, List.all_eq_true] at h3
  exact of_decide_eq_true (h3 c hc)
theorem hold_pre {p s : ByteArray} (hp : prB p = true) (hs : digB s = true) : hoB p.size (brN p.data.toList) (kyL s) = preB p s := by
  obtain ⟨p1, p2⟩ := prB_hex hp
  obtain ⟨a1, a2, a3, a4⟩ := digB_form hs
  have := ho_pre (s.data.toList.drop 7) p.data.toList a4 p2 (by omega) (by simpa using p1)
  unfold hoB preB
  rw [kyL_P a1]
  rw [show p.data.toList.length = p.size from by simp] at this
  rw [this, ByteArray.toList_eq, ByteArray.toList_eq]
  congr 1
  simp [List.extract_eq_take_drop]
theorem brN_lt {p : ByteArray} (hp : prB p = true) : brN p.data.toList < 256 := by
  obtain ⟨p1, p2⟩ := prB_hex hp
  have hl : p.data.toList.length ≤ 2 := by simpa using p1
  generalize p.data.toList = l at hl
  match l, hl with
  | [], _ => simp [brN]
  | [a], _ => have := hexI_bounds (a.toNat : Int); simp [brN]; omega
  | [a, b], _ => have := hexI_bounds (a.toNat : Int); have := hexI_bounds (b.toNat : Int); simp [brN]; omega
  | _ :: _ :: _ :: _, h => simp at h
theorem filt_map {p : ByteArray} {ls : List ByteArray} (hp : prB p = true) (hs : ∀ s ∈ ls, digB s = true) : ((ls.map kyL).filter (hoB p.size (brN p.data.toList))) = (ls.filter (preB p)).map kyL := by
  rw [List.filter_map]
  congr 1
  apply List.filter_congr
  intro s h
  exact hold_pre hp (hs s h)
end Plain
end Go.Proofs.Ytnokbnoncdebmaa
