/- ReadRef of the specification by its contract. -/
import Derived.Test.YtkeindhefiaghaaDoorRRef
namespace Go.Proofs.YtkeindhefiaghaaDoor
open Go.RowKit Plain
set_option linter.unusedVariables false

namespace Plain
theorem belowAlloc {B : Nat} {w W : World} (hB : B ≤ w.heap.size) (h : Below B w W) (o : Obj) : Below B w (W.alloc o) := h.alloc (Nat.le_trans hB h.size) o
theorem belowSet {B : Nat} {w W : World} (h : Below B w W) {b o : Nat} (hb : B ≤ b) (v : Value) : Below B w (W.setCell ⟨b, o, none⟩ v) := h.setCell hb v
end Plain

set_option maxHeartbeats 2000000 in
theorem specRR_repo (s r R0 : ByteArray) (I : Nat) (w : World)
    (HF : ∀ w, Calls Tryd.prog 34 #[.string s, .int .u8 58, .int .u8 64] w fun e w' => e = .returned (.int .i64 (I : Int)) ∧ w = w') (hI : I ≤ s.size) (hs : s.size ≤ 10000000000)
    (e1 : s.extract 0 I = r) (e2 : s.extract I s.size = R0) (hr : r.size ≤ 100000000000) (hR0 : R0.size ≤ 100000000000)
    (h1 : repoB r = false) :
    Calls Tryd.prog 15 #[.string s] w fun e w' => e = .returned (refV e0 e0 e0 1) ∧ Below w.heap.size w w' := by
  have HA := hide HF
  have HR := hide h1
  have i0 : (0 : Int) ≤ (I : Int) := by omega
  have i1 : (I : Int) ≤ (s.size : Int) := by omega
  clear HF h1 e2
  go_enter Tryd.func15, Tryd.ntmps15
  go_wp2_with fail
  refine (unhide HA _).mono ?_
  rintro e w1 ⟨rfl, rfl⟩
  go_wp2_with fail
  refine (spec_RepoOk r _ (by omega)).mono ?_
  rintro e w1 ⟨rfl, hb1⟩
  rw [unhide HR]
  have hb := hide (belowVia (Nat.le_refl w.heap.size) hb1 (by repeat (first | apply belowDrew | exact Below.refl _ _ | refine belowAlloc (Nat.le_refl _) ?_ _)))
  obtain ⟨hc, hf⟩ := bcell hb1
  have hz : w.heap.size + 2 < w1.heap.size := by have := hb1.size; simp at this; omega
  have q0 : w1.cell? ⟨w.heap.size, 0, none⟩ = some (.string ⟨#[]⟩) := by rw [hc _ _ (by simp; omega)]; simp [go_sem]
  have q1 : w1.cell? ⟨w.heap.size, 1, none⟩ = some (.string ⟨#[]⟩) := by rw [hc _ _ (by simp; omega)]; simp [go_sem]
  have q2 : w1.cell? ⟨w.heap.size, 2, none⟩ = some (.string ⟨#[]⟩) := by rw [hc _ _ (by simp; omega)]; simp [go_sem]
  clear hb1
  go_wp2_with fail
  exact bodyPost_ret (v := refV e0 e0 e0 1) (by simp [results, Tryd.results15, go_sem, q0, q1, q2, refV, e0]) rfl ⟨rfl, by repeat (first | exact unhide hb | refine belowSet ?_ (by omega) _)⟩

set_option maxHeartbeats 4000000 in
theorem specRR_tag (s r R0 t R1 d : ByteArray) (I K : Nat) (hD : Bool) (w : World)
    (HF : ∀ w, Calls Tryd.prog 34 #[.string s, .int .u8 58, .int .u8 64] w fun e w' => e = .returned (.int .i64 (I : Int)) ∧ w = w') (hI : I ≤ s.size) (hs : s.size ≤ 10000000000)
    (e1 : s.extract 0 I = r) (e2 : s.extract I s.size = R0) (hr : r.size ≤ 100000000000) (hR0 : R0.size ≤ 100000000000)
    (h1 : repoB r = true) (p1 : R0.toList.isEmpty = false) (p2 : 0 < R0.size) (p3 : R0[0].toNat = 58)
    (HF2 : ∀ w, Calls Tryd.prog 34 #[.string R0, .int .u8 64, .int .u8 64] w fun e w' => e = .returned (.int .i64 (K : Int)) ∧ w = w') (hK1 : 1 ≤ K) (hK : K ≤ R0.size)
    (e3 : R0.extract 1 K = t) (e4 : R0.extract K R0.size = R1) (p4 : R1.toList.isEmpty = !hD) (p5 : hD = true → 0 < R1.size) (e5 : R1.extract 1 R1.size = d) (ht : t.size ≤ 100000000000) (hd : d.size ≤ 100000000000) (hR1 : R1.size ≤ 100000000000) (hde : hD = false → d = e0) :
    Calls Tryd.prog 15 #[.string s] w fun e w' => e = .returned (finV r t d true hD) ∧ Below w.heap.size w w' := by
  have HA := hide HF
  have HB := hide HF2
  have HR := hide h1
  have i0 : (0 : Int) ≤ (I : Int) := by omega
  have i1 : (I : Int) ≤ (s.size : Int) := by omega
  have i2 : (1 : Int) ≤ (K : Int) := by omega
  have i3 : (K : Int) ≤ (R0.size : Int) := by omega
  clear HF HF2
  cases h4 : tagB t with
  | false =>
    rw [show finV r t d true hD = refV e0 e0 e0 2 from by unfold finV; rw [h1, h4]; rfl]
    have H4 := hide h4
    clear h1 h4 p4 p5 e5 e4 hde
    go_enter Tryd.func15, Tryd.ntmps15
    go_wp2_with fail
    refine (unhide HA _).mono ?_
    rintro e w1 ⟨rfl, rfl⟩
    go_wp2_with fail
    refine (spec_RepoOk r _ (by omega)).mono ?_
    rintro e w1 ⟨rfl, hb1⟩
    rw [unhide HR]
    have hb := hide (belowVia (Nat.le_refl w.heap.size) hb1 (by repeat (first | apply belowDrew | exact Below.refl _ _ | refine belowAlloc (Nat.le_refl _) ?_ _)))
    obtain ⟨hc, hf⟩ := bcell hb1
    have hz : w.heap.size + 2 < w1.heap.size := by have := hb1.size; simp at this; omega
    have q0 : w1.cell? ⟨w.heap.size, 0, none⟩ = some (.string ⟨#[]⟩) := by rw [hc _ _ (by simp; omega)]; simp [go_sem]
    have q1 : w1.cell? ⟨w.heap.size, 1, none⟩ = some (.string ⟨#[]⟩) := by rw [hc _ _ (by simp; omega)]; simp [go_sem]
    have q2 : w1.cell? ⟨w.heap.size, 2, none⟩ = some (.string ⟨#[]⟩) := by rw [hc _ _ (by simp; omega)]; simp [go_sem]
    clear hb1
    go_wp2_with (first | (go_at_call 35; refine (spec_TagOk t _ (by omega)).mono ?_; rintro e w2 ⟨rfl, rfl⟩; rw [unhide H4]) | (go_at_call 34; refine (unhide HB _).mono ?_; rintro e w2 ⟨rfl, rfl⟩))
    exact bodyPost_ret (v := refV e0 e0 e0 2) (by simp [results, Tryd.results15, go_sem, q0, q1, q2, refV, e0]) rfl ⟨rfl, by repeat (first | exact unhide hb | refine belowSet ?_ (by omega) _)⟩
  | true =>
    have H4 := hide h4
    cases hD with
    | true =>
      have p6 : 0 < R1.size := p5 rfl
      have p7 : R1.toList.isEmpty = false := p4
      have i4 : (1 : Int) ≤ (R1.size : Int) := by omega
      clear p4 p5 hde
      cases h5 : digB d with
      | false =>
        rw [show finV r t d true true = refV e0 e0 e0 3 from by unfold finV; rw [h1, h4, h5]; rfl]
        have H5 := hide h5
        clear h1 h4 h5
        go_enter Tryd.func15, Tryd.ntmps15
        go_wp2_with fail
        refine (unhide HA _).mono ?_
        rintro e w1 ⟨rfl, rfl⟩
        go_wp2_with fail
        refine (spec_RepoOk r _ (by omega)).mono ?_
        rintro e w1 ⟨rfl, hb1⟩
        rw [unhide HR]
        have hb := hide (belowVia (Nat.le_refl w.heap.size) hb1 (by repeat (first | apply belowDrew | exact Below.refl _ _ | refine belowAlloc (Nat.le_refl _) ?_ _)))
        obtain ⟨hc, hf⟩ := bcell hb1
        have hz : w.heap.size + 2 < w1.heap.size := by have := hb1.size; simp at this; omega
        have q0 : w1.cell? ⟨w.heap.size, 0, none⟩ = some (.string ⟨#[]⟩) := by rw [hc _ _ (by simp; omega)]; simp [go_sem]
        have q1 : w1.cell? ⟨w.heap.size, 1, none⟩ = some (.string ⟨#[]⟩) := by rw [hc _ _ (by simp; omega)]; simp [go_sem]
        have q2 : w1.cell? ⟨w.heap.size, 2, none⟩ = some (.string ⟨#[]⟩) := by rw [hc _ _ (by simp; omega)]; simp [go_sem]
        clear hb1
        go_wp2_with (first | (go_at_call 35; refine (spec_TagOk t _ (by omega)).mono ?_; rintro e w2 ⟨rfl, rfl⟩; rw [unhide H4]) | (go_at_call 34; refine (unhide HB _).mono ?_; rintro e w2 ⟨rfl, rfl⟩) | (go_at_call 36; refine (spec_DigestOk d _ (by omega)).mono ?_; rintro e w2 ⟨rfl, rfl⟩; rw [unhide H5]))
        exact bodyPost_ret (v := refV e0 e0 e0 3) (by simp [results, Tryd.results15, go_sem, q0, q1, q2, refV, e0]) rfl ⟨rfl, by repeat (first | exact unhide hb | refine belowSet ?_ (by omega) _)⟩
      | true =>
        rw [show finV r t d true true = refV r t d 0 from by unfold finV; rw [h1, h4, h5]; rfl]
        have H5 := hide h5
        clear h1 h4 h5
        go_enter Tryd.func15, Tryd.ntmps15
        go_wp2_with fail
        refine (unhide HA _).mono ?_
        rintro e w1 ⟨rfl, rfl⟩
        go_wp2_with fail
        refine (spec_RepoOk r _ (by omega)).mono ?_
        rintro e w1 ⟨rfl, hb1⟩
        rw [unhide HR]
        have hb := hide (belowVia (Nat.le_refl w.heap.size) hb1 (by repeat (first | apply belowDrew | exact Below.refl _ _ | refine belowAlloc (Nat.le_refl _) ?_ _)))
        obtain ⟨hc, hf⟩ := bcell hb1
        have hz : w.heap.size + 2 < w1.heap.size := by have := hb1.size; simp at this; omega
        have q0 : w1.cell? ⟨w.heap.size, 0, none⟩ = some (.string ⟨#[]⟩) := by rw [hc _ _ (by simp; omega)]; simp [go_sem]
        have q1 : w1.cell? ⟨w.heap.size, 1, none⟩ = some (.string ⟨#[]⟩) := by rw [hc _ _ (by simp; omega)]; simp [go_sem]
        have q2 : w1.cell? ⟨w.heap.size, 2, none⟩ = some (.string ⟨#[]⟩) := by rw [hc _ _ (by simp; omega)]; simp [go_sem]
        clear hb1
        go_wp2_with (first | (go_at_call 35; refine (spec_TagOk t _ (by omega)).mono ?_; rintro e w2 ⟨rfl, rfl⟩; rw [unhide H4]) | (go_at_call 34; refine (unhide HB _).mono ?_; rintro e w2 ⟨rfl, rfl⟩) | (go_at_call 36; refine (spec_DigestOk d _ (by omega)).mono ?_; rintro e w2 ⟨rfl, rfl⟩; rw [unhide H5]))
        exact bodyPost_ret (v := refV r t d 0) (by simp [results, Tryd.results15, go_sem, q0, q1, q2, refV]) rfl ⟨rfl, by repeat (first | exact unhide hb | refine belowSet ?_ (by omega) _)⟩
    | false =>
      have p7 : R1.toList.isEmpty = true := p4
      rw [show finV r t d true false = refV r t e0 0 from by unfold finV; rw [h1, h4, hde rfl]; rfl]
      clear p4 p5 hde e5 h1 h4
      go_enter Tryd.func15, Tryd.ntmps15
      go_wp2_with fail
      refine (unhide HA _).mono ?_
      rintro e w1 ⟨rfl, rfl⟩
      go_wp2_with fail
      refine (spec_RepoOk r _ (by omega)).mono ?_
      rintro e w1 ⟨rfl, hb1⟩
      rw [unhide HR]
      have hb := hide (belowVia (Nat.le_refl w.heap.size) hb1 (by repeat (first | apply belowDrew | exact Below.refl _ _ | refine belowAlloc (Nat.le_refl _) ?_ _)))
      obtain ⟨hc, hf⟩ := bcell hb1
      have hz : w.heap.size + 2 < w1.heap.size := by have := hb1.size; simp at this; omega
      have q0 : w1.cell? ⟨w.heap.size, 0, none⟩ = some (.string ⟨#[]⟩) := by rw [hc _ _ (by simp; omega)]; simp [go_sem]
      have q1 : w1.cell? ⟨w.heap.size, 1, none⟩ = some (.string ⟨#[]⟩) := by rw [hc _ _ (by simp; omega)]; simp [go_sem]
      have q2 : w1.cell? ⟨w.heap.size, 2, none⟩ = some (.string ⟨#[]⟩) := by rw [hc _ _ (by simp; omega)]; simp [go_sem]
      clear hb1
      go_wp2_with (first | (go_at_call 35; refine (spec_TagOk t _ (by omega)).mono ?_; rintro e w2 ⟨rfl, rfl⟩; rw [unhide H4]) | (go_at_call 34; refine (unhide HB _).mono ?_; rintro e w2 ⟨rfl, rfl⟩))
      exact bodyPost_ret (v := refV r t e0 0) (by simp [results, Tryd.results15, go_sem, q0, q1, q2, refV, e0]) rfl ⟨rfl, by repeat (first | exact unhide hb | refine belowSet ?_ (by omega) _)⟩

set_option maxHeartbeats 4000000 in
theorem specRR_none (s r R0 d : ByteArray) (I : Nat) (hD : Bool) (w : World)
    (HF : ∀ w, Calls Tryd.prog 34 #[.string s, .int .u8 58, .int .u8 64] w fun e w' => e = .returned (.int .i64 (I : Int)) ∧ w = w') (hI : I ≤ s.size) (hs : s.size ≤ 10000000000)
    (e1 : s.extract 0 I = r) (e2 : s.extract I s.size = R0) (hr : r.size ≤ 100000000000) (hR0 : R0.size ≤ 100000000000)
    (h1 : repoB r = true) (p1 : R0.toList.isEmpty = !hD) (p2 : hD = true → ∃ h : 0 < R0.size, R0[0].toNat = 64)
    (e5 : R0.extract 1 R0.size = d) (hd : d.size ≤ 100000000000) (hde : hD = false → d = e0) :
    Calls Tryd.prog 15 #[.string s] w fun e w' => e = .returned (finV r e0 d false hD) ∧ Below w.heap.size w w' := by
  have HA := hide HF
  have HR := hide h1
  have i0 : (0 : Int) ≤ (I : Int) := by omega
  have i1 : (I : Int) ≤ (s.size : Int) := by omega
  clear HF
  cases hD with
  | true =>
    obtain ⟨p6, p3⟩ := p2 rfl
    have p7 : R0.toList.isEmpty = false := p1
    have i4 : (1 : Int) ≤ (R0.size : Int) := by omega
    clear p1 p2 hde
    cases h5 : digB d with
    | false =>
      rw [show finV r e0 d false true = refV e0 e0 e0 3 from by unfold finV; rw [h1, h5]; rfl]
      have H5 := hide h5
      clear h1 h5
      go_enter Tryd.func15, Tryd.ntmps15
      go_wp2_with fail
      refine (unhide HA _).mono ?_
      rintro e w1 ⟨rfl, rfl⟩
      go_wp2_with fail
      refine (spec_RepoOk r _ (by omega)).mono ?_
      rintro e w1 ⟨rfl, hb1⟩
      rw [unhide HR]
      have hb := hide (belowVia (Nat.le_refl w.heap.size) hb1 (by repeat (first | apply belowDrew | exact Below.refl _ _ | refine belowAlloc (Nat.le_refl _) ?_ _)))
      obtain ⟨hc, hf⟩ := bcell hb1
      have hz : w.heap.size + 2 < w1.heap.size := by have := hb1.size; simp at this; omega
      have q0 : w1.cell? ⟨w.heap.size, 0, none⟩ = some (.string ⟨#[]⟩) := by rw [hc _ _ (by simp; omega)]; simp [go_sem]
      have q1 : w1.cell? ⟨w.heap.size, 1, none⟩ = some (.string ⟨#[]⟩) := by rw [hc _ _ (by simp; omega)]; simp [go_sem]
      have q2 : w1.cell? ⟨w.heap.size, 2, none⟩ = some (.string ⟨#[]⟩) := by rw [hc _ _ (by simp; omega)]; simp [go_sem]
      clear hb1
      go_wp2_with (go_at_call 36; refine (spec_DigestOk d _ (by omega)).mono ?_; rintro e w2 ⟨rfl, rfl⟩; rw [unhide H5])
      exact bodyPost_ret (v := refV e0 e0 e0 3) (by simp [results, Tryd.results15, go_sem, q0, q1, q2, refV, e0]) rfl ⟨rfl, by repeat (first | exact unhide hb | refine belowSet ?_ (by omega) _)⟩
    | true =>
      rw [show finV r e0 d false true = refV r e0 d 0 from by unfold finV; rw [h1, h5]; rfl]
      have H5 := hide h5
      clear h1 h5
      go_enter Tryd.func15, Tryd.ntmps15
      go_wp2_with fail
      refine (unhide HA _).mono ?_
      rintro e w1 ⟨rfl, rfl⟩
      go_wp2_with fail
      refine (spec_RepoOk r _ (by omega)).mono ?_
      rintro e w1 ⟨rfl, hb1⟩
      rw [unhide HR]
      have hb := hide (belowVia (Nat.le_refl w.heap.size) hb1 (by repeat (first | apply belowDrew | exact Below.refl _ _ | refine belowAlloc (Nat.le_refl _) ?_ _)))
      obtain ⟨hc, hf⟩ := bcell hb1
      have hz : w.heap.size + 2 < w1.heap.size := by have := hb1.size; simp at this; omega
      have q0 : w1.cell? ⟨w.heap.size, 0, none⟩ = some (.string ⟨#[]⟩) := by rw [hc _ _ (by simp; omega)]; simp [go_sem]
      have q1 : w1.cell? ⟨w.heap.size, 1, none⟩ = some (.string ⟨#[]⟩) := by rw [hc _ _ (by simp; omega)]; simp [go_sem]
      have q2 : w1.cell? ⟨w.heap.size, 2, none⟩ = some (.string ⟨#[]⟩) := by rw [hc _ _ (by simp; omega)]; simp [go_sem]
      clear hb1
      go_wp2_with (go_at_call 36; refine (spec_DigestOk d _ (by omega)).mono ?_; rintro e w2 ⟨rfl, rfl⟩; rw [unhide H5])
      exact bodyPost_ret (v := refV r e0 d 0) (by simp [results, Tryd.results15, go_sem, q0, q1, q2, refV, e0]) rfl ⟨rfl, by repeat (first | exact unhide hb | refine belowSet ?_ (by omega) _)⟩
  | false =>
    have p7 : R0.toList.isEmpty = true := p1
    rw [show finV r e0 d false false = refV r e0 e0 0 from by unfold finV; rw [h1, hde rfl]; rfl]
    clear p1 p2 hde e5 h1
    go_enter Tryd.func15, Tryd.ntmps15
    go_wp2_with fail
    refine (unhide HA _).mono ?_
    rintro e w1 ⟨rfl, rfl⟩
    go_wp2_with fail
    refine (spec_RepoOk r _ (by omega)).mono ?_
    rintro e w1 ⟨rfl, hb1⟩
    rw [unhide HR]
    have hb := hide (belowVia (Nat.le_refl w.heap.size) hb1 (by repeat (first | apply belowDrew | exact Below.refl _ _ | refine belowAlloc (Nat.le_refl _) ?_ _)))
    obtain ⟨hc, hf⟩ := bcell hb1
    have hz : w.heap.size + 2 < w1.heap.size := by have := hb1.size; simp at this; omega
    have q0 : w1.cell? ⟨w.heap.size, 0, none⟩ = some (.string ⟨#[]⟩) := by rw [hc _ _ (by simp; omega)]; simp [go_sem]
    have q1 : w1.cell? ⟨w.heap.size, 1, none⟩ = some (.string ⟨#[]⟩) := by rw [hc _ _ (by simp; omega)]; simp [go_sem]
    have q2 : w1.cell? ⟨w.heap.size, 2, none⟩ = some (.string ⟨#[]⟩) := by rw [hc _ _ (by simp; omega)]; simp [go_sem]
    clear hb1
    go_wp2_with fail
    exact bodyPost_ret (v := refV r e0 e0 0) (by simp [results, Tryd.results15, go_sem, q0, q1, q2, refV, e0]) rfl ⟨rfl, by repeat (first | exact unhide hb | refine belowSet ?_ (by omega) _)⟩
end Go.Proofs.YtkeindhefiaghaaDoor
