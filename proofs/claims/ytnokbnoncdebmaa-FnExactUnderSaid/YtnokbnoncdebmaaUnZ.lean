/- Texts of one kind, put together. -/
import Derived.Test.YtnokbnoncdebmaaUnD
import Derived.Test.YtnokbnoncdebmaaUnC
import Derived.Deep.RegionHeld3

/- Which keys lie under a branch: the mathematics. -/
namespace Go.Proofs.Ytnokbnoncdebmaa
open Go.RowKit Go.Maps Plain
set_option linter.unusedVariables false

namespace Plain
theorem ho_pre (l pl : List UInt8) (h : HexL l) (hp : HexL pl) (hl : 2 ≤ l.length) (hk : pl.length ≤ 2) : decide (((kyP l).getD 0 0).toNat / 2 ^ (4 * (2 - pl.length)) = brN pl) = (l.take pl.length == pl) := by
  match l, hl, h with
  | c0 :: c1 :: r, _, h =>
    have h0 := h c0 (by simp)
    have h1 := h c1 (by simp)
    have n1 := by1_nat h0 h1
    have e0 := hexI_bounds (c0.toNat : Int)
    have e1 := hexI_bounds (c1.toNat : Int)
    rw [kyP, show (by1 c0 c1 :: kyP r).getD 0 0 = by1 c0 c1 from rfl]
    match pl, hk, hp with
    | [], _, _ =>
      have : (by1 c0 c1).toNat / 256 = 0 := by omega
      simp [brN, this]
    | [a], _, hp =>
      have ha := hp a (by simp)
      have q := hexI_lt h0 ha
      have : (by1 c0 c1).toNat / 16 = (hexI c0.toNat).toNat := by omega
      rw [Bool.eq_iff_iff]
      simp [brN, this, ← q.2]
      omega
    | [a, b], _, hp =>
      have ha := hp a (by simp)
      have hb := hp b (by simp)
      have q := hexI_lt h0 ha
      have q2 := hexI_lt h1 hb
      have f0 := hexI_bounds (a.toNat : Int)
      have f1 := hexI_bounds (b.toNat : Int)
      rw [Bool.eq_iff_iff]
      simp [brN, ← q.2, ← q2.2]
      omega
    | _ :: _ :: _ :: _, hk, _ => simp at hk
theorem prB_hex {p : ByteArray} (h : prB p = true) : p.size ≤ 2 ∧ HexL p.data.toList := by
  unfold prB at h
  rw [Bool.and_eq_true] at h
  have h2 := of_decide_eq_true h.2
  refine ⟨by omega, fun c hc => ?_⟩
  have h3 := h.1
  unfold hexFrom at h3
  rw [List.drop_zero, List.all_eq_true] at h3
  exact of_decide_eq_true (h3 c hc)
theorem hold_pre {p s : ByteArray} (hp : prB p = true) (hs : digB s = true) : hoB p.size (brN p.data.toList) (kyL s) = preB p s := by
  obtain ⟨p1, p2⟩ := prB_hex hp
  obtain ⟨a1, a2, a3, a4⟩ := digB_form hs
  have := ho_pre (s.data.toList.drop 7) p.data.toList a4 p2 (by omega) (by simpa using p1)
  unfold hoB preB
  rw [kyL_P a1]
  rw [show p.data.toList.length = p.size from by simp] at this
  rw [this, ByteArray.toList_eq, ByteArray.toList_eq]
  congr 1
  simp [List.extract_eq_take_drop]
theorem brN_lt {p : ByteArray} (hp : prB p = true) : brN p.data.toList < 256 := by
  obtain ⟨p1, p2⟩ := prB_hex hp
  have hl : p.data.toList.length ≤ 2 := by simpa using p1
  generalize p.data.toList = l at hl
  match l, hl with
  | [], _ => simp [brN]
  | [a], _ => have := hexI_bounds (a.toNat : Int); simp [brN]; omega
  | [a, b], _ => have := hexI_bounds (a.toNat : Int); have := hexI_bounds (b.toNat : Int); simp [brN]; omega
  | _ :: _ :: _ :: _, h => simp at h
theorem filt_map {p : ByteArray} {ls : List ByteArray} (hp : prB p = true) (hs : ∀ s ∈ ls, digB s = true) : ((ls.map kyL).filter (hoB p.size (brN p.data.toList))) = (ls.filter (preB p)).map kyL := by
  rw [List.filter_map]
  congr 1
  apply List.filter_congr
  intro s h
  exact hold_pre hp (hs s h)
end Plain
end Go.Proofs.Ytnokbnoncdebmaa


/- Under by the program. -/
namespace Go.Proofs.Ytnokbnoncdebmaa
open Go.RowKit Go.Maps Plain
set_option linter.unusedVariables false

theorem bdrew {B : Nat} {w w' : World} (h : Below B w w') : Below B w w'.drew := ⟨h.os, h.tape, h.output, h.size, h.block⟩
set_option maxRecDepth 100000 in
set_option maxHeartbeats 2000000 in
theorem impl_Under (a : Option Addr) (n c : Nat) (ls : List ByteArray) (p : ByteArray) (w : World) (h : TxtsAt w a n ls) (hp : p.size ≤ 1000000000) :
    Calls Try.prog 9 #[.slice a n c, .string p] w fun e w' => ∃ v, e = .returned v ∧ OwnR strE w' w.heap.size v (undL ls p) ∧ Below w.heap.size w w' := by
  unfold undL
  cases hs : setB ls with
  | false =>
    have HR := hide (readSet_calls a n c ls w h)
    rw [hs] at HR
    obtain ⟨dn, dv, hbr⟩ : ∃ dn dv : Nat, brA p (prB p) = .agg #[.int .i64 (dn : Int), .int .u8 (dv : Int)] := by
      cases prB p
      · exact ⟨0, 0, rfl⟩
      · exact ⟨_, _, rfl⟩
    have HK := hide (fun W => readBranch_calls p W hp)
    rw [hbr] at HK
    clear h hbr
    generalize prB p = r at HK
    rw [Bool.false_and, if_neg (by simp)]
    go_enter Try.func9, Try.ntmps9
    go_wp2_with fail
    refine (unhide HR).mono ?_
    rintro e w1 ⟨m, rfl, hb1⟩
    go_wp2_with fail
    refine (unhide HK _).mono ?_
    rintro e w2 ⟨rfl, hb2⟩
    have HB2 := hide (hb1.trans (hb2.mono hb1.size))
    have hz2 := (unhide HB2).size
    clear hb1 hb2
    go_wp2_with fail
    go_ret
    exact ⟨_, rfl, ownR_nil _ _ _, (unhide HB2).alloc hz2 _⟩
  | true =>
    obtain ⟨s1, s2, s3⟩ := setB_all hs
    have HR := hide (readY_calls a n c ls w h hs)
    have HK := hide (fun W => readBranch_calls p W hp)
    cases hq : prB p with
    | false =>
      rw [hq] at HK
      have HBR := hide (show brA p false = .agg #[.int .i64 0, .int .u8 0] from rfl)
      rw [unhide HBR] at HK
      clear h
      rw [Bool.and_false, if_neg (by simp)]
      go_enter Try.func9, Try.ntmps9
      go_wp2_with fail
      refine (unhide HR).mono ?_
      rintro e w1 ⟨b, rfl, hbb, -, hb1⟩
      go_wp2_with fail
      refine (unhide HK _).mono ?_
      rintro e w2 ⟨rfl, hb2⟩
      have HB2 := hide (hb1.trans (hb2.mono hb1.size))
      have hz2 := (unhide HB2).size
      clear hb1 hb2
      go_wp2_with fail
      go_ret
      exact ⟨_, rfl, ownR_nil _ _ _, (unhide HB2).alloc hz2 _⟩
    | true =>
      rw [hq] at HK
      have HBR := hide (show brA p true = .agg #[.int .i64 (p.size : Int), .int .u8 (brN p.data.toList : Int)] from rfl)
      rw [unhide HBR] at HK
      have hl3 := brN_lt hq
      have hp2 := (prB_hex hq).1
      have HKS := hide (fun (W : World) (b nn : Nat) (q : KSet W b nn (ls.map kyL)) => keys_calls b nn _ (risK_map s2 s3) (fun x hx => by obtain ⟨y, _, rfl⟩ := List.mem_map.1 hx; exact kyL_len y) (by rw [List.length_map]; omega) W q)
      have HUN := hide (fun (W : World) (a : Option Addr) (m c : Nat) (q : RowAt keyE W a (ls.map kyL)) (hm : (ls.map kyL).length = m) => under_calls p.size (brN p.data.toList) hp2 hl3 a m c _ W q hm (by rw [List.length_map] at hm; omega) (fun x hx => by obtain ⟨y, _, rfl⟩ := List.mem_map.1 hx; exact kyL_len y))
      rw [filt_map hq s2] at HUN
      have hfl : (ls.filter (preB p)).length ≤ 200 := Nat.le_trans (List.length_filter_le _ _) s1
      have HTX := hide (fun (W : World) (a : Option Addr) (n c : Nat) (q : RowAt keyE W a ((ls.filter (preB p)).map kyL)) (hn : ((ls.filter (preB p)).map kyL).length = n) => textsOf_calls a n c _ W q hn (by rw [List.length_map] at hn; omega) (fun x hx => by obtain ⟨y, _, rfl⟩ := List.mem_map.1 hx; exact kyL_len y))
      have HMB := hide (map_back (ls := ls.filter (preB p)) (fun s q => s2 s (List.mem_filter.1 q).1))
      obtain ⟨L, hL⟩ : ∃ L, ls.length = L := ⟨_, rfl⟩
      obtain ⟨M, hM⟩ : ∃ M, (ls.filter (preB p)).length = M := ⟨_, rfl⟩
      have HLL := hide hL
      have HMM := hide hM
      unfold brV at HUN
      generalize brN p.data.toList = dv at HK HUN hl3
      rw [Bool.true_and, if_pos rfl]
      clear h hs hq s2 s3 hL hM HBR
      go_enter Try.func9, Try.ntmps9
      go_wp2_with fail
      refine (unhide HR).mono ?_
      rintro e w1 ⟨b, rfl, hbb, hks, hb1⟩
      go_wp2_with fail
      refine (unhide HK _).mono ?_
      rintro e w2 ⟨rfl, hb2⟩
      have hks2 := hks.below hb2 hks.lt
      have HB2 := hide (hb1.trans (hb2.mono hb1.size))
      have hz2 := (unhide HB2).size
      obtain ⟨W3, hW3⟩ : ∃ W3, w2.alloc (.cells #[.int .i64 (p.size : Int), .int .u8 (dv : Int)] 37) = W3 := ⟨_, rfl⟩
      have hrow3 : W3.heap[w2.heap.size]? = some (.cells #[.int .i64 (p.size : Int), .int .u8 (dv : Int)] 37 (0, 0)) := by rw [← hW3]; exact heap_alloc_new _ _
      have hl30 : w2.heap.size < W3.heap.size := by rw [← hW3]; simp
      have HB3 := hide (show Below w.heap.size w W3 from by rw [← hW3]; exact (unhide HB2).alloc hz2 _)
      have hz3 := (unhide HB3).size
      have hks3 : KSet W3 b ls.length (ls.map kyL) := by rw [← hW3]; exact hks2.of_block (Below.heap_alloc _ _ _ hks2.lt)
      have HC0 : ∀ W : World, Below W3.heap.size W3 W → W.cell? ⟨w2.heap.size, 0, none⟩ = some (.int .i64 (p.size : Int)) := fun W hW => by rw [cell_of_row _ _ 0 _ _ _ ((hW.block _ hl30).trans hrow3)]; rfl
      have HC1 : ∀ W : World, Below W3.heap.size W3 W → W.cell? ⟨w2.heap.size, 1, none⟩ = some (.int .u8 (dv : Int)) := fun W hW => by rw [cell_of_row _ _ 1 _ _ _ ((hW.block _ hl30).trans hrow3)]; rfl
      have HK3 := hide (fun (W : World) (hW : Below W3.heap.size W3 W) => unhide HKS W b _ (hks3.below hW hks3.lt))
      have HW3 := hide hW3
      have hbd : Below W3.heap.size W3 W3.drew := bdrew (Below.refl _ _)
      clear hb1 hb2 hks hks2 hks3 hrow3 hW3 HKS
      go_wp2_with fail
      rw [unhide HW3]
      go_region_held3 (fun W' => Below W3.heap.size W3 W') (first | exact hbd | assumption | exact Below.refl _ _) (first
        | (go_at_call 24; refine (unhide HK3 _ hbd).mono ?_; rintro e w5 ⟨v5, rfl, ho5, hb5⟩; obtain ⟨a5, c5, hv5⟩ := ho5.form; rw [List.length_map, unhide HLL] at hv5; subst hv5; have hx5 := hbd.trans (hb5.mono hbd.size))
        | (go_at_call 23; refine (unhide HUN _ a5 L c5 ho5.at (by rw [List.length_map]; exact unhide HLL)).mono ?_; rintro e w6 ⟨v6, rfl, ho6, hb6⟩; obtain ⟨a6, c6, hv6⟩ := ho6.form; rw [List.length_map, unhide HMM] at hv6; subst hv6; have hx6 := hx5.trans (hb6.mono hx5.size))
        | (go_at_call 22; refine (unhide HTX _ a6 M c6 ho6.at (by rw [List.length_map]; exact unhide HMM)).mono ?_; rintro e w7 ⟨v7, rfl, ho7, hb7⟩; rw [unhide HMB] at ho7; obtain ⟨a7, c7, hv7⟩ := ho7.form; rw [unhide HMM] at hv7; subst hv7; have hx7 := hx6.trans (hb7.mono hx6.size)))
      all_goals
        have HO7 := hide (OwnR.le ho7 (Nat.le_trans hz3 hx6.size))
        have HB7 := hide ((unhide HB3).trans (hx7.mono hz3))
        go_wp2_with fail
        go_ret
        exact ⟨_, rfl, unhide HO7, unhide HB7⟩
end Go.Proofs.Ytnokbnoncdebmaa


/- Under by both. -/
namespace Go.Proofs.Ytnokbnoncdebmaa
open Go.RowKit Go.Maps Plain
set_option linter.unusedVariables false

theorem Plain.und_len (ls : List ByteArray) (p : ByteArray) : (undL ls p).length ≤ 200 := by
  unfold undL
  split
  · next h =>
    rw [Bool.and_eq_true] at h
    exact Nat.le_trans (List.length_filter_le _ _) (setB_all h.1).1
  · simp
end Go.Proofs.Ytnokbnoncdebmaa

