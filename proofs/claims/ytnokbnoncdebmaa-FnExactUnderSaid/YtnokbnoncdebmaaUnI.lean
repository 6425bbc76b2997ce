/- Under by the program. -/
import Derived.Test.YtnokbnoncdebmaaUnC
import Derived.Test.YtnokbnoncdebmaaUnM
import Derived.Deep.RegionHeld3
namespace Go.Proofs.Ytnokbnoncdebmaa
open Go.RowKit Go.Maps Plain
set_option linter.unusedVariables false

theorem bdrew {B : Nat} {w w' : World} (h : Below B w w') : Below B w w'.drew := ⟨h.os, h.tape, h.output, h.size, h.block⟩
set_option maxRecDepth 100000 in
set_option maxHeartbeats 2000000 in
theorem impl_Under (a : Option Addr) (n c : Nat) (ls : List ByteArray) (p : ByteArray) (w : World) (h : TxtsAt w a n ls) (hp : p.size ≤ 1000000000) :
    Calls Try.prog 9 #[.slice a n c, .string p] w fun e w' => ∃ v, e = .returned v ∧ OwnR strE w' w.heap.size v (undL ls p) ∧ Below w.heap.size w w' := by
  unfold undL
  cases hs : setB ls with
  | false =>
    have HR := hide (readSet_calls a n c ls w h)
    rw [hs] at HR
    obtain ⟨dn, dv, hbr⟩ : ∃ dn dv : Nat, brA p (prB p) = .agg #[.int .i64 (dn : Int), .int .u8 (dv : Int)] := by
      cases prB p
      · exact ⟨0, 0, rfl⟩
      · exact ⟨_, _, rfl⟩
    have HK := hide (fun W => readBranch_calls p W hp)
    rw [hbr] at HK
    clear h hbr
    generalize prB p = r at HK
    rw [Bool.false_and, if_neg (by simp)]
    go_enter Try.func9, Try.ntmps9
    go_wp2_with fail
    refine (unhide HR).mono ?_
    rintro e w1 ⟨m, rfl, hb1⟩
    go_wp2_with fail
    refine (unhide HK _).mono ?_
    rintro e w2 ⟨rfl, hb2⟩
    have HB2 := hide (hb1.trans (hb2.mono hb1.size))
    have hz2 := (unhide HB2).size
    clear hb1 hb2
    go_wp2_with fail
    go_ret
    exact ⟨_, rfl, ownR_nil _ _ _, (unhide HB2).alloc hz2 _⟩
  | true =>
    obtain ⟨s1, s2, s3⟩ := setB_all hs
    have HR := hide (readY_calls a n c ls w h hs)
    have HK := hide (fun W => readBranch_calls p W hp)
    cases hq : prB p with
    | false =>
      rw [hq] at HK
      have HBR := hide (show brA p false = .agg #[.int .i64 0, .int .u8 0] from rfl)
      rw [unhide HBR] at HK
      clear h
      rw [Bool.and_false, if_neg (by simp)]
      go_enter Try.func9, Try.ntmps9
      go_wp2_with fail
      refine (unhide HR).mono ?_
      rintro e w1 ⟨b, rfl, hbb, -, hb1⟩
      go_wp2_with fail
      refine (unhide HK _).mono ?_
      rintro e w2 ⟨rfl, hb2⟩
      have HB2 := hide (hb1.trans (hb2.mono hb1.size))
      have hz2 := (unhide HB2).size
      clear hb1 hb2
      go_wp2_with fail
      go_ret
      exact ⟨_, rfl, ownR_nil _ _ _, (unhide HB2).alloc hz2 _⟩
    | true =>
      rw [hq] at HK
      have HBR := hide (show brA p true = .agg #[.int .i64 (p.size : Int), .int .u8 (brN p.data.toList : Int)] from rfl)
      rw [unhide HBR] at HK
      have hl3 := brN_lt hq
      have hp2 := (prB_hex hq).1
      have HKS := hide (fun (W : World) (b nn : Nat) (q : KSet W b nn (ls.map kyL)) => keys_calls b nn _ (risK_map s2 s3) (fun x hx => by obtain ⟨y, _, rfl⟩ := List.mem_map.1 hx; exact kyL_len y) (by rw [List.length_map]; omega) W q)
      have HUN := hide (fun (W : World) (a : Option Addr) (m c : Nat) (q : RowAt keyE W a (ls.map kyL)) (hm : (ls.map kyL).length = m) => under_calls p.size (brN p.data.toList) hp2 hl3 a m c _ W q hm (by rw [List.length_map] at hm; omega) (fun x hx => by obtain ⟨y, _, rfl⟩ := List.mem_map.1 hx; exact kyL_len y))
      rw [filt_map hq s2] at HUN
      have hfl : (ls.filter (preB p)).length ≤ 200 := Nat.le_trans (List.length_filter_le _ _) s1
      have HTX := hide (fun (W : World) (a : Option Addr) (n c : Nat) (q : RowAt keyE W a ((ls.filter (preB p)).map kyL)) (hn : ((ls.filter (preB p)).map kyL).length = n) => textsOf_calls a n c _ W q hn (by rw [List.length_map] at hn; omega) (fun x hx => by obtain ⟨y, _, rfl⟩ := List.mem_map.1 hx; exact kyL_len y))
      have HMB := hide (map_back (ls := ls.filter (preB p)) (fun s q => s2 s (List.mem_filter.1 q).1))
      obtain ⟨L, hL⟩ : ∃ L, ls.length = L := ⟨_, rfl⟩
      obtain ⟨M, hM⟩ : ∃ M, (ls.filter (preB p)).length = M := ⟨_, rfl⟩
      have HLL := hide hL
      have HMM := hide hM
      unfold brV at HUN
      generalize brN p.data.toList = dv at HK HUN hl3
      rw [Bool.true_and, if_pos rfl]
      clear h hs hq s2 s3 hL hM HBR
      go_enter Try.func9, Try.ntmps9
      go_wp2_with fail
      refine (unhide HR).mono ?_
      rintro e w1 ⟨b, rfl, hbb, hks, hb1⟩
      go_wp2_with fail
      refine (unhide HK _).mono ?_
      rintro e w2 ⟨rfl, hb2⟩
      have hks2 := hks.below hb2 hks.lt
      have HB2 := hide (hb1.trans (hb2.mono hb1.size))
      have hz2 := (unhide HB2).size
      obtain ⟨W3, hW3⟩ : ∃ W3, w2.alloc (.cells #[.int .i64 (p.size : Int), .int .u8 (dv : Int)] 37) = W3 := ⟨_, rfl⟩
      have hrow3 : W3.heap[w2.heap.size]? = some (.cells #[.int .i64 (p.size : Int), .int .u8 (dv : Int)] 37 (0, 0)) := by rw [← hW3]; exact heap_alloc_new _ _
      have hl30 : w2.heap.size < W3.heap.size := by rw [← hW3]; simp
      have HB3 := hide (show Below w.heap.size w W3 from by rw [← hW3]; exact (unhide HB2).alloc hz2 _)
      have hz3 := (unhide HB3).size
      have hks3 : KSet W3 b ls.length (ls.map kyL) := by rw [← hW3]; exact hks2.of_block (Below.heap_alloc _ _ _ hks2.lt)
      have HC0 : ∀ W : World, Below W3.heap.size W3 W → W.cell? ⟨w2.heap.size, 0, none⟩ = some (.int .i64 (p.size : Int)) := fun W hW => by rw [cell_of_row _ _ 0 _ _ _ ((hW.block _ hl30).trans hrow3)]; rfl
      have HC1 : ∀ W : World, Below W3.heap.size W3 W → W.cell? ⟨w2.heap.size, 1, none⟩ = some (.int .u8 (dv : Int)) := fun W hW => by rw [cell_of_row _ _ 1 _ _ _ ((hW.block _ hl30).trans hrow3)]; rfl
      have HK3 := hide (fun (W : World) (hW : Below W3.heap.size W3 W) => unhide HKS W b _ (hks3.below hW hks3.lt))
      have HW3 := hide hW3
      have hbd : Below W3.heap.size W3 W3.drew := bdrew (Below.refl _ _)
      clear hb1 hb2 hks hks2 hks3 hrow3 hW3 HKS
      go_wp2_with fail
      rw [unhide HW3]
      go_region_held3 (fun W' => Below W3.heap.size W3 W') (first | exact hbd | assumption | exact Below.refl _ _) (first
        | (go_at_call 24; refine (unhide HK3 _ hbd).mono ?_; rintro e w5 ⟨v5, rfl, ho5, hb5⟩; obtain ⟨a5, c5, hv5⟩ := ho5.form; rw [List.length_map, unhide HLL] at hv5; subst hv5; have hx5 := hbd.trans (hb5.mono hbd.size))
        | (go_at_call 23; refine (unhide HUN _ a5 L c5 ho5.at (by rw [List.length_map]; exact unhide HLL)).mono ?_; rintro e w6 ⟨v6, rfl, ho6, hb6⟩; obtain ⟨a6, c6, hv6⟩ := ho6.form; rw [List.length_map, unhide HMM] at hv6; subst hv6; have hx6 := hx5.trans (hb6.mono hx5.size))
        | (go_at_call 22; refine (unhide HTX _ a6 M c6 ho6.at (by rw [List.length_map]; exact unhide HMM)).mono ?_; rintro e w7 ⟨v7, rfl, ho7, hb7⟩; rw [unhide HMB] at ho7; obtain ⟨a7, c7, hv7⟩ := ho7.form; rw [unhide HMM] at hv7; subst hv7; have hx7 := hx6.trans (hb7.mono hx6.size)))
      all_goals
        have HO7 := hide (OwnR.le ho7 (Nat.le_trans hz3 hx6.size))
        have HB7 := hide ((unhide HB3).trans (hx7.mono hz3))
        go_wp2_with fail
        go_ret
        exact ⟨_, rfl, unhide HO7, unhide HB7⟩
end Go.Proofs.Ytnokbnoncdebmaa
