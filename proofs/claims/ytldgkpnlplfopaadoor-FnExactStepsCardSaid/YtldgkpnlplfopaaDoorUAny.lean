/- What lies under some branches, by the program. -/
import Derived.Test.YtldgkpnlplfopaaDoorPrfI
import Derived.Test.YtldgkpnlplfopaaDoorTriR
import Derived.Test.YtldgkpnlplfopaaDoorTzA
namespace Go.Proofs.YtldgkpnlplfopaaDoor
open Go.RowKit Go.Maps Plain
set_option linter.unusedVariables false

namespace Plain
/-- The texts of the keys under a branch. -/
def utB (ks : List (List UInt8)) (q : Nat × Nat) : List ByteArray := (ks.filter (hoB q.1 q.2)).map dgT
theorem utB_len (ks : List (List UInt8)) (q : Nat × Nat) : (utB ks q).length ≤ ks.length := by
  unfold utB
  rw [List.length_map]
  exact List.length_filter_le _ _
theorem utB_all (ks : List (List UInt8)) : ∀ (l : List (Nat × Nat)), (l.flatMap (utB ks)).length ≤ ks.length * l.length
  | [] => by simp
  | q :: l => by
    rw [List.flatMap_cons, List.length_append, List.length_cons, Nat.mul_add, Nat.mul_one]
    have := utB_all ks l
    have := utB_len ks q
    omega
end Plain

set_option maxRecDepth 100000 in
set_option maxHeartbeats 4000000 in
theorem underAny_calls (a : Option Addr) (m c : Nat) (L : List (Nat × Nat)) (a' : Option Addr) (m' c' : Nat) (ks : List (List UInt8)) (w : World) (hr : RowAt brE w a L) (hm : L.length = m) (hm2 : m ≤ 273) (hg : ∀ q ∈ L, gdB q) (hr' : RowAt keyE w a' ks) (hm' : ks.length = m') (hm2' : m' ≤ 200) (h32 : ∀ x ∈ ks, x.length = 32) :
    Calls Tryd.prog 27 #[.slice a m c, .slice a' m' c'] w fun e w' => ∃ v, e = .returned v ∧ OwnR strE w' w.heap.size v (L.flatMap (utB ks)) ∧ Below w.heap.size w w' := by
  have HR := hide (fun (W : World) (hW : Below w.heap.size w W) => hr.below hW)
  have HM := hide hm
  have HG := hide hg
  have HUN := hide (fun (W : World) (hW : Below w.heap.size w W) (q : Nat × Nat) (hq : gdB q) => under_calls q.1 q.2 hq.1 (gdB_lt hq) a' m' c' ks W (hr'.below hW) hm' (by omega) h32)
  have HTX := hide (fun (W : World) (q : Nat × Nat) (a1 : Option Addr) (n1 c1 : Nat) (r : RowAt keyE W a1 (ks.filter (hoB q.1 q.2))) (hn : (ks.filter (hoB q.1 q.2)).length = n1) => (show Calls Tryd.prog 45 #[.slice a1 n1 c1] W fun e w' => ∃ v, e = .returned v ∧ OwnR strE w' W.heap.size v (utB ks q) ∧ Below W.heap.size W w' from textsOf_calls a1 n1 c1 _ W r hn (by have := List.length_filter_le (hoB q.1 q.2) ks; omega) (fun x hx => h32 x (List.mem_filter.1 hx).1)))
  have HUL := hide (fun q => (show (utB ks q).length ≤ 200 from by have := utB_len ks q; omega))
  have HAL := hide (fun (i : Nat) => (show ((L.take i).flatMap (utB ks)).length ≤ 200 * 273 from by
    have h1 := utB_all ks (L.take i)
    have h2 : ks.length * (L.take i).length ≤ 200 * 273 := Nat.mul_le_mul (by omega) (by rw [List.length_take]; omega)
    omega))
  clear hr hm hg hr' hm' h32
  go_enter Tryd.func27, Tryd.ntmps27
  go_wp2_with fail
  go_loopw [5, 7, 10] (fun s5 _ s10 wr => ∃ (i : Nat) (ta : Option Addr) (tc tn : Nat), s10 = .int .i64 i ∧ s5 = .slice ta tn tc ∧ i ≤ m ∧ Hid (OwnR strE wr w.heap.size (.slice ta tn tc) ((L.take i).flatMap (utB ks))) ∧ Hid (Below w.heap.size w wr)) (fun _ _ s10 _ => m - (intOf s10).toNat)
  case atStart => exact ⟨0, none, 0, 0, rfl, rfl, by omega, hide (ownR_nil _ _ _), hide (Below.refl _ _)⟩
  case round =>
    obtain ⟨i, ta, tc, tn, rfl, rfl, hi, HO, HB⟩ := hrel
    by_cases hlt : i < m
    · have hil : i < L.length := by rw [unhide HM]; exact hlt
      obtain ⟨g, e1, hgl, q0, q1⟩ := (unhide HR wr (unhide HB)).br i hil
      subst e1
      have hgd := unhide HG L[i] (List.getElem_mem _)
      have HNX := hide (show (L.take (i + 1)).flatMap (utB ks) = (L.take i).flatMap (utB ks) ++ utB ks L[i] from by rw [List.take_succ_eq_append_getElem hil, List.flatMap_append, List.flatMap_cons, List.flatMap_nil, List.append_nil])
      generalize L[i] = q at q0 q1 hgd HNX
      have hal := unhide HAL i
      have HU1 := hide (fun (W : World) (hW : Below w.heap.size w W) => unhide HUN W hW q hgd)
      have HT1 := hide (fun (W : World) => unhide HTX W q)
      have hul := unhide HUL q
      obtain ⟨n1, hn1⟩ : ∃ n1, q.1 = n1 := ⟨_, rfl⟩
      obtain ⟨z, hz⟩ : ∃ z, q.2 = z := ⟨_, rfl⟩
      rw [hn1] at q0 HU1 HT1
      rw [hz] at q1 HU1 HT1
      generalize utB ks q = T at HNX HT1 hul
      unfold brV at HU1
      generalize ks.filter (hoB n1 z) = fs at HU1 HT1
      obtain ⟨M, hM⟩ : ∃ M, fs.length = M := ⟨_, rfl⟩
      obtain ⟨mt, hmt⟩ : ∃ mt, T.length = mt := ⟨_, rfl⟩
      rw [hmt] at hul
      have HMF := hide hM
      have HMT := hide hmt
      have hinf := infB2 (.int .i64 (n1 : Int)) (.int .u8 (z : Int))
      have hall := allB2 (n1 : Int) (z : Int) .i64 .u8
      have hold : (#[.int .i64 0, .int .u8 0] : Array Value).size = (#[.int .i64 (n1 : Int), .int .u8 (z : Int)] : Array Value).size := rfl
      obtain ⟨W4, hW4⟩ : ∃ W4, wr.alloc (.cells #[.int .i64 0, .int .u8 0] 39) = W4 := ⟨_, rfl⟩
      have hnew4 : W4.heap[wr.heap.size]? = some (.cells #[.int .i64 0, .int .u8 0] 39 (0, 0)) := by rw [← hW4]; exact heap_alloc_new _ _
      have hs4 : wr.heap.size < W4.heap.size := by rw [← hW4]; simp
      have HB4 := hide (show Below wr.heap.size wr W4 from by rw [← hW4]; exact (Below.refl _ _).alloc (Nat.le_refl _) _)
      have i0 : (0 : Int) ≤ (i : Int) := by omega
      have i1 : (i : Int) < (m : Int) := by omega
      clear hM hmt hn1 hz hil hgd
      go_wp2_with (first
        | (refine wpList_store_any rfl 39 (.tmp 7) (.tmp 13) rfl wr.heap.size #[.int .i64 (n1 : Int), .int .u8 (z : Int)] rfl rfl 39 #[.int .i64 0, .int .u8 0] (by first | exact hnew4 | (rw [hW4]; exact hnew4)) hinf hold hall ?_; intro w5 hrow5 hgr5 hsz5; (try rw [hW4] at hgr5 hsz5))
        | (refine wpList_load_row rfl 39 (.tmp 7) rfl wr.heap.size rfl 39 #[.int .i64 (n1 : Int), .int .u8 (z : Int)] (0, 0) _ hrow5 Tryd.underlying39 rfl hinf ?_))
      have HB5 := hide ((unhide HB4).grown hgr5 (Nat.le_of_lt hs4) (fun k e => by cases e; exact Nat.le_refl _))
      have HO5 := hide ((unhide HO).keep (unhide HB5))
      have HW5 := hide (belOnT (unhide HB) (unhide HB5))
      clear hrow5 hgr5 hsz5 q0 q1 HO HB4 HB5 hnew4
      refine (unhide HU1 _ (unhide HW5)).mono ?_
      rintro e w6 ⟨v6, rfl, o6, hb6⟩
      obtain ⟨a6, c6, hv6⟩ := o6.form
      rw [unhide HMF] at hv6
      subst hv6
      have HO6 := hide ((unhide HO5).keep hb6)
      have HW6 := hide (belOnT (unhide HW5) hb6)
      have HT6 := hide (unhide HT1 w6 a6 M c6 o6.at (unhide HMF))
      clear o6 hb6 HO5 HW5 HU1 HT1
      go_wp2_with fail
      refine (unhide HT6).mono ?_
      rintro e w7 ⟨v7, rfl, o7, hb7⟩
      obtain ⟨a7, c7, hv7⟩ := o7.form
      rw [unhide HMT] at hv7
      subst hv7
      have HO7 := hide ((unhide HO6).keep hb7)
      have HW7 := hide (belOnT (unhide HW6) hb7)
      have HY7 := hide o7
      have hz7 := (unhide HW7).size
      have hlb : ((L.take i).flatMap (utB ks)).length + mt < 100000000 := by omega
      clear o7 hb7 HO6 HW6 HT6
      go_wp2_with (at_builtin; refine appAt (e := strE) rfl _ _ rfl (unhide HO7) rfl a7 mt c7 rfl (unhide HMT) (unhide HY7).at (unhide HY7).adG hlb hz7 ?_; intro v8 w8 hO8 hb8 hg8 hw8)
      obtain ⟨a8, c8, hv8⟩ := hO8.form
      subst hv8
      have HO8 := hide hO8
      have HW8 := hide ((unhide HW7).trans hb8)
      clear hO8 hb8 hg8 hw8 HO7 HW7 HY7
      go_wp2_with fail
      go_roundw
      case rel => exact ⟨i + 1, a8, c8, _, by go_num, rfl, by omega, hide (by rw [unhide HNX]; exact unhide HO8), HW8⟩
      case measure => simp [intOf]; omega
    · obtain rfl : i = m := by omega
      have hO := unhide HO
      rw [List.take_of_length_le (by rw [unhide HM]; exact Nat.le_refl _)] at hO
      have HX := hide hO
      clear hO HO
      go_wp2_with fail
      go_ret
      exact ⟨_, rfl, unhide HX, unhide HB⟩
end Go.Proofs.YtldgkpnlplfopaaDoor
