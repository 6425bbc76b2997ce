/- Texts of one kind, put together. -/
import Derived.Test.YtldgkpnlplfopaaGreatDoorNzA
import Derived.Deep.RegionHeld3
import Derived.Test.YtldgkpnlplfopaaGreatDoorJzA
import Derived.Test.YtldgkpnlplfopaaGreatDoorStM

/- The nodes of a tree, by the specification. -/
namespace Go.Proofs.YtldgkpnlplfopaaGreatDoor
open Go.RowKit Go.Maps Plain
set_option linter.unusedVariables false

namespace Plain
theorem hx_ext : ∀ c : Fin 16, (⟨#[48, 49, 50, 51, 52, 53, 54, 55, 56, 57, 97, 98, 99, 100, 101, 102]⟩ : ByteArray).extract c.val (c.val + 1) = dgC c.val := by decide +kernel
/-- The sixteen prefixes behind one. -/
def blwL (p : ByteArray) (i : Nat) : List ByteArray := (List.range i).map fun c => p ++ dgC c
theorem blwL_len (p : ByteArray) (i : Nat) : (blwL p i).length = i := by simp [blwL]
theorem blwL_next (p : ByteArray) (i : Nat) : blwL p (i + 1) = blwL p i ++ [p ++ dgC i] := by simp [blwL, List.range_succ]
theorem blwL_get (p : ByteArray) (i n : Nat) (h : i < (blwL p n).length) : (blwL p n)[i] = p ++ dgC i := by simp [blwL]
end Plain

set_option maxRecDepth 10000 in
set_option maxHeartbeats 2000000 in
theorem l7Below_calls (p : ByteArray) (w : World) (hp : p.size ≤ 2) :
    Calls Tryz.prog 19 #[.string p] w fun e w' => ∃ v, e = .returned v ∧ OwnR strE w' w.heap.size v (blwL p 16) ∧ Below w.heap.size w w' := by
  go_enter Tryz.func19, Tryz.ntmps19
  go_wp2_with fail
  go_loopw [3, 4] (fun s5 s6 wr => ∃ (i : Nat) (ta : Option Addr) (tc : Nat), s6 = .int .i64 i ∧ s5 = .slice ta i tc ∧ i ≤ 16 ∧ Hid (OwnR strE wr w.heap.size (.slice ta i tc) (blwL p i)) ∧ Hid (Below w.heap.size w wr)) (fun _ s6 _ => 16 - (intOf s6).toNat)
  case atStart => exact ⟨0, _, _, rfl, rfl, by omega, hide (ownR_empty strE _ _ (Nat.le_refl _)), hide ((Below.refl _ _).alloc (Nat.le_refl _) _)⟩
  case round =>
    obtain ⟨i, ta, tc, rfl, rfl, hi, HO, HB⟩ := hrel
    by_cases hlt : i < 16
    · have HNX := hide (blwL_next p i)
      have HLE := hide (blwL_len p i)
      have hex := hx_ext ⟨i, hlt⟩
      simp only at hex
      have i0 : (0 : Int) ≤ (i : Int) := by omega
      have i1 : (i : Int) < 16 := by omega
      have i2 : (i : Int) ≤ (i : Int) + 1 := by omega
      have i3 : (i : Int) + 1 ≤ 16 := by omega
      have hBz := (unhide HB).size
      obtain ⟨j, hj⟩ : ∃ j : Nat, i + 1 = j := ⟨_, rfl⟩
      have e1 : (i : Int) + 1 = (j : Int) := by omega
      rw [hj] at hex HNX
      have hds := dgC_size i
      generalize dgC i = D at hex HNX hds
      obtain ⟨T, hT⟩ : ∃ T, p ++ D = T := ⟨_, rfl⟩
      rw [hT] at HNX
      have j2 : (i : Int) ≤ (j : Int) := by omega
      have j3 : (j : Int) ≤ 16 := by omega
      go_wp2_with (at_builtin; refine appR (e := strE) rfl _ _ rfl (unhide HO) rfl T rfl _ rfl rfl (by rw [unhide HLE]; omega) hBz ?_; intro v5 w5 hO5 hb5 _; obtain ⟨a5, c5, hv5⟩ := hO5.form; rw [List.length_append, unhide HLE, List.length_singleton, hj] at hv5; subst hv5; have HO5 := hide hO5; have HB5 := hide ((unhide HB).trans hb5); clear hO5 hb5)
      go_roundw
      case rel => exact ⟨j, a5, c5, by first | rfl | go_num, rfl, by omega, hide (by rw [unhide HNX]; exact unhide HO5), HB5⟩
      case measure => simp [intOf]; omega
    · obtain rfl : i = 16 := by omega
      go_wp2_with fail
      go_ret
      exact ⟨_, rfl, unhide HO, unhide HB⟩

theorem addT {a b : ByteArray} (W : World) (h : a.size + b.size ≤ 1000000000000) : (Op.stringOp .add a b).run Tryz.prog W = .ok (.string (a ++ b)) W := by
  have hm : (a.size : Int) + (b.size : Int) ≤ 9223372036854775807 := by omega
  simp [Op.stringOp, hm]
theorem bdrewT {B : Nat} {w w' : World} (h : Below B w w') : Below B w w'.drew := ⟨h.os, h.tape, h.output, h.size, h.block⟩
theorem belOnT {w W W' : World} (h0 : Below w.heap.size w W) (h1 : Below W.heap.size W W') : Below w.heap.size w W' := h0.trans (h1.mono h0.size)

set_option maxRecDepth 10000 in
set_option maxHeartbeats 4000000 in
theorem l7Node_calls : ∀ (k : Nat) (p : ByteArray) (hp : p.size + k = 2) (a : Option Addr) (n c : Nat) (ls : List ByteArray) (w : World) (h : TxtsAt w a n ls) (hs : ∀ s ∈ ls, s.size = 71) (hn : n ≤ 200),
    Calls Tryz.prog 18 #[.slice a n c, .string p] w fun e w' => e = .returned (.string (nodeU k ls p)) ∧ Below w.heap.size w w' := by
  intro k
  induction k with
  | zero =>
    intro p hp a n c ls w h hs hn
    have he : ((p.size : Int) == 2) = true := by simp; omega
    have HU := hide (l7Under_calls a n c ls p w h hs (by omega))
    have HE := hide (show nodeU 0 ls p = digestB (catB (ls.filter (preB p))) from rfl)
    have hfl : (ls.filter (preB p)).length ≤ 200 := Nat.le_trans (List.length_filter_le _ _) (by rw [h.len]; exact hn)
    have HS := hide (fun s (q : s ∈ ls.filter (preB p)) => hs s (List.mem_filter.1 q).1)
    rw [unhide HE]
    generalize ls.filter (preB p) = L at HU hfl HS
    obtain ⟨M, hM⟩ : ∃ M, L.length = M := ⟨_, rfl⟩
    have HM := hide hM
    rw [hM] at hfl
    obtain ⟨C0, hC0⟩ : ∃ C0, catB L = C0 := ⟨_, rfl⟩
    rw [hC0]
    have HC0 := hide hC0
    clear h hs HE hM hC0
    go_enter Tryz.func18, Tryz.ntmps18
    go_wp2_with fail
    refine (unhide HU).mono ?_
    rintro e w1 ⟨v, rfl, o1, hb1⟩
    obtain ⟨a1, c1, hv1⟩ := o1.form
    rw [unhide HM] at hv1
    subst hv1
    have HO := hide o1.at
    have HB := hide hb1
    clear o1 hb1 HU
    go_wp2_with fail
    go_loopw [5, 7] (fun s5 s7 wr => ∃ i : Nat, s7 = .int .i64 i ∧ s5 = .string (catB (L.take i)) ∧ i ≤ M ∧ w1 = wr) (fun _ s7 _ => M - (intOf s7).toNat)
    case atStart => exact ⟨0, rfl, rfl, by omega, rfl⟩
    case round =>
      obtain ⟨i, rfl, rfl, hi, rfl⟩ := hrel
      by_cases hlt : i < M
      · have hil : i < L.length := by rw [unhide HM]; exact hlt
        obtain ⟨g, rfl, hgl, hc, -⟩ := (unhide HO).str i hil
        have hxs := unhide HS L[i] (List.getElem_mem _)
        have HNX := hide (show catB (L.take (i + 1)) = catB (L.take i) ++ L[i] from by rw [List.take_succ_eq_append_getElem hil, catB_snoc])
        have hsz : (catB (L.take i)).size ≤ 71 * 200 := by
          rw [catB_size _ fun s q => unhide HS s (List.mem_of_mem_take q), List.length_take]
          omega
        generalize L[i] = x at hc hxs HNX
        generalize catB (L.take i) = C at HNX hsz ⊢
        have i0 : (0 : Int) ≤ (i : Int) := by omega
        have i1 : (i : Int) < (M : Int) := by omega
        go_wp2_with fail
        go_roundw
        case rel => exact ⟨i + 1, by go_num, by rw [unhide HNX], by omega, by first | trivial | rfl⟩
        case measure => simp [intOf]; omega
      · obtain rfl : i = M := by omega
        rw [List.take_of_length_le (by rw [unhide HM]; exact Nat.le_refl _)]
        have hsz : (catB L).size ≤ 71 * 200 := by
          rw [catB_size _ (unhide HS), unhide HM]
          omega
        rw [unhide HC0] at hsz ⊢
        have HDG := hide (specDigest_calls C0 w1 (by omega))
        go_wp2_with fail
        refine (unhide HDG).mono ?_
        rintro e w2 ⟨rfl, hb2⟩
        have HB2 := hide (belOnT (unhide HB) hb2)
        clear hb2
        go_wp2_with fail
        go_ret
        exact ⟨rfl, unhide HB2⟩
  | succ k ih =>
    intro p hp a n c ls w h hs hn
    have he : ((p.size : Int) == 2) = false := by rw [beq_eq_false_iff_ne]; omega
    have HBL := hide (l7Below_calls p w (by omega))
    have HE := hide (show nodeU (k + 1) ls p = digestB (catB ((List.range 16).map fun c => nodeU k ls (p ++ dgC c))) from rfl)
    rw [unhide HE]
    have HLN := hide h.len
    have HUN := hide (fun (W : World) (hW : Below w.heap.size w W) (q : ByteArray) (hq : q.size ≤ 2) => l7Under_calls a n c ls q W (h.below hW) hs hq)
    have HIH := hide (fun (q : ByteArray) (hq : q.size + k = 2) (a' : Option Addr) (n' c' : Nat) (W : World) (r : RowAt strE W a' (ls.filter (preB q))) (hl : (ls.filter (preB q)).length = n') => (show Calls Tryz.prog 18 #[.slice a' n' c', .string q] W fun e w' => e = .returned (.string (nodeU k ls q)) ∧ Below W.heap.size W w' from by
      have hfl : (ls.filter (preB q)).length ≤ 200 := Nat.le_trans (List.length_filter_le _ _) (by rw [h.len]; exact hn)
      have := ih q hq a' n' c' (ls.filter (preB q)) W ⟨r, hl, by omega, fun s hm => by have := hs s (List.mem_filter.1 hm).1; omega⟩ (fun s hm => hs s (List.mem_filter.1 hm).1) (by omega)
      rw [nodeU_filt k ls q q fun s hh => hh] at this
      exact this))
    have HFL := hide (fun q => (show (ls.filter (preB q)).length ≤ 200 from Nat.le_trans (List.length_filter_le _ _) (by rw [h.len]; exact hn)))
    obtain ⟨C0, hC0⟩ : ∃ C0, catB ((List.range 16).map fun c => nodeU k ls (p ++ dgC c)) = C0 := ⟨_, rfl⟩
    rw [hC0]
    have HC0 := hide hC0
    clear h hs HE ih hC0
    go_enter Tryz.func18, Tryz.ntmps18
    go_wp2_with fail
    refine (unhide HBL).mono ?_
    rintro e w1 ⟨v, rfl, o1, hb1⟩
    obtain ⟨a1, c1, hv1⟩ := o1.form
    rw [blwL_len] at hv1
    subst hv1
    have HO := hide o1.at
    have HB := hide hb1
    clear o1 hb1 HBL
    go_wp2_with fail
    go_loopw [5, 9] (fun s5 s9 wr => ∃ i : Nat, s9 = .int .i64 i ∧ s5 = .string (catB ((List.range i).map fun c => nodeU k ls (p ++ dgC c))) ∧ i ≤ 16 ∧ Hid (Below w1.heap.size w1 wr)) (fun _ s9 _ => 16 - (intOf s9).toNat)
    case atStart => exact ⟨0, rfl, rfl, by omega, hide (Below.refl _ _)⟩
    case round =>
      obtain ⟨i, rfl, rfl, hi, HBi⟩ := hrel
      by_cases hlt : i < 16
      · have hil : i < (blwL p 16).length := by rw [blwL_len]; exact hlt
        obtain ⟨g, e1, hgl, hc, -⟩ := ((unhide HO).below (unhide HBi)).str i hil
        rw [blwL_get] at hc
        subst e1
        have HNX := hide (show catB ((List.range (i + 1)).map fun c => nodeU k ls (p ++ dgC c)) = catB ((List.range i).map fun c => nodeU k ls (p ++ dgC c)) ++ nodeU k ls (p ++ dgC i) from by rw [List.range_succ, List.map_append, List.map_cons, List.map_nil, catB_snoc])
        have hsz : (catB ((List.range i).map fun c => nodeU k ls (p ++ dgC c))).size ≤ 71 * 16 := by
          rw [catB_size _ fun s q => by obtain ⟨c, _, rfl⟩ := List.mem_map.1 q; exact nodeU_size _ _ _, List.length_map, List.length_range]
          omega
        have hns := nodeU_size k ls (p ++ dgC i)
        have hPs : (p ++ dgC i).size = p.size + 1 := by rw [ByteArray.size_append, dgC_size]
        generalize catB ((List.range i).map fun c => nodeU k ls (p ++ dgC c)) = C at HNX hsz ⊢
        generalize p ++ dgC i = P at hc HNX hns hPs
        have hbw := belOnT (unhide HB) (unhide HBi)
        have HU1 := hide (fun (W : World) (hW : Below wr.heap.size wr W) => unhide HUN W (belOnT hbw hW) P (by omega))
        have HI1 := hide (fun (a' : Option Addr) (n' c' : Nat) (W : World) (r : RowAt strE W a' (ls.filter (preB P))) (hl : (ls.filter (preB P)).length = n') => unhide HIH P (by omega) a' n' c' W r hl)
        have hPf := unhide HFL P
        generalize nodeU k ls P = Z at HNX hns HI1
        generalize ls.filter (preB P) = L at HU1 HI1 hPf
        obtain ⟨M, hM⟩ : ∃ M, L.length = M := ⟨_, rfl⟩
        rw [hM] at hPf
        have HM := hide hM
        have hbd : Below wr.heap.size wr wr.drew := bdrewT (Below.refl _ _)
        have HCL : ∀ W : World, Below wr.heap.size wr W → W.cell? ⟨g, i, none⟩ = some (.string P) := fun W hW => (hW.cell (p := ⟨g, i, none⟩) hgl).trans hc
        have i0 : (0 : Int) ≤ (i : Int) := by omega
        have i1 : (i : Int) < 16 := by omega
        have hadd := fun W => addT (a := C) (b := Z) W (by omega)
        obtain ⟨S, hS⟩ : ∃ S, C ++ Z = S := ⟨_, rfl⟩
        rw [hS] at hadd HNX
        clear hbw hM hc hsz hns hS
        go_wp2_with fail
        go_region_held3 (fun W' => Below wr.heap.size wr W') (first | exact hbd | assumption | exact Below.refl _ _) (first
          | (go_at_call 17; refine (unhide HU1 _ hbd).mono ?_; rintro e w5 ⟨v5, rfl, ho5, hb5⟩; obtain ⟨a5, c5, hv5⟩ := ho5.form; rw [unhide HM] at hv5; subst hv5; have hx5 := hbd.trans (hb5.mono hbd.size))
          | (go_at_call 18; refine (unhide HI1 a5 M c5 _ ho5.at (unhide HM)).mono ?_; rintro e w6 ⟨rfl, hb6⟩; have hx6 := hx5.trans (hb6.mono hx5.size)))
        all_goals (try go_wp2_with fail)
        all_goals go_roundw
        all_goals first
          | exact ⟨i + 1, by go_num, by rw [unhide HNX], by omega, hide (belOnT (unhide HBi) hx6)⟩
          | (simp [intOf]; omega)
      · obtain rfl : i = 16 := by omega
        have hsz : (catB ((List.range 16).map fun c => nodeU k ls (p ++ dgC c))).size ≤ 71 * 16 := by
          rw [catB_size _ fun s q => by obtain ⟨c, _, rfl⟩ := List.mem_map.1 q; exact nodeU_size _ _ _, List.length_map, List.length_range]
          omega
        rw [unhide HC0] at hsz ⊢
        have HDG := hide (specDigest_calls C0 wr (by omega))
        go_wp2_with fail
        refine (unhide HDG).mono ?_
        rintro e w2 ⟨rfl, hb2⟩
        have HB2 := hide (belOnT (belOnT (unhide HB) (unhide HBi)) hb2)
        clear hb2
        go_wp2_with fail
        go_ret
        exact ⟨rfl, unhide HB2⟩
end Go.Proofs.YtldgkpnlplfopaaGreatDoor


/- The program's nodes: over parts; the sixteen branches behind one. -/
namespace Go.Proofs.YtldgkpnlplfopaaGreatDoor
open Go.RowKit Go.Maps Plain
set_option linter.unusedVariables false

theorem OwnR.capT {α : Type} {e : Elem α} {W : World} {B n c : Nat} {a : Option Addr} {xs : List α} (h : OwnR e W B (.slice a n c) xs) : n ≤ c := by
  rcases h.2 with ⟨e1, h0⟩ | ⟨g, cap, cur, e1, hg, hc, hcap, _⟩
  · simp at e1; omega
  · simp at e1
    omega

set_option maxRecDepth 100000 in
set_option maxHeartbeats 4000000 in
theorem nodeOver_calls (a : Option Addr) (m c : Nat) (ks : List (List UInt8)) (w : World) (hr : RowAt keyE w a ks) (hm : ks.length = m) (hm2 : m ≤ 200) (h32 : ∀ x ∈ ks, x.length = 32) (hK : KAt w) :
    Calls Tryz.prog 59 #[.slice a m c] w fun e w' => e = .returned (.agg (encK (kyL (digestB (catB (ks.map dgT))))).toArray) ∧ Below w.heap.size w w' := by
  have h0 : 1 < w.heap.size := lt_of_cell (hK 0 (by omega))
  obtain ⟨W0, hW0⟩ : ∃ W0, w.alloc (.cells #[.int .u8 0, .int .u8 0, .int .u8 0, .int .u8 0, .int .u8 0, .int .u8 0, .int .u8 0, .int .u8 0, .int .u8 0, .int .u8 0, .int .u8 0, .int .u8 0, .int .u8 0, .int .u8 0, .int .u8 0, .int .u8 0, .int .u8 0, .int .u8 0, .int .u8 0, .int .u8 0, .int .u8 0, .int .u8 0, .int .u8 0, .int .u8 0, .int .u8 0, .int .u8 0, .int .u8 0, .int .u8 0, .int .u8 0, .int .u8 0, .int .u8 0, .int .u8 0] 63) = W0 := ⟨_, rfl⟩
  have hb0 : Below w.heap.size w W0 := by rw [← hW0]; exact (Below.refl _ _).alloc (Nat.le_refl _) _
  have hl0 : w.heap.size < W0.heap.size := by rw [← hW0]; simp
  have hrow0 : W0.heap[w.heap.size]? = some (.cells (keyC zeroK) 63 (0, 0)) := by rw [← hW0, ← zeroK_cells]; exact heap_alloc_new _ _
  have HTX := hide (textsOf_calls a m c ks W0 (hr.below hb0) hm (by omega) h32)
  have h71 : ∀ s ∈ ks.map dgT, s.size = 71 := fun s hs => by
    obtain ⟨x, hx, rfl⟩ := List.mem_map.1 hs
    exact dgT_size x (h32 x hx)
  have HJ := hide (fun (W : World) (a' : Option Addr) (c' : Nat) (r : RowAt strE W a' (ks.map dgT)) (hc : m ≤ c') => join_cat a' m c' (ks.map dgT) W (by rw [List.length_map]; exact hm) (by omega) hc h71 r)
  have hsz : (catB (ks.map dgT)).size ≤ 71 * 200 := by rw [catB_size _ h71, List.length_map]; omega
  have HDG := hide (fun (W : World) (hW : Below w.heap.size w W) => implDigest_calls (catB (ks.map dgT)) W (hK.below hW h0) (by omega))
  have HKY := hide (fun W => keyY_calls (digestB (catB (ks.map dgT))) W (digest_dig _))
  have HLM := hide (show (ks.map dgT).length = m from by rw [List.length_map]; exact hm)
  have HW := hide hW0
  have HB0 := hide hb0
  generalize ks.map dgT = ts at HTX HJ HDG HKY HLM ⊢
  generalize catB ts = C at HJ HDG HKY ⊢
  have hds := digestB_size C
  generalize digestB C = D at HDG HKY hds ⊢
  generalize kyL D = x at HKY ⊢
  have hinx := infX x
  have h32x := s32X x
  have honx := oneX x
  have hzk : (keyC zeroK).size = (encK x).toArray.size := by rw [← h32x]; rfl
  clear hr hm h32 hK hW0 hb0 h71 hsz
  go_enter Tryz.func59, Tryz.ntmps59
  go_wp2_with fail
  rw [unhide HW]
  refine (unhide HTX).mono ?_
  rintro e w1 ⟨v, rfl, o1, hb1⟩
  obtain ⟨a1, c1, hv1⟩ := o1.form
  rw [unhide HLM] at hv1
  subst hv1
  have hcap := o1.capT
  have HJ1 := hide (unhide HJ w1 a1 c1 o1.at hcap)
  have hrow1 := (hb1.block _ hl0).trans hrow0
  have HB1 := hide ((unhide HB0).trans (hb1.mono (Nat.le_of_lt hl0)))
  have hl1 : w.heap.size < w1.heap.size := Nat.lt_of_lt_of_le hl0 hb1.size
  clear o1 hb1 HTX HJ hrow0 HB0 HW hl0
  go_wp2_with fail
  refine (unhide HJ1).mono ?_
  rintro e w2 ⟨rfl, hb2⟩
  have hrow2 := (hb2.block _ hl1).trans hrow1
  have HB2 := hide ((unhide HB1).trans (hb2.mono (Nat.le_of_lt hl1)))
  have hl2 : w.heap.size < w2.heap.size := Nat.lt_of_lt_of_le hl1 hb2.size
  clear hb2 HJ1 hrow1 HB1 hl1
  go_wp2_with fail
  refine (unhide HDG _ (unhide HB2)).mono ?_
  rintro e w3 ⟨rfl, hb3⟩
  have hrow3 := (hb3.block _ hl2).trans hrow2
  have HB3 := hide ((unhide HB2).trans (hb3.mono (Nat.le_of_lt hl2)))
  have hl3 : w.heap.size < w3.heap.size := Nat.lt_of_lt_of_le hl2 hb3.size
  clear hb3 HDG hrow2 HB2 hl2
  go_wp2_with fail
  refine (unhide HKY _).mono ?_
  rintro e w4 ⟨rfl, hb4⟩
  have hrow4 := (hb4.block _ hl3).trans hrow3
  have HB4 := hide ((unhide HB3).trans (hb4.mono (Nat.le_of_lt hl3)))
  have hl4 : w.heap.size < w4.heap.size := Nat.lt_of_lt_of_le hl3 hb4.size
  clear hb4 HKY hrow3 HB3 hl3
  obtain ⟨W5, hW5⟩ : ∃ W5, w4.alloc (.cells #[.int .u8 0, .int .u8 0, .int .u8 0, .int .u8 0, .int .u8 0, .int .u8 0, .int .u8 0, .int .u8 0, .int .u8 0, .int .u8 0, .int .u8 0, .int .u8 0, .int .u8 0, .int .u8 0, .int .u8 0, .int .u8 0, .int .u8 0, .int .u8 0, .int .u8 0, .int .u8 0, .int .u8 0, .int .u8 0, .int .u8 0, .int .u8 0, .int .u8 0, .int .u8 0, .int .u8 0, .int .u8 0, .int .u8 0, .int .u8 0, .int .u8 0, .int .u8 0] 63) = W5 := ⟨_, rfl⟩
  have hnew5 : W5.heap[w4.heap.size]? = some (.cells (keyC zeroK) 63 (0, 0)) := by rw [← hW5, ← zeroK_cells]; exact heap_alloc_new _ _
  have hrow5 : W5.heap[w.heap.size]? = some (.cells (keyC zeroK) 63 (0, 0)) := by rw [← hW5]; exact (heap_alloc_old _ _ hl4).trans hrow4
  have HB5 := hide (show Below w.heap.size w W5 from by rw [← hW5]; exact (unhide HB4).alloc (Nat.le_of_lt hl4) _)
  have hs5 : w4.heap.size < W5.heap.size := by rw [← hW5]; simp
  have hl5 : w.heap.size < W5.heap.size := Nat.lt_trans hl4 hs5
  have hne5 : some w.heap.size ≠ some w4.heap.size := by intro q; simp at q; omega
  clear hrow4 HB4
  go_wp2_with (first
    | (refine wpList_store_any rfl 63 (.tmp 3) (.tmp 11) rfl w4.heap.size (encK x).toArray rfl rfl 63 (keyC zeroK) (by first | exact hnew5 | (rw [hW5]; exact hnew5)) hinx hzk honx ?_; intro w6 hrow6 hgr6 hsz6; (try rw [hW5] at hgr6 hsz6); have hrow6b : w6.heap[w.heap.size]? = some (.cells (keyC zeroK) 63 (0, 0)) := (hgr6.block w.heap.size hl5 hne5).trans hrow5)
    | (refine wpList_load_row rfl 63 (.tmp 3) rfl w4.heap.size rfl 63 (encK x).toArray (0, 0) _ hrow6 Tryz.underlying63 rfl hinx ?_)
    | (refine wpList_store_any rfl 63 (.tmp 2) (.tmp 13) rfl w.heap.size (encK x).toArray rfl rfl 63 (keyC zeroK) hrow6b hinx hzk honx ?_; intro w7 hrow7 hgr7 hsz7))
  try rw [hW5] at hgr6
  have HB6 := hide ((unhide HB5).grown hgr6 (Nat.le_of_lt (by omega)) (fun k e => by cases e; omega))
  have HB7 := hide ((unhide HB6).grown hgr7 (unhide HB6).size (fun k e => by cases e; omega))
  exact bodyPost_ret (v := .agg (encK x).toArray) (results_cell_row (fn := Tryz.f59) (p := 2) (ty := 63) (by kernel_rfl) _ _ w.heap.size _ _ (0, 0) _ rfl hrow7 Tryz.underlying63 rfl hinx) rfl ⟨rfl, unhide HB7⟩

namespace Plain
/-- The first i behind a branch. -/
def sxL (n v i : Nat) : List (Nat × Nat) := (List.range i).map fun c => (n + 1, v * 16 + c)
theorem sxL_len (n v i : Nat) : (sxL n v i).length = i := by simp [sxL]
theorem sxL_next (n v i : Nat) : sxL n v (i + 1) = sxL n v i ++ [(n + 1, v * 16 + i)] := by simp [sxL, List.range_succ]
theorem sxL_get (n v k i : Nat) (h : i < (sxL n v k).length) : (sxL n v k)[i] = (n + 1, v * 16 + i) := by simp [sxL]
end Plain
/-- Branches as elements. -/
def brE : Elem (Nat × Nat) where
  E := 56
  S := 47
  n := 2
  bytes := 16
  zero := .agg #[.int .i64 0, .int .u8 0]
  enc := fun q => [.int .i64 (q.1 : Int), .int .u8 (q.2 : Int)]
  hund := Tryz.underlying47
  hinfo := by kernel_rfl
  hz := by kernel_rfl
  hn := by decide
  hb := by decide
  hlen := fun _ => rfl
  hone := fun x u hu => by
    simp at hu
    rcases hu with rfl | rfl <;> rfl
theorem RowAt.br {W : World} {a : Option Addr} {xs : List (Nat × Nat)} (h : RowAt brE W a xs) (i : Nat) (hi : i < xs.length) : ∃ g, a = some ⟨g, 0, none⟩ ∧ g < W.heap.size ∧ W.cell? ⟨g, i * 2, none⟩ = some (.int .i64 (xs[i].1 : Int)) ∧ W.cell? ⟨g, i * 2 + 1, none⟩ = some (.int .u8 (xs[i].2 : Int)) := by
  obtain ⟨g, e1, hl, h1⟩ := h i hi
  exact ⟨g, e1, hl, by simpa [brE] using (h1 0 (by decide)).1, by simpa [brE] using (h1 1 (by decide)).1⟩

set_option maxRecDepth 10000 in
set_option maxHeartbeats 1000000 in
theorem isLeaf_calls (n v : Nat) (hn : n ≤ 2) (w : World) :
    Calls Tryz.prog 39 #[brV n v] w fun e w' => e = .returned (.bool (decide ((n : Int) = 2))) ∧ Below w.heap.size w w' := by
  unfold brV
  go_enter Tryz.func39, Tryz.ntmps39
  go_wp2_with fail
  go_ret
  exact ⟨by first | rfl | simp, (Below.refl _ _).alloc (Nat.le_refl _) _⟩

set_option maxRecDepth 10000 in
set_option maxHeartbeats 2000000 in
theorem sixteen_calls (n v : Nat) (hn : n < 2) (hv : v < 16) (w : World) :
    Calls Tryz.prog 40 #[brV n v] w fun e w' => ∃ u, e = .returned u ∧ OwnR brE w' w.heap.size u (sxL n v 16) ∧ Below w.heap.size w w' := by
  obtain ⟨W0, hW0⟩ : ∃ W0, w.alloc (.cells #[.int .i64 (n : Int), .int .u8 (v : Int)] 56) = W0 := ⟨_, rfl⟩
  have hrow0 : W0.heap[w.heap.size]? = some (.cells #[.int .i64 (n : Int), .int .u8 (v : Int)] 56 (0, 0)) := by rw [← hW0]; exact heap_alloc_new _ _
  have hb0 : Below w.heap.size w W0 := by rw [← hW0]; exact (Below.refl _ _).alloc (Nat.le_refl _) _
  have hl0 : w.heap.size < W0.heap.size := by rw [← hW0]; simp
  have HC0 := hide (fun (W : World) (hW : Below W0.heap.size W0 W) => (show W.cell? ⟨w.heap.size, 0, none⟩ = some (.int .i64 (n : Int)) from by rw [cell_of_row _ _ 0 _ _ _ ((hW.block _ hl0).trans hrow0)]; rfl))
  have HC1 := hide (fun (W : World) (hW : Below W0.heap.size W0 W) => (show W.cell? ⟨w.heap.size, 1, none⟩ = some (.int .u8 (v : Int)) from by rw [cell_of_row _ _ 1 _ _ _ ((hW.block _ hl0).trans hrow0)]; rfl))
  have HW := hide hW0
  have HB0 := hide hb0
  have HBR := hide (show brV n v = .agg #[.int .i64 (n : Int), .int .u8 (v : Int)] from rfl)
  rw [unhide HBR]
  clear hrow0 hb0 hW0
  go_enter Tryz.func40, Tryz.ntmps40
  go_wp2_with fail
  rw [unhide HW]
  go_loopw [3, 4, 5] (fun s3 _ s5 wr => ∃ (i : Nat) (ta : Option Addr) (tc : Nat), s5 = .int .u8 i ∧ s3 = .slice ta i tc ∧ i ≤ 16 ∧ Hid (OwnR brE wr W0.heap.size (.slice ta i tc) (sxL n v i)) ∧ Hid (Below W0.heap.size W0 wr)) (fun _ _ s5 _ => 16 - (intOf s5).toNat)
  case atStart => exact ⟨0, none, 0, rfl, rfl, by omega, hide (ownR_nil _ _ _), hide (Below.refl _ _)⟩
  case round =>
    obtain ⟨i, ta, tc, rfl, rfl, hi, HO, HB⟩ := hrel
    by_cases hlt : i < 16
    · have p0 := unhide HC0 wr (unhide HB)
      have p1 := unhide HC1 wr (unhide HB)
      have HBH := hide (fun W => behind_calls n v i W (by omega) hv hlt)
      rw [unhide HBR] at HBH
      have HNX := hide (sxL_next n v i)
      have HLE := hide (sxL_len n v i)
      have i0 : (0 : Int) ≤ (i : Int) := by omega
      have i1 : (i : Int) < 16 := by omega
      have hBz := (unhide HB).size
      obtain ⟨n1, hn1⟩ : ∃ n1 : Nat, n + 1 = n1 := ⟨_, rfl⟩
      obtain ⟨z, hz⟩ : ∃ z : Nat, v * 16 + i = z := ⟨_, rfl⟩
      rw [hn1, hz] at HBH HNX
      unfold brV at HBH
      go_wp2_with fail
      refine (unhide HBH _).mono ?_
      rintro e w4 ⟨rfl, hb4⟩
      have HO4 := hide ((unhide HO).keep hb4)
      have HB4 := hide ((unhide HB).trans (hb4.mono hBz))
      have hB4 := (unhide HB4).size
      clear hb4 p0 p1 HO
      go_wp2_with (at_builtin; refine appR (e := brE) rfl _ _ rfl (unhide HO4) rfl (n1, z) rfl _ rfl rfl (by rw [unhide HLE]; omega) hB4 ?_; intro v5 w5 hO5 hb5 _; obtain ⟨a5, c5, hv5⟩ := hO5.form; rw [List.length_append, unhide HLE, List.length_singleton] at hv5; subst hv5; have HO5 := hide hO5; have HB5 := hide ((unhide HB4).trans hb5); clear hO5 hb5)
      go_roundw
      case rel => exact ⟨i + 1, a5, c5, by go_num, rfl, by omega, hide (by rw [unhide HNX]; exact unhide HO5), HB5⟩
      case measure => simp [intOf]; omega
    · obtain rfl : i = 16 := by omega
      have HX := hide (OwnR.le (unhide HO) (Nat.le_of_lt hl0))
      go_wp2_with fail
      go_ret
      exact ⟨_, rfl, unhide HX, (unhide HB0).trans ((unhide HB).mono (Nat.le_of_lt hl0))⟩
end Go.Proofs.YtldgkpnlplfopaaGreatDoor


/- A branch as a prefix, by the program. -/
namespace Go.Proofs.YtldgkpnlplfopaaGreatDoor
open Go.RowKit Go.Maps Plain
set_option linter.unusedVariables false

/-- Bytes as elements. -/
def byE : Elem Int where
  E := 5
  S := 22
  n := 1
  bytes := 1
  zero := .int .u8 0
  enc := fun x => [.int .u8 x]
  hund := Tryz.underlying22
  hinfo := by kernel_rfl
  hz := by kernel_rfl
  hn := by decide
  hb := by decide
  hlen := fun _ => rfl
  hone := fun x u hu => by
    simp at hu
    subst hu
    rfl
theorem conv_by (W : World) (B g n c : Nat) (xs : List Int) (h : OwnR byE W B (.slice (some ⟨g, 0, none⟩) n c) xs) (hn : xs.length = n) : (convert 22 9 (.slice (some ⟨g, 0, none⟩) n c)).run Tryz.prog W = .ok (.string (strOfNums xs)) W :=
  run_convert_bytes_arg W _ _ Tryz.underlying22 Tryz.underlying5 g 0 n c xs hn (fun i hi => by
    obtain ⟨g', e1, hl, hc⟩ := h.at i (by omega)
    cases e1
    have := (hc 0 (by decide)).1
    simp [byE] at this
    rw [Nat.zero_add, this]
    simp [List.getD, List.getElem?_eq_getElem (show i < xs.length by omega)]) _ Tryz.underlying9

namespace Plain
/-- The first k digits of a branch. -/
def pfL (n v k : Nat) : List Int := (List.range k).map fun j => ((hxC (v / 16 ^ (n - 1 - j) % 16)).toNat : Int)
theorem pfL_len (n v k : Nat) : (pfL n v k).length = k := by simp [pfL]
theorem pfL_next (n v k : Nat) : pfL n v (k + 1) = pfL n v k ++ [((hxC (v / 16 ^ (n - 1 - k) % 16)).toNat : Int)] := by simp [pfL, List.range_succ]
theorem str_one (c : UInt8) : strOfNums [(c.toNat : Int)] = ⟨#[c]⟩ := by
  unfold strOfNums
  simp
theorem pfL_str {n v : Nat} (h : gdB (n, v)) (h1 : 1 ≤ n) : strOfNums (pfL n v n) = prT (n, v) := by
  have h2 := h.2
  simp only at h2
  have hn : n = 1 ∨ n = 2 := by have := h.1; simp at this; omega
  rcases hn with rfl | rfl
  · have e : v % 16 = v := by omega
    simp [pfL, prT, dgC, strOfNums, e]
  · have e : v / 16 % 16 = v / 16 := by omega
    simp [pfL, prT, dgC, strOfNums, e, List.range_succ]
    apply ByteArray.ext
    simp
end Plain

set_option maxRecDepth 10000 in
set_option maxHeartbeats 2000000 in
theorem prefix_calls (n v : Nat) (h : gdB (n, v)) (w : World) :
    Calls Tryz.prog 25 #[brV n v] w fun e w' => e = .returned (.string (prT (n, v))) ∧ Below w.heap.size w w' := by
  have hv := gdB_lt h
  have hn2 := h.1
  simp only at hv hn2
  by_cases hn0 : n = 0
  · subst hn0
    have HE := hide (show prT (0, v) = ByteArray.empty from rfl)
    rw [unhide HE]
    have hcn := fun W => run_convert_bytes_nil (P := Tryz.prog) W 22 _ Tryz.underlying22 Tryz.underlying5 0 0 9 Tryz.underlying9
    unfold brV
    go_enter Tryz.func25, Tryz.ntmps25
    go_wp2_with fail
    go_loopw [3, 4] (fun s3 s4 wr => s3 = .slice none 0 0 ∧ s4 = .int .i64 (-4) ∧ Hid (Below w.heap.size w wr)) (fun _ _ _ => 0)
    case atStart => exact ⟨rfl, rfl, hide ((Below.refl _ _).alloc (Nat.le_refl _) _)⟩
    case round =>
      obtain ⟨rfl, rfl, HB⟩ := hrel
      go_wp2_with fail
      go_ret
      exact ⟨rfl, unhide HB⟩
  · have HE := hide (pfL_str h (by omega))
    rw [← unhide HE]
    obtain ⟨W0, hW0⟩ : ∃ W0, w.alloc (.cells #[.int .i64 (n : Int), .int .u8 (v : Int)] 56) = W0 := ⟨_, rfl⟩
    have hrow0 : W0.heap[w.heap.size]? = some (.cells #[.int .i64 (n : Int), .int .u8 (v : Int)] 56 (0, 0)) := by rw [← hW0]; exact heap_alloc_new _ _
    have hb0 : Below w.heap.size w W0 := by rw [← hW0]; exact (Below.refl _ _).alloc (Nat.le_refl _) _
    have hl0 : w.heap.size < W0.heap.size := by rw [← hW0]; simp
    have HC1 := hide (fun (W : World) (hW : Below W0.heap.size W0 W) => (show W.cell? ⟨w.heap.size, 1, none⟩ = some (.int .u8 (v : Int)) from by rw [cell_of_row _ _ 1 _ _ _ ((hW.block _ hl0).trans hrow0)]; rfl))
    have q0 : W0.cell? ⟨w.heap.size, 0, none⟩ = some (.int .i64 (n : Int)) := by rw [cell_of_row _ _ 0 _ _ _ hrow0]; rfl
    have HW := hide hW0
    have HB0 := hide hb0
    have HBR := hide (show brV n v = .agg #[.int .i64 (n : Int), .int .u8 (v : Int)] from rfl)
    rw [unhide HBR]
    obtain ⟨sh0, hsh0⟩ : ∃ sh : Nat, 4 * ((n : Int) - 1) = (sh : Int) := ⟨4 * (n - 1), by omega⟩
    have hn1 : IntKind.i64.wrap ((n : Int) - 1) = (n : Int) - 1 := by rw [IntKind.wrap_i64]; omega
    clear hrow0 hb0 hW0 h
    go_enter Tryz.func25, Tryz.ntmps25
    go_upto_region 2 with fail
    rw [unhide HW]
    go_wp2_with fail
    clear q0
    go_loopw [3, 4] (fun s3 s4 wr => ∃ (k : Nat) (ta : Option Addr) (tc : Nat) (sh : Int), s4 = .int .i64 sh ∧ s3 = .slice ta k tc ∧ k ≤ n ∧ sh = 4 * ((n : Int) - 1 - k) ∧ Hid (OwnR byE wr W0.heap.size (.slice ta k tc) (pfL n v k)) ∧ Hid (Below W0.heap.size W0 wr)) (fun _ s4 _ => (intOf s4 + 4).toNat)
    case atStart => exact ⟨0, none, 0, _, rfl, rfl, by omega, by omega, hide (ownR_nil _ _ _), hide (Below.refl _ _)⟩
    case round =>
      obtain ⟨k, ta, tc, sh, rfl, rfl, hk, hsh, HO, HB⟩ := hrel
      by_cases hlt : k < n
      · have p1 := unhide HC1 wr (unhide HB)
        have HNX := hide (pfL_next n v k)
        have HLE := hide (pfL_len n v k)
        have hBz := (unhide HB).size
        obtain ⟨b, hb⟩ : ∃ b : Nat, v / 16 ^ (n - 1 - k) = b := ⟨_, rfl⟩
        have hbl : b < 256 := by rw [← hb]; exact Nat.lt_of_le_of_lt (Nat.div_le_self _ _) hv
        obtain ⟨q, hq, hq16⟩ : ∃ q : Nat, b % 16 = q ∧ q < 16 := ⟨_, rfl, by omega⟩
        have a15 := and15u ⟨b, hbl⟩
        simp only [hq] at a15
        rw [hb, hq, ← hx_at q hq16 hq16] at HNX
        have g0 : (0 : Int) ≤ (q : Int) := by omega
        have g1 : (q : Int) < 16 := by omega
        have hcase : sh = 0 ∧ b = v ∨ sh = 4 ∧ b = v / 16 := by
          have : n - 1 - k = 0 ∨ n - 1 - k = 1 := by omega
          rcases this with e | e
          · rw [e] at hb
            exact .inl ⟨by omega, by simpa using hb.symm⟩
          · rw [e] at hb
            exact .inr ⟨by omega, by simpa using hb.symm⟩
        rcases hcase with ⟨hs0, hbv⟩ | ⟨hs0, hbv⟩
        · subst hs0
          subst hbv
          have HSH := hide hsh
          clear hb hq hsh
          go_wp2_with (at_builtin; refine appR (e := byE) rfl _ _ rfl (unhide HO) rfl _ rfl _ rfl rfl (by rw [unhide HLE]; omega) hBz ?_; intro v5 w5 hO5 hb5 _; obtain ⟨a5, c5, hv5⟩ := hO5.form; rw [List.length_append, unhide HLE, List.length_singleton] at hv5; subst hv5; have HO5 := hide hO5; have HB5 := hide ((unhide HB).trans hb5); clear hO5 hb5)
          go_roundw
          case rel =>
            refine ⟨k + 1, a5, c5, _, rfl, rfl, by omega, by have := unhide HSH; omega, hide ?_, HB5⟩
            rw [unhide HNX]
            exact unhide HO5
          case measure => simp [intOf] <;> omega
        · subst hs0
          have hdv : (v : Int) / 16 = (b : Int) := by omega
          have HSH := hide hsh
          clear hb hq hsh hbv
          go_wp2_with (at_builtin; refine appR (e := byE) rfl _ _ rfl (unhide HO) rfl _ rfl _ rfl rfl (by rw [unhide HLE]; omega) hBz ?_; intro v5 w5 hO5 hb5 _; obtain ⟨a5, c5, hv5⟩ := hO5.form; rw [List.length_append, unhide HLE, List.length_singleton] at hv5; subst hv5; have HO5 := hide hO5; have HB5 := hide ((unhide HB).trans hb5); clear hO5 hb5)
          go_roundw
          case rel =>
            refine ⟨k + 1, a5, c5, _, rfl, rfl, by omega, by have := unhide HSH; omega, hide ?_, HB5⟩
            rw [unhide HNX]
            exact unhide HO5
          case measure => simp [intOf] <;> omega
      · obtain rfl : k = n := by omega
        obtain rfl : sh = -4 := by omega
        obtain ⟨g, e1, -, -⟩ := (unhide HO).at 0 (by rw [pfL_len]; omega)
        subst e1
        have hcv := conv_by wr _ g k tc _ (unhide HO) (pfL_len _ _ _)
        go_wp2_with fail
        go_ret
        exact ⟨rfl, (unhide HB0).trans ((unhide HB).mono (Nat.le_of_lt hl0))⟩
end Go.Proofs.YtldgkpnlplfopaaGreatDoor


/- The program's tree grows. -/
namespace Go.Proofs.YtldgkpnlplfopaaGreatDoor
open Go.RowKit Go.Maps Plain
set_option linter.unusedVariables false

theorem gbB {w w' : World} (h : Below w.heap.size w w') (row : Option Nat) : w.grownBy w' row := ⟨h.os, h.tape, h.output, h.size, fun k hk _ => h.block k hk⟩
theorem gbT {w w1 w2 : World} {row : Option Nat} (h1 : w.grownBy w1 row) (h2 : w1.grownBy w2 row) : w.grownBy w2 row := ⟨h2.os.trans h1.os, h2.tape.trans h1.tape, h2.output.trans h1.output, Nat.le_trans h1.size h2.size, fun k hk hne => (h2.block k (Nat.lt_of_lt_of_le hk h1.size) hne).trans (h1.block k hk hne)⟩
theorem gbN {w w1 w2 : World} {b g : Nat} (h1 : w.grownBy w1 (some b)) (h2 : w1.grownBy w2 (some g)) (hg : w.heap.size ≤ g) : w.grownBy w2 (some b) := ⟨h2.os.trans h1.os, h2.tape.trans h1.tape, h2.output.trans h1.output, Nat.le_trans h1.size h2.size, fun k hk hne => (h2.block k (Nat.lt_of_lt_of_le hk h1.size) (by intro q; cases q; omega)).trans (h1.block k hk hne)⟩
theorem Plain.KAt.gb {w w' : World} {b : Nat} (h : KAt w) (hg : w.grownBy w' (some b)) (hb : 1 < b) : KAt w' := fun j hj => hg.cell (h j hj) (by intro q; simp at q; omega)
theorem RowAt.gb {α : Type} {e : Elem α} {W W' : World} {a : Option Addr} {xs : List α} {b : Nat} (h : RowAt e W a xs) (hg : W.grownBy W' (some b)) (hne : ∀ g, a = some ⟨g, 0, none⟩ → g ≠ b) : RowAt e W' a xs := fun i hi => by
  obtain ⟨g, e1, hl, h1⟩ := h i hi
  have hb : W'.heap[g]? = W.heap[g]? := hg.block g hl (by intro q; simp at q; exact hne g e1 q)
  exact ⟨g, e1, Nat.lt_of_lt_of_le hl hg.size, fun j hj => ⟨(World.cell?_of_block (a := ⟨g, i * e.n + j, none⟩) hb).trans (h1 j hj).1, (World.frozen?_of_block (a := ⟨g, i * e.n + j, none⟩) hb).trans (h1 j hj).2⟩⟩
theorem OwnR.gb {α : Type} {e : Elem α} {W W' : World} {B b : Nat} {v : Value} {xs : List α} (h : OwnR e W B v xs) (hg : W.grownBy W' (some b)) (hb : b < B) : OwnR e W' B v xs := by
  refine World.ownsRow.kept h hg ?_
  cases hv : v.ownBlock with
  | none => exact .inl rfl
  | some g => exact .inr (by have := (World.ownsRow.lt h g hv).1; simp; omega)
theorem OwnR.offb {α : Type} {e : Elem α} {W : World} {B b n c : Nat} {a : Option Addr} {xs : List α} (h : OwnR e W B (.slice a n c) xs) (hb : b < B) : ∀ g, a = some ⟨g, 0, none⟩ → g ≠ b := by
  intro g hg
  have := (World.ownsRow.lt h g (by rw [hg]; rfl)).1
  omega

open Classical in
/-- What a tree has behind 'grow'. -/
noncomputable def Plain.grF (ks : List (List UInt8)) (n v : Nat) (f : Nat → Nat → Option (List UInt8)) : Nat → Nat → Option (List UInt8) := fun n' v' => if inn n v n' v' then some (tN ks n' v') else f n' v'
open Classical in
/-- .. behind the first i of the sixteen. -/
noncomputable def Plain.grP (ks : List (List UInt8)) (n v i : Nat) (f : Nat → Nat → Option (List UInt8)) : Nat → Nat → Option (List UInt8) := fun n' v' => if ptB n v i n' v' then some (tN ks n' v') else f n' v'
theorem grP_zero (ks : List (List UInt8)) (n v : Nat) (f : Nat → Nat → Option (List UInt8)) : grP ks n v 0 f = f := by
  funext n' v'
  unfold grP
  rw [if_neg (ptB_zero n v n' v')]
open Classical in
theorem grP_next {ks : List (List UInt8)} {n v i : Nat} {f : Nat → Nat → Option (List UInt8)} (hi : i < 16) {n' v' : Nat} (hn' : n' ≤ 2) : grP ks n v (i + 1) f n' v' = grF (ks.filter (hoB n v)) (n + 1) (v * 16 + i) (grP ks n v i f) n' v' := by
  show (if ptB n v (i + 1) n' v' then some (tN ks n' v') else f n' v') = (if inn (n + 1) (v * 16 + i) n' v' then some (tN (ks.filter (hoB n v)) n' v') else (if ptB n v i n' v' then some (tN ks n' v') else f n' v'))
  by_cases h : inn (n + 1) (v * 16 + i) n' v'
  · rw [if_pos ((ptB_next n v i n' v').2 (.inr h)), if_pos h, tN_filt (inn_trans (inn_next n v i hi) h) hn']
  · rw [if_neg h]
    by_cases h2 : ptB n v i n' v'
    · rw [if_pos ((ptB_next n v i n' v').2 (.inl h2)), if_pos h2]
    · rw [if_neg (fun q => ((ptB_next n v i n' v').1 q).elim h2 h), if_neg h2]
theorem grF_end {ks : List (List UInt8)} {n v : Nat} {f : Nat → Nat → Option (List UInt8)} (n' v' : Nat) : grF ks n v f n' v' = if n' = n ∧ v' = v then some (tN ks n v) else grP ks n v 16 f n' v' := by
  unfold grF grP
  by_cases h : n' = n ∧ v' = v
  · rw [if_pos h, if_pos ((ptB_inn n v n' v').2 (.inl h)), h.1, h.2]
  · rw [if_neg h]
    by_cases h2 : ptB n v 16 n' v'
    · rw [if_pos h2, if_pos ((ptB_inn n v n' v').2 (.inr h2))]
    · rw [if_neg h2, if_neg (fun q => ((ptB_inn n v n' v').1 q).elim h h2)]
theorem grF_leaf {ks : List (List UInt8)} {v : Nat} {f : Nat → Nat → Option (List UInt8)} {n' v' : Nat} (hn' : n' ≤ 2) : grF ks 2 v f n' v' = if n' = 2 ∧ v' = v then some (tN ks 2 v) else f n' v' := by
  unfold grF
  by_cases h : n' = 2 ∧ v' = v
  · rw [if_pos h, if_pos ((ptB_inn 2 v n' v').2 (.inl h)), h.1, h.2]
  · rw [if_neg h, if_neg]
    intro q
    rcases (ptB_inn 2 v n' v').1 q with e | e
    · exact h e
    · have := e.1; omega

set_option maxRecDepth 100000 in
set_option maxHeartbeats 4000000 in
theorem growL_calls (n v : Nat) (hn : n = 2) (hv : v < 256) (a : Option Addr) (m c : Nat) (ks : List (List UInt8)) (w : World) (b nn : Nat) (f : Nat → Nat → Option (List UInt8)) (hr : RowAt keyE w a ks) (hm : ks.length = m) (hm2 : m ≤ 200) (h32 : ∀ x ∈ ks, x.length = 32) (hT : TrAt w b nn f) (hnn : nn ≤ 1000) (hK : KAt w) :
    Calls Tryz.prog 41 #[.map (some b), .slice a m c, brV n v] w fun e w' => e = .returned (.tuple #[]) ∧ TrAt w' b (nn + 1) (grF ks n v f) ∧ w.grownBy w' (some b) := by
  have hbl := hT.lt
  have h0 : 1 < w.heap.size := lt_of_cell (hK 0 (by omega))
  obtain ⟨W0, hW0⟩ : ∃ W0, w.alloc (.cells #[.int .i64 (n : Int), .int .u8 (v : Int)] 56) = W0 := ⟨_, rfl⟩
  have hrow0 : W0.heap[w.heap.size]? = some (.cells #[.int .i64 (n : Int), .int .u8 (v : Int)] 56 (0, 0)) := by rw [← hW0]; exact heap_alloc_new _ _
  have hb0 : Below w.heap.size w W0 := by rw [← hW0]; exact (Below.refl _ _).alloc (Nat.le_refl _) _
  have hl0 : w.heap.size < W0.heap.size := by rw [← hW0]; simp
  have HC0 := hide (fun (W : World) (hW : Below W0.heap.size W0 W) => (show W.cell? ⟨w.heap.size, 0, none⟩ = some (.int .i64 (n : Int)) from by rw [cell_of_row _ _ 0 _ _ _ ((hW.block _ hl0).trans hrow0)]; rfl))
  have HC1 := hide (fun (W : World) (hW : Below W0.heap.size W0 W) => (show W.cell? ⟨w.heap.size, 1, none⟩ = some (.int .u8 (v : Int)) from by rw [cell_of_row _ _ 1 _ _ _ ((hW.block _ hl0).trans hrow0)]; rfl))
  have HUN := hide (under_calls n v (by omega) hv a m c ks W0 (hr.below hb0) hm (by omega) h32)
  have HLF := hide (fun W => isLeaf_calls n v (by omega) W)
  rw [show decide ((n : Int) = 2) = true from by simp; omega] at HLF
  have hfl : (ks.filter (hoB n v)).length ≤ 200 := Nat.le_trans (List.length_filter_le _ _) (by omega)
  have HNO := hide (fun (W : World) (hW : Below w.heap.size w W) (a1 : Option Addr) (m1 c1 : Nat) (r : RowAt keyE W a1 (ks.filter (hoB n v))) (hl : (ks.filter (hoB n v)).length = m1) => nodeOver_calls a1 m1 c1 (ks.filter (hoB n v)) W r hl (by omega) (fun x hx => h32 x (List.mem_filter.1 hx).1) (hK.below hW h0))
  have HX := hide (show kyL (digestB (catB ((ks.filter (hoB n v)).map dgT))) = tN ks n v from by rw [hn]; rfl)
  rw [unhide HX] at HNO
  have HPU := hide (fun (W : World) (hW : Below w.heap.size w W) => (hT.below hW hbl).put (by unfold maxLen; omega) (show n ≤ 2 by omega) hv (tN_len ks n v))
  have HEND := hide (fun (W' : World) (q : TrAt W' b (nn + 1) (fun n' v' => if n' = n ∧ v' = v then some (tN ks n v) else f n' v')) => (show TrAt W' b (nn + 1) (grF ks n v f) from q.sub (fun n' v' x hn' _ e => by
    subst hn
    rw [grF_leaf hn'] at e
    exact e)))
  have HW := hide hW0
  have HB0 := hide hb0
  have HBR := hide (show brV n v = .agg #[.int .i64 (n : Int), .int .u8 (v : Int)] from rfl)
  generalize ks.filter (hoB n v) = fs at HUN hfl HNO
  obtain ⟨M, hM⟩ : ∃ M, fs.length = M := ⟨_, rfl⟩
  have HM := hide hM
  rw [unhide HBR] at HUN HLF ⊢
  unfold brV at HPU
  generalize tN ks n v = X at HNO HPU HEND
  clear hr hm h32 hrow0 hb0 hW0 hK hn HX hT hM
  go_enter Tryz.func41, Tryz.ntmps41
  go_wp2_with fail
  rw [unhide HW]
  refine (unhide HUN).mono ?_
  rintro e w1 ⟨u, rfl, o1, hb1⟩
  obtain ⟨a1, c1, hv1⟩ := o1.form
  rw [unhide HM] at hv1
  subst hv1
  have HR1 := hide o1.at
  have HB1 := hide hb1
  have p0 := unhide HC0 w1 hb1
  have p1 := unhide HC1 w1 hb1
  clear o1 hb1 HUN HW
  go_wp2_with fail
  refine (unhide HLF _).mono ?_
  rintro e w2 ⟨rfl, hb2⟩
  have HR2 := hide ((unhide HR1).below hb2)
  have HB2 := hide ((unhide HB1).trans (hb2.mono (unhide HB1).size))
  have HBw := hide ((unhide HB0).trans ((unhide HB2).mono (Nat.le_of_lt hl0)))
  have hne : some w.heap.size ≠ some b := by intro q; simp at q; omega
  have D0 : ∀ W : World, w2.grownBy W (some b) → W.cell? ⟨w.heap.size, 0, none⟩ = some (.int .i64 (n : Int)) := fun W hW => hW.cell (unhide HC0 w2 (unhide HB2)) hne
  have D1 : ∀ W : World, w2.grownBy W (some b) → W.cell? ⟨w.heap.size, 1, none⟩ = some (.int .u8 (v : Int)) := fun W hW => hW.cell (unhide HC1 w2 (unhide HB2)) hne
  have hbd : Below w2.heap.size w2 w2.drew := bdrewT (Below.refl _ _)
  have hgd : w2.grownBy w2.drew (some b) := gbB hbd _
  have HN2 := hide (fun (W : World) (hW : Below w2.heap.size w2 W) => unhide HNO W ((unhide HBw).trans (hW.mono (unhide HBw).size)) a1 M c1 ((unhide HR2).below hW) (unhide HM))
  have HP2 := hide (fun (W : World) (hW : Below w2.heap.size w2 W) => unhide HPU W ((unhide HBw).trans (hW.mono (unhide HBw).size)))
  clear hb2 p0 p1 HC0 HC1 HLF HNO HPU HR1 HB1 HR2
  go_wp2_with fail
  go_region_held3 (fun W' => w2.grownBy W' (some b)) (first | with_reducible exact hgd | assumption | with_reducible exact gbB (Below.refl _ _) _) (first
    | (go_at_call 59; refine (unhide HN2 _ hbd).mono ?_; rintro e w5 ⟨rfl, hb5⟩; have hx5 := hbd.trans (hb5.mono hbd.size); obtain ⟨W6, hrun6, htr6, hg6⟩ := unhide HP2 w5 hx5; have hgx5 : w2.grownBy w5 (some b) := gbB hx5 _; have hgx6 : w2.grownBy W6 (some b) := gbT hgx5 hg6))
  all_goals
    (try go_wp2_with fail)
    refine bodyPost_ret (results_none rfl _ _ _) rfl ?_
    exact ⟨rfl, unhide HEND _ htr6, gbT (gbB ((unhide HBw).trans (hx5.mono (unhide HBw).size)) _) hg6⟩
end Go.Proofs.YtldgkpnlplfopaaGreatDoor


/- The program's tree grows, from any branch. -/
namespace Go.Proofs.YtldgkpnlplfopaaGreatDoor
open Go.RowKit Go.Maps Plain
set_option linter.unusedVariables false

namespace Plain
/-- The nodes of the first i behind a branch. -/
def ndL (ks : List (List UInt8)) (n v i : Nat) : List (List UInt8) := (List.range i).map fun c => tN ks (n + 1) (v * 16 + c)
theorem ndL_len (ks : List (List UInt8)) (n v i : Nat) : (ndL ks n v i).length = i := by simp [ndL]
theorem ndL_next (ks : List (List UInt8)) (n v i : Nat) : ndL ks n v (i + 1) = ndL ks n v i ++ [tN ks (n + 1) (v * 16 + i)] := by simp [ndL, List.range_succ]
theorem ndL_32 (ks : List (List UInt8)) (n v i : Nat) : ∀ x ∈ ndL ks n v i, x.length = 32 := by
  intro x hx
  obtain ⟨c, _, rfl⟩ := List.mem_map.1 hx
  exact tN_len _ _ _
theorem ndL_node {ks : List (List UInt8)} {n v : Nat} (hn : n < 2) : kyL (digestB (catB ((ndL ks n v 16).map dgT))) = tN ks n v := by
  rw [tN_not ks n v hn]
  unfold ndL
  rw [List.map_map]
  rfl
end Plain
theorem allB2 (x y : Int) (k l : IntKind) : (#[.int k x, .int l y] : Array Value).all (·.oneCell') = true := by
  simp [Value.oneCell']
theorem infB2 (x y : Value) : (Tryz.prog.info? 56).map (·.size) = some (#[x, y] : Array Value).size := infoB

set_option maxRecDepth 100000 in
set_option maxHeartbeats 8000000 in
theorem grow_calls : ∀ (k n v : Nat) (hnk : n + k = 2) (hv : v < 16 ^ n) (a : Option Addr) (m c : Nat) (ks : List (List UInt8)) (w : World) (b nn : Nat) (f : Nat → Nat → Option (List UInt8)) (hr : RowAt keyE w a ks) (hm : ks.length = m) (hm2 : m ≤ 200) (h32 : ∀ x ∈ ks, x.length = 32) (hT : TrAt w b nn f) (hnn : nn + cnt k ≤ 1000) (hK : KAt w) (hKb : 1 < b),
    Calls Tryz.prog 41 #[.map (some b), .slice a m c, brV n v] w fun e w' => e = .returned (.tuple #[]) ∧ TrAt w' b (nn + cnt k) (grF ks n v f) ∧ w.grownBy w' (some b) := by
  intro k
  induction k with
  | zero =>
    intro n v hnk hv a m c ks w b nn f hr hm hm2 h32 hT hnn hK hKb
    obtain rfl : n = 2 := by omega
    exact growL_calls 2 v rfl (by omega) a m c ks w b nn f hr hm hm2 h32 hT (by omega) hK
  | succ k ih =>
    intro n v hnk hv a m c ks w b nn f hr hm hm2 h32 hT hnn hK hKb
    have hn2 : n < 2 := by omega
    have hv16 : v < 16 := by
      have : 16 ^ n ≤ 16 ^ 1 := Nat.pow_le_pow_right (by omega) (by omega)
      omega
    have hcn : cnt (k + 1) = 16 * cnt k + 1 := rfl
    rw [hcn] at hnn
    have hbl := hT.lt
    have h0 : 1 < w.heap.size := lt_of_cell (hK 0 (by omega))
    obtain ⟨W0, hW0⟩ : ∃ W0, w.alloc (.cells #[.int .i64 (n : Int), .int .u8 (v : Int)] 56) = W0 := ⟨_, rfl⟩
    have hrow0 : W0.heap[w.heap.size]? = some (.cells #[.int .i64 (n : Int), .int .u8 (v : Int)] 56 (0, 0)) := by rw [← hW0]; exact heap_alloc_new _ _
    have hb0 : Below w.heap.size w W0 := by rw [← hW0]; exact (Below.refl _ _).alloc (Nat.le_refl _) _
    have hl0 : w.heap.size < W0.heap.size := by rw [← hW0]; simp
    have hne : some w.heap.size ≠ some b := by intro q; simp at q; omega
    have HC0 := hide (fun (W : World) (hW : W0.grownBy W (some b)) => (show W.cell? ⟨w.heap.size, 0, none⟩ = some (.int .i64 (n : Int)) from by rw [cell_of_row _ _ 0 _ _ _ ((hW.block _ hl0 hne).trans hrow0)]; rfl))
    have HC1 := hide (fun (W : World) (hW : W0.grownBy W (some b)) => (show W.cell? ⟨w.heap.size, 1, none⟩ = some (.int .u8 (v : Int)) from by rw [cell_of_row _ _ 1 _ _ _ ((hW.block _ hl0 hne).trans hrow0)]; rfl))
    have HUN := hide (under_calls n v (by omega) (by omega) a m c ks W0 (hr.below hb0) hm (by omega) h32)
    have HLF := hide (fun W => isLeaf_calls n v (by omega) W)
    rw [show decide ((n : Int) = 2) = false from by simp; omega] at HLF
    have HSX := hide (fun W => sixteen_calls n v hn2 hv16 W)
    have hfl : (ks.filter (hoB n v)).length ≤ 200 := Nat.le_trans (List.length_filter_le _ _) (by omega)
    have HKA := hide (fun (W : World) (hW : w.grownBy W (some b)) => hK.gb hW hKb)
    have HIH := hide (fun (i : Nat) (hi : i < 16) (a1 : Option Addr) (m1 c1 nq : Nat) (W : World) (hW : w.grownBy W (some b)) (g : Nat → Nat → Option (List UInt8)) (r : RowAt keyE W a1 (ks.filter (hoB n v))) (hl : (ks.filter (hoB n v)).length = m1) (t : TrAt W b nq g) (hq : nq + cnt k ≤ 1000) =>
      ih (n + 1) (v * 16 + i) (by omega) (by rw [Nat.pow_succ]; omega) a1 m1 c1 (ks.filter (hoB n v)) W b nq g r hl (by omega) (fun x hx => h32 x (List.mem_filter.1 hx).1) t hq (unhide HKA W hW) hKb)
    have HNO := hide (fun (W : World) (hW : w.grownBy W (some b)) (a1 : Option Addr) (c1 : Nat) (r : RowAt keyE W a1 (ndL ks n v 16)) => nodeOver_calls a1 16 c1 (ndL ks n v 16) W r (ndL_len _ _ _ _) (by omega) (ndL_32 _ _ _ _) (unhide HKA W hW))
    rw [ndL_node hn2] at HNO
    have HPU := hide (fun (W : World) (q : TrAt W b (nn + 16 * cnt k) (grP ks n v 16 f)) => q.put (by unfold maxLen; omega) (show n ≤ 2 by omega) (show v < 256 by omega) (tN_len ks n v))
    have HEND := hide (fun (W' : World) (q : TrAt W' b (nn + 16 * cnt k + 1) (fun n' v' => if n' = n ∧ v' = v then some (tN ks n v) else grP ks n v 16 f n' v')) => (show TrAt W' b (nn + cnt (k + 1)) (grF ks n v f) from by
      rw [hcn, ← Nat.add_assoc]
      exact q.sub (fun n' v' x _ _ e => by rw [grF_end] at e; exact e)))
    have HNEX := hide (fun (i : Nat) (hi : i < 16) (W' : World) (nq : Nat) (q : TrAt W' b nq (grF (ks.filter (hoB n v)) (n + 1) (v * 16 + i) (grP ks n v i f))) => (show TrAt W' b nq (grP ks n v (i + 1) f) from q.sub (fun n' v' x hn' _ e => by rw [grP_next hi hn'] at e; exact e)))
    have HLOO := hide (fun (i : Nat) (hi : i < 16) (W' : World) (nq : Nat) (q : TrAt W' b nq (grF (ks.filter (hoB n v)) (n + 1) (v * 16 + i) (grP ks n v i f))) => (show (Instr.lookup 51 (.map (some b)) (brV (n + 1) (v * 16 + i)) false).run Tryz.prog W' = .ok (.agg (encK (tN ks (n + 1) (v * 16 + i))).toArray) W' from
      q.look (by omega) (by omega) (by
        have hin : inn (n + 1) (v * 16 + i) (n + 1) (v * 16 + i) := ⟨Nat.le_refl _, by simp⟩
        unfold grF
        rw [if_pos hin, tN_filt (inn_next n v i hi) (by omega)])))
    have HT0 := hide (fun (W : World) (hW : Below w.heap.size w W) => (show TrAt W b (nn + 0 * cnt k) (grP ks n v 0 f) from by rw [grP_zero, Nat.zero_mul]; exact hT.below hW hbl))
    have HW := hide hW0
    have HB0 := hide hb0
    have HBR := hide (show brV n v = .agg #[.int .i64 (n : Int), .int .u8 (v : Int)] from rfl)
    generalize ks.filter (hoB n v) = fs at HUN hfl HIH HNEX HLOO
    obtain ⟨M, hM⟩ : ∃ M, fs.length = M := ⟨_, rfl⟩
    have HM := hide hM
    obtain ⟨ct, hct⟩ : ∃ ct, cnt k = ct := ⟨_, rfl⟩
    rw [hct] at hnn HIH HPU HEND HT0
    rw [unhide HBR] at HUN HLF HSX ⊢
    unfold brV at HPU HLOO HIH
    clear hr hm h32 hrow0 hb0 hW0 hK hT hM ih hcn hct
    go_enter Tryz.func41, Tryz.ntmps41
    go_wp2_with fail
    rw [unhide HW]
    refine (unhide HUN).mono ?_
    rintro e w1 ⟨u, rfl, o1, hb1⟩
    obtain ⟨a1, c1, hv1⟩ := o1.form
    rw [unhide HM] at hv1
    subst hv1
    have HR1 := hide o1.at
    have HOF := hide (o1.offb (b := b) (by omega))
    have HB1 := hide hb1
    have p0 := unhide HC0 w1 (gbB hb1 _)
    have p1 := unhide HC1 w1 (gbB hb1 _)
    clear o1 hb1 HUN HW
    go_wp2_with fail
    refine (unhide HLF _).mono ?_
    rintro e w2 ⟨rfl, hb2⟩
    have HR2 := hide ((unhide HR1).below hb2)
    have HB2 := hide ((unhide HB1).trans (hb2.mono (unhide HB1).size))
    clear hb2 p0 p1 HLF HR1 HB1
    have p0 := unhide HC0 w2 (gbB (unhide HB2) _)
    have p1 := unhide HC1 w2 (gbB (unhide HB2) _)
    go_wp2_with fail
    refine (unhide HSX _).mono ?_
    rintro e w3 ⟨u, rfl, o3, hb3⟩
    obtain ⟨a3, c3, hv3⟩ := o3.form
    rw [sxL_len] at hv3
    subst hv3
    have HR3 := hide ((unhide HR2).below hb3)
    have HB3 := hide ((unhide HB2).trans (hb3.mono (unhide HB2).size))
    have HX3 := hide o3.at
    have HOX := hide (o3.offb (b := b) (by have := (unhide HB2).size; omega))
    have HBw := hide ((unhide HB0).trans ((unhide HB3).mono (Nat.le_of_lt hl0)))
    have HT3 := hide (unhide HT0 w3 (unhide HBw))
    have hb3l : b < w3.heap.size := Nat.lt_of_lt_of_le hbl (unhide HBw).size
    clear hb3 o3 p0 p1 HSX HR2 HB2 HT0
    go_wp2_with fail
    go_loopw [6, 8, 21] (fun s6 _ s21 wr => ∃ (i : Nat) (ta : Option Addr) (tc nq : Nat), s21 = .int .i64 i ∧ s6 = .slice ta i tc ∧ i ≤ 16 ∧ Hid (nq = nn + i * ct) ∧ Hid (OwnR keyE wr w3.heap.size (.slice ta i tc) (ndL ks n v i)) ∧ Hid (TrAt wr b nq (grP ks n v i f)) ∧ Hid (w3.grownBy wr (some b))) (fun _ _ s21 _ => 16 - (intOf s21).toNat)
    case atStart => exact ⟨0, none, 0, _, rfl, rfl, by omega, hide rfl, hide (ownR_nil _ _ _), HT3, hide (gbB (Below.refl _ _) _)⟩
    case round =>
      clear HT3
      obtain ⟨i, ta, tc, nq, rfl, rfl, hi, HQ, HO, HT, HG⟩ := hrel
      by_cases hlt : i < 16
      · have hil : i < (sxL n v 16).length := by rw [sxL_len]; exact hlt
        obtain ⟨g, e1, hgl, q0, q1⟩ := ((unhide HX3).gb (unhide HG) (unhide HOX)).br i hil
        rw [sxL_get] at q0 q1
        simp only at q0 q1
        subst e1
        have hqb : nq + ct ≤ 1000 := by
          have h1 := unhide HQ
          have h2 : (i + 1) * ct ≤ 16 * ct := Nat.mul_le_mul_right _ (by omega)
          rw [Nat.add_mul] at h2
          omega
        have HNX := hide (ndL_next ks n v i)
        have HLE := hide (ndL_len ks n v i)
        have HGw := hide (gbT (gbB (unhide HBw) (some b)) (unhide HG))
        have HI1 := hide (unhide HIH i hlt)
        have HL1 := hide (unhide HLOO i hlt)
        have HN1 := hide (unhide HNEX i hlt)
        obtain ⟨n1, hn1⟩ : ∃ n1 : Nat, n + 1 = n1 := ⟨_, rfl⟩
        obtain ⟨z, hz⟩ : ∃ z : Nat, v * 16 + i = z := ⟨_, rfl⟩
        have hx32 := tN_len ks (n + 1) (v * 16 + i)
        rw [hn1] at q0 HNX HI1 HL1 HN1 hx32
        rw [hz] at q1 HNX HI1 HL1 HN1 hx32
        generalize tN ks n1 z = x at HNX HL1 hx32
        have H32X := hide (s32X x).symm
        have i0 : (0 : Int) ≤ (i : Int) := by omega
        have i1 : (i : Int) < 16 := by omega
        have hwz := (unhide HG).size
        have hinf := infB2 (.int .i64 (n1 : Int)) (.int .u8 (z : Int))
        have hall := allB2 (n1 : Int) (z : Int) .i64 .u8
        have hold : (#[.int .i64 0, .int .u8 0] : Array Value).size = (#[.int .i64 (n1 : Int), .int .u8 (z : Int)] : Array Value).size := rfl
        obtain ⟨W4, hW4⟩ : ∃ W4, wr.alloc (.cells #[.int .i64 0, .int .u8 0] 56) = W4 := ⟨_, rfl⟩
        have hnew4 : W4.heap[wr.heap.size]? = some (.cells #[.int .i64 0, .int .u8 0] 56 (0, 0)) := by rw [← hW4]; exact heap_alloc_new _ _
        have hs4 : wr.heap.size < W4.heap.size := by rw [← hW4]; simp
        have hb4 : Below wr.heap.size wr W4 := by rw [← hW4]; exact (Below.refl _ _).alloc (Nat.le_refl _) _
        have HB4 := hide hb4
        clear hb4
        go_wp2_with (first
          | (refine wpList_store_any rfl 56 (.tmp 8) (.tmp 24) rfl wr.heap.size #[.int .i64 (n1 : Int), .int .u8 (z : Int)] rfl rfl 56 #[.int .i64 0, .int .u8 0] (by first | exact hnew4 | (rw [hW4]; exact hnew4)) hinf hold hall ?_; intro w5 hrow5 hgr5 hsz5; (try rw [hW4] at hgr5 hsz5))
          | (refine wpList_load_row rfl 56 (.tmp 8) rfl wr.heap.size rfl 56 #[.int .i64 (n1 : Int), .int .u8 (z : Int)] (0, 0) _ hrow5 Tryz.underlying56 rfl hinf ?_))
        have HB5 := hide ((unhide HB4).grown hgr5 (Nat.le_of_lt hs4) (fun k e => by cases e; exact Nat.le_refl _))
        have hs5 : wr.heap.size < w5.heap.size := by omega
        have HG5 := hide (gbT (unhide HG) (gbB (unhide HB5) (some b)))
        have HT5 := hide ((unhide HT).below (unhide HB5) (unhide HT).lt)
        have HO5 := hide ((unhide HO).keep (unhide HB5))
        have HR5 := hide ((unhide HR3).gb (unhide HG5) (unhide HOF))
        have HGw5 := hide (gbT (gbB (unhide HBw) (some b)) (unhide HG5))
        have HI5 := hide (unhide HI1 a1 M c1 nq w5 (unhide HGw5) _ (unhide HR5) (unhide HM) (unhide HT5) hqb)
        clear HT HO HGw q0 q1 hgr5 hsz5 HI1 HR5 HT5
        refine (unhide HI5).mono ?_
        rintro e w6 ⟨rfl, ht6, hg6⟩
        have hrow6 : w6.heap[wr.heap.size]? = some (.cells #[.int .i64 (n1 : Int), .int .u8 (z : Int)] 56 (0, 0)) := (hg6.block _ hs5 (by intro q; simp at q; omega)).trans hrow5
        have hrun6 := unhide HL1 w6 _ ht6
        have HT6 := hide (unhide HN1 w6 _ ht6)
        have HG6 := hide (gbT (unhide HG5) hg6)
        have HO6 := hide ((unhide HO5).gb hg6 hb3l)
        have hz6 : w3.heap.size ≤ w6.heap.size := (unhide HG6).size
        clear ht6 hg6 HI5 HL1 HN1 HO5 HG5 hrow5
        go_wp2_with (first
          | (refine wpList_load_row rfl 56 (.tmp 8) rfl wr.heap.size rfl 56 #[.int .i64 (n1 : Int), .int .u8 (z : Int)] (0, 0) _ hrow6 Tryz.underlying56 rfl hinf ?_)
          | (refine listBuild rfl (.tmp 32) rfl (encK x).toArray rfl (unhide H32X) ?_)
          | (at_builtin; refine appR (e := keyE) rfl (.tmp 29) (.tmp 33) rfl (unhide HO6) rfl x rfl _ rfl rfl (by rw [unhide HLE]; omega) hz6 ?_; intro v7 w7 hO7 hb7 hg7; obtain ⟨a7, c7, hv7⟩ := hO7.form; rw [List.length_append, unhide HLE, List.length_singleton] at hv7; subst hv7))
        have HO7 := hide hO7
        have hb7' : Below w3.heap.size w6 w7 := hb7
        have HT7 := hide ((unhide HT6).below hb7' hb3l)
        have HG7 := hide (show w3.grownBy w7 (some b) from ⟨hb7'.os.trans (unhide HG6).os, hb7'.tape.trans (unhide HG6).tape, hb7'.output.trans (unhide HG6).output, Nat.le_trans (unhide HG6).size hb7'.size, fun k hk hne => (hb7'.block k hk).trans ((unhide HG6).block k hk hne)⟩)
        clear hO7 hb7 hb7' hg7 HT6 HG6 HO6
        go_roundw
        case rel => exact ⟨i + 1, a7, c7, nq + ct, by go_num, rfl, by omega, hide (by rw [unhide HQ, Nat.add_mul]; omega), hide (by rw [unhide HNX]; exact unhide HO7), HT7, HG7⟩
        case measure => simp [intOf]; omega
      · obtain rfl : i = 16 := by omega
        obtain rfl : nq = nn + 16 * ct := unhide HQ
        have HGw := hide (gbT (gbB (unhide HBw) (some b)) (unhide HG))
        have HG0 := hide (gbT (gbB (unhide HB3) (some b)) (unhide HG))
        have D0 : ∀ W : World, wr.grownBy W (some b) → W.cell? ⟨w.heap.size, 0, none⟩ = some (.int .i64 (n : Int)) := fun W hW => unhide HC0 W (gbT (unhide HG0) hW)
        have D1 : ∀ W : World, wr.grownBy W (some b) → W.cell? ⟨w.heap.size, 1, none⟩ = some (.int .u8 (v : Int)) := fun W hW => unhide HC1 W (gbT (unhide HG0) hW)
        have hbd : Below wr.heap.size wr wr.drew := bdrewT (Below.refl _ _)
        have hgd : wr.grownBy wr.drew (some b) := gbB hbd _
        have HN2 := hide (unhide HNO wr.drew (gbT (unhide HGw) hgd) ta tc ((unhide HO).at.below hbd))
        have HP2 := hide (fun (W : World) (hW : Below wr.heap.size wr W) => unhide HPU W ((unhide HT).below hW (unhide HT).lt))
        clear HC0 HC1 HNO HPU HO HIH HNEX HLOO HOF HX3 HR3 HG0
        go_wp2_with fail
        go_region_held3 (fun W' => wr.grownBy W' (some b)) (first | with_reducible exact hgd | assumption | with_reducible exact gbB (Below.refl _ _) _) (first
          | (go_at_call 59; refine (unhide HN2).mono ?_; rintro e w5 ⟨rfl, hb5⟩; have hx5 := hbd.trans (hb5.mono hbd.size); obtain ⟨W6, hrun6, htr6, hg6⟩ := unhide HP2 w5 hx5; have hgx5 : wr.grownBy w5 (some b) := gbB hx5 _; have hgx6 : wr.grownBy W6 (some b) := gbT hgx5 hg6))
        all_goals
          (try go_wp2_with fail)
          go_end0
          exact ⟨rfl, unhide HEND _ htr6, gbT (unhide HGw) hgx6⟩
end Go.Proofs.YtldgkpnlplfopaaGreatDoor

