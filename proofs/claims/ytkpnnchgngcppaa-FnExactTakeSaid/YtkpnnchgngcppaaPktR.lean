/- Rows of packets, as the exact laws copy, measure and compare them. -/
import Derived.Test.YtkpnnchgngcppaaFilR
namespace Go.Proofs.Ytkpnnchgngcppaa
open Go.RowKit Plain
set_option linter.unusedVariables false

namespace Plain
/-- A packet of a net. -/
structure Pkt where
  id : Int
  src : Int
  dst : Int
  body : ByteArray
def pktL (e : Pkt) : List Value := [.int .i64 e.id, .int .i64 e.src, .int .i64 e.dst, .string e.body]
def goodP (e : Pkt) : Prop := (Lit.int .i64 e.id).wf = true ∧ (Lit.int .i64 e.src).wf = true ∧ (Lit.int .i64 e.dst).wf = true ∧ e.body.size ≤ maxLen
end Plain
set_option maxRecDepth 100000 in
theorem rdPkt {H : Type} {enc : TypeId × Value → H} {W : World} {spare : Nat → Bool} {held : Bool} : ∀ m us y, DataW.trod enc Try.prog W 0 spare held m 75 us = some y → ∃ z, us = pktL z ∧ goodP z := by
  intro m us y h
  obtain ⟨y0, y1, y2, y3, k, _, hl, h0, h1, h2, h3⟩ := Go.Joins.trod_struct4 Try.underlying75 h
  have hl2 : us.length = 4 := hl.trans (by kernel_rfl)
  match us, hl2 with
  | [u0, u1, u2, u3], _ =>
    obtain ⟨s0, e0, _, w0⟩ := DataW.trod_int Try.underlying2 (show DataW.trod enc Try.prog W 0 spare held k 2 [u0] = some y0 from h0)
    obtain ⟨s1, e1, _, w1⟩ := DataW.trod_int Try.underlying2 (show DataW.trod enc Try.prog W 0 spare held k 2 [u1] = some y1 from h1)
    obtain ⟨s2, e2, _, w2⟩ := DataW.trod_int Try.underlying2 (show DataW.trod enc Try.prog W 0 spare held k 2 [u2] = some y2 from h2)
    obtain ⟨s3, e3, _, w3⟩ := DataW.trod_string Try.underlying9 (show DataW.trod enc Try.prog W 0 spare held k 9 [u3] = some y3 from h3)
    simp at e0 e1 e2 e3
    subst e0 e1 e2 e3
    exact ⟨⟨s0, s1, s2, s3⟩, rfl, w0, w1, w2, w3⟩
/-- Packets as elements. -/
def pktE : Elem Pkt where
  E := 36
  S := 26
  n := 4
  bytes := 40
  zero := .agg #[.int .i64 0, .int .i64 0, .int .i64 0, .string ⟨#[]⟩]
  enc := fun e => [.int .i64 e.id, .int .i64 e.src, .int .i64 e.dst, .string e.body]
  hund := Try.underlying26
  hinfo := by kernel_rfl
  hz := rfl
  hn := by decide
  hb := by decide
  hlen := fun _ => rfl
  hone := fun x u hu => by simp at hu; rcases hu with rfl | rfl | rfl | rfl <;> rfl

namespace Plain
def totP (fs : List Pkt) : Nat := (fs.map fun f => f.body.size).sum
theorem totP_drop (fs : List Pkt) (k : Nat) (h : k < fs.length) : totP (fs.drop k) = (fs[k].body.size) + totP (fs.drop (k + 1)) := by rw [totP, List.drop_eq_getElem_cons h, List.map_cons, List.sum_cons]; rfl
theorem totP_end (fs : List Pkt) (k : Nat) (h : fs.length ≤ k) : totP (fs.drop k) = 0 := by rw [List.drop_of_length_le h]; rfl
theorem totP_mem (fs : List Pkt) (f : Pkt) (h : f ∈ fs) : f.body.size ≤ totP fs := by
  induction fs with
  | nil => simp at h
  | cons g t ih =>
    have e : totP (g :: t) = (g.body.size) + totP t := by rw [totP, List.map_cons, List.sum_cons]; rfl
    rw [e]
    rcases List.mem_cons.1 h with rfl | h
    · omega
    · have := ih h; omega
theorem ArgAt.p {W : World} {a : Option Addr} {xs : List Pkt} (h : ArgAt 4 pktL W a xs) (i : Nat) (hi : i < xs.length) : ∃ g o, a = some ⟨g, o, none⟩ ∧ g < W.heap.size ∧ W.cell? ⟨g, o + i * 4, none⟩ = some (.int .i64 xs[i].id) ∧ W.cell? ⟨g, o + i * 4 + 1, none⟩ = some (.int .i64 xs[i].src) ∧ W.cell? ⟨g, o + i * 4 + 2, none⟩ = some (.int .i64 xs[i].dst) ∧ W.cell? ⟨g, o + i * 4 + 3, none⟩ = some (.string xs[i].body) := by
  obtain ⟨g, o, e, hl, hc⟩ := h i hi
  exact ⟨g, o, e, hl, hc 0 (by decide), hc 1 (by decide), hc 2 (by decide), hc 3 (by decide)⟩
end Plain
theorem RowAt.px {W : World} {a : Option Addr} {xs : List Pkt} (h : RowAt pktE W a xs) (i : Nat) (hi : i < xs.length) : ∃ g, a = some ⟨g, 0, none⟩ ∧ g < W.heap.size ∧ W.cell? ⟨g, i * 4, none⟩ = some (.int .i64 xs[i].id) ∧ W.cell? ⟨g, i * 4 + 1, none⟩ = some (.int .i64 xs[i].src) ∧ W.cell? ⟨g, i * 4 + 2, none⟩ = some (.int .i64 xs[i].dst) ∧ W.cell? ⟨g, i * 4 + 3, none⟩ = some (.string xs[i].body) := by
  obtain ⟨g, e, hl, hc⟩ := h i hi
  exact ⟨g, e, hl, (hc 0 (by decide)).1, (hc 1 (by decide)).1, (hc 2 (by decide)).1, (hc 3 (by decide)).1⟩

theorem toPacket_calls (pi : Int) (fr : Int) (ds : Int) (bd : ByteArray) (w : World) : Calls Try.prog 48 #[.agg #[.int .i64 pi, .int .i64 fr, .int .i64 ds, .string bd]] w fun e w' => e = .returned (.agg #[.int .i64 pi, .int .i64 fr, .int .i64 ds, .string bd]) ∧ Below w.heap.size w w' := by
  go_enter Try.func48, Try.ntmps48
  go_wp2
  exact bodyPost_ret (v := .agg #[.int .i64 pi, .int .i64 fr, .int .i64 ds, .string bd]) (by simp [results, Try.results48, go_sem]) rfl ⟨rfl, (((Below.refl _ _).alloc (Nat.le_refl _) _).alloc (by simp) _).alloc (by simp; omega) _⟩

theorem szPacket_calls (pi : Int) (fr : Int) (ds : Int) (bd : ByteArray) (left : Nat) (w : World) (hl : left ≤ 10000000) (s0 : bd.size ≤ maxLen) :
    Calls Try.prog 46 #[.agg #[.int .i64 pi, .int .i64 fr, .int .i64 ds, .string bd], .int .i64 left] w fun e w' => e = .returned (.int .i64 (purse left (bd.size))) ∧ Below w.heap.size w w' := by
  unfold maxLen at s0
  have HB := hide (bel1 w (.cells #[.int .i64 pi, .int .i64 fr, .int .i64 ds, .string bd] 75))
  by_cases h0 : left < bd.size
  · rw [purse_no (by omega)]
    go_enter Try.func46, Try.ntmps46
    go_wp2
    go_ret
    exact ⟨rfl, unhide HB⟩
  · rw [purse_yes (by omega)]
    go_enter Try.func46, Try.ntmps46
    go_wp2
    go_ret
    exact ⟨rfl, unhide HB⟩

theorem eqPacket_calls (pi : Int) (fr : Int) (ds : Int) (bd : ByteArray) (w : World) : Calls Try.prog 16 #[.agg #[.int .i64 pi, .int .i64 fr, .int .i64 ds, .string bd], .agg #[.int .i64 pi, .int .i64 fr, .int .i64 ds, .string bd]] w fun e w' => e = .returned (.bool true) ∧ Below w.heap.size w w' := by
  have HB := hide (belOn (bel1 w (.cells #[.int .i64 pi, .int .i64 fr, .int .i64 ds, .string bd] 36)) (bel1 _ (.cells #[.int .i64 pi, .int .i64 fr, .int .i64 ds, .string bd] 36)))
  go_enter Try.func16, Try.ntmps16
  go_wp2_with fail
  go_ret
  exact ⟨rfl, unhide HB⟩

set_option maxRecDepth 10000 in
set_option maxHeartbeats 1000000 in
theorem toPacketS_calls (a : Option Addr) (n c : Nat) (ls : List Pkt) (w : World) (hn : ls.length = n) (hn2 : n ≤ 1048576) (h : ArgAt 4 pktL w a ls) :
    Calls Try.prog 29 #[.slice a n c] w fun e w' => ∃ g, e = .returned (.slice (some ⟨g, 0, none⟩) n n) ∧ OwnR pktE w' w.heap.size (.slice (some ⟨g, 0, none⟩) n n) ls ∧ Below w.heap.size w w' := by
  have H := hide h
  have HN := hide hn
  have hmk : (Instr.makeSlice 26 (.int .i64 n) (.int .i64 n)).run Try.prog w = _ := make_row pktE n w (by omega)
  have HO := hide (own_made pktE ⟨0, 0, 0, ⟨#[]⟩⟩ rfl n w (by omega))
  have hba : Below w.heap.size w (w.alloc (.cells (madeCells pktE.zero.cells (n * pktE.n)) pktE.E)) := bel1 _ _
  have HBA := hide hba
  have hlt : w.heap.size < (w.alloc (.cells (madeCells pktE.zero.cells (n * pktE.n)) pktE.E)).heap.size := by simp
  generalize w.alloc (.cells (madeCells pktE.zero.cells (n * pktE.n)) pktE.E) = wa at hmk HO HBA hlt hba
  clear h hn hba
  go_enter Try.func29, Try.ntmps29
  go_wp2_with fail
  go_loopw [4] (fun i wr => ∃ k : Nat, i = .int .i64 k ∧ k ≤ n ∧ Hid (OwnR pktE wr w.heap.size (.slice (some ⟨w.heap.size, 0, none⟩) n n) (ls.take k ++ List.replicate (n - k) ⟨0, 0, 0, ⟨#[]⟩⟩)) ∧ Hid (Below w.heap.size w wr)) (fun i _ => n - (intOf i).toNat)
  case atStart => exact ⟨0, rfl, by omega, hide (by simpa using unhide HO), HBA⟩
  case round =>
    obtain ⟨k, rfl, hk, HR, HB⟩ := hrel
    by_cases hlk : k < n
    · have hkl : k < ls.length := by rw [unhide HN]; exact hlk
      obtain ⟨g, o, e1, l1, p0, p1, p2, p3⟩ := ((unhide H).below (unhide HB)).p k hkl
      have hlen : (ls.take k ++ List.replicate (n - k) (⟨0, 0, 0, ⟨#[]⟩⟩ : Pkt)).length = n := by rw [List.length_append, List.length_take, List.length_replicate, unhide HN]; omega
      have hset : (ls.take k ++ List.replicate (n - k) (⟨0, 0, 0, ⟨#[]⟩⟩ : Pkt)).set k ls[k] = ls.take (k + 1) ++ List.replicate (n - (k + 1)) ⟨0, 0, 0, ⟨#[]⟩⟩ := by
        rw [List.set_append_right _ _ (by rw [List.length_take]; omega), List.length_take, show k - min k ls.length = 0 from by omega, show n - k = (n - (k + 1)) + 1 from by omega, List.replicate_succ, List.set_cons_zero, List.take_succ_eq_append_getElem hkl, List.append_assoc]
        rfl
      generalize (ls.take k ++ List.replicate (n - k) (⟨0, 0, 0, ⟨#[]⟩⟩ : Pkt)) = cur at HR hlen hset
      generalize ls[k] = x at p0 p1 p2 p3 hset
      obtain ⟨pi, fr, ds, bd⟩ := x
      simp only at p0 p1 p2 p3
      clear H hkl
      subst e1
      have i0 : (0 : Int) ≤ (k : Int) := by omega
      have i1 : (k : Int) < (n : Int) := by omega
      go_wp2_with fail
      refine (toPacket_calls pi fr ds bd wr).mono ?_
      rintro e w1 ⟨rfl, hb1⟩
      have hR1 := (unhide HR).keep hb1
      have HB1 := hide (belOn (unhide HB) hb1)
      have hkc : k < cur.length := by omega
      obtain ⟨g', e2, l2, q0, q1, q2, q3⟩ := hR1.at.px k hkc
      obtain ⟨g'', e3, l3, z⟩ := hR1.at k hkc
      have hg : w.heap.size = g' := by simpa using e2
      subst hg
      have hg : w.heap.size = g'' := by simpa using e3
      subst hg
      have z0 : w1.frozen? ⟨w.heap.size, k * 4, none⟩ = false := (z 0 (by decide)).2
      have z1 : w1.frozen? ⟨w.heap.size, k * 4 + 1, none⟩ = false := (z 1 (by decide)).2
      have z2 : w1.frozen? ⟨w.heap.size, k * 4 + 2, none⟩ = false := (z 2 (by decide)).2
      have z3 : w1.frozen? ⟨w.heap.size, k * 4 + 3, none⟩ = false := (z 3 (by decide)).2
      have hS0 := hR1.setJ hlen k hkc 0 (by decide) (.int .i64 pi) ⟨pi, cur[k].src, cur[k].dst, cur[k].body⟩ rfl
      have hS1 := hS0.setJ (by rw [List.length_set]; exact hlen) k (by rw [List.length_set]; exact hkc) 1 (by decide) (.int .i64 fr) ⟨pi, fr, cur[k].dst, cur[k].body⟩ (by rw [List.getElem_set_self]; rfl)
      rw [List.set_set] at hS1
      have hS2 := hS1.setJ (by rw [List.length_set]; exact hlen) k (by rw [List.length_set]; exact hkc) 2 (by decide) (.int .i64 ds) ⟨pi, fr, ds, cur[k].body⟩ (by rw [List.getElem_set_self]; rfl)
      rw [List.set_set] at hS2
      have hS3 := hS2.setJ (by rw [List.length_set]; exact hlen) k (by rw [List.length_set]; exact hkc) 3 (by decide) (.string bd) ⟨pi, fr, ds, bd⟩ (by rw [List.getElem_set_self]; rfl)
      rw [List.set_set] at hS3
      have hR3 := hS3
      rw [hset] at hR3
      have HR3 := hide hR3
      generalize cur[k] = y at q0 q1 q2 q3
      clear hb1 hR1 hS0 hS1 hS2 hS3 hR3 HR HB z
      go_wp2_with fail
      go_roundw
      case rel => exact ⟨k + 1, by go_num, by omega, HR3, hide (((((unhide HB1).setCell (Nat.le_refl _) _).setCell (Nat.le_refl _) _).setCell (Nat.le_refl _) _).setCell (Nat.le_refl _) _)⟩
      case measure => simp [intOf]; omega
    · obtain rfl : k = n := by omega
      have HF := hide (unhide HR)
      rw [show ls.take k ++ List.replicate (k - k) (⟨0, 0, 0, ⟨#[]⟩⟩ : Pkt) = ls from by rw [Nat.sub_self, List.replicate_zero, List.append_nil]; exact List.take_of_length_le (by rw [unhide HN]; exact Nat.le_refl _)] at HF
      clear HR
      go_wp2_with fail
      go_ret
      exact ⟨_, rfl, unhide HF, unhide HB⟩

set_option maxRecDepth 10000 in
set_option maxHeartbeats 1000000 in
theorem szPacketS_calls (a : Option Addr) (n c : Nat) (ls : List Pkt) (left : Nat) (w : World) (hn : ls.length = n) (hn2 : n ≤ 9223372036854775807) (hs : ∀ l ∈ ls, goodP l) (h1 : left ≤ 10000000) (h : ArgAt 4 pktL w a ls) :
    Calls Try.prog 25 #[.slice a n c, .int .i64 left] w fun e w' => e = .returned (.int .i64 (purse left (n + totP ls))) ∧ Below w.heap.size w w' := by
  have H := hide h
  have HN := hide hn
  have HS := hide hs
  clear h hn hs
  by_cases hlt : left < n
  · rw [purse_no (by omega)]
    go_enter Try.func25, Try.ntmps25
    go_wp2_with fail
    go_ret
    exact ⟨rfl, Below.refl _ _⟩
  · obtain ⟨L, hL⟩ : ∃ L : Nat, (left : Int) - (n : Int) = (L : Int) := ⟨left - n, by omega⟩
    rw [purse_step (by omega), hL]
    obtain ⟨R, hR⟩ : ∃ R, purse L (totP ls) = R := ⟨_, rfl⟩
    rw [hR]
    have HR0 := hide hR
    clear hR
    go_enter Try.func25, Try.ntmps25
    go_wp2_with fail
    go_loopw [1, 5] (fun l i wr => ∃ (k r : Nat), l = .int .i64 r ∧ i = .int .i64 k ∧ k ≤ n ∧ r ≤ 10000000 ∧ Hid (R = purse r (totP (ls.drop k))) ∧ Hid (Below w.heap.size w wr)) (fun _ i _ => n - (intOf i).toNat)
    case atStart => exact ⟨0, L, by rw [← hL], rfl, by omega, by omega, hide (unhide HR0).symm, hide (Below.refl _ _)⟩
    case round =>
      obtain ⟨k, r, rfl, rfl, hk, hr, HR, HB⟩ := hrel
      by_cases hlk : k < n
      · have hkl : k < ls.length := by rw [unhide HN]; exact hlk
        obtain ⟨g, o, e1, l1, p0, p1, p2, p3⟩ := ((unhide H).below (unhide HB)).p k hkl
        have hsz := unhide HS ls[k] (by simp)
        have hst := totP_drop ls k hkl
        generalize ls[k] = x at p0 p1 p2 p3 hsz hst
        obtain ⟨pi, fr, ds, bd⟩ := x
        simp only at p0 p1 p2 p3 hst
        have i0 : (0 : Int) ≤ (k : Int) := by omega
        have i1 : (k : Int) < (n : Int) := by omega
        have HR2 := unhide HR
        rw [hst] at HR2
        obtain ⟨s, hs⟩ : ∃ s, bd.size = s := ⟨_, rfl⟩
        have HZ := hide (fun W => szPacket_calls pi fr ds bd r W hr hsz.2.2.2)
        rw [hs] at HR2 HZ
        clear HR hst hsz hs
        by_cases hrx : r < s
        · rw [purse_no (by omega)] at HR2
          have HF := hide HR2
          rw [purse_no (show (r : Int) < (s : Int) by omega)] at HZ
          clear HR2
          subst e1
          go_wp2_with fail
          refine (unhide HZ _).mono ?_
          rintro e w1 ⟨rfl, hb1⟩
          have HB1 := hide (belOn (unhide HB) hb1)
          clear hb1
          go_wp2_with fail
          go_ret
          exact ⟨by rw [unhide HF]; rfl, unhide HB1⟩
        · obtain ⟨r', hr'⟩ : ∃ r' : Nat, (r : Int) - (s : Int) = (r' : Int) := ⟨r - s, by omega⟩
          rw [purse_step (by omega), hr'] at HR2
          have HF := hide HR2
          rw [purse_yes (show ¬ (r : Int) < (s : Int) by omega), hr'] at HZ
          clear HR2
          subst e1
          go_wp2_with fail
          refine (unhide HZ _).mono ?_
          rintro e w1 ⟨rfl, hb1⟩
          have HB1 := hide (belOn (unhide HB) hb1)
          clear hb1
          go_wp2_with fail
          go_roundw
          case rel => exact ⟨k + 1, r', rfl, by go_num, by omega, by omega, HF, HB1⟩
          case measure => simp [intOf]; omega
      · have HF := unhide HR
        rw [totP_end ls k (by rw [unhide HN]; omega), purse_yes (by omega)] at HF
        have HF2 := hide HF
        clear HF HR
        go_wp2_with fail
        go_ret
        exact ⟨by rw [unhide HF2]; simp, unhide HB⟩

set_option maxRecDepth 10000 in
set_option maxHeartbeats 1000000 in
theorem eqPacketS_calls (a1 a2 : Option Addr) (c1 c2 n : Nat) (ls : List Pkt) (w : World) (hn : ls.length = n) (hn2 : n ≤ 100000000) (h1 : RowAt pktE w a1 ls) (h2 : RowAt pktE w a2 ls) :
    Calls Try.prog 35 #[.slice a1 n c1, .slice a2 n c2] w fun e w' => e = .returned (.bool true) ∧ Below w.heap.size w w' := by
  have H1 := hide h1
  have H2 := hide h2
  have HN := hide hn
  clear h1 h2 hn
  go_enter Try.func35, Try.ntmps35
  go_wp2_with fail
  go_loopw [5] (fun i wr => ∃ (k : Nat), i = .int .i64 k ∧ k ≤ n ∧ Hid (Below w.heap.size w wr)) (fun i _ => n - (intOf i).toNat)
  case atStart => exact ⟨0, rfl, by omega, Below.refl _ _⟩
  case round =>
    obtain ⟨k, rfl, hk, HB⟩ := hrel
    by_cases hlt : k < n
    · have hkl : k < ls.length := by rw [unhide HN]; exact hlt
      obtain ⟨g1, e1, l1, p0, p1, p2, p3⟩ := ((unhide H1).below (unhide HB)).px k hkl
      obtain ⟨g2, e2, l2, q0, q1, q2, q3⟩ := ((unhide H2).below (unhide HB)).px k hkl
      generalize ls[k] = x at p0 p1 p2 p3 p2 p3 q0 q1 q2 q3
      obtain ⟨pi, fr, ds, bd⟩ := x
      simp only at p0 p1 p2 p3 p2 p3 q0 q1 q2 q3
      clear H1 H2 hkl
      subst e1 e2
      have i0 : (0 : Int) ≤ (k : Int) := by omega
      have i1 : (k : Int) < (n : Int) := by omega
      go_wp2_with fail
      go_region_with (go_at_call 16; refine (eqPacket_calls pi fr ds bd _).mono ?_; rintro e w1 ⟨rfl, hb1⟩)
      all_goals (try go_wp2_with fail)
      all_goals exact ⟨⟨k + 1, by go_num, by omega, hide (belOn (unhide HB) (bOfDrew hb1))⟩, by simp [intOf]; omega⟩
    · obtain rfl : k = n := by omega
      go_wp2_with fail
      go_ret
      exact ⟨rfl, unhide HB⟩
end Go.Proofs.Ytkpnnchgngcppaa
