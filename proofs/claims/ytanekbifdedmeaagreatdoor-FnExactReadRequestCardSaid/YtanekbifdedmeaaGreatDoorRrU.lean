/- Headers and body, by the specification. -/
import Derived.Test.YtanekbifdedmeaaGreatDoorGAI
import Derived.Test.YtanekbifdedmeaaGreatDoorGAF
namespace Go.Proofs.YtanekbifdedmeaaGreatDoor
open Go.RowKit Plain
set_option linter.unusedVariables false

namespace Plain
theorem tal_none {num : List UInt8 → Int} {s : List UInt8} (h : linF (s.length + 1) s = none) : talF num s = (3, [], []) := by
  unfold talF
  rw [hdF_is, h]
theorem tal_some {num : List UInt8 → Int} {s : List UInt8} {ls : List (List UInt8)} {b : List UInt8} (h : linF (s.length + 1) s = some (ls, b)) : talF num s = match okS (fldF num ls ⟨[], 0, false⟩) with
      | none => (3, [], [])
      | some st => if (b.length : Int) = st.len then (0, st.rows, b) else (4, [], []) := by
  unfold talF
  rw [hdF_is, h]
  simp only
  rw [fold_fld num ls ⟨[], 0, false⟩ (by rfl)]
  cases okS (fldF num ls ⟨[], 0, false⟩) <;> rfl
theorem lnS_drop {ls : List (List UInt8)} {j : Nat} (h : j < ls.length) : lnS (ls.drop j) = ls[j] ++ 13 :: 10 :: lnS (ls.drop (j + 1)) := by
  rw [List.drop_eq_getElem_cons h, lnS_cons]
theorem lnS_len : ∀ ls : List (List UInt8), 2 * ls.length + (ls.map List.length).sum ≤ (lnS ls).length
  | [] => by simp [lnS_nil]
  | l :: ls => by
    have := lnS_len ls
    rw [lnS_cons]
    simp only [List.length_cons, List.length_append, List.map_cons, List.sum_cons]
    omega
theorem lnS_cat : ∀ a b : List (List UInt8), lnS (a ++ b) = lnS a ++ lnS b
  | [], b => by rw [List.nil_append, lnS_nil, List.nil_append]
  | l :: a, b => by rw [List.cons_append, lnS_cons, lnS_cons, lnS_cat a b, List.append_assoc, List.cons_append, List.cons_append]
theorem sum_mem {l : List UInt8} : ∀ {ls : List (List UInt8)}, l ∈ ls → l.length ≤ (ls.map List.length).sum
  | [], h => absurd h (by simp)
  | x :: ls, h => by
    rw [List.map_cons, List.sum_cons]
    rcases List.mem_cons.1 h with rfl | h
    · omega
    · have := sum_mem h; omega
def lenOf : Value → Nat
  | .slice _ n _ => n
  | _ => 0
/-- What is answered. -/
def TalPost (B : Nat) (t : Int × List Hd × List UInt8) (e : Ending) (w' : World) : Prop :=
  (t.1 = 0 → ∃ a c, e = .returned (.tuple #[.slice a t.2.1.length c, .string (bU t.2.2), .int .i64 0]) ∧ OwnR hdrE w' B (.slice a t.2.1.length c) t.2.1) ∧
  (t.1 ≠ 0 → ∃ a n c, e = .returned (.tuple #[.slice a n c, .string ⟨#[]⟩, .int .i64 t.1]))
theorem TalPost.bad {B : Nat} {t : Int × List Hd × List UInt8} {e : Ending} {w' : World} {m : Int} (ht : t = (m, [], [])) (hm : m ≠ 0) {a : Option Addr} {n c : Nat} (h : e = .returned (.tuple #[.slice a n c, .string ⟨#[]⟩, .int .i64 m])) : TalPost B t e w' := by
  subst ht
  exact ⟨fun q => absurd q hm, fun _ => ⟨a, n, c, h⟩⟩
theorem TalPost.good {B : Nat} {t : Int × List Hd × List UInt8} {e : Ending} {w' : World} {hs : List Hd} {b : List UInt8} (ht : t = (0, hs, b)) {a : Option Addr} {c : Nat} (h : e = .returned (.tuple #[.slice a hs.length c, .string (bU b), .int .i64 0])) (ho : OwnR hdrE w' B (.slice a hs.length c) hs) : TalPost B t e w' := by
  subst ht
  exact ⟨fun _ => ⟨a, c, h, ho⟩, fun q => absurd rfl q⟩
end Plain

set_option maxRecDepth 10000 in
set_option maxHeartbeats 8000000 in
theorem l16Tail_calls (s : ByteArray) (w : World) (hs : s.size ≤ 100000) :
    Calls Tryz.prog 46 #[.string s] w fun e w' => TalPost w.heap.size (talF (numG 20000) s.data.toList) e w' ∧ Below w.heap.size w w' := by
  have hadd := fun W => addS (a := ⟨#[13, 10]⟩) (b := s) W (by rw [show (⟨#[13, 10]⟩ : ByteArray).size = 2 from rfl]; omega)
  have hcd : (⟨#[13, 10]⟩ ++ s : ByteArray).toList = 13 :: 10 :: s.data.toList := by rw [ByteArray.toList_eq]; simp
  have HF := hide (fun W => l16Find_calls (⟨#[13, 10]⟩ ++ s) ⟨#[13, 10, 13, 10]⟩ W (by rw [ByteArray.size_append, show (⟨#[13, 10]⟩ : ByteArray).size = 2 from rfl]; omega) (by decide) (by decide))
  rw [hcd, show (⟨#[13, 10, 13, 10]⟩ : ByteArray).toList = [13, 10, 13, 10] from by rw [ByteArray.toList_eq], show Lib.index (13 :: 10 :: s.data.toList) [13, 10, 13, 10] = endF s.data.toList from rfl] at HF
  have hsl : s.data.toList.length = s.size := by simp
  clear hcd
  generalize (⟨#[13, 10]⟩ ++ s : ByteArray) = cs at hadd HF
  obtain ⟨T, hT⟩ : ∃ T, talF (numG 20000) s.data.toList = T := ⟨_, rfl⟩
  rw [hT]
  rcases linF_is (s.data.toList.length + 1) s.data.toList (by omega) with ⟨q1, q2⟩ | ⟨ls, b, q2, q3, q1, q4⟩
  · rw [q1] at HF
    have HT := hide (hT.symm.trans (tal_none (num := numG 20000) q2))
    clear q1 q2 hsl hT
    go_enter Tryz.func46, Tryz.ntmps46
    go_wp2_with (go_at_call 44; refine (unhide HF _).mono ?_; rintro e w' ⟨rfl, rfl⟩)
    go_ret3
    exact ⟨TalPost.bad (unhide HT) (by decide) rfl, bel1 _ _⟩
  · rw [q1] at HF
    have HT := hide (hT.symm.trans (tal_some (num := numG 20000) q2))
    clear hT
    go_enter Tryz.func46, Tryz.ntmps46
    obtain ⟨L, hL⟩ : ∃ L, (lnS ls).length = L := ⟨_, rfl⟩
    rw [hL] at HF
    have hLs : L + 2 ≤ s.size := by
      have := congrArg List.length q3
      rw [hsl, List.length_append, hL, List.length_cons, List.length_cons] at this
      omega
    have HB2 := hide (show s.extract (L + 2) s.size = bU b from bU_of (by rw [ext_drop, q3, show L + 2 = (lnS ls ++ [13, 10]).length from by rw [List.length_append, hL]; rfl, show lnS ls ++ 13 :: 10 :: b = (lnS ls ++ [13, 10]) ++ b from by simp, List.drop_left]))
    have HH := hide (show (s.extract 0 L).data.toList = lnS ls from by rw [extR_take, q3, ← hL, List.take_left])
    have HL := hide hL
    have HN := hide q4
    have hll := lnS_len ls
    clear q1 q2 q3 q4 hsl
    go_upto_if 24 with (go_at_call 44; refine (unhide HF _).mono ?_; rintro e w' ⟨rfl, rfl⟩)
    go_cut [8] (fun s8 wx => ∃ hd : ByteArray, s8 = .string hd ∧ Hid (hd.data.toList = lnS ls) ∧ wx = (w.alloc (.cells #[] 45)).alloc (.cells #[] 9))
    case first =>
      by_cases hz : L = 0
      · subst hz
        have hzz : ¬ (0 : Int) < (0 : Nat) := by decide
        go_wp2_with fail
        go_meet
        exact ⟨_, rfl, hide (by rw [List.length_eq_zero_iff.1 (unhide HL)]), rfl⟩
      · have hzz : (0 : Int) < (L : Int) := by omega
        have i0 : (0 : Int) ≤ (L : Int) := by omega
        have i1 : (L : Int) ≤ (s.size : Int) := by omega
        go_wp2_with fail
        go_meet
        exact ⟨_, rfl, HH, rfl⟩
    case rest =>
    obtain ⟨hd, rfl, HD, rfl⟩ := hcut
    have hhd : hd.size = L := by
      have := congrArg List.length (unhide HD)
      rw [unhide HL] at this
      simpa using this
    subst hhd
    have hfin : ∀ l ∈ ls, l.length ≤ 100000 := fun l hl => by
      have := sum_mem hl
      omega
    have HFIN := hide hfin
    have hnl : ls.length ≤ 100000 := by omega
    clear HF HH hadd hfin hL hll
    go_wp2_with fail
    go_loopw [7, 9] (fun s7 s9 wr => ∃ (j : Nat) (F : Nat) (a : Option Addr) (c : Nat), s7 = .slice a j c ∧ s9 = .int .i64 F ∧ j ≤ ls.length ∧ Hid (F = (lnS (ls.take j)).length) ∧ Hid (OwnR strE wr w.heap.size (.slice a j c) ((ls.take j).map bU)) ∧ Hid (Below w.heap.size w wr)) (fun s7 _ _ => ls.length - (lenOf s7))
    case atStart => exact ⟨0, 0, _, _, rfl, rfl, Nat.zero_le _, hide rfl, hide (by have h0 := ownR_empty strE (w.alloc (.cells #[] 45)) w.heap.size (by simp); rwa [show (w.alloc (.cells #[] 45)).heap.size = w.heap.size + 1 from by simp] at h0), hide (belOn (bel1 _ _) (bel1 _ _))⟩
    case round =>
      obtain ⟨j, F, a, c, rfl, rfl, hj, HFR, HO, HB⟩ := hrel
      have hcat : lnS (ls.take j) ++ lnS (ls.drop j) = lnS ls := by rw [← lnS_cat, List.take_append_drop]
      have hcl := congrArg List.length hcat
      rw [List.length_append, ← unhide HFR, unhide HL] at hcl
      have hwz : w.heap.size ≤ wr.heap.size := (unhide HB).size
      by_cases hjl : j < ls.length
      · have hdr := lnS_drop hjl
        have hdl := congrArg List.length hdr
        rw [List.length_append, List.length_cons, List.length_cons] at hdl
        have hnc := unhide HN ls[j] (List.getElem_mem hjl)
        have htk : (ls.take (j + 1)).map bU = (ls.take j).map bU ++ [bU ls[j]] := by rw [List.take_succ_eq_append_getElem hjl, List.map_append]; rfl
        have hF2 : F + ls[j].length + 2 = (lnS (ls.take (j + 1))).length := by
          have := congrArg List.length (lnS_cat (ls.take j) [ls[j]])
          rw [List.take_append_getElem hjl, List.length_append, lnS_cons, lnS_nil, List.length_append, List.length_cons, List.length_cons, List.length_nil, ← unhide HFR] at this
          omega
        have hed : (hd.extract F hd.size).data.toList = ls[j] ++ 13 :: 10 :: lnS (ls.drop (j + 1)) := by
          rw [ext_drop, unhide HD, ← hcat, unhide HFR, List.drop_left, hdr]
        have hek : hd.extract F (F + ls[j].length) = bU ls[j] := bU_of (by
          rw [ByteArray.data_extract, Array.toList_extract, List.extract_eq_take_drop, Nat.add_sub_cancel_left, ← ext_drop, hed, List.take_left])
        have HFD := hide (fun W => l16Find_calls (hd.extract F hd.size) ⟨#[13, 10]⟩ W (by rw [ByteArray.size_extract]; omega) (by decide) (by decide))
        rw [ByteArray.toList_eq, hed, show (⟨#[13, 10]⟩ : ByteArray).toList = [13, 10] from by rw [ByteArray.toList_eq], ix2 _ _ hnc.1] at HFD
        generalize ls[j] = l at hdl hek HFD hF2 htk
        obtain ⟨K, hK⟩ : ∃ K, l.length = K := ⟨_, rfl⟩
        rw [hK] at hdl hek HFD hF2
        obtain ⟨G, hG⟩ : ∃ G, F + K = G := ⟨_, rfl⟩
        obtain ⟨G2, hG2⟩ : ∃ G2, F + K + 2 = G2 := ⟨_, rfl⟩
        rw [hG] at hek
        rw [hG2] at hF2
        have hw1 : IntKind.i64.wrap ((F : Int) + (K : Int)) = (G : Int) := by rw [IntKind.wrap_i64]; omega
        have hw2 : IntKind.i64.wrap ((G : Int) + 2) = (G2 : Int) := by rw [IntKind.wrap_i64]; omega
        have i0 : (0 : Int) ≤ (F : Int) := by omega
        have i1 : (F : Int) ≤ (hd.size : Int) := by omega
        have i2 : (F : Int) ≤ (G : Int) := by omega
        have i3 : (G : Int) ≤ (hd.size : Int) := by omega
        have i4 : (F : Int) < (hd.size : Int) := by omega
        have HTK := hide htk
        have HF2 := hide hF2
        have HJL := hide (show ((ls.take j).map bU).length = j from by rw [List.length_map, List.length_take]; omega)
        clear hcat hcl hdr hdl hnc htk hF2 hed hK hG hG2
        go_wp2_with (first
          | (go_at_call 44; refine (unhide HFD _).mono ?_; rintro e w' ⟨rfl, rfl⟩)
          | (at_builtin; go_must (refine appR (e := strE) rfl _ _ rfl (unhide HO) rfl (bU l) rfl _ rfl rfl (by rw [unhide HJL]; omega) hwz ?_); intro v' w6 hown6 hb6 hg6; obtain ⟨a', c', hv'⟩ := hown6.form; subst hv'; rw [List.length_append, List.length_singleton, unhide HJL] at hown6))
        go_roundw
        case rel => exact ⟨j + 1, G2, _, _, rfl, rfl, by omega, HF2, by rw [unhide HTK]; exact hide hown6, hide ((unhide HB).trans hb6)⟩
        case measure => simp [lenOf]; omega
      · obtain rfl : j = ls.length := by omega
        rw [List.drop_of_length_le (Nat.le_refl _), lnS_nil, List.length_nil] at hcl
        have hHO := unhide HO
        rw [List.take_of_length_le (Nat.le_refl _)] at hHO
        have HFL := hide (l16Fields_calls a ls.length c (ls.map bU) wr (by rw [List.length_map]) (by omega) (fun x hx => by
          obtain ⟨l, hl, rfl⟩ := List.mem_map.1 hx
          rw [bU_size]
          have := unhide HFIN l hl
          omega) hHO.at)
        rw [show dl (ls.map bU) = ls from by unfold dl; rw [List.map_map]; exact (List.map_congr_left fun l _ => bU_data l).trans (List.map_id ls)] at HFL
        obtain rfl : F = hd.size := by omega
        clear hcat hcl hHO HO HFIN HFR
        cases ho : okS (fldF (numG 20000) ls ⟨[], 0, false⟩) with
        | none =>
          rw [ho] at HFL
          have HT3 := hide (show T = (3, [], []) from by rw [unhide HT, ho])
          clear ho HT
          go_wp2_with (go_at_call 89; refine (unhide HFL).mono ?_; rintro e w' ⟨⟨v, l, rfl⟩, hb1⟩)
          go_ret3
          exact ⟨TalPost.bad (unhide HT3) (by decide) rfl, belOn (unhide HB) hb1⟩
        | some st =>
          rw [ho] at HFL
          obtain ⟨rows, len, told⟩ := st
          have hbz : (bU b).size = b.length := bU_size b
          obtain ⟨L2, hL2⟩ : ∃ L2, hd.size + 2 = L2 := ⟨_, rfl⟩
          have hw1 : IntKind.i64.wrap ((hd.size : Int) + 2) = (L2 : Int) := by rw [IntKind.wrap_i64]; omega
          have i0 : (0 : Int) ≤ (L2 : Int) := by omega
          have i1 : (L2 : Int) ≤ (s.size : Int) := by omega
          have hbd := unhide HB2
          rw [hL2] at hbd
          generalize hB : bU b = bd at hbd hbz
          have HBD := hide hB
          by_cases hln : (b.length : Int) = len
          · have HT4 := hide (show T = (0, rows, b) from by rw [unhide HT, ho]; simp only; rw [if_pos hln])
            have hne : ((bd.size : Int) == len) = true := by rw [beq_iff_eq]; omega
            have hnb : ((bd.size : Int) != len) = false := by rw [bne, hne]; rfl
            clear ho HT hB hL2 hln hbz
            go_wp2_with (go_at_call 89; refine (unhide HFL).mono ?_; rintro e w' ⟨⟨a2, c2, rfl, ho2⟩, hb1⟩)
            go_ret3
            exact ⟨TalPost.good (unhide HT4) (by rw [unhide HBD]; rfl) (ho2.le hwz), belOn (unhide HB) hb1⟩
          · have HT4 := hide (show T = (4, [], []) from by rw [unhide HT, ho]; simp only; rw [if_neg hln])
            have hne : ((bd.size : Int) == len) = false := by rw [beq_eq_false_iff_ne]; omega
            have hnb : ((bd.size : Int) != len) = true := by rw [bne, hne]; rfl
            clear ho HT hB hL2 hln hbz
            go_wp2_with (go_at_call 89; refine (unhide HFL).mono ?_; rintro e w' ⟨⟨a2, c2, rfl, ho2⟩, hb1⟩)
            go_ret3
            exact ⟨TalPost.bad (unhide HT4) (by decide) rfl, belOn (unhide HB) hb1⟩
end Go.Proofs.YtanekbifdedmeaaGreatDoor
