/- A text that is written comes back: the mathematics of the readers of chapter 16. -/
import Derived.Test.YtanekbifdedmeaaGreatDoorRrU
import Derived.Test.YtanekbifdedmeaaGreatDoorWrqM
namespace Go.Proofs.YtanekbifdedmeaaGreatDoor
open Go.RowKit Plain
set_option linter.unusedVariables false

namespace Plain
theorem nc_of : ∀ {l : List UInt8}, (∀ x ∈ l, x ≠ 13) → NC l
  | [], _ => trivial
  | x :: t, h => ⟨fun q => h x (by simp) q.1, nc_of fun y hy => h y (List.mem_cons_of_mem _ hy)⟩
/-- The first of a byte. -/
theorem ix1 (c : UInt8) (r : List UInt8) : ∀ {l : List UInt8}, (∀ x ∈ l, x ≠ c) → Lib.index (l ++ c :: r) [c] = (l.length : Nat)
  | [], _ => by
    rw [List.nil_append, ix_cons, if_pos (by rw [List.isPrefixOf_iff_prefix]; exact ⟨r, rfl⟩)]
    rfl
  | x :: t, h => by
    have hx := h x (by simp)
    rw [List.cons_append, ix_cons, if_neg (by rw [List.isPrefixOf_iff_prefix, List.cons_prefix_cons]; exact fun q => hx q.1.symm), ix1 c r fun y hy => h y (List.mem_cons_of_mem _ hy)]
    have hb : (((t.length : Nat) : Int) == -1) = false := by rw [beq_eq_false_iff_ne]; omega
    rw [hb]
    simp
theorem cut1 (c : UInt8) (l r : List UInt8) : (l ++ c :: r).take l.length = l ∧ (l ++ c :: r).drop (l.length + 1) = r := by
  refine ⟨List.take_left, ?_⟩
  rw [show l ++ c :: r = (l ++ [c]) ++ r from by simp, show l.length + 1 = (l ++ [c]).length from by simp, List.drop_left]
theorem allF_mem {p : Nat → Bool} {s : ByteArray} (h : allF p s 0 = true) : ∀ x ∈ s.data.toList, p x.toNat = true := by
  unfold allF at h
  rw [List.drop_zero, List.all_eq_true] at h
  exact h
theorem tex_all {lo hi : Nat} {p : Nat → Bool} {s : ByteArray} (h : texB lo hi p s = true) : lo ≤ s.size ∧ s.size ≤ hi ∧ ∀ x ∈ s.data.toList, p x.toNat = true := by
  unfold texB at h
  rw [Bool.and_eq_true, Bool.and_eq_true, decide_eq_true_eq, decide_eq_true_eq] at h
  exact ⟨h.1.1, h.1.2, allF_mem h.2⟩
theorem nme_ne {c : UInt8} (h : nmeC c.toNat = true) : c ≠ 58 ∧ c ≠ 13 ∧ smlB c = c := by
  unfold nmeC at h
  rw [Bool.or_eq_true, Bool.and_eq_true, decide_eq_true_eq, decide_eq_true_eq, decide_eq_true_eq] at h
  refine ⟨?_, ?_, ?_⟩
  · rintro rfl; revert h; decide
  · rintro rfl; revert h; decide
  · unfold smlB
    rw [if_neg]
    rintro ⟨h1, h2⟩
    have a1 : (65 : UInt8).toNat ≤ c.toNat := h1
    have a2 : c.toNat ≤ (90 : UInt8).toNat := h2
    have e1 : (65 : UInt8).toNat = 65 := rfl
    have e2 : (90 : UInt8).toNat = 90 := rfl
    omega
theorem val_ne {c : UInt8} (h : valC c.toNat = true) : c ≠ 13 := by
  rintro rfl
  revert h
  decide
theorem low_id {l : List UInt8} (h : ∀ x ∈ l, smlB x = x) : lowL l = l := by
  unfold lowL
  rw [List.map_congr_left h]
  exact List.map_id l
theorem trm_bl (l : List UInt8) (h : trmL l = l) : trmL (32 :: l) = l := by
  have hc := trm_comm (32 :: l)
  rw [List.dropWhile_cons, if_pos (by decide), trm_comm, h] at hc
  exact hc.symm
/-- A header's line. -/
def hlnL (h : Hd) : List UInt8 := h.1.data.toList ++ 58 :: 32 :: h.2.data.toList
theorem hln_row (h : Hd) : (rowT csT h).data.toList = hlnL h := by
  unfold rowT hlnL
  rw [app_l, app_l]
  show h.1.data.toList ++ [58, 32] ++ _ = _
  simp
theorem hrw_parts {h : Hd} (hh : hrwB h = true) : h.1.data.toList ≠ clenL ∧ texB 1 60 nmeC h.1 = true ∧ texB 0 500 valC h.2 = true ∧ trmL h.2.data.toList = h.2.data.toList := by
  unfold hrwB valB at hh
  rw [Bool.and_eq_true, Bool.and_eq_true, Bool.and_eq_true, Bool.not_eq_true', ByteArray.toList_eq] at hh
  exact ⟨beq_eq_false_iff_ne.1 hh.1.1, hh.1.2, hh.2.1, (trm_end _).1 hh.2.2⟩
theorem hln_facts {h : Hd} (hh : hrwB h = true) : Lib.index (hlnL h) [58] = (h.1.data.toList.length : Nat) ∧ rowF (hlnL h) = h ∧ NC (hlnL h) ∧ hlnL h ≠ [] ∧ (hlnL h).length ≤ 562 := by
  obtain ⟨h1, h2, h3, h4⟩ := hrw_parts hh
  obtain ⟨n1, n2, n3⟩ := tex_all h2
  obtain ⟨v1, v2, v3⟩ := tex_all h3
  have hi : Lib.index (hlnL h) [58] = (h.1.data.toList.length : Nat) := ix1 58 _ fun x hx => (nme_ne (n3 x hx)).1
  have hln : h.1.data.toList.length = h.1.size := by simp
  have hlv : h.2.data.toList.length = h.2.size := by simp
  refine ⟨hi, ?_, nc_of ?_, ?_, ?_⟩
  · unfold rowF
    rw [hi, Int.toNat_natCast]
    unfold hlnL
    rw [(cut1 58 _ _).1, (cut1 58 _ _).2, low_id fun x hx => (nme_ne (n3 x hx)).2.2, trm_bl _ h4, bU_self, bU_self]
  · intro x hx
    unfold hlnL at hx
    rcases List.mem_append.1 hx with q | q
    · exact (nme_ne (n3 x q)).2.1
    · rcases List.mem_cons.1 q with rfl | q
      · decide
      · rcases List.mem_cons.1 q with rfl | q
        · decide
        · exact val_ne (v3 x q)
  · unfold hlnL; simp
  · unfold hlnL
    rw [List.length_append, List.length_cons, List.length_cons]
    omega
theorem dec_dig : ∀ n : Nat, ∀ x ∈ Lib.decDigits n, 48 ≤ x.toNat ∧ x.toNat ≤ 57 := by
  intro n
  induction n using Nat.strongRecOn with
  | _ n ih =>
    intro x hx
    rw [Lib.decDigits] at hx
    split at hx
    · rename_i h
      rw [List.mem_singleton.1 hx, digG_one h]
      omega
    · rcases List.mem_append.1 hx with q | q
      · exact ih (n / 10) (by omega) x q
      · rw [List.mem_singleton.1 q, digG_one (Nat.mod_lt _ (by omega))]
        omega
theorem dec_ne {n : Nat} {c x : UInt8} (hc : c.toNat < 48) (hx : x ∈ Lib.decDigits n) : x ≠ c := by
  rintro rfl
  have := dec_dig n x hx
  omega
theorem dec_trm (n : Nat) : trmL (Lib.decDigits n) = Lib.decDigits n := by
  rw [trm_same]
  refine ⟨fun x hx => ?_, fun x hx => ?_⟩
  · rw [beq_eq_false_iff_ne]
    exact dec_ne (by decide) (List.mem_of_head? hx)
  · rw [beq_eq_false_iff_ne]
    exact dec_ne (by decide) (List.mem_of_getLast? hx)
/-- The last line of a head. -/
def clnL (n : Nat) : List UInt8 := clenL ++ 58 :: 32 :: Lib.decDigits n
theorem cln_text (n : Nat) : (clT ++ decN n).data.toList = clnL n := by
  rw [app_l]
  show clT.data.toList ++ (bU (Lib.decDigits n)).data.toList = _
  rw [bU_data]
  rfl
theorem cln_facts (n : Nat) (h : n ≤ 20000) : Lib.index (clnL n) [58] = 14 ∧ (rowF (clnL n)).1.data.toList = clenL ∧ (rowF (clnL n)).2.data.toList = Lib.decDigits n ∧ NC (clnL n) ∧ clnL n ≠ [] ∧ (clnL n).length ≤ 21 := by
  have hi : Lib.index (clnL n) [58] = 14 := ix1 58 _ (l := clenL) (by decide)
  have hr : rowF (clnL n) = (bU clenL, bU (Lib.decDigits n)) := by
    unfold rowF
    rw [hi]
    have c := cut1 58 clenL (32 :: Lib.decDigits n)
    unfold clnL
    rw [show ((14 : Int).toNat) = clenL.length from rfl, c.1, c.2, trm_bl _ (dec_trm n)]
    rfl
  refine ⟨hi, by rw [hr, bU_data], by rw [hr, bU_data], nc_of fun x hx => ?_, ?_, ?_⟩
  · unfold clnL at hx
    rcases List.mem_append.1 hx with q | q
    · exact (show ∀ x ∈ clenL, x ≠ 13 from by decide) x q
    · rcases List.mem_cons.1 q with rfl | q
      · decide
      · rcases List.mem_cons.1 q with rfl | q
        · decide
        · exact dec_ne (by decide) q
  · unfold clnL; simp
  · unfold clnL
    have := (decG_len 4 n (by omega)).2
    rw [List.length_append, List.length_cons, List.length_cons]
    have e : clenL.length = 14 := rfl
    omega
theorem fld_rows (num : List UInt8 → Int) (ls : List (List UInt8)) : ∀ (hs : List Hd) (s : St), (∀ h ∈ hs, hrwB h = true) → fldF num (hs.map hlnL ++ ls) s = fldF num ls ⟨s.rows ++ hs, s.len, s.told⟩
  | [], s, _ => by rw [List.map_nil, List.nil_append, List.append_nil]
  | h :: hs, s, hh => by
    have h0 := hh h (by simp)
    obtain ⟨f1, f2, _⟩ := hln_facts h0
    obtain ⟨p1, _⟩ := hrw_parts h0
    rw [List.map_cons, List.cons_append, fldF, f1, if_neg (by omega), f2, if_neg p1, fld_rows num ls hs _ fun x hx => hh x (List.mem_cons_of_mem _ hx)]
    simp
theorem linF_all (b : List UInt8) : ∀ (ls : List (List UInt8)) (f : Nat), ls.length < f → (∀ l ∈ ls, NC l ∧ l ≠ []) → linF f (lnS ls ++ 13 :: 10 :: b) = some (ls, b)
  | [], f, h, _ => by
    obtain ⟨f, rfl⟩ : ∃ g, f = g + 1 := ⟨f - 1, by simp at h; omega⟩
    exact linF_end b
  | l :: ls, f, h, hl => by
    obtain ⟨f, rfl⟩ : ∃ g, f = g + 1 := ⟨f - 1, by simp at h; omega⟩
    have h1 := hl l (by simp)
    rw [lnS_cons, List.append_assoc, List.cons_append, List.cons_append, linF_line h1.1 h1.2, linF_all b ls f (by simp at h; omega) fun x hx => hl x (List.mem_cons_of_mem _ hx)]
/-- The lines of a head. -/
def hedL (hs : List Hd) (n : Nat) : List (List UInt8) := hs.map hlnL ++ [clnL n]
theorem rest_l (hs : List Hd) (bd : ByteArray) : (restT hs bd).data.toList = lnS (hedL hs bd.size) ++ 13 :: 10 :: bd.data.toList := by
  have e1 : (accR hs).data.toList = lnS (hs.map hlnL) := by
    rw [accR_l]
    unfold lnS
    rw [List.map_map]
    congr 1
    apply List.map_congr_left
    intro h _
    show (rowT csT h).data.toList ++ crT.data.toList = hlnL h ++ [13, 10]
    rw [hln_row]
    rfl
  have e2 : crcrT.data.toList = [13, 10, 13, 10] := rfl
  unfold restT hedL
  rw [app_l, app_l, show accR hs ++ clT ++ decN bd.size = accR hs ++ (clT ++ decN bd.size) from by rw [ByteArray.append_assoc], app_l, cln_text, e1, e2, lnS_cat, lnS_cons, lnS_nil]
  simp
theorem tail_parts {hs : List Hd} {bd : ByteArray} (h : tailB hs bd = true) : fitB hrwB hs = true ∧ hs.length ≤ 20 ∧ (∀ x ∈ hs, hrwB x = true) ∧ bd.size ≤ 20000 := by
  unfold tailB at h
  rw [Bool.and_eq_true, decide_eq_true_eq] at h
  have h1 := h.1
  unfold fitB at h1
  rw [Bool.and_eq_true, decide_eq_true_eq, List.all_eq_true] at h1
  exact ⟨h.1, h1.1, h1.2, h.2⟩
theorem hed_ok {hs : List Hd} {bd : ByteArray} (h : tailB hs bd = true) : ∀ l ∈ hedL hs bd.size, NC l ∧ l ≠ [] := by
  obtain ⟨_, _, t3, t4⟩ := tail_parts h
  intro l hl
  unfold hedL at hl
  rcases List.mem_append.1 hl with q | q
  · obtain ⟨x, hx, rfl⟩ := List.mem_map.1 q
    have := hln_facts (t3 x hx)
    exact ⟨this.2.2.1, this.2.2.2.1⟩
  · rw [List.mem_singleton.1 q]
    have := cln_facts bd.size t4
    exact ⟨this.2.2.2.1, this.2.2.2.2.1⟩
theorem lns_size : ∀ {ls : List (List UInt8)} {k : Nat}, (∀ l ∈ ls, l.length ≤ k) → (lnS ls).length ≤ ls.length * (k + 2)
  | [], _, _ => by simp [lnS_nil]
  | l :: ls, k, h => by
    have h1 := h l (by simp)
    have h2 := lns_size fun x hx => h x (List.mem_cons_of_mem l hx)
    rw [lnS_cons, List.length_append, List.length_cons, List.length_cons, List.length_cons, Nat.add_mul]
    omega
/-- What stands behind the first line comes back. -/
theorem tal_back {hs : List Hd} {bd : ByteArray} (h : tailB hs bd = true) : talF (numG 20000) (restT hs bd).data.toList = (0, hs, bd.data.toList) ∧ (restT hs bd).data.toList.length ≤ 32000 := by
  obtain ⟨t1, t2, t3, t4⟩ := tail_parts h
  have hr := rest_l hs bd
  have hz : ∀ l ∈ hedL hs bd.size, l.length ≤ 562 := by
    intro l hl
    unfold hedL at hl
    rcases List.mem_append.1 hl with q | q
    · obtain ⟨x, hx, rfl⟩ := List.mem_map.1 q
      exact (hln_facts (t3 x hx)).2.2.2.2
    · rw [List.mem_singleton.1 q]
      have := (cln_facts bd.size t4).2.2.2.2.2
      omega
  have hl2 := lns_size hz
  have hll : (hedL hs bd.size).length ≤ 21 := by unfold hedL; rw [List.length_append, List.length_map, List.length_singleton]; omega
  have hl3 := lnS_len (hedL hs bd.size)
  have hbl : bd.data.toList.length = bd.size := by simp
  have hlin : linF ((restT hs bd).data.toList.length + 1) (restT hs bd).data.toList = some (hedL hs bd.size, bd.data.toList) := by
    rw [hr]
    refine linF_all _ _ _ ?_ (hed_ok h)
    rw [List.length_append, List.length_cons, List.length_cons]
    omega
  refine ⟨?_, ?_⟩
  · rw [tal_some hlin]
    obtain ⟨c1, c2, c3, _⟩ := cln_facts bd.size t4
    have hn : numG 20000 (Lib.decDigits bd.size) = (bd.size : Int) := by
      rcases numG_is 20000 (by decide) (Lib.decDigits bd.size) with ⟨_, q⟩ | ⟨m, q1, q2, q3⟩
      · exact absurd rfl (q bd.size t4)
      · have e1 := digG_dec bd.size
        rw [q2, digG_dec] at e1
        rw [q3]
        exact Option.some.inj e1
    have hf : fldF (numG 20000) (hedL hs bd.size) ⟨[], 0, false⟩ = some ⟨hs, bd.size, true⟩ := by
      unfold hedL
      rw [fld_rows _ _ _ _ t3, fldF, c1, if_neg (by decide), if_pos c2, c3, hn, if_neg (by simp <;> omega), fldF, List.nil_append]
    rw [hf, okS, if_pos t1]
    simp only
    rw [if_pos (by rw [hbl])]
  · rw [hr, List.length_append, List.length_cons, List.length_cons]
    have : (hedL hs bd.size).length * (562 + 2) ≤ 21 * (562 + 2) := Nat.mul_le_mul_right _ hll
    omega
end Plain
end Go.Proofs.YtanekbifdedmeaaGreatDoor
