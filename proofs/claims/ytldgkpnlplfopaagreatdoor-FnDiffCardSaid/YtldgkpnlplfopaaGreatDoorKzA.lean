/- Texts of one kind, put together. -/
import Derived.Test.YtldgkpnlplfopaaGreatDoorKyT
import Derived.Test.YtldgkpnlplfopaaGreatDoorSetI
import Derived.Deep.QuietTactic
import Derived.BigQuiet

/- AddTo by the program. -/
namespace Go.Proofs.YtldgkpnlplfopaaGreatDoor
open Go.RowKit Go.Maps Plain
set_option linter.unusedVariables false

namespace Plain
open Classical in
/-- A digest put into a rising list. -/
noncomputable def insB (d : ByteArray) (ls : List ByteArray) : List ByteArray := ls.filter (fun x => decide (ltB x d)) ++ d :: ls.filter (fun x => decide (ltB d x))
theorem insB_mem {d : ByteArray} {ls : List ByteArray} (x : ByteArray) : x ∈ insB d ls ↔ x ∈ ls ∨ x = d := by
  unfold insB
  simp only [List.mem_append, List.mem_cons, List.mem_filter, decide_eq_true_eq]
  constructor
  · rintro (h | h | h)
    · exact .inl h.1
    · exact .inr h
    · exact .inl h.1
  · rintro (h | h)
    · by_cases e : x = d
      · exact .inr (.inl e)
      · by_cases q : ltB x d
        · exact .inl ⟨h, q⟩
        · exact .inr (.inr ⟨h, ltB_tri q e⟩)
    · exact .inr (.inl h)
theorem insB_strict {d : ByteArray} {ls : List ByteArray} (h : Strict ls) : Strict (insB d ls) := by
  unfold insB Strict
  rw [List.pairwise_append, List.pairwise_cons]
  refine ⟨List.Pairwise.filter _ h, ⟨fun y hy => ?_, List.Pairwise.filter _ h⟩, fun y hy z hz => ?_⟩
  · simpa using (List.mem_filter.1 hy).2
  · have h1 : ltB y d := by simpa using (List.mem_filter.1 hy).2
    rcases List.mem_cons.1 hz with e | e
    · rw [e]; exact h1
    · exact ltB_trans h1 (by simpa using (List.mem_filter.1 e).2)
theorem nodupK {ls : List ByteArray} (h : Strict ls) : ls.Nodup := h.imp (fun {a b} q e => by rw [e] at q; exact ltB_irrefl _ q)
open Classical in
theorem insB_len {d : ByteArray} {ls : List ByteArray} (h : Strict ls) : (insB d ls).length = if d ∈ ls then ls.length else ls.length + 1 := by
  by_cases q : d ∈ ls
  · rw [if_pos q, strict_ext (insB_strict h) h (fun x => by rw [insB_mem]; exact ⟨fun e => e.elim id (fun e => e ▸ q), .inl⟩)]
  · rw [if_neg q]
    have : (insB d ls).Perm (d :: ls) := (List.perm_ext_iff_of_nodup (nodupK (insB_strict h)) (List.nodup_cons.2 ⟨q, nodupK h⟩)).2 fun x => by rw [insB_mem, List.mem_cons, or_comm]
    rw [this.length_eq]
    simp
theorem map_back {ls : List ByteArray} (h : ∀ s ∈ ls, digB s = true) : (ls.map kyL).map dgT = ls := by
  rw [List.map_map]
  conv => rhs; rw [← List.map_id ls]
  apply List.map_congr_left
  intro x hx
  exact dgT_kyL (h x hx)
theorem mem_kyL {ls : List ByteArray} (h : ∀ s ∈ ls, digB s = true) {d : ByteArray} (hd : digB d = true) : kyL d ∈ ls.map kyL ↔ d ∈ ls := by
  rw [List.mem_map]
  exact ⟨fun ⟨y, hy, e⟩ => kyL_inj (h y hy) hd e ▸ hy, fun q => ⟨d, q, rfl⟩⟩
def addOk (ls : List ByteArray) (d : ByteArray) : Prop := setB ls = true ∧ digB d = true ∧ (insB d ls).length ≤ 200
end Plain
/-- 's[k] = struct{}{}'. -/
theorem Plain.KSet.upd {w w' : World} {b nn : Nat} {ls : List ByteArray} {D : DataW Unit} (hown : w.ownsMap Tryz.prog 63 anyR b nn D) (hD : Maps.size D = ls.length ∧ ∀ x : List UInt8, x.length = 32 → (Maps.has D (keyLK x) = true ↔ x ∈ ls.map kyL)) (h1 : ∀ s ∈ ls, digB s = true) (hst : Strict ls) {d : ByteArray} (hd : digB d = true) {u : DataW Unit}
    (hown2 : w'.ownsMap Tryz.prog 63 anyR b (nn + 1) (D.put (keyLK (kyL d)) u)) : KSet w' b (nn + 1) ((insB d ls).map kyL) := by
  refine ⟨_, hown2, ?_, fun x hx => ?_⟩
  · rw [size_put (hown.tidy keyedK), List.length_map, insB_len hst, hD.1]
    by_cases q : d ∈ ls
    · rw [if_pos q, if_pos ((hD.2 _ (kyL_len d)).2 ((mem_kyL h1 hd).2 q))]
    · rw [if_neg q, if_neg (fun e => q ((mem_kyL h1 hd).1 ((hD.2 _ (kyL_len d)).1 e)))]
  · by_cases e : x = kyL d
    · subst e
      have : kyL d ∈ (insB d ls).map kyL := List.mem_map.2 ⟨d, (insB_mem d).2 (.inr rfl), rfl⟩
      simp [has_put_same hown.isMap (keyLK_ok _), this]
    · rw [has_put_other (fun q => e (keyLK_inj hx (kyL_len d) q)), hD.2 x hx, List.mem_map, List.mem_map]
      constructor
      · rintro ⟨y, hy, rfl⟩
        exact ⟨y, (insB_mem y).2 (.inl hy), rfl⟩
      · rintro ⟨y, hy, rfl⟩
        rcases (insB_mem y).1 hy with q | q
        · exact ⟨y, q, rfl⟩
        · subst q; exact absurd rfl e

end Go.Proofs.YtldgkpnlplfopaaGreatDoor

/- Sets of digests: when they are right, by the specification. -/
namespace Go.Proofs.YtldgkpnlplfopaaGreatDoor
open Go.RowKit Plain
set_option linter.unusedVariables false

namespace Plain
def risS : Option ByteArray → List ByteArray → Bool
  | _, [] => true
  | p, s :: r => ltO p s && risS (some s) r
theorem risS_step (ls : List ByteArray) (k : Nat) (h : k < ls.length) : risS (prevS ls k) (ls.drop k) = (ltO (prevS ls k) ls[k] && risS (prevS ls (k + 1)) (ls.drop (k + 1))) := by
  rw [List.drop_eq_getElem_cons h, risS, prevS, List.getElem?_eq_getElem h]
theorem okS_split : ∀ (l : List ByteArray) (p : Option ByteArray), okS p l = (risS p l && l.all digB)
  | [], _ => rfl
  | s :: r, p => by
    rw [okS, okS_split r, risS, List.all_cons]
    cases digB s <;> cases ltO p s <;> simp
theorem belQS {B : Nat} {w w' : World} (h : Below B w w') (k : Nat) : Below B w (w'.drewN k) := ⟨h.os, h.tape, h.output, h.size, h.block⟩
end Plain

set_option maxRecDepth 10000 in
set_option maxHeartbeats 2000000 in
theorem l1Rises_calls (a : Option Addr) (n c : Nat) (ls : List ByteArray) (w : World) (h : TxtsAt w a n ls) :
    Calls Tryz.prog 34 #[.slice a n c] w fun e w' => e = .returned (.bool (risS none ls)) ∧ Below w.heap.size w w' := by
  have HLN := hide h.len
  have hbn := h.bn
  have HD := hide (fun (W : World) (hW : Below w.heap.size w W) => h.below hW)
  obtain ⟨R, hR⟩ : ∃ R, risS none ls = R := ⟨_, rfl⟩
  have HR := hide (show (if n = 0 then true else risS (prevS ls 1) (ls.drop 1)) = R from by
    rw [← hR]
    cases ls with
    | nil => rw [if_pos (by have := h.len; simp at this; omega)]; rfl
    | cons s r => rw [if_neg (by have := h.len; simp at this; omega)]; simp [risS, ltO, prevS])
  rw [hR]
  clear h hR
  go_enter Tryz.func34, Tryz.ntmps34
  go_wp2_with fail
  by_cases hn0 : n = 0
  · subst hn0
    have hr := unhide HR
    rw [if_pos rfl] at hr
    have HX := hide hr.symm
    clear hr HR
    refine wp_loop_rounds 1 ?_
    rw [rounds_succ]
    go_wp2_with fail
    go_ret
    exact ⟨by rw [unhide HX]; rfl, Below.refl _ _⟩
  have hr := unhide HR
  rw [if_neg hn0] at hr
  have HR2 := hide hr
  clear hr HR
  go_loopw [3] (fun s3 wr => ∃ (k : Nat), s3 = .int .i64 ((k + 1 : Nat) : Int) ∧ k + 1 ≤ n ∧ Hid (risS (prevS ls (k + 1)) (ls.drop (k + 1)) = R) ∧ Hid (Below w.heap.size w wr)) (fun s3 _ => n - (intOf s3).toNat)
  case atStart => exact ⟨0, rfl, by omega, HR2, hide (Below.refl _ _)⟩
  case round =>
    clear HR2
    obtain ⟨k, rfl, hk, HO, HB⟩ := hrel
    by_cases hkn : k + 1 < n
    · have hkl : k + 1 < ls.length := by rw [unhide HLN]; exact hkn
      have hkl0 : k < ls.length := by omega
      obtain ⟨g, e1, l1, p1, -⟩ := (unhide HD wr (unhide HB)).row.str (k + 1) hkl
      obtain ⟨g', e2, l2, p0, -⟩ := (unhide HD wr (unhide HB)).row.str k hkl0
      have hst := risS_step ls (k + 1) hkl
      rw [unhide HO, show prevS ls (k + 1) = some ls[k] from by rw [prevS, List.getElem?_eq_getElem hkl0]] at hst
      generalize ls[k + 1] = s at p1 hst
      generalize ls[k] = q at p0 hst
      subst e1
      cases e2
      change R = (Op.bytesLess q.toList s.toList && _) at hst
      obtain ⟨lt, hlt⟩ : ∃ lt, Op.bytesLess q.toList s.toList = lt := ⟨_, rfl⟩
      rw [hlt] at hst
      have hle := le_not s q lt hlt
      have HST := hide hst
      have j0 : (0 : Int) ≤ (k : Int) := by omega
      have j1 : (k : Int) < (n : Int) := by omega
      have i0 : (0 : Int) ≤ ((k + 1 : Nat) : Int) := by omega
      have i1 : ((k + 1 : Nat) : Int) < (n : Int) := by omega
      clear hst hlt HO
      cases lt with
      | true =>
        rw [Bool.not_true] at hle
        have HX := hide (show risS (prevS ls (k + 1 + 1)) (ls.drop (k + 1 + 1)) = R from by rw [unhide HST, Bool.true_and])
        go_wp2_with fail
        go_quiet (fail)
        go_wp2_with fail
        go_roundw
        case rel => exact ⟨k + 1, by go_num, by omega, HX, hide (belQS (unhide HB) _)⟩
        case measure => simp [intOf]; omega
      | false =>
        rw [Bool.not_false] at hle
        have HX := hide (show R = false from by rw [unhide HST]; rfl)
        go_wp2_with fail
        go_quiet (fail)
        go_wp2_with fail
        go_ret
        exact ⟨by rw [unhide HX]; rfl, belQS (unhide HB) _⟩
    · obtain rfl : k + 1 = n := by omega
      have hO := unhide HO
      rw [List.drop_of_length_le (by rw [unhide HLN]; exact Nat.le_refl _)] at hO
      have HX := hide (show R = true from hO.symm)
      clear hO HO
      go_wp2_with fail
      go_ret
      exact ⟨by rw [unhide HX]; rfl, unhide HB⟩

set_option maxRecDepth 10000 in
set_option maxHeartbeats 2000000 in
theorem l7Set_calls (a : Option Addr) (n c : Nat) (ls : List ByteArray) (w : World) (h : TxtsAt w a n ls) :
    Calls Tryz.prog 16 #[.slice a n c] w fun e w' => e = .returned (.bool (setB ls)) ∧ Below w.heap.size w w' := by
  have HLN := hide h.len
  have hbn := h.bn
  have HD := hide (fun (W : World) (hW : Below w.heap.size w W) => h.below hW)
  have HFIT := hide h.fit
  have HRI := hide (l1Rises_calls a n c ls w h)
  by_cases hbig : (200 : Int) < (n : Int)
  · have HX := hide (show setB ls = false from by unfold setB; rw [decide_eq_false (by have := h.len; omega)]; rfl)
    clear h
    go_enter Tryz.func16, Tryz.ntmps16
    go_wp2_with fail
    go_ret
    exact ⟨by rw [unhide HX]; rfl, Below.refl _ _⟩
  have hsb : setB ls = (risS none ls && ls.all digB) := by unfold setB; rw [decide_eq_true (by have := h.len; omega), okS_split]; rfl
  rw [hsb]
  clear h hsb
  cases hr : risS none ls with
  | false =>
    rw [hr] at HRI
    clear hr
    go_enter Tryz.func16, Tryz.ntmps16
    go_wp2_with fail
    refine (unhide HRI).mono ?_
    rintro e w1 ⟨rfl, hb1⟩
    have HB := hide hb1
    clear hb1
    go_wp2_with fail
    go_ret
    exact ⟨rfl, unhide HB⟩
  | true =>
    rw [hr] at HRI
    rw [Bool.true_and]
    obtain ⟨R, hR⟩ : ∃ R, ls.all digB = R := ⟨_, rfl⟩
    have HR := hide hR
    rw [hR]
    clear hr hR
    go_enter Tryz.func16, Tryz.ntmps16
    go_wp2_with fail
    refine (unhide HRI).mono ?_
    rintro e w1 ⟨rfl, hb1⟩
    have HB1 := hide hb1
    clear hb1
    go_wp2_with fail
    go_loopw [3] (fun s3 wr => ∃ (k : Nat), s3 = .int .i64 k ∧ k ≤ n ∧ Hid ((ls.drop k).all digB = R) ∧ Hid (Below w.heap.size w wr)) (fun s3 _ => n - (intOf s3).toNat)
    case atStart => exact ⟨0, rfl, by omega, HR, HB1⟩
    case round =>
      clear HR HB1
      obtain ⟨k, rfl, hk, HO, HB⟩ := hrel
      by_cases hkn : k < n
      · have hkl : k < ls.length := by rw [unhide HLN]; exact hkn
        obtain ⟨g, e1, l1, p0, -⟩ := (unhide HD wr (unhide HB)).row.str k hkl
        have hst := unhide HO
        rw [List.drop_eq_getElem_cons hkl, List.all_cons] at hst
        have hsz := unhide HFIT ls[k] (by simp)
        generalize ls[k] = s at p0 hst hsz
        have HDG := hide (spec_DigestOk s wr (by omega))
        subst e1
        have i0 : (0 : Int) ≤ (k : Int) := by omega
        have i1 : (k : Int) < (n : Int) := by omega
        have HST := hide hst
        clear hst HO
        cases hd : digB s with
        | false =>
          rw [hd] at HDG
          have HX := hide (show R = false from by rw [← unhide HST, hd]; rfl)
          clear hd
          go_wp2_with fail
          refine (unhide HDG).mono ?_
          rintro e w2 ⟨rfl, rfl⟩
          go_wp2_with fail
          go_ret
          exact ⟨by rw [unhide HX]; rfl, unhide HB⟩
        | true =>
          rw [hd] at HDG
          have HX := hide (show (ls.drop (k + 1)).all digB = R from by rw [← unhide HST, hd]; rfl)
          clear hd
          go_wp2_with fail
          refine (unhide HDG).mono ?_
          rintro e w2 ⟨rfl, rfl⟩
          go_wp2_with fail
          go_roundw
          case rel => exact ⟨k + 1, by go_num, by omega, HX, HB⟩
          case measure => simp [intOf]; omega
      · obtain rfl : k = n := by omega
        have hO := unhide HO
        rw [List.drop_of_length_le (by rw [unhide HLN]; exact Nat.le_refl _)] at hO
        have HX := hide (show R = true from hO.symm)
        clear hO HO
        go_wp2_with fail
        go_ret
        exact ⟨by rw [unhide HX]; rfl, unhide HB⟩
end Go.Proofs.YtldgkpnlplfopaaGreatDoor


/- AddTo by the specification. -/
namespace Go.Proofs.YtldgkpnlplfopaaGreatDoor
open Go.RowKit Go.Maps Plain
set_option linter.unusedVariables false

theorem Plain.StrsAt.onlyRowK {w w' : World} {a b : Option Addr} {ls : List ByteArray} (h : StrsAt w a ls) (ho : OnlyRow b w w') (hne : ∀ g o, a = some ⟨g, o, none⟩ → ∀ o', b ≠ some ⟨g, o', none⟩) : StrsAt w' a ls := fun i hi => by
  obtain ⟨g, o, e, hl, hc⟩ := h i hi
  exact ⟨g, o, e, Nat.lt_of_lt_of_le hl ho.size, (ho.cell hl (hne g o e)).trans hc⟩
theorem RowAt.onlyRowK {w w' : World} {a b : Option Addr} {ls : List ByteArray} (h : RowAt strE w a ls) (ho : OnlyRow b w w') (hne : ∀ g o, a = some ⟨g, o, none⟩ → ∀ o', b ≠ some ⟨g, o', none⟩) : RowAt strE w' a ls := by
  apply RowAt.ofS
  intro i hi
  obtain ⟨g, e, hl, hc, hf⟩ := h.str i hi
  exact ⟨g, e, Nat.lt_of_lt_of_le hl ho.size, (ho.cell hl (hne g 0 e)).trans hc, (ho.frozen hl (hne g 0 e)).trans hf⟩
theorem OwnR.blkK {w : World} {B n c : Nat} {a : Option Addr} {ls : List ByteArray} (h : OwnR strE w B (.slice a n c) ls) : ∀ g o, a = some ⟨g, o, none⟩ → B ≤ g ∧ g < w.heap.size := by
  intro g o e
  subst e
  exact World.ownsRow.lt h g rfl
theorem belOnK {w W W' : World} (h0 : Below w.heap.size w W) (h1 : Below W.heap.size W W') : Below w.heap.size w W' := h0.trans (h1.mono h0.size)
namespace Plain
def AddP (ls : List ByteArray) (d : ByteArray) (ok : Bool) (out : List ByteArray) : Prop := (ok = true ∧ addOk ls d ∧ out = insB d ls) ∨ (ok = false ∧ ¬ addOk ls d ∧ out = [])
theorem add_len {ls : List ByteArray} {d : ByteArray} {ok : Bool} {out : List ByteArray} (h : AddP ls d ok out) : out.length ≤ 200 := by
  rcases h with ⟨_, q, rfl⟩ | ⟨_, _, rfl⟩
  · exact q.2.2
  · simp
theorem add_one {ls : List ByteArray} {d : ByteArray} {ok ok' : Bool} {out out' : List ByteArray} (h : AddP ls d ok out) (h' : AddP ls d ok' out') : ok = ok' ∧ out = out' := by
  rcases h with ⟨rfl, q, rfl⟩ | ⟨rfl, q, rfl⟩ <;> rcases h' with ⟨rfl, q', rfl⟩ | ⟨rfl, q', rfl⟩
  · exact ⟨rfl, rfl⟩
  · exact absurd q q'
  · exact absurd q' q
  · exact ⟨rfl, rfl⟩
end Plain

end Go.Proofs.YtldgkpnlplfopaaGreatDoor

/- What lies under a prefix, by the specification. -/
namespace Go.Proofs.YtldgkpnlplfopaaGreatDoor
open Go.RowKit Go.Maps Plain
set_option linter.unusedVariables false

namespace Plain
def prB (p : ByteArray) : Bool := hexFrom p 0 && decide ((p.size : Int) ≤ 2)
/-- The digest's digits begin so. -/
def preB (p s : ByteArray) : Bool := (s.extract 7 (7 + p.size)).toList == p.toList
end Plain

set_option maxRecDepth 10000 in
set_option maxHeartbeats 2000000 in
theorem l7Prefix_calls (p : ByteArray) (w : World) (hp : p.size ≤ 1000000000) :
    Calls Tryz.prog 51 #[.string p] w fun e w' => e = .returned (.bool (prB p)) ∧ w = w' := by
  obtain ⟨R, hR⟩ : ∃ R, hexFrom p 0 = R := ⟨_, rfl⟩
  have HR := hide hR
  unfold prB
  rw [hR]
  clear hR
  go_enter Tryz.func51, Tryz.ntmps51
  go_wp2_with fail
  go_loopw [3] (fun s3 wr => ∃ (i : Nat), s3 = .int .i64 i ∧ i ≤ p.size ∧ Hid (hexFrom p i = R) ∧ w = wr) (fun s3 _ => p.size - (intOf s3).toNat)
  case atStart => exact ⟨0, rfl, by omega, HR, rfl⟩
  case round =>
    clear HR
    obtain ⟨i, rfl, hi, HO, rfl⟩ := hrel
    by_cases hlt : i < p.size
    · have hst := unhide HO
      rw [hexFrom_step p i hlt] at hst
      obtain ⟨q, hq, hq2⟩ : ∃ q : Nat, p[i].toNat = q ∧ q < 256 := ⟨_, rfl, p[i].toNat_lt⟩
      rw [hq] at hst
      have hi1 : (i : Int) < (p.size : Int) := by omega
      have i0 : (0 : Int) ≤ (i : Int) := by omega
      have HV := hide (spec_l1Hexit (q : Int) w (by omega) (by omega))
      have hxb := hexI_bounds (q : Int)
      generalize hexI (q : Int) = y at HV hst hxb
      by_cases hy : y < 0
      · rw [decide_eq_false (by omega)] at hst
        have HX := hide (show R = false from by rw [← hst]; rfl)
        clear hst HO
        go_wp2_with fail
        refine (unhide HV).mono ?_
        rintro e w2 ⟨rfl, rfl⟩
        go_wp2_with fail
        go_ret
        exact ⟨by rw [unhide HX]; rfl, rfl⟩
      · rw [decide_eq_true (by omega), Bool.true_and] at hst
        have HX := hide hst
        clear hst HO
        go_wp2_with fail
        refine (unhide HV).mono ?_
        rintro e w2 ⟨rfl, rfl⟩
        go_wp2_with fail
        go_roundw
        case rel => exact ⟨i + 1, by go_num, by omega, HX, trivial⟩
        case measure => simp [intOf]; omega
    · obtain rfl : i = p.size := by omega
      have hO := unhide HO
      rw [hexFrom_end _ _ (Nat.le_refl _)] at hO
      have HX := hide hO.symm
      clear hO HO
      go_wp2_with fail
      go_ret
      exact ⟨by rw [unhide HX, Bool.true_and]; rfl, rfl⟩

set_option maxRecDepth 10000 in
set_option maxHeartbeats 2000000 in
theorem l7Under_calls (a : Option Addr) (n c : Nat) (ls : List ByteArray) (p : ByteArray) (w : World) (h : TxtsAt w a n ls) (hs : ∀ s ∈ ls, s.size = 71) (hp : p.size ≤ 2) :
    Calls Tryz.prog 17 #[.slice a n c, .string p] w fun e w' => ∃ v, e = .returned v ∧ OwnR strE w' w.heap.size v (ls.filter (preB p)) ∧ Below w.heap.size w w' := by
  have HD := hide (fun (W : World) (hW : Below w.heap.size w W) => (h.below hW).row)
  have HLN := hide h.len
  have hn2 := h.bn
  have HS := hide hs
  clear h hs
  go_enter Tryz.func17, Tryz.ntmps17
  go_wp2_with fail
  go_loopw [5, 6] (fun s5 s6 wr => ∃ (i : Nat) (ta : Option Addr) (tc tn : Nat), s6 = .int .i64 i ∧ s5 = .slice ta tn tc ∧ i ≤ n ∧ Hid (OwnR strE wr w.heap.size (.slice ta tn tc) ((ls.take i).filter (preB p))) ∧ Hid (Below w.heap.size w wr)) (fun _ s6 _ => n - (intOf s6).toNat)
  case atStart => exact ⟨0, _, _, _, rfl, rfl, by omega, hide (ownR_empty strE _ _ (Nat.le_refl _)), hide ((Below.refl _ _).alloc (Nat.le_refl _) _)⟩
  case round =>
    obtain ⟨i, ta, tc, tn, rfl, rfl, hi, HO, HB⟩ := hrel
    by_cases hlt : i < n
    · have hil : i < ls.length := by rw [unhide HLN]; exact hlt
      obtain ⟨g, rfl, hgl, hc, -⟩ := (unhide HD wr (unhide HB)).str i hil
      have HNX := hide (show (ls.take (i + 1)).filter (preB p) = (ls.take i).filter (preB p) ++ (if preB p ls[i] = true then [ls[i]] else []) from by
        rw [List.take_succ_eq_append_getElem hil, List.filter_append]
        cases h9 : preB p ls[i] <;> simp [h9])
      have hfl : ((ls.take i).filter (preB p)).length ≤ i := Nat.le_trans (List.length_filter_le _ _) (by rw [List.length_take]; omega)
      have hxs := unhide HS ls[i] (List.getElem_mem _)
      generalize ls[i] = x at hc HNX hxs
      obtain ⟨k, hk⟩ : ∃ k : Nat, p.size = k := ⟨_, rfl⟩
      have i0 : (0 : Int) ≤ (i : Int) := by omega
      have i1 : (i : Int) < (n : Int) := by omega
      have hBz := (unhide HB).size
      obtain ⟨m, hm, hm2⟩ : ∃ m : Nat, 7 + p.size = m ∧ m ≤ 71 := ⟨_, rfl, by omega⟩
      have e1 : (7 : Int) + (p.size : Int) = (m : Int) := by omega
      have e2 : (7 : Int) ≤ (m : Int) := by omega
      have e3 : (m : Int) ≤ (x.size : Int) := by omega
      obtain ⟨r, h9⟩ : ∃ r, preB p x = r := ⟨_, rfl⟩
      rw [h9] at HNX
      unfold preB at h9
      rw [hm] at h9
      clear hk
      cases r with
      | false =>
        rw [if_neg (by simp), List.append_nil] at HNX
        go_wp2_with fail
        go_roundw
        case rel => exact ⟨i + 1, ta, tc, tn, by go_num, rfl, by omega, hide (by rw [unhide HNX]; exact unhide HO), HB⟩
        case measure => simp [intOf]; omega
      | true =>
        rw [if_pos rfl] at HNX
        go_wp2_with (at_builtin; refine appR rfl _ _ rfl (unhide HO) rfl x rfl _ rfl rfl (by omega) hBz ?_; intro v5 w5 hO5 hb5 _; obtain ⟨a5, c5, rfl⟩ := hO5.form; have HO5 := hide hO5; have HB5 := hide ((unhide HB).trans hb5); clear hO5 hb5)
        go_roundw
        case rel => exact ⟨i + 1, a5, c5, _, by go_num, rfl, by omega, hide (by rw [unhide HNX]; simpa using unhide HO5), HB5⟩
        case measure => simp [intOf]; omega
    · obtain rfl : i = n := by omega
      have hO := unhide HO
      rw [List.take_of_length_le (by rw [unhide HLN]; exact Nat.le_refl _)] at hO
      have HX := hide hO
      clear hO HO
      go_wp2_with fail
      go_ret
      exact ⟨_, rfl, unhide HX, unhide HB⟩
end Go.Proofs.YtldgkpnlplfopaaGreatDoor


/- Under by the specification. -/
namespace Go.Proofs.YtldgkpnlplfopaaGreatDoor
open Go.RowKit Go.Maps Plain
set_option linter.unusedVariables false

namespace Plain
/-- What Under answers. -/
def undL (ls : List ByteArray) (p : ByteArray) : List ByteArray := if setB ls && prB p then ls.filter (preB p) else []
end Plain

set_option maxRecDepth 10000 in
set_option maxHeartbeats 2000000 in
theorem spec_Under (a : Option Addr) (n c : Nat) (ls : List ByteArray) (p : ByteArray) (w : World) (h : TxtsAt w a n ls) (hp : p.size ≤ 1000000000) :
    Calls Tryz.prog 28 #[.slice a n c, .string p] w fun e w' => ∃ v, e = .returned v ∧ OwnR strE w' w.heap.size v (undL ls p) ∧ Below w.heap.size w w' := by
  have HS := hide (l7Set_calls a n c ls w h)
  have HP := hide (fun W => l7Prefix_calls p W hp)
  unfold undL
  cases hs : setB ls with
  | false =>
    rw [hs] at HS
    clear h
    go_enter Tryz.func28, Tryz.ntmps28
    go_wp2_with fail
    refine (unhide HS).mono ?_
    rintro e w1 ⟨rfl, hb1⟩
    have hz := hb1.size
    go_wp2_with fail
    go_ret
    exact ⟨_, rfl, ownR_empty strE w1 w.heap.size hz, hb1.alloc hz _⟩
  | true =>
    rw [hs] at HS
    cases hq : prB p with
    | false =>
      rw [hq] at HP
      clear h
      go_enter Tryz.func28, Tryz.ntmps28
      go_wp2_with fail
      refine (unhide HS).mono ?_
      rintro e w1 ⟨rfl, hb1⟩
      have hz := hb1.size
      go_wp2_with fail
      refine (unhide HP _).mono ?_
      rintro e w2 ⟨rfl, rfl⟩
      go_wp2_with fail
      go_ret
      exact ⟨_, rfl, ownR_empty strE w1 w.heap.size hz, hb1.alloc hz _⟩
    | true =>
      rw [hq] at HP
      have hp2 : p.size ≤ 2 := by
        unfold prB at hq
        rw [Bool.and_eq_true] at hq
        have := of_decide_eq_true hq.2
        omega
      have HU := hide (fun (W : World) (hW : Below w.heap.size w W) => l7Under_calls a n c ls p W (h.below hW) (fun s q => (digB_form ((setB_all hs).2.1 s q)).1) hp2)
      clear h
      go_enter Tryz.func28, Tryz.ntmps28
      go_wp2_with fail
      refine (unhide HS).mono ?_
      rintro e w1 ⟨rfl, hb1⟩
      have hz := hb1.size
      go_wp2_with fail
      refine (unhide HP _).mono ?_
      rintro e w2 ⟨rfl, rfl⟩
      go_wp2_with fail
      refine (unhide HU _ hb1).mono ?_
      rintro e w3 ⟨v, rfl, hO, hb3⟩
      obtain ⟨a3, c3, rfl⟩ := hO.form
      have HO := hide (OwnR.le hO hz)
      have HB := hide (hb1.trans (hb3.mono hz))
      clear hO hb3 hb1
      go_wp2_with fail
      go_ret
      exact ⟨_, rfl, unhide HO, unhide HB⟩
end Go.Proofs.YtldgkpnlplfopaaGreatDoor

