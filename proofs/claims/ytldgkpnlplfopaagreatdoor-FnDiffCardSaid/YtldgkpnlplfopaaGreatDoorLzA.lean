/- Texts of one kind, put together. -/
import Derived.Test.YtldgkpnlplfopaaGreatDoorKzA
import Derived.Test.YtldgkpnlplfopaaGreatDoorUzA

/- The texts that another list has not, by the specification. -/
namespace Go.Proofs.YtldgkpnlplfopaaGreatDoor
open Go.RowKit Go.Maps Plain
set_option linter.unusedVariables false

set_option maxRecDepth 10000 in
set_option maxHeartbeats 2000000 in
theorem l7Less_calls (a : Option Addr) (n c : Nat) (ls : List ByteArray) (a2 : Option Addr) (n2 c2 : Nat) (bs : List ByteArray) (w : World) (hr : RowAt strE w a ls) (hn : ls.length = n) (hn2 : n ≤ 1000000) (hr2 : StrsAt w a2 bs) (hm : bs.length = n2) (hm2 : n2 ≤ 1000000) :
    Calls Tryz.prog 20 #[.slice a n c, .slice a2 n2 c2] w fun e w' => ∃ v, e = .returned v ∧ OwnR strE w' w.heap.size v (ls.filter fun x => !anyB bs x) ∧ Below w.heap.size w w' := by
  have HD := hide (fun (W : World) (hW : Below w.heap.size w W) => hr.below hW)
  have HH := hide (fun (W : World) (hW : Below w.heap.size w W) (s : ByteArray) => l1Has_calls a2 n2 c2 bs s W hm (by omega) (hr2.below hW))
  have HLN := hide hn
  clear hr hr2 hn hm
  go_enter Tryz.func20, Tryz.ntmps20
  go_wp2_with fail
  go_loopw [5, 6] (fun s5 s6 wr => ∃ (i : Nat) (ta : Option Addr) (tc tn : Nat), s6 = .int .i64 i ∧ s5 = .slice ta tn tc ∧ i ≤ n ∧ Hid (OwnR strE wr w.heap.size (.slice ta tn tc) ((ls.take i).filter fun x => !anyB bs x)) ∧ Hid (Below w.heap.size w wr)) (fun _ s6 _ => n - (intOf s6).toNat)
  case atStart => exact ⟨0, _, _, _, rfl, rfl, by omega, hide (ownR_empty strE _ _ (Nat.le_refl _)), hide ((Below.refl _ _).alloc (Nat.le_refl _) _)⟩
  case round =>
    obtain ⟨i, ta, tc, tn, rfl, rfl, hi, HO, HB⟩ := hrel
    by_cases hlt : i < n
    · have hil : i < ls.length := by rw [unhide HLN]; exact hlt
      obtain ⟨g, rfl, hgl, hc, -⟩ := (unhide HD wr (unhide HB)).str i hil
      have HNX := hide (show (ls.take (i + 1)).filter (fun x => !anyB bs x) = (ls.take i).filter (fun x => !anyB bs x) ++ (if anyB bs ls[i] = true then [] else [ls[i]]) from by
        rw [List.take_succ_eq_append_getElem hil, List.filter_append]
        cases h9 : anyB bs ls[i] <;> simp [h9])
      have hfl : ((ls.take i).filter fun x => !anyB bs x).length ≤ i := Nat.le_trans (List.length_filter_le _ _) (by rw [List.length_take]; omega)
      have HHS := hide (unhide HH wr (unhide HB) ls[i])
      generalize ls[i] = x at hc HNX HHS
      have i0 : (0 : Int) ≤ (i : Int) := by omega
      have i1 : (i : Int) < (n : Int) := by omega
      have hBz := (unhide HB).size
      cases h9 : anyB bs x with
      | true =>
        rw [h9] at HHS HNX
        rw [if_pos rfl, List.append_nil] at HNX
        clear h9
        go_wp2_with fail
        refine (unhide HHS).mono ?_
        rintro e w2 ⟨rfl, rfl⟩
        go_wp2_with fail
        go_roundw
        case rel => exact ⟨i + 1, ta, tc, tn, by go_num, rfl, by omega, hide (by rw [unhide HNX]; exact unhide HO), HB⟩
        case measure => simp [intOf]; omega
      | false =>
        rw [h9] at HHS HNX
        rw [if_neg (by simp)] at HNX
        clear h9
        go_wp2_with fail
        refine (unhide HHS).mono ?_
        rintro e w2 ⟨rfl, rfl⟩
        go_wp2_with (at_builtin; refine appR rfl _ _ rfl (unhide HO) rfl x rfl _ rfl rfl (by omega) hBz ?_; intro v5 w5 hO5 hb5 _; obtain ⟨a5, c5, rfl⟩ := hO5.form; have HO5 := hide hO5; have HB5 := hide ((unhide HB).trans hb5); clear hO5 hb5)
        go_roundw
        case rel => exact ⟨i + 1, a5, c5, _, by go_num, rfl, by omega, hide (by rw [unhide HNX]; simpa using unhide HO5), HB5⟩
        case measure => simp [intOf]; omega
    · obtain rfl : i = n := by omega
      have hO := unhide HO
      rw [List.take_of_length_le (by rw [unhide HLN]; exact Nat.le_refl _)] at hO
      have HX := hide hO
      clear hO HO
      go_wp2_with fail
      go_ret
      exact ⟨_, rfl, unhide HX, unhide HB⟩
end Go.Proofs.YtldgkpnlplfopaaGreatDoor


/- CutFrom by both. -/
namespace Go.Proofs.YtldgkpnlplfopaaGreatDoor
open Go.RowKit Go.Maps Plain
set_option linter.unusedVariables false

namespace Plain
open Classical in
/-- A digest cut out of a list. -/
noncomputable def delB (d : ByteArray) (ls : List ByteArray) : List ByteArray := ls.filter (fun x => decide (x ≠ d))
theorem delB_mem {d : ByteArray} {ls : List ByteArray} (x : ByteArray) : x ∈ delB d ls ↔ x ∈ ls ∧ x ≠ d := by
  unfold delB
  simp only [List.mem_filter, decide_eq_true_eq]
theorem delB_strict {d : ByteArray} {ls : List ByteArray} (h : Strict ls) : Strict (delB d ls) := List.Pairwise.filter _ h
theorem delB_len {d : ByteArray} {ls : List ByteArray} (h : Strict ls) (hd : d ∈ ls) : (delB d ls).length + 1 = ls.length := by
  have : ls.Perm (d :: delB d ls) := (List.perm_ext_iff_of_nodup (nodupK h) (List.nodup_cons.2 ⟨fun q => ((delB_mem d).1 q).2 rfl, nodupK (delB_strict h)⟩)).2 fun x => by
    rw [List.mem_cons, delB_mem]
    by_cases e : x = d
    · subst e; simp [hd]
    · simp [e]
  rw [this.length_eq]
  simp
theorem delB_any (d : ByteArray) (ls : List ByteArray) : (ls.filter fun x => !anyB [d] x) = delB d ls := by
  unfold delB
  apply List.filter_congr
  intro x _
  by_cases e : x = d
  · subst e
    rw [(anyB_mem [x] x).2 (by simp)]
    simp
  · have : anyB [d] x = false := by
      rw [Bool.eq_false_iff]
      exact fun q => e (by simpa using (anyB_mem [d] x).1 q)
    rw [this]
    simp [e]
def cutOk (ls : List ByteArray) (d : ByteArray) : Prop := setB ls = true ∧ d ∈ ls
def CutP (ls : List ByteArray) (d : ByteArray) (ok : Bool) (out : List ByteArray) : Prop := (ok = true ∧ cutOk ls d ∧ out = delB d ls) ∨ (ok = false ∧ ¬ cutOk ls d ∧ out = [])
theorem cut_len {ls : List ByteArray} {d : ByteArray} {ok : Bool} {out : List ByteArray} (h : CutP ls d ok out) : out.length ≤ 200 := by
  rcases h with ⟨_, q, rfl⟩ | ⟨_, _, rfl⟩
  · have := (setB_all q.1).1
    have h2 : (delB d ls).length ≤ ls.length := List.length_filter_le _ _
    omega
  · simp
theorem cut_one {ls : List ByteArray} {d : ByteArray} {ok ok' : Bool} {out out' : List ByteArray} (h : CutP ls d ok out) (h' : CutP ls d ok' out') : ok = ok' ∧ out = out' := by
  rcases h with ⟨rfl, q, rfl⟩ | ⟨rfl, q, rfl⟩ <;> rcases h' with ⟨rfl, q', rfl⟩ | ⟨rfl, q', rfl⟩
  · exact ⟨rfl, rfl⟩
  · exact absurd q q'
  · exact absurd q' q
  · exact ⟨rfl, rfl⟩
end Plain
/-- 'delete(s, k)'. -/
theorem Plain.KSet.del {w w' : World} {b nn mm : Nat} {ls : List ByteArray} {D : DataW Unit} (hown : w.ownsMap Tryz.prog 63 anyR b nn D) (hD : Maps.size D = ls.length ∧ ∀ x : List UInt8, x.length = 32 → (Maps.has D (keyLK x) = true ↔ x ∈ ls.map kyL)) (h1 : ∀ s ∈ ls, digB s = true) (hst : Strict ls) {d : ByteArray} (hd : d ∈ ls)
    (hown2 : w'.ownsMap Tryz.prog 63 anyR b mm (D.del (keyLK (kyL d)))) : KSet w' b mm ((delB d ls).map kyL) := by
  have hh : Maps.has D (keyLK (kyL d)) = true := (hD.2 _ (kyL_len d)).2 ((mem_kyL h1 (h1 d hd)).2 hd)
  refine ⟨_, hown2, ?_, fun x hx => ?_⟩
  · have h3 := size_del (k := keyLK (kyL d)) (hown.tidy keyedK)
    rw [hh, if_pos rfl, hD.1] at h3
    have := delB_len hst hd
    rw [List.length_map]
    omega
  · by_cases e : x = kyL d
    · subst e
      have : kyL d ∉ (delB d ls).map kyL := fun q => by
        obtain ⟨y, hy, e⟩ := List.mem_map.1 q
        have h4 := (delB_mem y).1 hy
        exact h4.2 (kyL_inj (h1 y h4.1) (h1 d hd) e)
      simp [has_del_same, this]
    · rw [has_del_other (fun q => e (keyLK_inj hx (kyL_len d) q)), hD.2 x hx, List.mem_map, List.mem_map]
      constructor
      · rintro ⟨y, hy, rfl⟩
        exact ⟨y, (delB_mem y).2 ⟨hy, fun q => e (by rw [q])⟩, rfl⟩
      · rintro ⟨y, hy, rfl⟩
        exact ⟨y, ((delB_mem y).1 hy).1, rfl⟩

end Go.Proofs.YtldgkpnlplfopaaGreatDoor

/- CutFrom by the program. -/
namespace Go.Proofs.YtldgkpnlplfopaaGreatDoor
open Go.RowKit Go.Maps Plain
set_option linter.unusedVariables false

end Go.Proofs.YtldgkpnlplfopaaGreatDoor

/- What is put into a set lies under its prefixes and leaves it again: the mathematics. -/
namespace Go.Proofs.YtldgkpnlplfopaaGreatDoor
open Go.RowKit Go.Maps Plain
set_option linter.unusedVariables false

namespace Plain
theorem okS_of : ∀ (ls : List ByteArray) (p : Option ByteArray), (∀ s ∈ ls, digB s = true) → Strict ls → (∀ q, p = some q → ∀ s ∈ ls, ltB q s) → okS p ls = true
  | [], _, _, _, _ => rfl
  | s :: r, p, h1, h2, h3 => by
    have h2' := List.pairwise_cons.1 h2
    have hp : ltO p s = true := by
      cases p with
      | none => rfl
      | some q => exact (less_ltB q s).2 (h3 q rfl s (by simp))
    rw [okS, h1 s (by simp), hp, okS_of r (some s) (fun x hx => h1 x (List.mem_cons_of_mem _ hx)) h2'.2 (fun q e x hx => by
      have e2 : s = q := by simpa using e
      subst e2
      exact h2'.1 x hx)]
    rfl
theorem setB_of {ls : List ByteArray} (h0 : ls.length ≤ 200) (h1 : ∀ s ∈ ls, digB s = true) (h2 : Strict ls) : setB ls = true := by
  unfold setB
  rw [okS_of ls none h1 h2 (fun q e => by cases e), decide_eq_true h0]
  rfl
theorem ins_set {ls : List ByteArray} {d : ByteArray} (h : addOk ls d) : setB (insB d ls) = true := by
  obtain ⟨h1, h2, h3⟩ := h
  obtain ⟨a1, a2, a3⟩ := setB_all h1
  refine setB_of h3 (fun s hs => ?_) (insB_strict a3)
  rcases (insB_mem s).1 hs with q | q
  · exact a2 s q
  · rw [q]; exact h2
theorem cut_ins {ls : List ByteArray} {d : ByteArray} (h : addOk ls d) : cutOk (insB d ls) d := ⟨ins_set h, (insB_mem d).2 (.inr rfl)⟩
theorem del_not {ls : List ByteArray} {d : ByteArray} : d ∉ delB d ls := fun q => ((delB_mem d).1 q).2 rfl
theorem del_ins {ls : List ByteArray} {d : ByteArray} (h : addOk ls d) (hn : d ∉ ls) : delB d (insB d ls) = ls := by
  have hs := (setB_all h.1).2.2
  refine strict_ext (delB_strict (insB_strict hs)) hs fun x => ?_
  rw [delB_mem, insB_mem]
  constructor
  · rintro ⟨q | q, e⟩
    · exact q
    · exact absurd q e
  · intro q
    exact ⟨.inl q, fun e => hn (e ▸ q)⟩
theorem pre_size {d : ByteArray} (hd : digB d = true) {k : Nat} (hk : k ≤ 2) : (d.extract 7 (7 + k)).size = k := by
  have := (digB_form hd).1
  rw [ByteArray.size_extract]
  omega
theorem pre_self {d : ByteArray} (hd : digB d = true) {k : Nat} (hk : k ≤ 2) : preB (d.extract 7 (7 + k)) d = true := by
  unfold preB
  rw [pre_size hd hk]
  simp
theorem pre_ok {d : ByteArray} (hd : digB d = true) {k : Nat} (hk : k ≤ 2) : prB (d.extract 7 (7 + k)) = true := by
  unfold prB
  rw [pre_size hd hk, Bool.and_eq_true]
  refine ⟨?_, by simp; omega⟩
  unfold hexFrom
  rw [List.drop_zero, List.all_eq_true]
  intro c hc
  refine decide_eq_true ((digB_form hd).2.2.2 c ?_)
  have e : (d.extract 7 (7 + k)).data.toList = (d.data.toList.drop 7).take k := by simp [List.extract_eq_take_drop]
  rw [e] at hc
  exact List.mem_of_mem_take hc
theorem und_has {ls : List ByteArray} {d : ByteArray} (h : addOk ls d) {k : Nat} (hk : k ≤ 2) : d ∈ undL (insB d ls) (d.extract 7 (7 + k)) := by
  unfold undL
  rw [ins_set h, pre_ok h.2.1 hk]
  simp only [Bool.and_self, if_true, List.mem_filter]
  exact ⟨(insB_mem d).2 (.inr rfl), pre_self h.2.1 hk⟩
theorem und_len {ls : List ByteArray} (h : setB ls = true) (p : ByteArray) : (undL ls p).length ≤ 200 := by
  have := (setB_all h).1
  unfold undL
  split
  · have := List.length_filter_le (preB p) ls
    omega
  · simp
theorem und_sub {ls : List ByteArray} (p : ByteArray) : ∀ s ∈ undL ls p, s ∈ ls := by
  unfold undL
  split
  · exact fun s hs => (List.mem_filter.1 hs).1
  · intro s hs; cases hs
end Plain
end Go.Proofs.YtldgkpnlplfopaaGreatDoor

