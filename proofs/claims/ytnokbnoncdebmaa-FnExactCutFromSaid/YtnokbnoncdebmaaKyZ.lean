/- CutFrom by both. -/
import Derived.Test.YtnokbnoncdebmaaKyL
namespace Go.Proofs.Ytnokbnoncdebmaa
open Go.RowKit Go.Maps Plain
set_option linter.unusedVariables false

namespace Plain
open Classical in
/-- A digest cut out of a list. -/
noncomputable def delB (d : ByteArray) (ls : List ByteArray) : List ByteArray := ls.filter (fun x => decide (x ≠ d))
theorem delB_mem {d : ByteArray} {ls : List ByteArray} (x : ByteArray) : x ∈ delB d ls ↔ x ∈ ls ∧ x ≠ d := by
  unfold delB
  simp only [List.mem_filter, decide_eq_true_eq]
theorem delB_strict {d : ByteArray} {ls : List ByteArray} (h : Strict ls) : Strict (delB d ls) := List.Pairwise.filter _ h
theorem delB_len {d : ByteArray} {ls : List ByteArray} (h : Strict ls) (hd : d ∈ ls) : (delB d ls).length + 1 = ls.length := by
  have : ls.Perm (d :: delB d ls) := (List.perm_ext_iff_of_nodup (strict_nodup h) (List.nodup_cons.2 ⟨fun q => ((delB_mem d).1 q).2 rfl, strict_nodup (delB_strict h)⟩)).2 fun x => by
    rw [List.mem_cons, delB_mem]
    by_cases e : x = d
    · subst e; simp [hd]
    · simp [e]
  rw [this.length_eq]
  simp
theorem delB_any (d : ByteArray) (ls : List ByteArray) : (ls.filter fun x => !anyB [d] x) = delB d ls := by
  unfold delB
  apply List.filter_congr
  intro x _
  by_cases e : x = d
  · subst e
    rw [(anyB_mem [x] x).2 (by simp)]
    simp
  · have : anyB [d] x = false := by
      rw [Bool.eq_false_iff]
      exact fun q => e (by simpa using (anyB_mem [d] x).1 q)
    rw [this]
    simp [e]
def cutOk (ls : List ByteArray) (d : ByteArray) : Prop := setB ls = true ∧ d ∈ ls
def CutP (ls : List ByteArray) (d : ByteArray) (ok : Bool) (out : List ByteArray) : Prop := (ok = true ∧ cutOk ls d ∧ out = delB d ls) ∨ (ok = false ∧ ¬ cutOk ls d ∧ out = [])
theorem cut_len {ls : List ByteArray} {d : ByteArray} {ok : Bool} {out : List ByteArray} (h : CutP ls d ok out) : out.length ≤ 200 := by
  rcases h with ⟨_, q, rfl⟩ | ⟨_, _, rfl⟩
  · have := (setB_all q.1).1
    have h2 : (delB d ls).length ≤ ls.length := List.length_filter_le _ _
    omega
  · simp
theorem cut_one {ls : List ByteArray} {d : ByteArray} {ok ok' : Bool} {out out' : List ByteArray} (h : CutP ls d ok out) (h' : CutP ls d ok' out') : ok = ok' ∧ out = out' := by
  rcases h with ⟨rfl, q, rfl⟩ | ⟨rfl, q, rfl⟩ <;> rcases h' with ⟨rfl, q', rfl⟩ | ⟨rfl, q', rfl⟩
  · exact ⟨rfl, rfl⟩
  · exact absurd q q'
  · exact absurd q' q
  · exact ⟨rfl, rfl⟩
end Plain
/-- 'delete(s, k)'. -/
theorem Plain.KSet.del {w w' : World} {b nn mm : Nat} {ls : List ByteArray} {D : DataW Unit} (hown : w.ownsMap Try.prog 46 anyR b nn D) (hD : Maps.size D = ls.length ∧ ∀ x : List UInt8, x.length = 32 → (Maps.has D (keyLK x) = true ↔ x ∈ ls.map kyL)) (h1 : ∀ s ∈ ls, digB s = true) (hst : Strict ls) {d : ByteArray} (hd : d ∈ ls)
    (hown2 : w'.ownsMap Try.prog 46 anyR b mm (D.del (keyLK (kyL d)))) : KSet w' b mm ((delB d ls).map kyL) := by
  have hh : Maps.has D (keyLK (kyL d)) = true := (hD.2 _ (kyL_len d)).2 ((mem_kyL h1 (h1 d hd)).2 hd)
  refine ⟨_, hown2, ?_, fun x hx => ?_⟩
  · have h3 := size_del (k := keyLK (kyL d)) (hown.tidy keyedK)
    rw [hh, if_pos rfl, hD.1] at h3
    have := delB_len hst hd
    rw [List.length_map]
    omega
  · by_cases e : x = kyL d
    · subst e
      have : kyL d ∉ (delB d ls).map kyL := fun q => by
        obtain ⟨y, hy, e⟩ := List.mem_map.1 q
        have h4 := (delB_mem y).1 hy
        exact h4.2 (kyL_inj (h1 y h4.1) (h1 d hd) e)
      simp [has_del_same, this]
    · rw [has_del_other (fun q => e (keyLK_inj hx (kyL_len d) q)), hD.2 x hx, List.mem_map, List.mem_map]
      constructor
      · rintro ⟨y, hy, rfl⟩
        exact ⟨y, (delB_mem y).2 ⟨hy, fun q => e (by rw [q])⟩, rfl⟩
      · rintro ⟨y, hy, rfl⟩
        exact ⟨y, ((delB_mem y).1 hy).1, rfl⟩

set_option maxRecDepth 100000 in
set_option maxHeartbeats 2000000 in
theorem spec_CutFrom (a : Option Addr) (n c : Nat) (ls : List ByteArray) (d : ByteArray) (w : World) (h : TxtsAt w a n ls) (had : AdG a c) (hd : d.size ≤ 1000000000) :
    Calls Try.prog 15 #[.slice a n c, .string d] w fun e w' => ∃ v ok out, e = .returned (.tuple #[v, .bool ok]) ∧ OwnR strE w' w.heap.size v out ∧ Hid ((ok = true ∧ cutOk ls d ∧ out = delB d ls) ∨ (ok = false ∧ ¬ cutOk ls d ∧ out = [])) ∧ Below w.heap.size w w' := by
  have HS := hide (l7Set_calls a n c ls w h)
  cases hs : setB ls with
  | false =>
    have HX := hide (show ¬ cutOk ls d from fun q => by rw [q.1] at hs; cases hs)
    rw [hs] at HS
    clear h had
    go_enter Try.func15, Try.ntmps15
    go_wp2_with fail
    refine (unhide HS).mono ?_
    rintro e w1 ⟨rfl, hb1⟩
    have hz := hb1.size
    go_wp2_with fail
    exact bodyPost_ret (v := .tuple #[.slice (some ⟨w1.heap.size, 0, none⟩) 0 0, .bool false]) (by simp [results, Try.results15, go_sem]) rfl ⟨_, _, [], rfl, ownR_empty strE w1 w.heap.size hz, hide (.inr ⟨rfl, unhide HX, rfl⟩), hb1.alloc hz _⟩
  | true =>
    rw [hs] at HS
    have hn := h.len
    have hn2 := h.bn
    obtain ⟨s1, s2, s3⟩ := setB_all hs
    have HRW := hide (fun (W : World) (hW : Below w.heap.size w W) => (h.below hW).row)
    have HHS := hide (fun (W : World) (hW : Below w.heap.size w W) => l1Has_calls a n c ls d W hn (by omega) (h.below hW).row.strs)
    cases hdg : anyB ls d with
    | false =>
      have HX := hide (show ¬ cutOk ls d from fun q => by rw [(anyB_mem ls d).2 q.2] at hdg; cases hdg)
      rw [hdg] at HHS
      clear h had
      go_enter Try.func15, Try.ntmps15
      go_wp2_with fail
      refine (unhide HS).mono ?_
      rintro e w1 ⟨rfl, hb1⟩
      have hz := hb1.size
      go_wp2_with fail
      refine (unhide HHS _ hb1).mono ?_
      rintro e w2 ⟨rfl, rfl⟩
      go_wp2_with fail
      exact bodyPost_ret (v := .tuple #[.slice (some ⟨w1.heap.size, 0, none⟩) 0 0, .bool false]) (by simp [results, Try.results15, go_sem]) rfl ⟨_, _, [], rfl, ownR_empty strE w1 w.heap.size hz, hide (.inr ⟨rfl, unhide HX, rfl⟩), hb1.alloc hz _⟩
    | true =>
      have HX := hide (show cutOk ls d from ⟨hs, (anyB_mem ls d).1 hdg⟩)
      rw [hdg] at HHS
      have HLE := hide (fun (W : World) (hW : Below w.heap.size w W) (g : Nat) (hg : StrsAt W (some ⟨g, 0, none⟩) [d]) => l7Less_calls a n c ls (some ⟨g, 0, none⟩) 1 1 [d] W (unhide HRW W hW) hn (by omega) hg rfl (by omega))
      clear h had hs hdg s1 s2 s3
      go_enter Try.func15, Try.ntmps15
      go_wp2_with fail
      refine (unhide HS).mono ?_
      rintro e w1 ⟨rfl, hb1⟩
      have hz := hb1.size
      go_wp2_with fail
      refine (unhide HHS _ hb1).mono ?_
      rintro e w2 ⟨rfl, rfl⟩
      have hba := hb1.alloc hz (.cells #[.string d] 9)
      have HR := hide (unhide HLE _ hba w1.heap.size (fun i hi => by
        obtain rfl : i = 0 := by simp at hi; omega
        exact ⟨w1.heap.size, 0, rfl, by simp, by rw [cell_of_row _ w1.heap.size 0 _ _ _ (heap_alloc_new _ _)]; rfl⟩))
      have HBA := hide hba
      have hzb := hba.size
      clear hba hb1 HLE HHS
      go_wp2_with fail
      refine (unhide HR).mono ?_
      rintro e w5 ⟨v5, rfl, hO5, hb5⟩
      rw [delB_any] at hO5
      obtain ⟨a5, c5, rfl⟩ := hO5.form
      have HO5 := hide (OwnR.le hO5 hzb)
      have HB5 := hide ((unhide HBA).trans (hb5.mono hzb))
      clear hO5 hb5
      go_wp2_with fail
      exact bodyPost_ret (v := .tuple #[.slice a5 (delB d ls).length c5, .bool true]) (by simp [results, Try.results15, go_sem]) rfl ⟨_, _, _, rfl, unhide HO5, hide (.inl ⟨rfl, unhide HX, rfl⟩), unhide HB5⟩
end Go.Proofs.Ytnokbnoncdebmaa
