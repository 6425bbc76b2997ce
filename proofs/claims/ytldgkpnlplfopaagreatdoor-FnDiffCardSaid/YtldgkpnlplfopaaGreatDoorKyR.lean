/- The program's set of digests, read: its keys. -/
import Derived.Test.YtldgkpnlplfopaaGreatDoorKyM
import Derived.Test.YtldgkpnlplfopaaGreatDoorKyB
namespace Go.Proofs.YtldgkpnlplfopaaGreatDoor
open Go.RowKit Go.Maps Plain
set_option linter.unusedVariables false

namespace Plain
theorem key_kyI {d : ByteArray} (h : digB d = true) : Key (kyI d) := by
  refine ⟨kyI_len d, fun x hx => ?_⟩
  unfold kyI at hx
  rw [List.mem_map] at hx
  obtain ⟨i, hi, rfl⟩ := hx
  have hi := List.mem_range.1 hi
  have h1 := digB_hex h (7 + 2 * i) (by omega) (by omega)
  have h2 := digB_hex h (8 + 2 * i) (by omega) (by omega)
  have h3 := hexI_bounds ((d.data.toList.getD (7 + 2 * i) 0).toNat : Int)
  have h4 := hexI_bounds ((d.data.toList.getD (8 + 2 * i) 0).toNat : Int)
  omega
theorem okS_all : ∀ (ls : List ByteArray) (p : Option ByteArray), okS p ls = true → (∀ s ∈ ls, digB s = true) ∧ Strict ls ∧ ∀ q, p = some q → ∀ s ∈ ls, ltB q s
  | [], p, _ => ⟨fun s hs => (by cases hs), List.Pairwise.nil, fun q _ s hs => (by cases hs)⟩
  | s :: r, p, h => by
    rw [okS, Bool.and_eq_true, Bool.and_eq_true] at h
    obtain ⟨⟨h1, h2⟩, h3⟩ := h
    obtain ⟨i1, i2, i3⟩ := okS_all r (some s) h3
    have i4 := i3 s rfl
    refine ⟨fun x hx => ?_, List.pairwise_cons.2 ⟨i4, i2⟩, fun q hq x hx => ?_⟩
    · rcases List.mem_cons.1 hx with e | e
      · rw [e]; exact h1
      · exact i1 x e
    · subst hq
      have h5 := (less_ltB q s).1 h2
      rcases List.mem_cons.1 hx with e | e
      · rw [e]; exact h5
      · exact ltB_trans h5 (i4 x e)
theorem setB_all {ls : List ByteArray} (h : setB ls = true) : ls.length ≤ 200 ∧ (∀ s ∈ ls, digB s = true) ∧ Strict ls := by
  unfold setB at h
  rw [Bool.and_eq_true] at h
  have := okS_all ls none h.2
  exact ⟨of_decide_eq_true h.1, this.1, this.2.1⟩
theorem risK_map {ls : List ByteArray} (h1 : ∀ s ∈ ls, digB s = true) (h2 : Strict ls) : RisK (ls.map kyL) := by
  unfold RisK
  rw [List.pairwise_map]
  refine List.Pairwise.imp_of_mem ?_ h2
  intro a b ha hb h
  rw [padK_id (kyL_len a), padK_id (kyL_len b)]
  exact (kyL_lt (h1 a ha) (h1 b hb)).2 h
/-- What the map has, read so far. -/
def KD (D : DataW Unit) (ls : List ByteArray) : Prop := Maps.size D = ls.length ∧ ∀ x : List UInt8, x.length = 32 → (Maps.has D (keyLK x) = true ↔ x ∈ ls.map kyL)
theorem KD.put {D : DataW Unit} {ls : List ByteArray} (h : KD D ls) (ht : Tidy D) (hm : IsMap D) (u : DataW Unit) {s : ByteArray} (hs : digB s = true) (hl : ∀ q ∈ ls, digB q = true) (hn : s ∉ ls) : KD (D.put (keyLK (kyL s)) u) (ls ++ [s]) := by
  have hno : kyL s ∉ ls.map kyL := fun q => by
    obtain ⟨y, hy, e⟩ := List.mem_map.1 q
    exact hn (kyL_inj (hl y hy) hs e ▸ hy)
  have hh : Maps.has D (keyLK (kyL s)) = false := by
    rw [Bool.eq_false_iff]
    exact fun q => hno ((h.2 _ (kyL_len s)).1 q)
  refine ⟨?_, fun x hx => ?_⟩
  · rw [size_put ht, hh, h.1]
    simp
  · by_cases e : x = kyL s
    · subst e
      simp [has_put_same hm (keyLK_ok _)]
    · rw [has_put_other (fun q => e (keyLK_inj hx (kyL_len s) q)), h.2 x hx]
      simp [e]
theorem strict_new {ls : List ByteArray} (h : Strict ls) (k : Nat) (hk : k < ls.length) : ls[k] ∉ ls.take k := by
  intro q
  obtain ⟨j, hj, e⟩ := List.mem_iff_getElem.1 q
  rw [List.length_take] at hj
  rw [List.getElem_take] at e
  have := List.pairwise_iff_getElem.1 h j k (by omega) hk (by omega)
  rw [e] at this
  exact ltB_irrefl _ this
end Plain

theorem keyY_calls (d : ByteArray) (w : World) (hd : digB d = true) :
    Calls Tryz.prog 38 #[.string d] w fun e w' => e = .returned (.tuple #[.agg (encK (kyL d)).toArray, .bool true]) ∧ Below w.heap.size w w' := by
  refine (keyX_calls d w (by rw [(digB_form hd).1]; decide)).mono ?_
  rintro e w' ⟨xs, rfl, hk, hx, hb⟩
  obtain rfl := hx hd
  rw [keyC_kyI hk, hd]
  exact ⟨rfl, hb⟩

set_option maxRecDepth 10000 in
set_option maxHeartbeats 4000000 in
theorem readY_calls (a : Option Addr) (n c : Nat) (ls : List ByteArray) (w : World) (h : TxtsAt w a n ls) (hs : setB ls = true) :
    Calls Tryz.prog 21 #[.slice a n c] w fun e w' => ∃ b, e = .returned (.tuple #[.map (some b), .bool true]) ∧ w.heap.size ≤ b ∧ KSet w' b ls.length (ls.map kyL) ∧ Below w.heap.size w w' := by
  obtain ⟨hs1, hs2, hs3⟩ := setB_all hs
  have hbn := h.bn
  have HLN := hide h.len
  have hbig : ¬ (200 : Int) < (n : Int) := by have := h.len; omega
  have HD := hide (fun (W : World) (hW : Below w.heap.size w W) => h.below hW)
  have HS := hide (And.intro hs2 hs3)
  clear h hs hs1 hs2 hs3
  have HM0 := hide (World.ownsMap_made (H := Unit) w Tryz.prog 63 anyR)
  have HB0 := hide (show Below w.heap.size w (w.alloc (.map #[] 0)) from (Below.refl _ _).alloc (Nat.le_refl _) _)
  have hmk := make_set w
  go_enter Tryz.func21, Tryz.ntmps21
  go_wp2_with fail
  clear hmk
  go_loopw [15] (fun s15 wr => ∃ (k : Nat) (D : DataW Unit), s15 = .int .i64 k ∧ k ≤ n ∧ w.heap.size < wr.heap.size ∧ Hid (wr.ownsMap Tryz.prog 63 anyR w.heap.size k D) ∧ Hid (KD D (ls.take k)) ∧ Hid (Below w.heap.size w wr)) (fun s15 _ => n - (intOf s15).toNat)
  case atStart => exact ⟨0, _, rfl, by omega, by simp, HM0, hide ⟨rfl, fun x _ => by simp [Maps.has]⟩, HB0⟩
  case round =>
    clear HM0 HB0
    obtain ⟨k, D, rfl, hk, hz, HM, HO, HB⟩ := hrel
    by_cases hkn : k < n
    · have hkl : k < ls.length := by rw [unhide HLN]; exact hkn
      obtain ⟨g, e1, l1, p0, -⟩ := (unhide HD wr (unhide HB)).row.str k hkl
      have HN := hide (show ∀ (u : DataW Unit), KD (D.put (keyLK (kyL ls[k])) u) (ls.take (k + 1)) from fun u => by
        rw [List.take_succ_eq_append_getElem hkl]
        exact (unhide HO).put ((unhide HM).tidy keyedK) (unhide HM).isMap u ((unhide HS).1 _ (List.getElem_mem _)) (fun q hq => (unhide HS).1 q (List.mem_of_mem_take hq)) (strict_new (unhide HS).2 k hkl))
      have HPV := hide (fun (j : Nat) (hj : k = j + 1) (W : World) (hW : Below w.heap.size w W) => (show ∃ q g', ltB q ls[k] ∧ a = some ⟨g', 0, none⟩ ∧ wr.cell? ⟨g', j, none⟩ = some (.string q) ∧ W.cell? ⟨g', j, none⟩ = some (.string q) from by
        subst hj
        have hjl : j < ls.length := by omega
        obtain ⟨g', e1, l1, p0, -⟩ := (unhide HD W hW).row.str j hjl
        obtain ⟨g2, e2, l2, p2, -⟩ := (unhide HD wr (unhide HB)).row.str j hjl
        rw [e1] at e2
        cases e2
        exact ⟨ls[j], g', List.pairwise_iff_getElem.1 (unhide HS).2 j (j + 1) hjl hkl (by omega), e1, p2, p0⟩))
      have hdg := (unhide HS).1 ls[k] (List.getElem_mem _)
      generalize ls[k] = s at p0 HN HPV hdg
      have HKY := hide (keyY_calls s wr hdg)
      generalize kyL s = x at HKY HN
      subst e1
      have i0 : (0 : Int) ≤ (k : Int) := by omega
      have i1 : (k : Int) < (n : Int) := by omega
      clear HO hdg
      go_wp2_with fail
      refine (unhide HKY).mono ?_
      rintro e w1 ⟨rfl, hb1⟩
      have HI := hide (infX x)
      have HS32 := hide (s32X x)
      have HB1 := hide ((unhide HB).trans (hb1.mono (Nat.le_of_lt hz)))
      have hz1 := hb1.size
      have HM1 := hide ((unhide HM).kept (row := none) ⟨hb1.os, hb1.tape, hb1.output, hb1.size, fun i hi _ => hb1.block i hi⟩ (by simp))
      clear hb1 HM HKY
      by_cases hk0 : k = 0
      · subst hk0
        clear HPV
        go_wp2_with (first
          | (refine wpList_store_any rfl 63 (.tmp 7) (.tmp 23) rfl w1.heap.size (encK x).toArray rfl rfl 63 _ (heap_alloc_new w1 _) (unhide HI) (unhide HS32) (oneX x) ?_; intro w3 hrow3 hgr3 hsz3; have HG3 := hide (And.intro hgr3 hsz3); have HM3 := hide (((unhide HM1).alloc (.cells _ 63)).kept hgr3 (by simp; omega)))
          | (refine wpList_load_row rfl 63 (.tmp 7) rfl w1.heap.size rfl 63 (encK x).toArray (0, 0) _ hrow3 Tryz.underlying63 rfl (unhide HI) ?_)
          | (at_mapUpdate; refine wpList_mapUpdate_own _ rfl _ _ _ 44 rfl 63 71 keyedK Tryz.underlying44 anyR w.heap.size 0 D rfl (unhide HM3) (by unfold maxLen; omega) _ _ (keyLK x) rfl rfl (keyK_of x) (.agg []) [] rfl ?_; intro w4 hown4 hgr4))
        have HB4 := hide (((unhide HB1).trans ((((Below.refl _ _).alloc (by omega) _)).trans ((Below.refl _ _).grown (unhide HG3).1 (by simp; omega) (fun i hi => by simp at hi; omega)))).trans ((Below.refl _ _).grown hgr4 (by have := (unhide HG3).2; simp at this; omega) (fun i hi => by simp at hi; omega)))
        have hz4 := hgr4.size
        have hz3 := (unhide HG3).2
        have HO4 := hide hown4
        clear hgr4 hown4 hrow3 hsz3 hgr3
        go_roundw
        case rel => exact ⟨0 + 1, _, by go_num, by omega, by simp at hz3; omega, HO4, hide (unhide HN _), HB4⟩
        case measure => simp [intOf]; omega
      · obtain ⟨j, hj⟩ : ∃ j, k = j + 1 := ⟨k - 1, by omega⟩
        have HPW := hide (fun (W : World) (hW : Below w.heap.size w W) => unhide HPV j hj W hW)
        obtain ⟨q, g', hlq, hga, hq0, -⟩ := unhide HPW wr (unhide HB)
        cases hga
        have HPC := hide (fun (W : World) (hW : Below w.heap.size w W) => (show W.cell? ⟨g, j, none⟩ = some (.string q) from by
          obtain ⟨q', g2, h1, h2, h3, h4⟩ := unhide HPW W hW
          cases h2
          rw [hq0] at h3
          cases h3
          exact h4))
        have hle := le_not s q true ((less_ltB q s).2 hlq)
        rw [Bool.not_true] at hle
        subst hj
        have j0 : (0 : Int) ≤ (j : Int) := by omega
        have j1 : (j : Int) < (n : Int) := by omega
        have j2 : (0 : Int) < ((j + 1 : Nat) : Int) := by omega
        clear HPV HPW hlq hq0
        go_wp2_with (first
          | (refine wpList_store_any rfl 63 (.tmp 7) (.tmp 23) rfl w1.heap.size (encK x).toArray rfl rfl 63 _ (heap_alloc_new w1 _) (unhide HI) (unhide HS32) (oneX x) ?_; intro w3 hrow3 hgr3 hsz3; have HG3 := hide (And.intro hgr3 hsz3); have HB3 := hide ((unhide HB1).trans (((Below.refl _ _).alloc (by omega) _).trans ((Below.refl _ _).grown hgr3 (by simp; omega) (fun i hi => by simp at hi; omega)))); have hpc := unhide HPC w3 (unhide HB3); have HM3 := hide (((unhide HM1).alloc (.cells _ 63)).kept hgr3 (by simp; omega)))
          | (refine wpList_load_row rfl 63 (.tmp 7) rfl w1.heap.size rfl 63 (encK x).toArray (0, 0) _ hrow3 Tryz.underlying63 rfl (unhide HI) ?_)
          | (at_mapUpdate; refine wpList_mapUpdate_own _ rfl _ _ _ 44 rfl 63 71 keyedK Tryz.underlying44 anyR w.heap.size (j + 1) D rfl (unhide HM3) (by unfold maxLen; omega) _ _ (keyLK x) rfl rfl (keyK_of x) (.agg []) [] rfl ?_; intro w4 hown4 hgr4))
        have HB4 := hide (((unhide HB1).trans ((((Below.refl _ _).alloc (by omega) _)).trans ((Below.refl _ _).grown (unhide HG3).1 (by simp; omega) (fun i hi => by simp at hi; omega)))).trans ((Below.refl _ _).grown hgr4 (by have := (unhide HG3).2; simp at this; omega) (fun i hi => by simp at hi; omega)))
        have hz4 := hgr4.size
        have hz3 := (unhide HG3).2
        have HO4 := hide hown4
        clear hgr4 hown4 hrow3 hsz3 hgr3
        go_roundw
        case rel => exact ⟨j + 1 + 1, _, by go_num, by omega, by simp at hz3; omega, HO4, hide (unhide HN _), HB4⟩
        case measure => simp [intOf]; omega
    · obtain rfl : k = n := by omega
      have hO := unhide HO
      rw [List.take_of_length_le (by rw [unhide HLN]; exact Nat.le_refl _)] at hO
      have hM := unhide HM
      have HX := hide (show KSet wr w.heap.size ls.length (ls.map kyL) from ⟨D, by rw [unhide HLN]; exact hM, by rw [hO.1]; simp, hO.2⟩)
      clear hO HO hM HM
      go_wp2_with fail
      exact bodyPost_ret (v := .tuple #[.map (some w.heap.size), .bool true]) (by simp [results, Tryz.results21, go_sem]) rfl ⟨_, rfl, Nat.le_refl _, unhide HX, unhide HB⟩
end Go.Proofs.YtldgkpnlplfopaaGreatDoor
