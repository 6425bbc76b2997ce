/- The program's text of a message, whole. -/
import Derived.Test.YtanekbifdedmeaaGreatDoorMsgI
namespace Go.Proofs.YtanekbifdedmeaaGreatDoor
open Go.RowKit Plain
set_option linter.unusedVariables false

theorem Plain.row_size (mk : ByteArray) (hmk : mk.size ≤ 10) (ls : List Hd) (hf : fitH ls) : ∀ x ∈ ls.map (rowT mk), x.size ≤ 2010 := by
  intro x hx
  obtain ⟨h, hh, rfl⟩ := List.mem_map.1 hx
  have := hf h hh
  unfold rowT
  rw [ByteArray.size_append, ByteArray.size_append]
  omega
theorem join_any (g n c : Nat) (xs : List ByteArray) (sep : ByteArray) (w : World) (hn : xs.length = n) (h1 : 1 ≤ n) (hn2 : n ≤ 1000) (hc : n ≤ c) (hs1 : 1 ≤ sep.size) (hs2 : sep.size ≤ 10) (hb : ∀ x ∈ xs, x.size ≤ 1000000) (hl : n * 1000010 ≤ 100000000) (hl2 : (Lib.join (lsL xs) sep.data.toList).length ≤ 10000000) (hr : RowAt strE w (some ⟨g, 0, none⟩) xs) :
    Calls Tryz.prog 31 #[.slice (some ⟨g, 0, none⟩) n c, .string sep] w fun e w' => e = .returned (.string (joinT xs sep)) ∧ Below w.heap.size w w' := by
  match xs, hn with
  | [], hn => simp at hn; omega
  | [x], hn =>
    obtain rfl : n = 1 := by simpa using hn.symm
    obtain ⟨g', e1, _, p0, _⟩ := hr.str 0 (by simp)
    cases e1
    exact join1_calls g c x sep w p0
  | x :: y :: r, hn =>
    simp only [List.length_cons] at hn
    exact join2_calls g n c x (y :: r) sep w (by simp; omega) (by omega) hn2 hc hs1 hs2 hl2 hr

set_option maxRecDepth 10000 in
set_option maxHeartbeats 4000000 in
theorem message_calls (first : ByteArray) (a : Option Addr) (n c : Nat) (hs : List Hd) (bd : ByteArray) (w : World) (hn : hs.length = n) (hn2 : n ≤ 20) (hf : fitH hs) (h1 : first.size ≤ 100000) (hbd : bd.size ≤ 100000) (hP : P10 w) (h : RowAt hdrE w a hs) :
    Calls Tryz.prog 33 #[.string first, .slice a n c, .string bd] w fun e w' => e = .returned (.string (msgT first hs bd)) ∧ Below w.heap.size w w' := by
  have hba : Below w.heap.size w (w.alloc (.cells #[.string first] 9)) := bel1 _ _
  have HRW := hide (rows_calls a n c hs csT (w.alloc (.cells #[.string first] 9)) hn (by omega) (by decide) hf (h.below hba))
  have HOL := hide (own_lit w first)
  have HP := hide (fun (W : World) (hW : Below w.heap.size w W) => itoa_calls bd.size W (hP.below hW) (by omega))
  have HBA := hide hba
  have HRS := hide (row_size csT (by decide) hs hf)
  have hRL : (hs.map (rowT csT)).length = n := by rw [List.length_map, hn]
  have hds := decN_size bd.size (by omega)
  have HM := hide (show msgT first hs bd = joinT ([first] ++ hs.map (rowT csT) ++ [clT ++ decN bd.size, ⟨#[]⟩, bd]) crT from rfl)
  generalize hs.map (rowT csT) = rs at HRW HRS hRL HM
  rw [unhide HM]
  obtain ⟨D, hD⟩ : ∃ D, decN bd.size = D := ⟨_, rfl⟩
  rw [hD] at HP hds
  rw [hD]
  have a1 := fun W => addS (a := clT) (b := D) W (by have : clT.size = 16 := rfl; omega)
  have hcd : (clT ++ D).size ≤ 100 := by rw [ByteArray.size_append]; have : clT.size = 16 := rfl; omega
  obtain ⟨C, hC⟩ : ∃ C, clT ++ D = C := ⟨_, rfl⟩
  rw [hC] at a1 hcd
  rw [hC]
  unfold clT at a1
  have HJL := hide (show (Lib.join (lsL ([first] ++ rs ++ [C, ⟨#[]⟩, bd])) crT.data.toList).length ≤ 10000000 from by
    have e1 : lsL ([first] ++ rs ++ [C, ⟨#[]⟩, bd]) = first.data.toList :: lsL (rs ++ [C, ⟨#[]⟩, bd]) := by simp [lsL]
    rw [e1, Lib.join_length]
    have h3 := lens_le ([first] ++ rs ++ [C, ⟨#[]⟩, bd]) 100000 (fun x hx => by
      simp only [List.singleton_append, List.mem_cons, List.mem_append, List.not_mem_nil, or_false] at hx
      rcases hx with (rfl | hx) | rfl | rfl | rfl
      · exact h1
      · have := unhide HRS x hx; omega
      · omega
      · decide
      · exact hbd)
    rw [e1] at h3
    have h4 : ([first] ++ rs ++ [C, ⟨#[]⟩, bd]).length = n + 4 := by simp [hRL]
    rw [h4] at h3
    have h5 : (lsL (rs ++ [C, ⟨#[]⟩, bd])).length = n + 3 := by simp [lsL, hRL]
    have h6 : crT.data.toList.length = 2 := rfl
    rw [h5, h6]
    omega)
  have HSZ := hide (show ∀ x ∈ [first] ++ rs ++ [C, ⟨#[]⟩, bd], x.size ≤ 1000000 from fun x hx => by
      simp only [List.singleton_append, List.mem_cons, List.mem_append, List.not_mem_nil, or_false] at hx
      rcases hx with (rfl | hx) | rfl | rfl | rfl
      · omega
      · have := unhide HRS x hx; omega
      · omega
      · decide
      · omega)
  have HLN := hide (show ([first] ++ rs).length = n + 1 from by simp [hRL])
  have HLM := hide (show ([first] ++ rs ++ [C, ⟨#[]⟩, bd]).length = n + 4 from by simp [hRL])
  have HRL := hide hRL
  clear h hP hba hf HRS hD hC hds hcd HM hRL hn
  go_enter Tryz.func33, Tryz.ntmps33
  go_wp2_with fail
  refine (unhide HRW).mono ?_
  rintro e w1 ⟨v, rfl, oR, hb1⟩
  obtain ⟨aR, cR, hvR⟩ := oR.form
  rw [unhide HRL] at hvR
  subst hvR
  have HO1 := hide ((unhide HOL).keep hb1)
  have HRR := hide oR.at
  have HAD := hide oR.adG
  have HB1 := hide (belOn (unhide HBA) hb1)
  have hl1 : [first].length + n < 100000000 := by simp; omega
  have hz1 : w.heap.size ≤ w1.heap.size := (unhide HB1).size
  clear hb1 oR HRW HOL
  go_wp2_with (at_builtin; refine appGG (e := strE) rfl _ _ rfl (unhide HO1) rfl aR n cR rfl (unhide HRL) (unhide HRR) (unhide HAD) hl1 hz1 ?_; intro v2 w2 hown2 hb2; obtain ⟨a2, c2, hv2⟩ := hown2.form; rw [unhide HLN] at hv2; subst hv2)
  have HO2 := hide hown2
  have HB2 := hide ((unhide HB1).trans hb2)
  have HI := hide (unhide HP _ (unhide HB2))
  clear hown2 hb2
  refine (unhide HI).mono ?_
  rintro e w3 ⟨rfl, hb3⟩
  have HB3 := hide (belOn (unhide HB2) hb3)
  have HO3 := hide (World.ownsRow.alloc ((unhide HO2).keep hb3) (.cells #[.string C, .string ⟨#[]⟩, .string bd] 9))
  have HR3 := hide (rowS_three w3 C ⟨#[]⟩ bd)
  have HB4 := hide (belOn (unhide HB3) (bel1 w3 (.cells #[.string C, .string ⟨#[]⟩, .string bd] 9)))
  have hz4 : w.heap.size ≤ (w3.alloc (.cells #[.string C, .string ⟨#[]⟩, .string bd] 9)).heap.size := (unhide HB4).size
  have hl4 : ([first] ++ rs).length + 3 < 100000000 := by rw [unhide HLN]; omega
  clear hb3 HI
  go_wp2_with (at_builtin; refine appGG (e := strE) (ys := [C, ⟨#[]⟩, bd]) rfl _ _ rfl (unhide HO3) rfl (some ⟨w3.heap.size, 0, none⟩) 3 3 rfl rfl (unhide HR3) (.inr ⟨_, rfl⟩) hl4 hz4 ?_; intro v5 w5 hown5 hb5; obtain ⟨a5, c5, hv5⟩ := hown5.form; rw [unhide HLM] at hv5; subst hv5)
  obtain ⟨g5, hg5, hc5⟩ := own_cap hown5 (by simp)
  subst hg5
  have HB5 := hide ((unhide HB4).trans hb5)
  have HJ := hide (join_any g5 (n + 4) c5 _ crT w5 (unhide HLM) (by omega) (by omega) hc5 (by decide) (by decide) (unhide HSZ) (by omega) (unhide HJL) hown5.at)
  clear hown5 hb5
  refine (unhide HJ).mono ?_
  rintro e w6 ⟨rfl, hb6⟩
  have HB6 := hide (belOn (unhide HB5) hb6)
  clear hb6
  go_wp2_with fail
  go_ret
  exact ⟨rfl, unhide HB6⟩
end Go.Proofs.YtanekbifdedmeaaGreatDoor
