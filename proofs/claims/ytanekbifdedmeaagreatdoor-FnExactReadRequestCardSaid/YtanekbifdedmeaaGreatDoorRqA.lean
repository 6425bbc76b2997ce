/- The first line of a request, as the program reads it. -/
import Derived.Test.YtanekbifdedmeaaGreatDoorRqQ
import Derived.Test.YtanekbifdedmeaaGreatDoorRqS
import Derived.Test.YtanekbifdedmeaaGreatDoorReqK
import Derived.Lib.Split
namespace Go.Proofs.YtanekbifdedmeaaGreatDoor
open Go.RowKit Plain
set_option linter.unusedVariables false

namespace Plain
theorem cnt0 {l : List UInt8} (h : ∀ x ∈ l, x ≠ 32) : l.count 32 = 0 := List.count_eq_zero.2 fun hx => h 32 hx rfl
theorem sn32 {l : List UInt8} (h : ∀ x ∈ l, x ≠ 32) : splt 32 l = [l] := splt_end 32 l fun x hx => u8_ne (c := 32) rfl (h x hx)
theorem splitK_G : ∀ (k : Nat) (l : List UInt8), l.count 32 ≤ k → Lib.splitK [32] 0 k l = splt 32 l := by
  intro k
  induction k with
  | zero =>
    intro l h
    have hn : ∀ x ∈ l, x ≠ 32 := fun x hx e => by
      subst e
      have := List.count_pos_iff.2 hx
      omega
    rw [Lib.splitK, sn32 hn]
  | succ k ih =>
    intro l h
    rcases ix1_or 32 l with ⟨h1, h2⟩ | ⟨a, b, rfl, h2, h3⟩
    · rw [Lib.splitK, h1, if_pos (by decide), sn32 h2]
    · rw [Lib.splitK, h3, if_neg (by simp), splt_at 32 a b 32 rfl fun x hx => u8_ne (c := 32) rfl (h2 x hx)]
      have hc : b.count 32 ≤ k := by
        rw [List.count_append, List.count_cons_self] at h
        omega
      have e1 : (a ++ 32 :: b).take ((a.length : Int).toNat + 0) = a := by simp
      have e2 : (a ++ 32 :: b).drop ((a.length : Int).toNat + ([32] : List UInt8).length) = b := by
        rw [Int.toNat_natCast, List.length_singleton, ← List.drop_drop, List.drop_left]
        rfl
      rw [e1, e2, ih b hc]
theorem cntF : ∀ (f : Nat) (l : List UInt8), l.length < f → l.count 32 ≤ Lib.countFrom [32] f l := by
  intro f
  induction f with
  | zero => intro l h; omega
  | succ f ih =>
    intro l h
    rcases ix1_or 32 l with ⟨h1, h2⟩ | ⟨a, b, rfl, h2, h3⟩
    · rw [cnt0 h2]; exact Nat.zero_le _
    · have e2 : (a ++ 32 :: b).drop ((a.length : Int).toNat + ([32] : List UInt8).length) = b := by
        rw [Int.toNat_natCast, List.length_singleton, ← List.drop_drop, List.drop_left]
        rfl
      have hb := ih b (by rw [List.length_append, List.length_cons] at h; omega)
      rw [Lib.countFrom, h3, if_neg (by simp), e2, List.count_append, List.count_cons_self, cnt0 h2]
      omega
theorem splitB_G (s sep : ByteArray) (hsep : sep.data.toList = [32]) : Lib.splitB sep 0 (Lib.countB s sep) s = (splt 32 s.data.toList).map bU := by
  have h : s.data.toList.count 32 ≤ Lib.countB s sep := by unfold Lib.countB Lib.count; rw [hsep]; exact cntF _ _ (by omega)
  generalize Lib.countB s sep = k at h
  have e := Lib.splitB_data sep 0 k s
  rw [hsep, splitK_G k _ h] at e
  rw [← e, List.map_map]
  have : (bU ∘ fun x : ByteArray => x.data.toList) = id := funext fun x => bU_self x
  rw [this, List.map_id]
end Plain
theorem splitR_calls (s : ByteArray) (w : World) (hs : s.size ≤ 10000000) (hv : RrV w) :
    Calls Tryz.prog 115 #[.string s, .string ⟨#[32]⟩] w fun e w' => e = .returned (.slice (some ⟨w.heap.size, 0, none⟩) (splt 32 s.data.toList).length (splt 32 s.data.toList).length) ∧ w' = w.alloc (.cells (((splt 32 s.data.toList).map bU).map Value.string).toArray 9) := by
  obtain ⟨m, hm⟩ := hv.m
  have hlen := Lib.splitB_all (⟨#[32]⟩ : ByteArray) (by decide) 0 _ s rfl
  have h := Any.strings_Split Tryz.lays146 (by kernel_rfl) s ⟨#[32]⟩ m w (by omega) hm (by decide)
  rw [splitB_G s ⟨#[32]⟩ rfl] at h hlen
  rw [List.length_map] at hlen
  rw [← hlen] at h
  exact h

namespace Plain
theorem qry_len : ∀ (ls : List (List UInt8)) (qs : List Hd), qryF ls = some qs → qs.length = ls.length
  | [], qs, h => by rw [qryF] at h; cases h; rfl
  | l :: ls, qs, h => by
    rw [qryF] at h
    split at h
    · cases h
    · cases hq : qryF ls with
      | none => rw [hq] at h; cases h
      | some r =>
        rw [hq] at h
        cases h
        rw [List.length_cons, List.length_cons, qry_len ls r hq]
theorem qry_small : ∀ (ls : List (List UInt8)) (qs : List Hd), (∀ l ∈ ls, l.length ≤ 1000000) → qryF ls = some qs → smallH qs
  | [], qs, _, h => by rw [qryF] at h; cases h; exact fun x hx => absurd hx (by simp)
  | l :: ls, qs, hl, h => by
    rw [qryF] at h
    split at h
    · cases h
    · cases hq : qryF ls with
      | none => rw [hq] at h; cases h
      | some r =>
        rw [hq] at h
        cases h
        intro x hx
        rcases List.mem_cons.1 hx with rfl | hx
        · have := hl l (by simp)
          unfold pairF
          simp only [bU_size, List.length_take, List.length_drop]
          omega
        · exact qry_small ls r (fun y hy => hl y (List.mem_cons_of_mem _ hy)) hq x hx
theorem rowS3 (w : World) (x y z : ByteArray) (t : TypeId) : Blk (w.alloc (.cells #[.string x, .string y, .string z] t)) w.heap.size [.string x, .string y, .string z] := Blk.new w [.string x, .string y, .string z] t
end Plain

set_option maxRecDepth 10000 in
set_option maxHeartbeats 8000000 in
theorem readAsk_calls (s : ByteArray) (w : World) (hs : s.size ≤ 100000) (hv : RrV w) :
    Calls Tryz.prog 76 #[.string s] w fun e w' => LnAns w.heap.size (askF s.data.toList) e w' ∧ Below w.heap.size w w' := by
  obtain ⟨W1, hW1⟩ : ∃ W1, W1 = w.alloc (.cells #[.string ⟨#[]⟩, .string ⟨#[]⟩, .slice none 0 0, .slice none 0 0, .string ⟨#[]⟩] 26) := ⟨_, rfl⟩
  have hb1 : Below w.heap.size w W1 := by rw [hW1]; exact bel1 _ _
  have hz1 : W1.heap.size = w.heap.size + 1 := by rw [hW1]; simp
  have hB1 : Blk W1 w.heap.size [.string ⟨#[]⟩, .string ⟨#[]⟩, .slice none 0 0, .slice none 0 0, .string ⟨#[]⟩] := by rw [hW1]; exact Blk.new w _ _
  obtain ⟨R, hR⟩ : ∃ R, askF s.data.toList = R := ⟨_, rfl⟩
  rw [hR]
  unfold askF at hR
  have hsp := splitR_calls s W1 (by omega) (hv.below hb1)
  have hsz := splt_size 32 s.data.toList
  rw [len_dataR] at hsz
  generalize splt 32 s.data.toList = ws at hR hsp hsz
  have HB1 := hide hB1
  have HBW := hide hb1
  have HW1 := hide hW1.symm
  have HV := hide hv
  clear hB1 hb1 hW1 hv
  by_cases h3 : ws.length = 3
  · obtain ⟨x1, x2, x3, rfl⟩ : ∃ a b c, ws = [a, b, c] := by
      match ws, h3 with
      | [a, b, c], _ => exact ⟨a, b, c, rfl⟩
    have hx1 := hsz x1 (by simp)
    have hx2 := hsz x2 (by simp)
    have hx3 := hsz x3 (by simp)
    rw [show wrdF [x1, x2, x3] = if x3 = httpL then some (x1, x2) else none from rfl] at hR
    simp only [List.map_cons, List.map_nil, List.length_cons, List.length_nil, Nat.reduceAdd] at hsp
    have HSP := hide hsp
    have HR := hide hR
    clear hR hsz h3 hsp
    go_enter Tryz.func76, Tryz.ntmps76
    go_wp2_with fail
    rw [unhide HW1]
    refine (unhide HSP).mono ?_
    rintro e w2 ⟨rfl, hw2⟩
    have hg := rowS3 W1 (bU x1) (bU x2) (bU x3) 9
    have hb2 : Below W1.heap.size W1 w2 := by rw [hw2]; exact bel1 _ _
    obtain ⟨g, hgz⟩ : ∃ g, W1.heap.size = g := ⟨_, rfl⟩
    rw [show (W1.alloc (.cells #[.string (bU x1), .string (bU x2), .string (bU x3)] 9)) = w2 from by rw [hw2], hgz] at hg
    rw [hgz]
    have hgl := hg.lt
    obtain ⟨p0, p1, p2, _, _, _⟩ : w2.cell? ⟨g, 0, none⟩ = some (.string (bU x1)) ∧ w2.cell? ⟨g, 1, none⟩ = some (.string (bU x2)) ∧ w2.cell? ⟨g, 2, none⟩ = some (.string (bU x3)) ∧ True ∧ True ∧ True := ⟨hg.c 0 (by simp), hg.c 1 (by simp), hg.c 2 (by simp), trivial, trivial, trivial⟩
    have HB2 := hide ((unhide HB1).call hb2)
    have HBX := hide ((unhide HBW).trans (hb2.mono (unhide HBW).size))
    have hz2 : w.heap.size + 1 ≤ w2.heap.size := by have := hb2.size; omega
    clear hg hb2 hw2 HB1 HBW HSP HW1
    by_cases hh : x3 = httpL
    · have hcl : ((bU x3).toList == [72, 84, 84, 80, 47, 49, 46, 49]) = true := by rw [ByteArray.toList_eq, bU_data, hh]; rfl
      have hcn : ((bU x3).toList != [72, 84, 84, 80, 47, 49, 46, 49]) = false := by rw [bne, hcl]; rfl
      have hR := unhide HR
      rw [if_pos hh] at hR
      simp only at hR
      unfold tgtF at hR
      have hbz : (bU x2).size ≤ 2000000 := by rw [bU_size]; omega
      have hv2 := (unhide HV).below (unhide HBX)
      rcases ix_room [63] x2 with q | ⟨K, q, hK⟩
      · have HCT := hide ((cutS_none (bU x2) ⟨#[63]⟩ w2 hbz hv2 (by rw [bU_data]; exact q)).mono fun e w' ⟨h1, k, h2⟩ => And.intro h1 (show Below w2.heap.size w2 w' from by rw [h2]; exact belDrewK (Below.refl _ _) k))
        rw [q, if_pos (by decide)] at hR
        simp only at hR
        have HR3 := hide hR
        clear hR HR hh q hbz hv2
        go_wp2_with fail
        refine (unhide HCT).mono ?_
        rintro e w3 ⟨rfl, hb3⟩
        have p0' := bcl hb3 hgl p0
        have HQ4 := hide (Blk.new w3 [.string (bU x1), .string (bU x2), .slice none 0 0, .slice none 0 0, .string ⟨#[]⟩] 26)
        have hb4 := belOn hb3 (bel1 w3 (.cells #[.string (bU x1), .string (bU x2), .slice none 0 0, .slice none 0 0, .string ⟨#[]⟩] 26))
        have HB7 := hide ((unhide HB2).call hb4)
        have HBX7 := hide ((unhide HBX).trans (hb4.mono (unhide HBX).size))
        have hz3 := hb3.size
        clear hb3 hb4 p1 p2 HCT
        go_upto_region 11 with fail
        have HQ7 := HQ4
        generalize (w3.alloc (.cells #[.string (bU x1), .string (bU x2), .slice none 0 0, .slice none 0 0, .string ⟨#[]⟩] 26)) = w7 at HQ7 HB7 HBX7 ⊢
        obtain ⟨qb, hqb⟩ : ∃ qb, w3.heap.size = qb := ⟨_, rfl⟩
        rw [hqb] at HQ7 ⊢
        have HOW7 := hide (show OwnR hdrE w7 (w.heap.size + 1) (.slice none 0 0) [] from ownR_nil _ _ _)
        have HQL := hide (show ([] : List Hd).length = 0 from rfl)
        have HSM := hide (show smallH [] from fun x hx => absurd hx (by simp))
        have hqn : w.heap.size < qb := by omega
        have hql : qb < w7.heap.size := (unhide HQ7).lt
        have hnl : w.heap.size < w7.heap.size := (unhide HB7).lt
        have A0 := Grown.cell (unhide HQ7).five.1 hql
        have A1 := Grown.cell (unhide HQ7).five.2.1 hql
        have A2 := Grown.cell (unhide HQ7).five.2.2.1 hql
        have A3 := Grown.cell (unhide HQ7).five.2.2.2.1 hql
        have A4 := Grown.cell (unhide HQ7).five.2.2.2.2 hql
        have B0 := Wrt.cell (vs := [.string (bU x1), .string (bU x2), .slice none 0 0, .slice none 0 0, .string ⟨#[]⟩]) (n := w.heap.size) (unhide HQ7).five.1 hql (by omega)
        have B1 := Wrt.cell (vs := [.string (bU x1), .string (bU x2), .slice none 0 0, .slice none 0 0, .string ⟨#[]⟩]) (n := w.heap.size) (unhide HQ7).five.2.1 hql (by omega)
        have B2 := Wrt.cell (vs := [.string (bU x1), .string (bU x2), .slice none 0 0, .slice none 0 0, .string ⟨#[]⟩]) (n := w.heap.size) (unhide HQ7).five.2.2.1 hql (by omega)
        have B3 := Wrt.cell (vs := [.string (bU x1), .string (bU x2), .slice none 0 0, .slice none 0 0, .string ⟨#[]⟩]) (n := w.heap.size) (unhide HQ7).five.2.2.2.1 hql (by omega)
        have B4 := Wrt.cell (vs := [.string (bU x1), .string (bU x2), .slice none 0 0, .slice none 0 0, .string ⟨#[]⟩]) (n := w.heap.size) (unhide HQ7).five.2.2.2.2 hql (by omega)
        have HOV := hide (fun (x : Grown w7) => And.intro ((unhide HB7).call x.ok).five ((unhide HB7).call x.ok).fiveZ)
        have HWR := hide (fun (x : Grown w7) => wrt_of (unhide HB7) x (.string (bU x1)) (.string (bU x2)) (.slice none 0 0) (.slice none 0 0) (.string ⟨#[]⟩))
        have hNG : Nonempty (Grown w7) := ⟨⟨w7, Below.refl _ _⟩⟩
        have hNW : Nonempty (Wrt w7 w.heap.size [.string (bU x1), .string (bU x2), .slice none 0 0, .slice none 0 0, .string ⟨#[]⟩]) := by obtain ⟨y, _⟩ := unhide HWR ⟨w7, Below.refl _ _⟩; exact ⟨y⟩
        have HFN := hide (fun (y : Wrt w7 w.heap.size [.string (bU x1), .string (bU x2), .slice none 0 0, .slice none 0 0, .string ⟨#[]⟩]) => (unhide HBX7).trans (wrt_below y (Nat.le_refl _) (by omega)))
        have HRQ := hide (fun (W : World) (h : RowAt hdrE W none []) => (show ReqAt W (bU x1) (bU x2) none 0 [] none 0 [] ⟨#[]⟩ from ⟨unhide HQL, rfl, by omega, by omega, unhide HSM, fun x hx => absurd hx (by simp), by rw [bU_size]; omega, by rw [bU_size]; omega, by decide, h, fun i hi => absurd hi (by simp)⟩))
        have HOF := hide (fun (x : Wrt w7 w.heap.size [.string (bU x1), .string (bU x2), .slice none 0 0, .slice none 0 0, .string ⟨#[]⟩]) => own_otherQ (unhide HOW7) (fun g hg => x.ok.block g (World.ownsRow.lt (unhide HOW7) g hg).2 (by have := (World.ownsRow.lt (unhide HOW7) g hg).1; show g ≠ w.heap.size; omega)))
        have HAG := hide (fun (x : Grown w7) => askOk_calls (bU x1) (bU x2) none 0 0 [] none 0 0 [] ⟨#[]⟩ x.w (unhide HRQ _ ((unhide HOW7).keep x.ok).at))
        have HAW := hide (fun (x : Wrt w7 w.heap.size [.string (bU x1), .string (bU x2), .slice none 0 0, .slice none 0 0, .string ⟨#[]⟩]) => askOk_calls (bU x1) (bU x2) none 0 0 [] none 0 0 [] ⟨#[]⟩ x.w (unhide HRQ _ (unhide HOF x).at))
        generalize askB (bU x1) (bU x2) [] = gg at HR3 HAG HAW
        refine Reg2.region_wrote (fun w' => ∃ x : Grown w7, w' = x.w) (fun w' => ∃ x : Wrt w7 w.heap.size [.string (bU x1), .string (bU x2), .slice none 0 0, .slice none 0 0, .string ⟨#[]⟩], w' = x.w) 3 _ (by kernel_rfl) (by kernel_rfl) rfl rfl (by kernel_rfl) (by kernel_rfl) ⟨⟨{ w7 with drawn := w7.drawn + 1 }, ⟨rfl, rfl, rfl, Nat.le_refl _, fun _ _ => rfl⟩⟩, rfl⟩ ?_
        simp only [List.take_succ_cons, List.take_zero, List.drop_succ_cons, List.drop_zero]
        repeat (go_big_quiet_step (first | (go_at_call 36; exact calls_grown _ (unhide HAG _))))
        refine wpQuiet_nil ⟨?_, by kernel_rfl, ?_, ?_⟩
        · repeat (go_big_quiet_step (first | (go_at_call 36; exact calls_wrt _ (unhide HAW _))))
          exact wpQuiet_nil rfl
        · rintro _ ⟨x, rfl⟩
          obtain ⟨⟨b0, b1, b2, b3, b4⟩, z0, z1, z2, z3, z4⟩ := unhide HOV x
          obtain ⟨y, hy⟩ := unhide HWR x
          refine ⟨_, ?_, ⟨y, hy⟩⟩
          simp [go_sem, b0, b1, b2, b3, b4, z0, z1, z2, z3, z4]
        · repeat (go_big_quiet_step (fail))
          refine wpQuiet_nil ⟨?_, ?_⟩
          · repeat (go_big_quiet_step (fail))
            exact wpQuiet_nil rfl
          · rintro _ ⟨y, rfl⟩
            go_wp2_with fail
            obtain ⟨y0, y1, y2, y3, y4⟩ := y.blk.five
            refine bodyPost_ret (v := .tuple #[.agg #[.string (bU x1), .string (bU x2), .slice none 0 0, .slice none 0 0, .string ⟨#[]⟩], .bool gg]) ?_ rfl ⟨?_, unhide HFN y⟩
            · simp [results, Tryz.results76, go_sem, y0, y1, y2, y3, y4]
            · rw [← unhide HR3]
              cases gg with
              | false =>
                rw [if_neg (by decide)]
                exact ⟨_, _, _, _, _, rfl⟩
              | true =>
                rw [if_pos rfl]
                have hql := unhide HQL
                exact ⟨none, 0, by rw [hql], by rw [hql]; exact own_lowQ (unhide HOF y) (by omega)⟩
      · have hKb : K + 1 ≤ x2.length := hK
        have e1 : (bU x2).extract 0 K = bU (x2.take K) := bU_of (by rw [extR_take, bU_data])
        have e2 : (bU x2).extract (K + 1) (bU x2).size = bU (x2.drop (K + 1)) := bU_of (by rw [ext_drop, bU_data])
        have hct := cutS_yes (bU x2) ⟨#[63]⟩ K w2 hbz hv2 (by rw [bU_data]; exact q)
        rw [show (⟨#[63]⟩ : ByteArray).size = 1 from rfl, e1, e2] at hct
        have HCT := hide (hct.mono fun e w' ⟨h1, k, h2⟩ => And.intro h1 (show Below w2.heap.size w2 w' from by rw [h2]; exact belDrewK (Below.refl _ _) k))
        rw [q, if_neg (by omega), Int.toNat_natCast] at hR
        have HRQ0 := hide (fun W (hW : Below w.heap.size w W) => readQuery_calls (bU (x2.drop (K + 1))) W (by rw [bU_size, List.length_drop]; omega) ((unhide HV).below hW))
        rw [bU_data] at HRQ0
        have hql0 : (splt 38 (x2.drop (K + 1))).length ≤ 100000 := by have := splt_len 38 (x2.drop (K + 1)); rw [List.length_drop] at this; omega
        have hqs0 : ∀ l ∈ splt 38 (x2.drop (K + 1)), l.length ≤ 1000000 := fun l hl => by have := splt_size 38 (x2.drop (K + 1)) l hl; rw [List.length_drop] at this; omega
        have HLS := hide (fun qs (hq : qryF (splt 38 (x2.drop (K + 1))) = some qs) => And.intro (qry_len _ qs hq) (qry_small _ qs hqs0 hq))
        have hpl : (x2.take K).length ≤ s.size := by rw [List.length_take]; omega
        generalize splt 38 (x2.drop (K + 1)) = ls at hR HRQ0 hql0 HLS
        generalize bU (x2.drop (K + 1)) = qt at HCT HRQ0
        generalize x2.take K = pt at HCT hR hpl
        cases hqq : qryF ls with
        | none =>
          rw [hqq] at hR HRQ0
          simp only at hR
          have HX := hide hR.symm
          clear hR HR hh q hbz hv2 hct e1 e2 hqs0 HLS
          go_wp2_with fail
          refine (unhide HCT).mono ?_
          rintro e w3 ⟨rfl, hb3⟩
          have p0' := bcl hb3 hgl p0
          have hb4 := belOn hb3 (bel1 w3 (.cells #[.string (bU x1), .string (bU pt), .slice none 0 0, .slice none 0 0, .string ⟨#[]⟩] 26))
          have HB7 := hide ((unhide HB2).call hb4)
          have HBX7 := hide ((unhide HBX).trans (hb4.mono (unhide HBX).size))
          clear hb3 hb4 p1 p2 HCT
          go_upto_region 7 with fail
          generalize (w3.alloc (.cells #[.string (bU x1), .string (bU pt), .slice none 0 0, .slice none 0 0, .string ⟨#[]⟩] 26)) = w7 at HB7 HBX7 ⊢
          go_wp2_with fail
          refine (unhide HRQ0 w7 (unhide HBX7)).mono ?_
          rintro e w8 ⟨rfl, hb8⟩
          have HB8 := hide ((unhide HB7).call hb8)
          have HBX8 := hide (belOn (unhide HBX7) hb8)
          clear hb8 HRQ0
          obtain ⟨b0, b1, b2, b3, b4⟩ := (unhide HB8).five
          obtain ⟨z0, z1, z2, z3, z4⟩ := (unhide HB8).fiveZ
          go_wp2_with fail
          obtain ⟨r0, r1, r2, r3, r4⟩ := (out5_blk (unhide HB8) (.string ⟨#[]⟩) (.string ⟨#[]⟩) (.slice none 0 0) (.slice none 0 0) (.string ⟨#[]⟩)).five
          unfold out5 at r0 r1 r2 r3 r4
          exact bodyPost_ret (v := .tuple #[.agg #[.string ⟨#[]⟩, .string ⟨#[]⟩, .slice none 0 0, .slice none 0 0, .string ⟨#[]⟩], .bool false]) (by simp [results, Tryz.results76, go_sem, r0, r1, r2, r3, r4]) rfl ⟨by rw [unhide HX]; exact ⟨_, _, _, _, _, rfl⟩, (unhide HBX8).trans (out5_below _ _ _ _ _ _ _)⟩
        | some qs =>
          rw [hqq] at hR HRQ0
          simp only at hR
          have HR3 := hide hR
          obtain ⟨hll, hss⟩ := unhide HLS qs hqq
          obtain ⟨N, hN⟩ : ∃ N, qs.length = N := ⟨_, rfl⟩
          have HQL := hide hN
          have HSM := hide hss
          have hNb : N ≤ 100000 := by omega
          clear hR HR hh q hbz hv2 hct e1 e2 hqs0 HLS hqq hll hss
          go_wp2_with fail
          refine (unhide HCT).mono ?_
          rintro e w3 ⟨rfl, hb3⟩
          have p0' := bcl hb3 hgl p0
          have HQ4 := hide (Blk.new w3 [.string (bU x1), .string (bU pt), .slice none 0 0, .slice none 0 0, .string ⟨#[]⟩] 26)
          have hb4 := belOn hb3 (bel1 w3 (.cells #[.string (bU x1), .string (bU pt), .slice none 0 0, .slice none 0 0, .string ⟨#[]⟩] 26))
          have HB4 := hide ((unhide HB2).call hb4)
          have HBX4 := hide ((unhide HBX).trans (hb4.mono (unhide HBX).size))
          have hz3 := hb3.size
          clear hb3 hb4 p1 p2 HCT
          go_upto_region 7 with fail
          generalize (w3.alloc (.cells #[.string (bU x1), .string (bU pt), .slice none 0 0, .slice none 0 0, .string ⟨#[]⟩] 26)) = w4 at HQ4 HB4 HBX4 ⊢
          obtain ⟨qb, hqb⟩ : ∃ qb, w3.heap.size = qb := ⟨_, rfl⟩
          rw [hqb] at HQ4 ⊢
          have hqn : w.heap.size < qb := by omega
          have hq4 : qb < w4.heap.size := (unhide HQ4).lt
          go_wp2_with fail
          refine (unhide HRQ0 w4 (unhide HBX4)).mono ?_
          rintro e w6 ⟨⟨a, c, rfl, hown⟩, hb6⟩
          rw [unhide HQL] at hown ⊢
          have HQ6 := hide ((unhide HQ4).call hb6)
          have HB6 := hide ((unhide HB4).call hb6)
          have HBX6 := hide (belOn (unhide HBX4) hb6)
          have HOW6 := hide hown
          have q2 := (unhide HQ6).five.2.2.1
          have y2 := (unhide HQ6).fiveZ.2.2.1
          clear hb6 hown HRQ0
          go_upto_region 11 with fail
          have HQ7 := hide ((unhide HQ6).set 2 (by simp) (.slice a N c))
          have HB7 := hide ((unhide HB6).off (i := 2) (g := qb) (by omega) (.slice a N c))
          have HBX7 := hide ((unhide HBX6).setCell (p := ⟨qb, 2, none⟩) (by show w.heap.size ≤ qb; omega) (.slice a N c))
          have HOW7 := hide (show OwnR hdrE (w6.setCell ⟨qb, 2, none⟩ (.slice a N c)) (w.heap.size + 1) (.slice a N c) qs from own_lowQ (ownsRow_setCell_below (unhide HOW6) hq4 _) (by omega))
          simp only [List.set_cons_zero, List.set_cons_succ] at HQ7
          generalize (w6.setCell ⟨qb, 2, none⟩ (.slice a N c)) = w7 at HQ7 HB7 HBX7 HOW7 ⊢
          clear HQ6 HB6 HBX6 HOW6 q2 y2
          have hql : qb < w7.heap.size := (unhide HQ7).lt
          have hnl : w.heap.size < w7.heap.size := (unhide HB7).lt
          have A0 := Grown.cell (unhide HQ7).five.1 hql
          have A1 := Grown.cell (unhide HQ7).five.2.1 hql
          have A2 := Grown.cell (unhide HQ7).five.2.2.1 hql
          have A3 := Grown.cell (unhide HQ7).five.2.2.2.1 hql
          have A4 := Grown.cell (unhide HQ7).five.2.2.2.2 hql
          have B0 := Wrt.cell (vs := [.string (bU x1), .string (bU pt), .slice a N c, .slice none 0 0, .string ⟨#[]⟩]) (n := w.heap.size) (unhide HQ7).five.1 hql (by omega)
          have B1 := Wrt.cell (vs := [.string (bU x1), .string (bU pt), .slice a N c, .slice none 0 0, .string ⟨#[]⟩]) (n := w.heap.size) (unhide HQ7).five.2.1 hql (by omega)
          have B2 := Wrt.cell (vs := [.string (bU x1), .string (bU pt), .slice a N c, .slice none 0 0, .string ⟨#[]⟩]) (n := w.heap.size) (unhide HQ7).five.2.2.1 hql (by omega)
          have B3 := Wrt.cell (vs := [.string (bU x1), .string (bU pt), .slice a N c, .slice none 0 0, .string ⟨#[]⟩]) (n := w.heap.size) (unhide HQ7).five.2.2.2.1 hql (by omega)
          have B4 := Wrt.cell (vs := [.string (bU x1), .string (bU pt), .slice a N c, .slice none 0 0, .string ⟨#[]⟩]) (n := w.heap.size) (unhide HQ7).five.2.2.2.2 hql (by omega)
          have HOV := hide (fun (x : Grown w7) => And.intro ((unhide HB7).call x.ok).five ((unhide HB7).call x.ok).fiveZ)
          have HWR := hide (fun (x : Grown w7) => wrt_of (unhide HB7) x (.string (bU x1)) (.string (bU pt)) (.slice a N c) (.slice none 0 0) (.string ⟨#[]⟩))
          have hNG : Nonempty (Grown w7) := ⟨⟨w7, Below.refl _ _⟩⟩
          have hNW : Nonempty (Wrt w7 w.heap.size [.string (bU x1), .string (bU pt), .slice a N c, .slice none 0 0, .string ⟨#[]⟩]) := by obtain ⟨y, _⟩ := unhide HWR ⟨w7, Below.refl _ _⟩; exact ⟨y⟩
          have HFN := hide (fun (y : Wrt w7 w.heap.size [.string (bU x1), .string (bU pt), .slice a N c, .slice none 0 0, .string ⟨#[]⟩]) => (unhide HBX7).trans (wrt_below y (Nat.le_refl _) (by omega)))
          have HRQ := hide (fun (W : World) (h : RowAt hdrE W a qs) => (show ReqAt W (bU x1) (bU pt) a N qs none 0 [] ⟨#[]⟩ from ⟨unhide HQL, rfl, by omega, by omega, unhide HSM, fun x hx => absurd hx (by simp), by rw [bU_size]; omega, by rw [bU_size]; omega, by decide, h, fun i hi => absurd hi (by simp)⟩))
          have HOF := hide (fun (x : Wrt w7 w.heap.size [.string (bU x1), .string (bU pt), .slice a N c, .slice none 0 0, .string ⟨#[]⟩]) => own_otherQ (unhide HOW7) (fun g hg => x.ok.block g (World.ownsRow.lt (unhide HOW7) g hg).2 (by have := (World.ownsRow.lt (unhide HOW7) g hg).1; show g ≠ w.heap.size; omega)))
          have HAG := hide (fun (x : Grown w7) => askOk_calls (bU x1) (bU pt) a N c qs none 0 0 [] ⟨#[]⟩ x.w (unhide HRQ _ ((unhide HOW7).keep x.ok).at))
          have HAW := hide (fun (x : Wrt w7 w.heap.size [.string (bU x1), .string (bU pt), .slice a N c, .slice none 0 0, .string ⟨#[]⟩]) => askOk_calls (bU x1) (bU pt) a N c qs none 0 0 [] ⟨#[]⟩ x.w (unhide HRQ _ (unhide HOF x).at))
          generalize askB (bU x1) (bU pt) qs = gg at HR3 HAG HAW
          refine Reg2.region_wrote (fun w' => ∃ x : Grown w7, w' = x.w) (fun w' => ∃ x : Wrt w7 w.heap.size [.string (bU x1), .string (bU pt), .slice a N c, .slice none 0 0, .string ⟨#[]⟩], w' = x.w) 3 _ (by kernel_rfl) (by kernel_rfl) rfl rfl (by kernel_rfl) (by kernel_rfl) ⟨⟨{ w7 with drawn := w7.drawn + 1 }, ⟨rfl, rfl, rfl, Nat.le_refl _, fun _ _ => rfl⟩⟩, rfl⟩ ?_
          simp only [List.take_succ_cons, List.take_zero, List.drop_succ_cons, List.drop_zero]
          repeat (go_big_quiet_step (first | (go_at_call 36; exact calls_grown _ (unhide HAG _))))
          refine wpQuiet_nil ⟨?_, by kernel_rfl, ?_, ?_⟩
          · repeat (go_big_quiet_step (first | (go_at_call 36; exact calls_wrt _ (unhide HAW _))))
            exact wpQuiet_nil rfl
          · rintro _ ⟨x, rfl⟩
            obtain ⟨⟨b0, b1, b2, b3, b4⟩, z0, z1, z2, z3, z4⟩ := unhide HOV x
            obtain ⟨y, hy⟩ := unhide HWR x
            refine ⟨_, ?_, ⟨y, hy⟩⟩
            simp [go_sem, b0, b1, b2, b3, b4, z0, z1, z2, z3, z4]
          · repeat (go_big_quiet_step (fail))
            refine wpQuiet_nil ⟨?_, ?_⟩
            · repeat (go_big_quiet_step (fail))
              exact wpQuiet_nil rfl
            · rintro _ ⟨y, rfl⟩
              go_wp2_with fail
              obtain ⟨y0, y1, y2, y3, y4⟩ := y.blk.five
              refine bodyPost_ret (v := .tuple #[.agg #[.string (bU x1), .string (bU pt), .slice a N c, .slice none 0 0, .string ⟨#[]⟩], .bool gg]) ?_ rfl ⟨?_, unhide HFN y⟩
              · simp [results, Tryz.results76, go_sem, y0, y1, y2, y3, y4]
              · rw [← unhide HR3]
                cases gg with
                | false =>
                  rw [if_neg (by decide)]
                  exact ⟨_, _, _, _, _, rfl⟩
                | true =>
                  rw [if_pos rfl]
                  have hql := unhide HQL
                  exact ⟨a, c, by rw [hql], by rw [hql]; exact own_lowQ (unhide HOF y) (by omega)⟩
    · have hcl : ((bU x3).toList == [72, 84, 84, 80, 47, 49, 46, 49]) = false := by rw [ByteArray.toList_eq, bU_data]; exact beq_eq_false_iff_ne.2 hh
      have hcn : ((bU x3).toList != [72, 84, 84, 80, 47, 49, 46, 49]) = true := by rw [bne, hcl]; rfl
      have hR := unhide HR
      rw [if_neg hh] at hR
      simp only at hR
      have HX := hide hR.symm
      clear hR HR hh
      obtain ⟨b0, b1, b2, b3, b4⟩ := (unhide HB2).five
      obtain ⟨z0, z1, z2, z3, z4⟩ := (unhide HB2).fiveZ
      go_wp2_with fail
      obtain ⟨r0, r1, r2, r3, r4⟩ := (out5_blk (unhide HB2) (.string ⟨#[]⟩) (.string ⟨#[]⟩) (.slice none 0 0) (.slice none 0 0) (.string ⟨#[]⟩)).five
      unfold out5 at r0 r1 r2 r3 r4
      exact bodyPost_ret (v := .tuple #[.agg #[.string ⟨#[]⟩, .string ⟨#[]⟩, .slice none 0 0, .slice none 0 0, .string ⟨#[]⟩], .bool false]) (by simp [results, Tryz.results76, go_sem, r0, r1, r2, r3, r4]) rfl ⟨by rw [unhide HX]; exact ⟨_, _, _, _, _, rfl⟩, (unhide HBX).trans (out5_below _ _ _ _ _ _ _)⟩
  · have HX := hide (hR.symm.trans (by rw [wrdF_no h3]))
    obtain ⟨L, hL⟩ : ∃ L, ws.length = L := ⟨_, rfl⟩
    rw [hL] at hsp
    have hne : ((L : Int) != 3) = true := by rw [bne_iff_ne]; omega
    have HSP := hide hsp
    clear hR hsz hL hsp
    go_enter Tryz.func76, Tryz.ntmps76
    go_wp2_with fail
    rw [unhide HW1]
    refine (unhide HSP).mono ?_
    rintro e w2 ⟨rfl, hw2⟩
    have hb2 : Below W1.heap.size W1 w2 := by rw [hw2]; exact bel1 _ _
    have HB2 := hide ((unhide HB1).call hb2)
    have HBX := hide ((unhide HBW).trans (hb2.mono (unhide HBW).size))
    clear hb2 hw2 HB1 HBW HSP HW1
    obtain ⟨b0, b1, b2, b3, b4⟩ := (unhide HB2).five
    obtain ⟨z0, z1, z2, z3, z4⟩ := (unhide HB2).fiveZ
    go_wp2_with fail
    obtain ⟨r0, r1, r2, r3, r4⟩ := (out5_blk (unhide HB2) (.string ⟨#[]⟩) (.string ⟨#[]⟩) (.slice none 0 0) (.slice none 0 0) (.string ⟨#[]⟩)).five
    unfold out5 at r0 r1 r2 r3 r4
    exact bodyPost_ret (v := .tuple #[.agg #[.string ⟨#[]⟩, .string ⟨#[]⟩, .slice none 0 0, .slice none 0 0, .string ⟨#[]⟩], .bool false]) (by simp [results, Tryz.results76, go_sem, r0, r1, r2, r3, r4]) rfl ⟨by rw [unhide HX]; exact ⟨_, _, _, _, _, rfl⟩, (unhide HBX).trans (out5_below _ _ _ _ _ _ _)⟩
end Go.Proofs.YtanekbifdedmeaaGreatDoor
