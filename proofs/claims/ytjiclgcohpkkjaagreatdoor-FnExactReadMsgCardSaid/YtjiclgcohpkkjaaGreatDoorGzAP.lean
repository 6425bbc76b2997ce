/- Texts of one kind, put together. -/
import Derived.Test.YtjiclgcohpkkjaaGreatDoorGzAO
import Derived.Test.YtjiclgcohpkkjaaGreatDoorGzAF
import Derived.Deep.RegionWith

/- ReadFrames of the program. -/
namespace Go.Proofs.YtjiclgcohpkkjaaGreatDoor
open Go.RowKit Plain
set_option linter.unusedVariables false

theorem store_any {P : Program} {ops : Array Oper} {rest : List Oper} {o : Oper} {a : Act} {w : World} {Q : Exit → Act → World → Prop} (hgd : o.guard = none) (ty : TypeId) (x y : Operand) (ho : o.op = .store ty x y)
    (g : Nat) (cells : Array Value) (hx : a.eval x = .pointer (some ⟨g, 0, none⟩)) (hy : a.eval y = .agg cells)
    (t : TypeId) (old : Array Value) (hg : w.heap[g]? = some (.cells old t (0, 0))) (hi : (P.info? ty).map (·.size) = some cells.size)
    (hold : old.size = cells.size) (h1 : cells.all (·.oneCell') = true)
    (h : ∀ w', w'.heap[g]? = some (.cells cells t (0, 0)) → w.grownBy w' (some g) → w'.heap.size = w.heap.size → wpList P ops Q rest (a.put o.dst undef) w') : wpList P ops Q (o :: rest) a w :=
  wpList_store_row hgd ty x y ho g cells hx hy t old hg hi hold h1 (h _ (setRow_heap w g _ _ t _ hg) (splice_grown _) (by simp))

namespace Plain
theorem fold_list (off : Nat) : ∀ (l : List Value) (k : Nat) (base : Array Value), off + k + l.length ≤ base.size →
    ((l.zipIdx k).foldl (fun cs x => cs.setIfInBounds (off + x.2) x.1) base).size = base.size ∧
    ∀ j : Nat, ((l.zipIdx k).foldl (fun cs x => cs.setIfInBounds (off + x.2) x.1) base)[j]? = if off + k ≤ j ∧ j < off + k + l.length then l[j - (off + k)]? else base[j]? := by
  intro l
  induction l with
  | nil => intro k base h; simp; intro j h1 h2; omega
  | cons x l ih =>
    intro k base h
    rw [List.zipIdx_cons, List.foldl_cons]
    simp only [List.length_cons] at h
    have := ih (k + 1) (base.setIfInBounds (off + k) x) (by simp; omega)
    refine ⟨by rw [this.1]; simp, fun j => ?_⟩
    rw [this.2 j]
    simp only [List.length_cons]
    by_cases h1 : off + (k + 1) ≤ j ∧ j < off + (k + 1) + l.length
    · rw [if_pos h1, if_pos (by omega), show j - (off + k) = (j - (off + (k + 1))) + 1 from by omega, List.getElem?_cons_succ]
    · rw [if_neg h1, Array.getElem?_setIfInBounds]
      by_cases h2 : off + k = j
      · subst h2
        rw [if_pos rfl, if_pos (by omega), if_pos (by omega)]
        simp
      · rw [if_neg h2, if_neg (by omega)]
noncomputable def bigC (s : ByteArray) (arr : Array Value) : Array Value :=
  Array.foldl (fun cs x => cs.setIfInBounds (2 + x.snd) x.fst) ((Tryz.zeroCells162.setIfInBounds 0 (.string s)).setIfInBounds 1 (.int .i64 0)) arr.zipIdx 0 256
theorem zero75 : Tryz.zeroCells162.size = 258 := by kernel_rfl
theorem bigC_is (s : ByteArray) (arr : Array Value) (h : arr.size = 256) : (bigC s arr).size = 258 ∧ (bigC s arr)[0]? = some (.string s) ∧ (bigC s arr)[1]? = some (.int .i64 0) ∧ ∀ j, j < 256 → (bigC s arr)[2 + j]? = arr[j]? := by
  have hf := fold_list 2 arr.toList 0 ((Tryz.zeroCells162.setIfInBounds 0 (.string s)).setIfInBounds 1 (.int .i64 0)) (by simp [h])
  have e : bigC s arr = (arr.toList.zipIdx 0).foldl (fun cs x => cs.setIfInBounds (2 + x.2) x.1) ((Tryz.zeroCells162.setIfInBounds 0 (.string s)).setIfInBounds 1 (.int .i64 0)) := by
    unfold bigC
    have h2 : arr.zipIdx.size = 256 := by simp [h]
    rw [← h2, ← Array.foldl_toList]
    simp
  rw [← e] at hf
  refine ⟨by rw [hf.1]; simp, ?_, ?_, fun j hj => ?_⟩
  · rw [hf.2 0, if_neg (by omega)]; simp
  · rw [hf.2 1, if_neg (by omega)]; simp
  · rw [hf.2 (2 + j), if_pos (by simp [h]; omega)]; simp
theorem bigC_one (s : ByteArray) (arr : Array Value) (h : arr.size = 256) (h1 : arr.all (·.oneCell') = true) : (bigC s arr).all (·.oneCell') = true := by
  obtain ⟨a, b, c, d⟩ := bigC_is s arr h
  rw [Array.all_eq_true] at h1 ⊢
  intro i hi
  rcases (show i = 0 ∨ i = 1 ∨ 2 ≤ i from by omega) with rfl | rfl | h2
  · rw [Array.getElem?_eq_getElem hi] at b; rw [Option.some.inj b]; rfl
  · rw [Array.getElem?_eq_getElem hi] at c; rw [Option.some.inj c]; rfl
  · have := d (i - 2) (by omega)
    rw [show 2 + (i - 2) = i from by omega, Array.getElem?_eq_getElem hi, Array.getElem?_eq_getElem (by omega)] at this
    rw [Option.some.inj this]
    exact h1 _ (by omega)
end Plain
theorem info75 : (Tryz.prog.info? 162).map (·.size) = some 258 := by kernel_rfl

theorem ownF_form {W : World} {B : Nat} {v : Value} {fs : List (Int × ByteArray)} (h : OwnF W B v fs) : ∃ a c, v = .slice a fs.length c := by
  rcases h.2 with ⟨rfl, h0⟩ | ⟨g, cap, cur, rfl, _⟩
  · rw [h0]; exact ⟨none, 0, rfl⟩
  · exact ⟨_, _, rfl⟩
theorem ownF_mono {W : World} {B B' : Nat} {v : Value} {fs : List (Int × ByteArray)} (h : OwnF W B v fs) (hb : B' ≤ B) : OwnF W B' v fs := by
  rcases h with ⟨hl, h1 | ⟨g, cap, cur, e, hg, hr⟩⟩
  · exact ⟨hl, .inl h1⟩
  · exact ⟨hl, .inr ⟨g, cap, cur, e, Nat.le_trans hb hg, hr⟩⟩
theorem ownF_keep {W W' : World} {B : Nat} {v : Value} {fs : List (Int × ByteArray)} (h : OwnF W B v fs) (hb : ∀ g, B ≤ g → g < W.heap.size → W'.heap[g]? = W.heap[g]?) : OwnF W' B v fs := by
  rcases h with ⟨hl, h1 | ⟨g, cap, cur, rfl, hg, hc, hr⟩⟩
  · exact ⟨hl, .inl h1⟩
  · refine ⟨hl, .inr ⟨g, cap, cur, rfl, hg, ?_, hr⟩⟩
    rw [hb g hg ?_]
    · exact hc
    · rcases Nat.lt_or_ge g W.heap.size with h | h
      · exact h
      · rw [Array.getElem?_eq_none h] at hc; cases hc
theorem ownF_below {W W' : World} {B : Nat} {v : Value} {fs : List (Int × ByteArray)} (h : OwnF W B v fs) (hb : Below W.heap.size W W') : OwnF W' B v fs := ownF_keep h (fun g _ hg => hb.block g hg)
theorem ownF_only {W W' : World} {B R : Nat} {v : Value} {fs : List (Int × ByteArray)} (h : OwnF W B v fs) (ho : OnlyAt ⟨R, 1, none⟩ W W') (hR : R < B) : OwnF W' B v fs := ownF_keep h (fun g hg hl => ho.block g hl (by simp; omega))
theorem empty_rest (s : ByteArray) (p : Nat) (h : s.size ≤ p) : (s.extract p s.size).toList.isEmpty = true := by
  rw [ByteArray.toList_eq, ByteArray.data_extract]
  simp
  omega
theorem full_rest (s : ByteArray) (p : Nat) (h : p < s.size) : (s.extract p s.size).toList.isEmpty = false := by
  rw [ByteArray.toList_eq, ByteArray.data_extract]
  simp
  omega

set_option maxRecDepth 10000 in
set_option maxHeartbeats 2000000 in
theorem implRead_calls (s : ByteArray) (w : World) (hs : s.size ≤ 1000000000) :
    Calls Tryz.prog 64 #[.string s] w fun e w' => ∃ v, e = .returned (.tuple #[v, .int .i64 ((readF s).2.1 : Nat), .int .i64 (readF s).2.2]) ∧ OwnF w' w.heap.size v (readF s).1 ∧ Below w.heap.size w w' := by
  go_enter Tryz.func64, Tryz.ntmps64
  go_wp2_with fail
  refine (newCrcTable_calls _).mono ?_
  rintro e w1 ⟨arr, htab, rfl, hb1⟩
  have HT := hide htab
  have HB1 := hide hb1
  have hsz := htab.1
  have hbc := bigC_is s arr hsz
  have h1c := bigC_one s arr hsz htab.2.1
  have hi75 : (Tryz.prog.info? 162).map (·.size) = some (bigC s arr).size := by rw [hbc.1]; exact info75
  have hold : Tryz.zeroCells162.size = (bigC s arr).size := by rw [hbc.1]; exact zero75
  have HBC := hide hbc
  have HI := hide hi75
  have HOLD := hide hold
  have H1C := hide h1c
  clear htab hb1 hbc hi75 hold h1c
  go_wp2_with (refine store_any rfl 162 (.tmp 5) (.tmp 12) rfl w1.heap.size (bigC s arr) rfl rfl 162 _ (h_new w1 _ rfl) (unhide HI) (unhide HOLD) (unhide H1C) ?_; intro w2 hrow2 hgr2 hsz2)
  have hb2 : Below w1.heap.size w1 w2 := ((Below.refl _ _).alloc (Nat.le_refl _) _).trans ((Below.refl _ _).grown hgr2 (by simp) (fun i hi => by simp at hi; omega))
  have hz2 : w1.heap.size < w2.heap.size := by rw [hsz2]; simp
  have hz1 := (unhide HB1).size
  have HB2 := hide ((unhide HB1).trans (hb2.mono hz1))
  obtain ⟨-, bc0, bc1, bc2⟩ := unhide HBC
  have c0 : w2.cell? ⟨w1.heap.size, 0, none⟩ = some (.string s) := (cell_of_row w2 _ 0 _ _ _ hrow2).trans bc0
  have c1 : w2.cell? ⟨w1.heap.size, 1, none⟩ = some (.int .i64 0) := (cell_of_row w2 _ 1 _ _ _ hrow2).trans bc1
  have cf : w2.frozen? ⟨w1.heap.size, 1, none⟩ = false := frozen_of_row w2 _ 1 _ _ hrow2
  have ct : TabAt w2 w1.heap.size 2 := fun j hj => ((cell_of_row w2 _ (2 + j) _ _ _ hrow2).trans (bc2 j hj)).trans ((unhide HT).2.2 j hj)
  have HC0 := hide c0
  have HC1 := hide c1
  have HCF := hide cf
  have HCT := hide ct
  clear hgr2 hsz2 hrow2 hb2 bc0 bc1 bc2 HBC HI HOLD H1C c0 c1 cf ct HT HB1 hsz
  generalize w1.heap.size = R at *
  go_loopw [6, 7, 8] (fun v _ _ wr => ∃ (F : List (Int × ByteArray)) (p : Nat), Hid (Mid s F p) ∧ Hid (OwnF wr w2.heap.size v F) ∧ Hid (wr.cell? ⟨R, 0, none⟩ = some (.string s) ∧ wr.cell? ⟨R, 1, none⟩ = some (.int .i64 p) ∧ wr.frozen? ⟨R, 1, none⟩ = false ∧ TabAt wr R 2) ∧ Hid (Below w.heap.size w wr) ∧ w2.heap.size ≤ wr.heap.size) (fun _ _ _ wr => match wr.cell? ⟨R, 1, none⟩ with | some (.int _ p) => s.size - p.toNat | _ => 0)
  case atStart => exact ⟨[], 0, Mid.start s, ownF_nil _ _, hide ⟨unhide HC0, unhide HC1, unhide HCF, unhide HCT⟩, HB2, Nat.le_refl _⟩
  case round =>
    clear HC0 HC1 HCF HCT HB2
    obtain ⟨F, p, HM, HO, HC, HB, hzr⟩ := hrel
    obtain ⟨c0, c1, cf, ct⟩ := unhide HC
    obtain ⟨hm1, hm2, -⟩ := unhide HM
    have HT := hide ct
    clear ct HC
    obtain ⟨fa, fc, rfl⟩ := ownF_form (unhide HO)
    by_cases hp : s.size ≤ p
    · have hend := (unhide HM).ends hp
      have hemp := empty_rest s p hp
      have HE := hide hend
      clear hend
      go_wp2_with fail
      refine (rest_ok R 0 s p wr c0 c1 (by omega) (by omega)).mono ?_
      rintro e w3 ⟨rfl, k3, rfl⟩
      go_wp2_with fail
      go_region
      all_goals (try go_wp2_with fail)
      go_ret3
      exact ⟨_, by rw [unhide HE]; rfl, by rw [unhide HE]; exact ownF_mono (ownF_below (unhide HO) (below_drewN (Below.refl _ _) _)) (by omega), below_drewN (unhide HB) _⟩
    · have hne := full_rest s p (by omega)
      go_wp2_with fail
      refine (rest_ok R 0 s p wr c0 c1 (by omega) (by omega)).mono ?_
      rintro e w3 ⟨rfl, k3, rfl⟩
      by_cases hF : F.length = 2000
      · have hend := (unhide HM).many hp hF
        have HE := hide hend
        clear hend
        go_wp2_with fail
        go_region
        all_goals (try go_wp2_with fail)
        go_ret3
        exact ⟨_, by rw [unhide HE]; rfl, by rw [unhide HE]; have h := ownF_mono (ownF_below (unhide HO) (below_drewN (Below.refl _ _) (k3 + 1))) (show w.heap.size ≤ w2.heap.size by omega); rw [hF] at h; exact h, below_drewN (unhide HB) _⟩
      · have hF2 : F.length < 2000 := by omega
        have hnx := (unhide HM).next hp hF
        have hcd := (unhide HM).code hp hF
        obtain ⟨r, hr⟩ : ∃ r, s.extract p s.size = r := ⟨_, rfl⟩
        rw [hr] at hnx hcd
        have HNX := hide hnx
        have HCD := hide hcd
        have HR := hide hr
        clear hnx hcd hr
        go_wp2_with fail
        refine (frame_calls R s p (wr.drewN k3) (show (wr.drewN k3).cell? _ = _ from c0) (show (wr.drewN k3).cell? _ = _ from c1) (show (wr.drewN k3).frozen? _ = _ from cf) (show TabAt (wr.drewN k3) R 2 from unhide HT) (by omega) (by omega)).mono ?_
        rintro e w4 ⟨rfl, ho4, hc4⟩
        rw [unhide HR] at hc4 ⊢
        have hz4 : w2.heap.size ≤ w4.heap.size := Nat.le_trans hzr ho4.size
        have HO4 := hide (ownF_only (show OwnF (wr.drewN k3) w2.heap.size _ F from unhide HO) ho4 hz2)
        have hRl : R < wr.heap.size := lt_of_cell c0
        have a0 := (ho4.cell ⟨R, 0, none⟩ hRl (by simp)).trans (show (wr.drewN k3).cell? _ = _ from c0)
        have af := (ho4.frozen ⟨R, 1, none⟩ hRl).trans (show (wr.drewN k3).frozen? _ = _ from cf)
        have at2 : TabAt w4 R 2 := fun j hj => (ho4.cell ⟨R, 2 + j, none⟩ hRl (by simp)).trans (show (wr.drewN k3).cell? _ = _ from unhide HT j hj)
        have HB4 := hide ((below_drewN (unhide HB) k3).trans (ho4.below hz1 (Nat.le_trans (unhide HB).size (Nat.le_refl _))))
        have HAT := hide at2
        have HCW := hide c1
        clear ho4 at2 c0 c1 cf HT HB HO HR hne
        by_cases hc : frC r = 0
        · have hfv : frV r = .tuple #[.agg #[.int .i64 (bAt r 0 : Nat), .string (frB r)], .int .i64 0] := by unfold frV; rw [if_pos hc]
          have hfp : frP r p = p + frN r := by unfold frP; rw [if_pos hc]
          have HN := hide (unhide HNX hc)
          have hpos := (szI_ok (frC_ok hc)).1
          rw [hfv]
          rw [hfp] at hc4
          have hfm : frm r = ((bAt r 0 : Int), frB r) := rfl
          rw [hfm] at HN
          have hfn : frN r = (szI r).2 := rfl
          rw [← hfn] at hpos
          clear hfv hfp HNX HCD hc hfm hfn
          generalize (bAt r 0 : Int) = kd at HN
          generalize frB r = bd at HN
          generalize frN r = nn at HN hc4 hpos
          have hX : Below w4.heap.size w4 (w4.alloc (.cells #[.int .i64 kd, .string bd] 55)) := (Below.refl _ _).alloc (Nat.le_refl _) _
          have HX := hide hX
          have HOX := hide (ownF_below (unhide HO4) hX)
          have hzX := hX.size
          clear hX
          go_wp2_with (at_builtin; go_must (refine appF rfl _ _ rfl (unhide HOX) rfl _ rfl (by simp) (by omega) (Nat.le_trans hz4 hzX) ?_); intro v' w6 hown6 hb6)
          go_roundw
          case rel =>
            have hball : Below w2.heap.size w4 w6 := ((Below.refl w2.heap.size w4).alloc hz4 _).trans hb6
            exact ⟨F ++ [(kd, bd)], p + nn, HN, hide hown6, hide ⟨(hball.cell (p := ⟨R, 0, none⟩) hz2).trans a0, (hball.cell (p := ⟨R, 1, none⟩) hz2).trans hc4, (hball.frozen (p := ⟨R, 1, none⟩) hz2).trans af, (unhide HAT).below hball hz2⟩, hide ((unhide HB4).trans (hball.mono (by omega))), Nat.le_trans hz4 hball.size⟩
          case measure =>
            have hball : Below w2.heap.size w4 w6 := ((Below.refl w2.heap.size w4).alloc hz4 _).trans hb6
            rw [(hball.cell (p := ⟨R, 1, none⟩) hz2).trans hc4, unhide HCW]
            simp
            omega
        · have hfv : frV r = .tuple #[.agg #[.int .i64 0, .string ⟨#[]⟩], .int .i64 (frC r)] := by unfold frV; rw [if_neg hc]; rfl
          have hfp : frP r p = p := by unfold frP; rw [if_neg hc]
          have HN := hide (unhide HCD hc)
          rw [hfv]
          rw [hfp] at hc4
          clear hfv hfp HNX HCD
          generalize frC r = cd at HN hc
          have hX : Below w4.heap.size w4 (w4.alloc (.cells #[.int .i64 0, .string ⟨#[]⟩] 55)) := (Below.refl _ _).alloc (Nat.le_refl _) _
          have hRX : R < w4.heap.size := lt_of_cell a0
          have HX := hide hX
          have HOX := hide (ownF_below (unhide HO4) hX)
          have hcX := (hX.cell (p := ⟨R, 1, none⟩) hRX).trans hc4
          clear hX
          go_wp2_with fail
          go_region
          all_goals (try go_wp2_with fail)
          go_ret3
          exact ⟨_, by rw [unhide HN]; rfl, by rw [unhide HN]; exact ownF_mono (unhide HOX) (by omega), ((unhide HB4).trans ((unhide HX).mono (by omega))).drew⟩
end Go.Proofs.YtjiclgcohpkkjaaGreatDoor


/- Frames compared, marked and looked at again, as the exact laws do it. -/
namespace Go.Proofs.YtjiclgcohpkkjaaGreatDoor
open Go.RowKit Plain
set_option linter.unusedVariables false



namespace Plain
/-- The slice at a holds the frames fs, which may be written. -/
def FrAt (W : World) (a : Option Addr) (fs : List (Int × ByteArray)) : Prop := ∀ i (h : i < fs.length), ∃ g, a = some ⟨g, 0, none⟩ ∧ g < W.heap.size ∧
  W.cell? ⟨g, i * 2, none⟩ = some (.int .i64 (fs[i]).1) ∧ W.cell? ⟨g, i * 2 + 1, none⟩ = some (.string (fs[i]).2) ∧ W.frozen? ⟨g, i * 2, none⟩ = false ∧ W.frozen? ⟨g, i * 2 + 1, none⟩ = false
theorem FrAt.below {W W' : World} {a : Option Addr} {fs : List (Int × ByteArray)} (h : FrAt W a fs) (hb : Below W.heap.size W W') : FrAt W' a fs := fun i hi => by
  obtain ⟨g, e, hl, h1, h2, h3, h4⟩ := h i hi
  exact ⟨g, e, Nat.lt_of_lt_of_le hl hb.size, (hb.cell (p := ⟨g, i * 2, none⟩) hl).trans h1, (hb.cell (p := ⟨g, i * 2 + 1, none⟩) hl).trans h2, (hb.frozen (p := ⟨g, i * 2, none⟩) hl).trans h3, (hb.frozen (p := ⟨g, i * 2 + 1, none⟩) hl).trans h4⟩
end Plain
theorem OwnF.at {W : World} {B : Nat} {a : Option Addr} {n c : Nat} {fs : List (Int × ByteArray)} (h : OwnF W B (.slice a n c) fs) (hn : fs.length = n) : FrAt W a fs := by
  intro i hi
  subst hn
  rcases h.2 with ⟨e, h0⟩ | ⟨g, cap, cur, e, hg, hc, _⟩
  · omega
  · cases e
    have hlt : g < W.heap.size := by
      rcases Nat.lt_or_ge g W.heap.size with h | h
      · exact h
      · rw [Array.getElem?_eq_none h] at hc; cases hc
    have hf := fcells_get fs i hi
    exact ⟨g, rfl, hlt, (h.cellAt (i * 2) (by omega)).trans hf.1, (h.cellAt (i * 2 + 1) (by omega)).trans hf.2, h.frozenAt _, h.frozenAt _⟩



namespace Plain
theorem FrAt.set1 {W : World} {g : Nat} {L : List (Int × ByteArray)} (h : FrAt W (some ⟨g, 0, none⟩) L) (k : Nat) (hk : k < L.length) (x : Int) : FrAt (W.setCell ⟨g, k * 2, none⟩ (.int .i64 x)) (some ⟨g, 0, none⟩) (L.set k (x, L[k].2)) := by
  intro i hi
  rw [List.length_set] at hi
  obtain ⟨g', e, hl, h1, h2, h3, h4⟩ := h i hi
  cases e
  refine ⟨g, rfl, by simpa using hl, ?_, ?_, by simpa using h3, by simpa using h4⟩
  · by_cases e : k = i
    · subst e
      rw [World.cell?_setCell_same' _ _ _ (by rw [h1]; rfl)]
      simp
    · rw [World.cell?_setCell_other _ ⟨g, k * 2, none⟩ ⟨g, i * 2, none⟩ _ (fun q => e (by have := congrArg Addr.off q; simp at this; omega)), h1]
      simp [e]
  · rw [World.cell?_setCell_other _ ⟨g, k * 2, none⟩ ⟨g, i * 2 + 1, none⟩ _ (fun q => by have := congrArg Addr.off q; simp at this; omega), h2]
    by_cases e : k = i
    · subst e; simp
    · simp [e]
theorem FrAt.set2 {W : World} {g : Nat} {L : List (Int × ByteArray)} (h : FrAt W (some ⟨g, 0, none⟩) L) (k : Nat) (hk : k < L.length) (y : ByteArray) : FrAt (W.setCell ⟨g, k * 2 + 1, none⟩ (.string y)) (some ⟨g, 0, none⟩) (L.set k (L[k].1, y)) := by
  intro i hi
  rw [List.length_set] at hi
  obtain ⟨g', e, hl, h1, h2, h3, h4⟩ := h i hi
  cases e
  refine ⟨g, rfl, by simpa using hl, ?_, ?_, by simpa using h3, by simpa using h4⟩
  · rw [World.cell?_setCell_other _ ⟨g, k * 2 + 1, none⟩ ⟨g, i * 2, none⟩ _ (fun q => by have := congrArg Addr.off q; simp at this; omega), h1]
    by_cases e : k = i
    · subst e; simp
    · simp [e]
  · by_cases e : k = i
    · subst e
      rw [World.cell?_setCell_same' _ _ _ (by rw [h2]; rfl)]
      simp
    · rw [World.cell?_setCell_other _ ⟨g, k * 2 + 1, none⟩ ⟨g, i * 2 + 1, none⟩ _ (fun q => e (by have := congrArg Addr.off q; simp at this; omega)), h2]
      simp [e]

/-- What the marking leaves. -/
def mkF (n : Nat) : List (Int × ByteArray) := (List.range n).map fun i : Nat => (2 * (i : Int) + 1, mtx (2 * i + 2))
theorem mkF_length (n : Nat) : (mkF n).length = n := by simp [mkF]
theorem mkF_get (n k : Nat) (h : k < (mkF n).length) : (mkF n)[k] = (2 * (k : Int) + 1, mtx (2 * k + 2)) := by simp [mkF]
def mixF (fs : List (Int × ByteArray)) (k : Nat) : List (Int × ByteArray) := mkF k ++ fs.drop k
theorem mixF_length (fs : List (Int × ByteArray)) (k : Nat) (h : k ≤ fs.length) : (mixF fs k).length = fs.length := by simp [mixF, mkF_length]; omega
theorem mixF_zero (fs : List (Int × ByteArray)) : mixF fs 0 = fs := by simp [mixF, mkF]
theorem mixF_end (fs : List (Int × ByteArray)) : mixF fs fs.length = mkF fs.length := by simp [mixF]
theorem mixF_next (fs : List (Int × ByteArray)) (k : Nat) (h : k < fs.length) : (mixF fs k).set k (2 * (k : Int) + 1, mtx (2 * k + 2)) = mixF fs (k + 1) := by
  have hl := mkF_length k
  unfold mixF
  rw [List.set_append_right _ _ (by omega), hl, Nat.sub_self, List.drop_eq_getElem_cons h, List.set_cons_zero]
  simp [mkF, List.range_succ]
end Plain



end Go.Proofs.YtjiclgcohpkkjaaGreatDoor
