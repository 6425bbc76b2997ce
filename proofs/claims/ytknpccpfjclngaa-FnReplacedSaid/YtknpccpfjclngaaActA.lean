/- One op done on a disk, by the specification. -/
import Derived.Test.YtknpccpfjclngaaCpyA
import Derived.Test.YtknpccpfjclngaaGAI
namespace Go.Proofs.Ytknpccpfjclngaa
open Go.RowKit Plain
set_option linter.unusedVariables false

/-- A disk that the specification answers: three rows in new blocks. -/
def SpcQ (f : Value → Value) (live safe : List Fl) (ops : List Dop) (w : World) (e : Ending) (w' : World) : Prop :=
  ∃ aL cL aS cS aO cO, e = .returned (f (.agg #[.slice aL live.length cL, .slice aS safe.length cS, .slice aO ops.length cO])) ∧ RowAt fileE w' aL live ∧ RowAt fileE w' aS safe ∧ RowAt dopE w' aO ops ∧ (AdOk aL cL ∧ AdOk aS cS ∧ AdOk aO cO) ∧ (∀ k, inB aL k → w.heap.size ≤ k) ∧ (∀ k, inB aS k → w.heap.size ≤ k) ∧ (∀ k, inB aO k → w.heap.size ≤ k) ∧ Below w.heap.size w w'
theorem spcRetQ {f : Value → Value} {w w7 : World} {rb : Nat} {y1 y2 y3 : Option Addr} {k1 k2 k3 : Nat} {live safe : List Fl} {ops : List Dop} (h1 : RowAt fileE w7 y1 live) (h2 : RowAt fileE w7 y2 safe) (h3 : RowAt dopE w7 y3 ops) (had : AdOk y1 k1 ∧ AdOk y2 k2 ∧ AdOk y3 k3) (m1 : ∀ k, inB y1 k → w.heap.size ≤ k ∧ k ≠ rb) (m2 : ∀ k, inB y2 k → w.heap.size ≤ k ∧ k ≠ rb) (m3 : ∀ k, inB y3 k → w.heap.size ≤ k ∧ k ≠ rb)
    (hrb : w.heap.size ≤ rb) (hb : Below w.heap.size w w7) : SpcQ f live safe ops w (.returned (f (.agg #[.slice y1 live.length k1, .slice y2 safe.length k2, .slice y3 ops.length k3]))) (((w7.setCell ⟨rb, 0, none⟩ (.slice y1 live.length k1)).setCell ⟨rb, 1, none⟩ (.slice y2 safe.length k2)).setCell ⟨rb, 2, none⟩ (.slice y3 ops.length k3)) :=
  have n1 := fun k hk => (m1 k hk).2
  have n2 := fun k hk => (m2 k hk).2
  have n3 := fun k hk => (m3 k hk).2
  ⟨y1, k1, y2, k2, y3, k3, rfl, ((h1.setO (.inr n1)).setO (.inr n1)).setO (.inr n1), ((h2.setO (.inr n2)).setO (.inr n2)).setO (.inr n2), ((h3.setO (.inr n3)).setO (.inr n3)).setO (.inr n3), had, fun k hk => (m1 k hk).1, fun k hk => (m2 k hk).1, fun k hk => (m3 k hk).1, ((hb.setCell hrb _).setCell hrb _).setCell hrb _⟩
/-- The row of the files may be appended to: it is the call's own, apart from the others. -/
def Plain.LvOwn (B0 : Nat) (w' : World) (aL : Option Addr) (cL : Nat) (live : List Fl) (aS : Option Addr) (safe : List Fl) (aO : Option Addr) (cO : Nat) (ops : List Dop) : Prop :=
  ∃ B, B0 ≤ B ∧ B ≤ w'.heap.size ∧ OwnOr fileE w' B aL cL live ∧ (safe = [] ∨ ∀ k, inB aL k → ¬ inB aS k) ∧ (ops = [] ∨ ∀ k, inB aL k → ¬ inB aO k) ∧ ops.length ≤ cO
/-- As SpcQ, and at code nought the row of the files is owned. -/
def SpcO (f : Value → Value) (live safe : List Fl) (ops : List Dop) (c : Int) (w : World) (e : Ending) (w' : World) : Prop :=
  ∃ aL cL aS cS aO cO, e = .returned (f (.agg #[.slice aL live.length cL, .slice aS safe.length cS, .slice aO ops.length cO])) ∧ RowAt fileE w' aL live ∧ RowAt fileE w' aS safe ∧ RowAt dopE w' aO ops ∧ (AdOk aL cL ∧ AdOk aS cS ∧ AdOk aO cO) ∧ (∀ k, inB aL k → w.heap.size ≤ k) ∧ (∀ k, inB aS k → w.heap.size ≤ k) ∧ (∀ k, inB aO k → w.heap.size ≤ k) ∧ Below w.heap.size w w' ∧ (c = 0 → LvOwn w.heap.size w' aL cL live aS safe aO cO ops)
theorem SpcO.toQ {f : Value → Value} {live safe : List Fl} {ops : List Dop} {c : Int} {w w' : World} {e : Ending} (h : SpcO f live safe ops c w e w') : SpcQ f live safe ops w e w' := by
  obtain ⟨aL, cL, aS, cS, aO, cO, h1, h2, h3, h4, h5, h6, h7, h8, h9, -⟩ := h
  exact ⟨aL, cL, aS, cS, aO, cO, h1, h2, h3, h4, h5, h6, h7, h8, h9⟩
theorem SpcQ.toO {f : Value → Value} {live safe : List Fl} {ops : List Dop} {c : Int} {w w' : World} {e : Ending} (h : SpcQ f live safe ops w e w') (hc : c ≠ 0) : SpcO f live safe ops c w e w' := by
  obtain ⟨aL, cL, aS, cS, aO, cO, h1, h2, h3, h4, h5, h6, h7, h8, h9⟩ := h
  exact ⟨aL, cL, aS, cS, aO, cO, h1, h2, h3, h4, h5, h6, h7, h8, h9, fun q => absurd q hc⟩
theorem own_capA {α : Type} {e : Elem α} {W : World} {B n c : Nat} {a : Option Addr} {xs : List α} (h : OwnR e W B (.slice a n c) xs) : n ≤ c := by
  rcases h.2 with ⟨q, _⟩ | ⟨g, cap, cur, q, _, _, hc, _⟩
  · cases q; exact Nat.le_refl _
  · cases q; exact hc
theorem heap_setF {W : World} {b i g : Nat} {u : Value} (h : b ≠ g) : (W.setCell ⟨b, i, none⟩ u).heap[g]? = W.heap[g]? := Below.heap_setCell _ _ _ _ (fun e => h (by simp at e; exact e.symm))
theorem Plain.OwnOr.setF {w : World} {B rb i : Nat} {u : Value} {a : Option Addr} {c : Nat} {xs : List Fl} (h : OwnOr fileE w B a c xs) (hB : rb < B) : OwnOr fileE (w.setCell ⟨rb, i, none⟩ u) B a c xs := by
  rcases h with h | ⟨h1, h2, g, h3, h4⟩
  · exact .inl (h.other fun g hg => by have := (World.ownsRow.lt h g hg).1; exact heap_setF (by omega))
  · exact .inr ⟨h1, h2, g, h3, by simpa using h4⟩
theorem spcRetO {f : Value → Value} {w w7 : World} {rb : Nat} {y1 y2 y3 : Option Addr} {k1 k2 k3 : Nat} {live safe : List Fl} {ops : List Dop} {c : Int} (h1 : RowAt fileE w7 y1 live) (h2 : RowAt fileE w7 y2 safe) (h3 : RowAt dopE w7 y3 ops) (had : AdOk y1 k1 ∧ AdOk y2 k2 ∧ AdOk y3 k3) (m1 : ∀ k, inB y1 k → w.heap.size ≤ k ∧ k ≠ rb) (m2 : ∀ k, inB y2 k → w.heap.size ≤ k ∧ k ≠ rb) (m3 : ∀ k, inB y3 k → w.heap.size ≤ k ∧ k ≠ rb)
    (hrb : w.heap.size ≤ rb) (hb : Below w.heap.size w w7) (ho : c = 0 → rb < w7.heap.size ∧ LvOwn (rb + 1) w7 y1 k1 live y2 safe y3 k3 ops) : SpcO f live safe ops c w (.returned (f (.agg #[.slice y1 live.length k1, .slice y2 safe.length k2, .slice y3 ops.length k3]))) (((w7.setCell ⟨rb, 0, none⟩ (.slice y1 live.length k1)).setCell ⟨rb, 1, none⟩ (.slice y2 safe.length k2)).setCell ⟨rb, 2, none⟩ (.slice y3 ops.length k3)) :=
  have n1 := fun k hk => (m1 k hk).2
  have n2 := fun k hk => (m2 k hk).2
  have n3 := fun k hk => (m3 k hk).2
  ⟨y1, k1, y2, k2, y3, k3, rfl, ((h1.setO (.inr n1)).setO (.inr n1)).setO (.inr n1), ((h2.setO (.inr n2)).setO (.inr n2)).setO (.inr n2), ((h3.setO (.inr n3)).setO (.inr n3)).setO (.inr n3), had, fun k hk => (m1 k hk).1, fun k hk => (m2 k hk).1, fun k hk => (m3 k hk).1, ((hb.setCell hrb _).setCell hrb _).setCell hrb _, fun q => by
    obtain ⟨B, b1, b2, b3, b4⟩ := (ho q).2
    exact ⟨B, by omega, by simpa using b2, ((b3.setF (by omega)).setF (by omega)).setF (by omega), b4⟩⟩
theorem Plain.OwnOr.below {w w' : World} {B : Nat} {a : Option Addr} {c : Nat} {xs : List Dop} (h : OwnOr dopE w B a c xs) (hb : Below w.heap.size w w') : OwnOr dopE w' B a c xs := by
  rcases h with h | ⟨h1, h2, g, h3, h4⟩
  · exact .inl (h.keep hb)
  · exact .inr ⟨h1, h2, g, h3, Nat.lt_of_lt_of_le h4 hb.size⟩
theorem Plain.AppM.blk {α : Type} {e : Elem α} {B : Nat} {w w' : World} {a : Option Addr} {c : Nat} {xs : List α} {x : α} {g' c' : Nat} (h : AppM e B w w' a c xs x g' c') (k : Nat) (hk : k < w.heap.size) (hn : ¬ inB a k) : w'.heap[k]? = w.heap[k]? := by
  rcases h.gr with q | ⟨o, q⟩
  · exact q.block k hk (fun r => by cases r)
  · exact q.block k hk (fun r => hn (o.inb r.symm))
theorem Plain.AppM.below {α : Type} {e : Elem α} {B : Nat} {w w' : World} {a : Option Addr} {c : Nat} {xs : List α} {x : α} {g' c' : Nat} (h : AppM e B w w' a c xs x g' c') (hB : B ≤ w.heap.size) : Below B w w' := by
  rcases h.gr with q | ⟨o, q⟩
  · exact (below_none q).mono hB
  · exact own_below o q hB
theorem RowAt.offM {α β : Type} {e : Elem α} {e' : Elem β} {B : Nat} {w w' : World} {a : Option Addr} {c : Nat} {xs : List α} {x : α} {g' c' : Nat} {b : Option Addr} {ys : List β} (r : RowAt e' w b ys) (h : AppM e B w w' a c xs x g' c') (hn : OwnR e w B (.slice a xs.length c) xs → ∀ k, inB b k → ¬ inB a k) : RowAt e' w' b ys := fun i hi => by
  obtain ⟨k, e1, hl, hc⟩ := r i hi
  have hb : w'.heap[k]? = w.heap[k]? := by
    rcases h.gr with q | ⟨o, q⟩
    · exact q.block k hl (fun r => by cases r)
    · exact q.block k hl (fun r => hn o k ⟨0, e1⟩ (o.inb r.symm))
  have hz : w.heap.size ≤ w'.heap.size := by rcases h.gr with q | ⟨o, q⟩ <;> exact q.size
  exact ⟨k, e1, Nat.lt_of_lt_of_le hl hz, fun j hj => ⟨(World.cell?_of_block (a := ⟨k, i * e'.n + j, none⟩) hb).trans (hc j hj).1, (World.frozen?_of_block (a := ⟨k, i * e'.n + j, none⟩) hb).trans (hc j hj).2⟩⟩

set_option maxRecDepth 10000 in
set_option maxHeartbeats 8000000 in
theorem l4Act_callsN (a1 : Option Addr) (nL cL : Nat) (live : List Fl) (a2 : Option Addr) (nS cS : Nat) (safe : List Fl) (a3 : Option Addr) (nO cO : Nat) (ops : List Dop) (kd : Int) (nm to dt : ByteArray) (w : World) (h : DiskN w a1 nL cL live a2 nS cS safe a3 nO cO ops)
    (hfs : filesB live = true) (hO2 : nO ≤ 200) (hsm : SmO ⟨kd, nm, to, dt⟩) :
    Calls Try.prog 41 #[.agg #[.slice a1 nL cL, .slice a2 nS cS, .slice a3 nO cO], .agg #[.int .i64 kd, .string nm, .string to, .string dt]] w (SpcO (fun v => .tuple #[v, .int .i64 (goA live nO [⟨kd, nm, to, dt⟩]).1]) (if (goA live nO [⟨kd, nm, to, dt⟩]).1 = 0 then (goA live nO [⟨kd, nm, to, dt⟩]).2 else live) safe (if (goA live nO [⟨kd, nm, to, dt⟩]).1 = 0 then ops ++ [⟨kd, nm, to, dt⟩] else ops) (goA live nO [⟨kd, nm, to, dt⟩]).1 w) := by
  obtain ⟨Wa, hWa⟩ : ∃ Wa, Wa = w.alloc (.cells #[.slice a1 nL cL, .slice a2 nS cS, .slice a3 nO cO] 27) := ⟨_, rfl⟩
  obtain ⟨Wb, hWb⟩ : ∃ Wb, Wb = Wa.alloc (.cells #[.int .i64 kd, .string nm, .string to, .string dt] 50) := ⟨_, rfl⟩
  obtain ⟨W0, hW0⟩ : ∃ W0, W0 = Wb.alloc (.cells #[.slice none 0 0, .slice none 0 0, .slice none 0 0] 27) := ⟨_, rfl⟩
  have hba : Below w.heap.size w Wa := by rw [hWa]; exact bel1 _ _
  have hsa : Wa.heap.size = w.heap.size + 1 := by rw [hWa]; simp
  have hbb : Below Wa.heap.size Wa Wb := by rw [hWb]; exact bel1 _ _
  have hsb : Wb.heap.size = w.heap.size + 2 := by rw [hWb]; simp [hsa]
  have hs0 : W0.heap.size = w.heap.size + 3 := by rw [hW0]; simp [hsb]
  have hb0 : Below Wb.heap.size Wb W0 := by rw [hW0]; exact bel1 _ _
  have hbab := belOn hbb hb0
  have c0 : W0.cell? ⟨w.heap.size, 0, none⟩ = some (.slice a1 nL cL) := bcl hbab (by omega) (by rw [hWa]; simp [go_sem])
  have c1 : W0.cell? ⟨w.heap.size, 1, none⟩ = some (.slice a2 nS cS) := bcl hbab (by omega) (by rw [hWa]; simp [go_sem])
  have c2 : W0.cell? ⟨w.heap.size, 2, none⟩ = some (.slice a3 nO cO) := bcl hbab (by omega) (by rw [hWa]; simp [go_sem])
  have hop : ∀ i, i < 4 → W0.cell? ⟨w.heap.size + 1, i, none⟩ = (#[.int .i64 kd, .string nm, .string to, .string dt] : Array Value)[i]? := by
    intro i hi
    refine (hb0.cell (p := ⟨w.heap.size + 1, i, none⟩) (show w.heap.size + 1 < Wb.heap.size by omega)).trans ?_
    rw [hWb, ← hsa]
    rcases i with _ | _ | _ | _ | i
    all_goals first | omega | simp [go_sem]
  have hr : ∀ i, i < 3 → W0.cell? ⟨w.heap.size + 2, i, none⟩ = some (.slice none 0 0) ∧ W0.frozen? ⟨w.heap.size + 2, i, none⟩ = false := by
    intro i hi
    rw [hW0, ← hsb]
    rcases i with _ | _ | _ | i
    all_goals first | omega | simp [go_sem]
  have HC := hide (fun (W : World) (hW : Below W0.heap.size W0 W) => And.intro (bcl hW (show w.heap.size < W0.heap.size by omega) c0) (And.intro (bcl hW (show w.heap.size < W0.heap.size by omega) c1) (bcl hW (show w.heap.size < W0.heap.size by omega) c2)))
  have HP4 := hide (fun (W : World) (hW : Below W0.heap.size W0 W) => And.intro (bcl hW (show w.heap.size + 1 < W0.heap.size by omega) (hop 0 (by decide))) (And.intro (bcl hW (show w.heap.size + 1 < W0.heap.size by omega) (hop 1 (by decide))) (And.intro (bcl hW (show w.heap.size + 1 < W0.heap.size by omega) (hop 2 (by decide))) (bcl hW (show w.heap.size + 1 < W0.heap.size by omega) (hop 3 (by decide))))))
  have HR := hide (fun (W : World) (hW : Below W0.heap.size W0 W) (i : Nat) (hi : i < 3) => And.intro (bcl hW (show w.heap.size + 2 < W0.heap.size by omega) (hr i hi).1) ((hW.frozen (p := ⟨w.heap.size + 2, i, none⟩) (show w.heap.size + 2 < W0.heap.size by omega)).trans (hr i hi).2))
  have HFIN := hide (fun (W : World) (hW : Below W0.heap.size W0 W) => belOn (belOn hba hbab) hW)
  have HD := hide (fun (W : World) (hW : Below W0.heap.size W0 W) => (h.below (belOn hba hbab)).below hW)
  have HW0 := hide (show ((w.alloc (.cells #[.slice a1 nL cL, .slice a2 nS cS, .slice a3 nO cO] 27)).alloc (.cells #[.int .i64 kd, .string nm, .string to, .string dt] 50)).alloc (.cells #[.slice none 0 0, .slice none 0 0, .slice none 0 0] 27) = W0 from by rw [hW0, hWb, hWa])
  have HCP := hide (fun (W : World) (hW : Below W0.heap.size W0 W) => l4Copy_callsN a1 nL cL live a2 nS cS safe a3 nO cO ops W (unhide HD _ hW))
  have HFO := hide (l4Form_calls ⟨kd, nm, to, dt⟩ W0 hsm.fit)
  have hbl := h.bl
  have HAD1 := hide h.adl
  have HDO := hide (fun (W : World) (hW : Below W0.heap.size W0 W) => l4Do_calls a1 nL cL live ⟨kd, nm, to, dt⟩ W h.ll (by have h1 := (files_small hfs).1; have h2 := h.ll; omega) h.fl hsm.fit (unhide HD _ hW).rl (unhide HAD1))
  have HFT := hide (do_fit hfs hsm)
  have HLO := hide h.lo
  have HLIT := hide (fun (W : World) => dopLit W ⟨kd, nm, to, dt⟩)
  have HS0 := hide hs0
  have hDV : dopV ⟨kd, nm, to, dt⟩ = .agg #[.int .i64 kd, .string nm, .string to, .string dt] := rfl
  rw [hDV] at HFO HDO
  unfold DoPost at HDO
  have hgo : goA live nO [⟨kd, nm, to, dt⟩] = if formB ⟨kd, nm, to, dt⟩ then (if (doF live ⟨kd, nm, to, dt⟩).2 then (if decide (nO < 200) && filesB (doF live ⟨kd, nm, to, dt⟩).1 then (0, (doF live ⟨kd, nm, to, dt⟩).1) else (4, [])) else (3, [])) else (2, []) := rfl
  obtain ⟨PC, hPC⟩ : ∃ x, (goA live nO [⟨kd, nm, to, dt⟩]).1 = x := ⟨_, rfl⟩
  obtain ⟨PL, hPL⟩ : ∃ x, (if (goA live nO [⟨kd, nm, to, dt⟩]).1 = 0 then (goA live nO [⟨kd, nm, to, dt⟩]).2 else live) = x := ⟨_, rfl⟩
  obtain ⟨PO, hPO⟩ : ∃ x, (if (goA live nO [⟨kd, nm, to, dt⟩]).1 = 0 then ops ++ [⟨kd, nm, to, dt⟩] else ops) = x := ⟨_, rfl⟩
  rw [hPL, hPO, hPC]
  have HP := hide (And.intro hPC (And.intro hPL hPO))
  generalize hfm : formB ⟨kd, nm, to, dt⟩ = FB at HFO hgo
  generalize doF live ⟨kd, nm, to, dt⟩ = D at HDO HFT hgo
  obtain ⟨nx, bb⟩ := D
  simp only at HDO HFT hgo
  have HGO := hide hgo
  clear hba hbb hb0 hbab hWa hWb hW0 hr h hsa hsb hs0 hop hfs hDV hPC hPL hPO hfm hgo
  cases FB with
  | false =>
    go_enter Try.func41, Try.ntmps41
    go_wp2_with fail
    rw [unhide HW0]
    clear c0 c1 c2
    refine (unhide HFO).mono ?_
    rintro e w1 ⟨rfl, hb1⟩
    have HB1 := hide hb1
    clear hb1
    obtain ⟨q0, q1, q2⟩ := unhide HC _ (unhide HB1)
    have HRX := hide (show goA live nO [⟨kd, nm, to, dt⟩] = (2, []) from by rw [unhide HGO]; rfl)
    go_wp2_with fail
    clear q0 q1 q2
    refine (unhide HCP _ (unhide HB1)).mono ?_
    rintro e wf ⟨aL, iL, aS, iS, aO, iO, B3, rfl, o1, o2, o3, ad, -, -, -, -, m1, m2, m3, hbf⟩
    have HBf := hide (belOn (unhide HB1) hbf)
    have HOf := hide (And.intro o1 (And.intro o2 (And.intro o3 (And.intro ad (And.intro m1 (And.intro m2 m3))))))
    obtain ⟨r0, z0⟩ := unhide HR _ (unhide HBf) 0 (by decide)
    obtain ⟨r1, z1⟩ := unhide HR _ (unhide HBf) 1 (by decide)
    obtain ⟨r2, z2⟩ := unhide HR _ (unhide HBf) 2 (by decide)
    clear o1 o2 o3 ad m1 m2 m3 hbf
    go_wp2_with fail
    refine bodyPost_ret (v := .tuple #[.agg #[.slice aL live.length iL, .slice aS safe.length iS, .slice aO ops.length iO], .int .i64 2]) (by simp [results, Try.results41, go_sem, r0, r1, r2]) rfl ?_
    obtain ⟨p1, p2, p4⟩ := unhide HP
    rw [unhide HRX] at p1 p2 p4
    have p1' : PC = 2 := p1.symm
    have p2' : PL = live := p2.symm
    have p4' : PO = ops := p4.symm
    subst p1' p2' p4'
    obtain ⟨o1, o2, o3, ad, m1, m2, m3⟩ := unhide HOf
    have hzz := (unhide HB1).size
    have hs0 := unhide HS0
    exact SpcQ.toO (spcRetQ (rb := w.heap.size + 2) o1 o2 o3 ad (fun k hk => by have := m1 k hk; omega) (fun k hk => by have := (m2 k hk).1; omega) (fun k hk => by have := (m3 k hk).1; omega) (by omega) (unhide HFIN _ (unhide HBf))) (by decide)
  | true =>
    cases bb with
    | false =>
      go_enter Try.func41, Try.ntmps41
      go_wp2_with fail
      rw [unhide HW0]
      clear c0 c1 c2
      refine (unhide HFO).mono ?_
      rintro e w1 ⟨rfl, hb1⟩
      have HB1 := hide hb1
      obtain ⟨q0, q1, q2⟩ := unhide HC _ hb1
      obtain ⟨p0, p1, p2, p3⟩ := unhide HP4 _ hb1
      clear hb1
      go_wp2_with fail
      refine (unhide HDO _ (unhide HB1)).mono ?_
      rintro e w2 ⟨v, rfl, ov, hb2⟩
      have HB2 := hide (belOn (unhide HB1) hb2)
      clear hb2 q0 q1 q2 p0 p1 p2 p3 ov
      obtain ⟨q0, q1, q2⟩ := unhide HC _ (unhide HB2)
      have HRX := hide (show goA live nO [⟨kd, nm, to, dt⟩] = (3, []) from by rw [unhide HGO]; rfl)
      go_wp2_with fail
      clear q0 q1 q2
      refine (unhide HCP _ (unhide HB2)).mono ?_
      rintro e wf ⟨aL, iL, aS, iS, aO, iO, B3, rfl, o1, o2, o3, ad, -, -, -, -, m1, m2, m3, hbf⟩
      have HBf := hide (belOn (unhide HB2) hbf)
      have HOf := hide (And.intro o1 (And.intro o2 (And.intro o3 (And.intro ad (And.intro m1 (And.intro m2 m3))))))
      obtain ⟨r0, z0⟩ := unhide HR _ (unhide HBf) 0 (by decide)
      obtain ⟨r1, z1⟩ := unhide HR _ (unhide HBf) 1 (by decide)
      obtain ⟨r2, z2⟩ := unhide HR _ (unhide HBf) 2 (by decide)
      clear o1 o2 o3 ad m1 m2 m3 hbf
      go_wp2_with fail
      refine bodyPost_ret (v := .tuple #[.agg #[.slice aL live.length iL, .slice aS safe.length iS, .slice aO ops.length iO], .int .i64 3]) (by simp [results, Try.results41, go_sem, r0, r1, r2]) rfl ?_
      obtain ⟨p1, p2, p4⟩ := unhide HP
      rw [unhide HRX] at p1 p2 p4
      have p1' : PC = 3 := p1.symm
      have p2' : PL = live := p2.symm
      have p4' : PO = ops := p4.symm
      subst p1' p2' p4'
      obtain ⟨o1, o2, o3, ad, m1, m2, m3⟩ := unhide HOf
      have hzz := (unhide HB2).size
      have hs0 := unhide HS0
      exact SpcQ.toO (spcRetQ (rb := w.heap.size + 2) o1 o2 o3 ad (fun k hk => by have := m1 k hk; omega) (fun k hk => by have := (m2 k hk).1; omega) (fun k hk => by have := (m3 k hk).1; omega) (by omega) (unhide HFIN _ (unhide HBf))) (by decide)
    | true =>
      by_cases h200 : nO < 200
      · have g200 : ((nO : Int) == 200) = false := by simp; omega
        cases hfl : filesB nx with
        | false =>
          go_enter Try.func41, Try.ntmps41
          go_wp2_with fail
          rw [unhide HW0]
          clear c0 c1 c2
          refine (unhide HFO).mono ?_
          rintro e w1 ⟨rfl, hb1⟩
          have HB1 := hide hb1
          obtain ⟨q0, q1, q2⟩ := unhide HC _ hb1
          obtain ⟨p0, p1, p2, p3⟩ := unhide HP4 _ hb1
          clear hb1
          go_wp2_with fail
          refine (unhide HDO _ (unhide HB1)).mono ?_
          rintro e w2 ⟨v, rfl, ov, hb2⟩
          obtain ⟨aN, cN, rfl⟩ := ov.form
          have HB2 := hide (belOn (unhide HB1) hb2)
          have HLF := hide (l4Files_calls aN nx.length cN nx w2 rfl (by have := (unhide HFT).2; omega) (unhide HFT).1 ov.at)
          rw [hfl] at HLF
          clear hb2 q0 q1 q2 p0 p1 p2 p3 ov
          obtain ⟨q0, q1, q2⟩ := unhide HC _ (unhide HB2)
          go_wp2_with fail
          refine (unhide HLF).mono ?_
          rintro e w3 ⟨rfl, hb3⟩
          have HB3 := hide (belOn (unhide HB2) hb3)
          clear hb3 q0 q1 q2
          obtain ⟨q0, q1, q2⟩ := unhide HC _ (unhide HB3)
          have HRX := hide (show goA live nO [⟨kd, nm, to, dt⟩] = (4, []) from by rw [unhide HGO, hfl, Bool.and_false]; rfl)
          go_wp2_with fail
          clear q0 q1 q2
          refine (unhide HCP _ (unhide HB3)).mono ?_
          rintro e wf ⟨aL, iL, aS, iS, aO, iO, B3, rfl, o1, o2, o3, ad, -, -, -, -, m1, m2, m3, hbf⟩
          have HBf := hide (belOn (unhide HB3) hbf)
          have HOf := hide (And.intro o1 (And.intro o2 (And.intro o3 (And.intro ad (And.intro m1 (And.intro m2 m3))))))
          obtain ⟨r0, z0⟩ := unhide HR _ (unhide HBf) 0 (by decide)
          obtain ⟨r1, z1⟩ := unhide HR _ (unhide HBf) 1 (by decide)
          obtain ⟨r2, z2⟩ := unhide HR _ (unhide HBf) 2 (by decide)
          clear o1 o2 o3 ad m1 m2 m3 hbf
          go_wp2_with fail
          refine bodyPost_ret (v := .tuple #[.agg #[.slice aL live.length iL, .slice aS safe.length iS, .slice aO ops.length iO], .int .i64 4]) (by simp [results, Try.results41, go_sem, r0, r1, r2]) rfl ?_
          obtain ⟨p1, p2, p4⟩ := unhide HP
          rw [unhide HRX] at p1 p2 p4
          have p1' : PC = 4 := p1.symm
          have p2' : PL = live := p2.symm
          have p4' : PO = ops := p4.symm
          subst p1' p2' p4'
          obtain ⟨o1, o2, o3, ad, m1, m2, m3⟩ := unhide HOf
          have hzz := (unhide HB3).size
          have hs0 := unhide HS0
          exact SpcQ.toO (spcRetQ (rb := w.heap.size + 2) o1 o2 o3 ad (fun k hk => by have := m1 k hk; omega) (fun k hk => by have := (m2 k hk).1; omega) (fun k hk => by have := (m3 k hk).1; omega) (by omega) (unhide HFIN _ (unhide HBf))) (by decide)
        | true =>
          have HGX := hide (show goA live nO [⟨kd, nm, to, dt⟩] = (0, nx) from by rw [unhide HGO, hfl, decide_eq_true h200]; rfl)
          go_enter Try.func41, Try.ntmps41
          go_wp2_with fail
          rw [unhide HW0]
          clear c0 c1 c2
          refine (unhide HFO).mono ?_
          rintro e w1 ⟨rfl, hb1⟩
          have HB1 := hide hb1
          obtain ⟨q0, q1, q2⟩ := unhide HC _ hb1
          obtain ⟨p0, p1, p2, p3⟩ := unhide HP4 _ hb1
          clear hb1
          go_wp2_with fail
          refine (unhide HDO _ (unhide HB1)).mono ?_
          rintro e w2 ⟨v, rfl, ov, hb2⟩
          obtain ⟨aN, cN, rfl⟩ := ov.form
          have HB2 := hide (belOn (unhide HB1) hb2)
          have HLF := hide (l4Files_calls aN nx.length cN nx w2 rfl (by have := (unhide HFT).2; omega) (unhide HFT).1 ov.at)
          rw [hfl] at HLF
          have HOV := hide ov
          have hz12 := hb2.size
          clear hb2 q0 q1 q2 p0 p1 p2 p3 ov
          obtain ⟨q0, q1, q2⟩ := unhide HC _ (unhide HB2)
          go_wp2_with fail
          refine (unhide HLF).mono ?_
          rintro e w3 ⟨rfl, hb3⟩
          have HB3 := hide (belOn (unhide HB2) hb3)
          have HN3 := hide ((unhide HOV).at.below hb3)
          have HOV3 := hide ((unhide HOV).keep hb3)
          have hz23 := hb3.size
          clear hb3 q0 q1 q2
          obtain ⟨q0, q1, q2⟩ := unhide HC _ (unhide HB3)
          go_wp2_with fail
          refine (unhide HCP _ (unhide HB3)).mono ?_
          rintro e w5 ⟨aL, iL, aS, iS, aO, iO, B3, rfl, o1, o2, o3, ad, oo, b1, b2, apS, m1, m2, m3, hb5⟩
          have HB5 := hide (belOn (unhide HB3) hb5)
          obtain ⟨Wl, hWl⟩ : ∃ Wl, Wl = (w5.alloc (.cells #[.slice aN nx.length cN, .slice aS safe.length iS, .slice aO ops.length iO] 27)).alloc (.cells #[.int .i64 kd, .string nm, .string to, .string dt] 50) := ⟨_, rfl⟩
          have hbl5 : Below w5.heap.size w5 Wl := by rw [hWl]; exact belOn (bel1 _ _) (bel1 _ _)
          have hsl : Wl.heap.size = w5.heap.size + 2 := by rw [hWl]; simp
          have HLT := hide (show RowAt dopE Wl (some ⟨w5.heap.size + 1, 0, none⟩) [⟨kd, nm, to, dt⟩] from by
            have := (unhide HLIT (w5.alloc (.cells #[.slice aN nx.length cN, .slice aS safe.length iS, .slice aO ops.length iO] 27))).at
            rw [hWl]
            simpa using this)
          have HOW := hide (oo.below hbl5)
          have HBO := hide (show ∀ g, inB aO g → w3.heap.size ≤ g ∧ g < w5.heap.size from fun g q => m3 g q)
          have HBN := hide (show ∀ g, inB aN g → w1.heap.size ≤ g ∧ g < w2.heap.size from fun g q => (unhide HOV).bl g q)
          have HRN := hide (((unhide HN3).below hb5).below hbl5)
          have HOVl := hide (((unhide HOV3).keep hb5).keep hbl5)
          have HRS := hide (o2.below hbl5)
          have HMS := hide m2
          have HAD5 := hide (show AdOk aN cN ∧ AdOk aS iS from ⟨(unhide HOV).ad, ad.2.1⟩)
          have HB5l := hide (belOn (unhide HB5) hbl5)
          have d0 : Wl.cell? ⟨w5.heap.size, 0, none⟩ = some (.slice aN nx.length cN) := by rw [hWl]; exact bcl (bel1 _ _) (by simp) (by simp [go_sem])
          have d1 : Wl.cell? ⟨w5.heap.size, 1, none⟩ = some (.slice aS safe.length iS) := by rw [hWl]; exact bcl (bel1 _ _) (by simp) (by simp [go_sem])
          have d2 : Wl.cell? ⟨w5.heap.size, 2, none⟩ = some (.slice aO ops.length iO) := by rw [hWl]; exact bcl (bel1 _ _) (by simp) (by simp [go_sem])
          have dz : Wl.frozen? ⟨w5.heap.size, 2, none⟩ = false := by rw [hWl]; exact ((bel1 (w5.alloc (.cells #[.slice aN nx.length cN, .slice aS safe.length iS, .slice aO ops.length iO] 27)) _).frozen (p := ⟨w5.heap.size, 2, none⟩) (by simp)).trans (by simp [go_sem])
          obtain ⟨r0, z0⟩ := unhide HR _ (unhide HB5l) 0 (by decide)
          obtain ⟨r1, z1⟩ := unhide HR _ (unhide HB5l) 1 (by decide)
          obtain ⟨r2, z2⟩ := unhide HR _ (unhide HB5l) 2 (by decide)
          have hz5 := hb5.size
          have hz3 := (unhide HB3).size
          have hs0 := unhide HS0
          have hno := unhide HLO
          have ow1 : Wl.heap.size > w5.heap.size := by omega
          have ow2 : w.heap.size + 2 < w3.heap.size := by omega
          have ow3 : w.heap.size + 2 < w5.heap.size := by omega
          have ow4 : w3.heap.size ≤ Wl.heap.size := by omega
          have ow5 : w5.heap.size ≠ w.heap.size + 2 := by omega
          have ow6 : w.heap.size + 2 < w1.heap.size := by have := (unhide HB1).size; omega
          have HN5 := hide (show ¬ inB aO w5.heap.size from fun q => by have := (unhide HBO _ q).2; omega)
          have HNr := hide (show ¬ inB aO (w.heap.size + 2) from fun q => by have := (unhide HBO _ q).1; omega)
          have hBl : B3 ≤ Wl.heap.size := by omega
          have HAPS := hide apS
          have hzl : ops.length + 1 < 100000000 := by omega
          obtain ⟨q0, q1, q2⟩ := unhide HC _ (unhide HB5)
          obtain ⟨p0, p1, p2, p3⟩ := unhide HP4 _ (unhide HB5)
          have lp : w.heap.size + 1 < w5.heap.size := lt_of_cell p0
          have ne1 : ¬ w5.heap.size = w.heap.size + 1 := by omega
          have HWl := hide hWl.symm
          clear o1 o2 o3 oo ad apS m1 m2 m3 hb5 hbl5 hWl hsl hs0 hno hfl
          go_wp2_with (at_builtin; rw [unhide HWl]; go_must (refine appM (e := dopE) rfl _ _ rfl (unhide HOW) rfl (w5.heap.size + 1) 1 rfl (unhide HLT) hzl hBl ?_); intro g7 c7 w7 ap7; have a5 := ap7.blk w5.heap.size (by omega) (unhide HN5); have ar := ap7.blk (w.heap.size + 2) (by omega) (unhide HNr); have y0 := (World.cell?_of_block (a := ⟨w5.heap.size, 0, none⟩) a5).trans d0; have y1 := (World.cell?_of_block (a := ⟨w5.heap.size, 1, none⟩) a5).trans d1; have y2 := (World.cell?_of_block (a := ⟨w5.heap.size, 2, none⟩) a5).trans d2; have yf := (World.frozen?_of_block (a := ⟨w5.heap.size, 2, none⟩) a5).trans dz; have x0 := (World.cell?_of_block (a := ⟨w.heap.size + 2, 0, none⟩) ar).trans r0; have x1 := (World.cell?_of_block (a := ⟨w.heap.size + 2, 1, none⟩) ar).trans r1; have x2 := (World.cell?_of_block (a := ⟨w.heap.size + 2, 2, none⟩) ar).trans r2; have f0 := (World.frozen?_of_block (a := ⟨w.heap.size + 2, 0, none⟩) ar).trans z0; have f1 := (World.frozen?_of_block (a := ⟨w.heap.size + 2, 1, none⟩) ar).trans z1; have f2 := (World.frozen?_of_block (a := ⟨w.heap.size + 2, 2, none⟩) ar).trans z2; have k0 : (w7.setCell ⟨w5.heap.size, 2, none⟩ (.slice (some ⟨g7, 0, none⟩) (ops.length + 1) c7)).cell? ⟨w5.heap.size, 0, none⟩ = some (.slice aN nx.length cN) := (cell_off (.inr (by decide))).trans y0; have k1 : (w7.setCell ⟨w5.heap.size, 2, none⟩ (.slice (some ⟨g7, 0, none⟩) (ops.length + 1) c7)).cell? ⟨w5.heap.size, 1, none⟩ = some (.slice aS safe.length iS) := (cell_off (.inr (by decide))).trans y1; have k2 : (w7.setCell ⟨w5.heap.size, 2, none⟩ (.slice (some ⟨g7, 0, none⟩) (ops.length + 1) c7)).cell? ⟨w5.heap.size, 2, none⟩ = some (.slice (some ⟨g7, 0, none⟩) (ops.length + 1) c7) := cell_set y2; have k3 : (w7.setCell ⟨w5.heap.size, 2, none⟩ (.slice (some ⟨g7, 0, none⟩) (ops.length + 1) c7)).cell? ⟨w.heap.size + 2, 0, none⟩ = some (.slice none 0 0) := (cell_off (.inl ow5)).trans x0; have k4 : (w7.setCell ⟨w5.heap.size, 2, none⟩ (.slice (some ⟨g7, 0, none⟩) (ops.length + 1) c7)).cell? ⟨w.heap.size + 2, 1, none⟩ = some (.slice none 0 0) := (cell_off (.inl ow5)).trans x1; have k5 : (w7.setCell ⟨w5.heap.size, 2, none⟩ (.slice (some ⟨g7, 0, none⟩) (ops.length + 1) c7)).cell? ⟨w.heap.size + 2, 2, none⟩ = some (.slice none 0 0) := (cell_off (.inl ow5)).trans x2)
          refine bodyPost_ret (v := .tuple #[.agg #[.slice aN nx.length cN, .slice aS safe.length iS, .slice (some ⟨g7, 0, none⟩) (ops.length + 1) c7], .int .i64 0]) (by simp [results, Try.results41, go_sem, k3, k4, k5]) rfl ?_
          obtain ⟨e1, e2, e4⟩ := unhide HP
          rw [unhide HGX] at e1 e2 e4
          have e1' : PC = 0 := e1.symm
          have e2' : PL = nx := e2.symm
          have e4' : PO = ops ++ [⟨kd, nm, to, dt⟩] := e4.symm
          subst e1' e2' e4'
          have hg7 : w3.heap.size ≤ g7 := by
            rcases ap7.lies with q | q
            · exact (unhide HBO g7 q).1
            · omega
          have hg75 : g7 ≠ w5.heap.size := by
            rcases ap7.lies with q | q
            · have := (unhide HBO g7 q).2; omega
            · omega
          have hlen : (ops ++ [(⟨kd, nm, to, dt⟩ : Dop)]).length = ops.length + 1 := by simp
          have RN := (unhide HRN).offM ap7 (fun _ k hk q => by have := (unhide HBN k hk).2; have := (unhide HBO k q).1; omega)
          have RS := (unhide HRS).offM ap7 (fun o k hk q => by have := unhide HAPS k hk; have := (o.bl k q).1; omega)
          have mS := unhide HMS
          have hownN : OwnR fileE (w7.setCell ⟨w5.heap.size, 2, none⟩ (.slice (some ⟨g7, 0, none⟩) (ops.length + 1) c7)) w1.heap.size (.slice aN PL.length cN) PL := (unhide HOVl).other fun g hg => by
            have hg2 := (World.ownsRow.lt (unhide HOV) g hg).2
            have hgl := (World.ownsRow.lt (unhide HOVl) g hg).2
            exact (heap_setF (by omega)).trans (ap7.blk g hgl (fun q => by have := (unhide HBO g q).1; omega))
          have hz7 := (ap7.below hBl).size
          have hfin := spcRetO (c := 0) (f := fun v => .tuple #[v, .int .i64 0]) (w := w) (rb := w.heap.size + 2) (k1 := cN) (k2 := iS) (k3 := c7) (RN.setO (b := w5.heap.size) (i := 2) (u := .slice (some ⟨g7, 0, none⟩) (ops.length + 1) c7) (.inr (fun k hk => by have := (unhide HBN k hk).2; omega))) (RS.setO (b := w5.heap.size) (i := 2) (u := .slice (some ⟨g7, 0, none⟩) (ops.length + 1) c7) (.inr (fun k hk => by have := (mS k hk).2; omega))) (ap7.own.at.setO (b := w5.heap.size) (i := 2) (u := .slice (some ⟨g7, 0, none⟩) (ops.length + 1) c7) (.inr (fun k hk => by obtain ⟨o, e⟩ := hk; cases e; exact hg75))) ⟨(unhide HAD5).1, (unhide HAD5).2, .inr ⟨g7, rfl⟩⟩ (fun k hk => by have := (unhide HBN k hk).1; omega) (fun k hk => by have := (mS k hk).1; omega) (fun k hk => by obtain ⟨o, e⟩ := hk; cases e; omega) (by omega) (((unhide HFIN _ (unhide HB5l)).trans ((ap7.below hBl).mono (show w.heap.size ≤ B3 by omega))).setCell (show w.heap.size ≤ w5.heap.size by omega) _) (fun _ => ⟨by simp; omega, w1.heap.size, by omega, by simp; omega, .inl hownN, .inr (fun k h1 h2 => by have := (unhide HBN k h1).2; have := (mS k h2).1; omega), .inr (fun k h1 h2 => by obtain ⟨o, e⟩ := h2; cases e; have := (unhide HBN _ h1).2; omega), by rw [hlen]; exact own_capA ap7.own⟩)
          rw [hlen] at hfin
          exact hfin
      · have g200 : ((nO : Int) == 200) = true := by simp; omega
        go_enter Try.func41, Try.ntmps41
        go_wp2_with fail
        rw [unhide HW0]
        clear c0 c1 c2
        refine (unhide HFO).mono ?_
        rintro e w1 ⟨rfl, hb1⟩
        have HB1 := hide hb1
        obtain ⟨q0, q1, q2⟩ := unhide HC _ hb1
        obtain ⟨p0, p1, p2, p3⟩ := unhide HP4 _ hb1
        clear hb1
        go_wp2_with fail
        refine (unhide HDO _ (unhide HB1)).mono ?_
        rintro e w2 ⟨v, rfl, ov, hb2⟩
        have HB2 := hide (belOn (unhide HB1) hb2)
        clear hb2 q0 q1 q2 p0 p1 p2 p3 ov
        obtain ⟨q0, q1, q2⟩ := unhide HC _ (unhide HB2)
        have HRX := hide (show goA live nO [⟨kd, nm, to, dt⟩] = (4, []) from by rw [unhide HGO, decide_eq_false h200]; rfl)
        go_wp2_with fail
        clear q0 q1 q2
        refine (unhide HCP _ (unhide HB2)).mono ?_
        rintro e wf ⟨aL, iL, aS, iS, aO, iO, B3, rfl, o1, o2, o3, ad, -, -, -, -, m1, m2, m3, hbf⟩
        have HBf := hide (belOn (unhide HB2) hbf)
        have HOf := hide (And.intro o1 (And.intro o2 (And.intro o3 (And.intro ad (And.intro m1 (And.intro m2 m3))))))
        obtain ⟨r0, z0⟩ := unhide HR _ (unhide HBf) 0 (by decide)
        obtain ⟨r1, z1⟩ := unhide HR _ (unhide HBf) 1 (by decide)
        obtain ⟨r2, z2⟩ := unhide HR _ (unhide HBf) 2 (by decide)
        clear o1 o2 o3 ad m1 m2 m3 hbf
        go_wp2_with fail
        refine bodyPost_ret (v := .tuple #[.agg #[.slice aL live.length iL, .slice aS safe.length iS, .slice aO ops.length iO], .int .i64 4]) (by simp [results, Try.results41, go_sem, r0, r1, r2]) rfl ?_
        obtain ⟨p1, p2, p4⟩ := unhide HP
        rw [unhide HRX] at p1 p2 p4
        have p1' : PC = 4 := p1.symm
        have p2' : PL = live := p2.symm
        have p4' : PO = ops := p4.symm
        subst p1' p2' p4'
        obtain ⟨o1, o2, o3, ad, m1, m2, m3⟩ := unhide HOf
        have hzz := (unhide HB2).size
        have hs0 := unhide HS0
        exact SpcQ.toO (spcRetQ (rb := w.heap.size + 2) o1 o2 o3 ad (fun k hk => by have := m1 k hk; omega) (fun k hk => by have := (m2 k hk).1; omega) (fun k hk => by have := (m3 k hk).1; omega) (by omega) (unhide HFIN _ (unhide HBf))) (by decide)
theorem l4Act_callsO (a1 : Option Addr) (nL cL : Nat) (live : List Fl) (a2 : Option Addr) (nS cS : Nat) (safe : List Fl) (a3 : Option Addr) (nO cO : Nat) (ops : List Dop) (kd : Int) (nm to dt : ByteArray) (w : World) (h : DiskAt w a1 nL cL live a2 nS cS safe a3 nO cO ops)
    (hfs : filesB live = true) (hO2 : nO ≤ 200) (hsm : SmO ⟨kd, nm, to, dt⟩) :
    Calls Try.prog 41 #[.agg #[.slice a1 nL cL, .slice a2 nS cS, .slice a3 nO cO], .agg #[.int .i64 kd, .string nm, .string to, .string dt]] w (SpcO (fun v => .tuple #[v, .int .i64 (goA live nO [⟨kd, nm, to, dt⟩]).1]) (if (goA live nO [⟨kd, nm, to, dt⟩]).1 = 0 then (goA live nO [⟨kd, nm, to, dt⟩]).2 else live) safe (if (goA live nO [⟨kd, nm, to, dt⟩]).1 = 0 then ops ++ [⟨kd, nm, to, dt⟩] else ops) (goA live nO [⟨kd, nm, to, dt⟩]).1 w) :=
  l4Act_callsN a1 nL cL live a2 nS cS safe a3 nO cO ops kd nm to dt w h.toN hfs hO2 hsm
theorem l4Act_callsNQ (a1 : Option Addr) (nL cL : Nat) (live : List Fl) (a2 : Option Addr) (nS cS : Nat) (safe : List Fl) (a3 : Option Addr) (nO cO : Nat) (ops : List Dop) (kd : Int) (nm to dt : ByteArray) (w : World) (h : DiskN w a1 nL cL live a2 nS cS safe a3 nO cO ops)
    (hfs : filesB live = true) (hO2 : nO ≤ 200) (hsm : SmO ⟨kd, nm, to, dt⟩) :
    Calls Try.prog 41 #[.agg #[.slice a1 nL cL, .slice a2 nS cS, .slice a3 nO cO], .agg #[.int .i64 kd, .string nm, .string to, .string dt]] w (SpcQ (fun v => .tuple #[v, .int .i64 (goA live nO [⟨kd, nm, to, dt⟩]).1]) (if (goA live nO [⟨kd, nm, to, dt⟩]).1 = 0 then (goA live nO [⟨kd, nm, to, dt⟩]).2 else live) safe (if (goA live nO [⟨kd, nm, to, dt⟩]).1 = 0 then ops ++ [⟨kd, nm, to, dt⟩] else ops) w) :=
  (l4Act_callsN a1 nL cL live a2 nS cS safe a3 nO cO ops kd nm to dt w h hfs hO2 hsm).mono fun _ _ q => q.toQ
theorem rowNil2 {α : Type} (e : Elem α) (W : World) (a : Option Addr) : RowAt e W a [] := fun i hi => by simp at hi
end Go.Proofs.Ytknpccpfjclngaa
