/- The specification's disks: which are right. -/
import Derived.Test.YtknpccpfjclngaaDskV
namespace Go.Proofs.Ytknpccpfjclngaa
open Go.RowKit Plain
set_option linter.unusedVariables false

namespace Plain
theorem putG_mem (n d : ByteArray) (fs : List Fl) : ∀ b f, f ∈ putG n d b fs → f ∈ fs ∨ f = (n, d) := by
  induction fs with
  | nil => intro b f h; cases b <;> simp [putG] at h; exact .inr h
  | cons g t ih =>
    intro b f h
    have h2 : f ∈ (if !b && !lessN g.1 n then [(n, d)] else []) ++ ((if eqN g.1 n then [] else [g]) ++ putG n d (b || !lessN g.1 n) t) := by cases b <;> simpa only [putG] using h
    rw [List.mem_append, List.mem_append] at h2
    rcases h2 with h2 | h2 | h2
    · split at h2
      · exact .inr (List.mem_singleton.1 h2)
      · simp at h2
    · split at h2
      · simp at h2
      · rw [List.mem_singleton.1 h2]; exact .inl (by simp)
    · rcases ih _ f h2 with h3 | h3
      · exact .inl (by simp [h3])
      · exact .inr h3
theorem cutF_mem (n : ByteArray) (fs : List Fl) : ∀ f, f ∈ cutF n fs → f ∈ fs := by
  induction fs with
  | nil => intro f h; simp [cutF] at h
  | cons g t ih =>
    intro f h
    rw [cutF, List.mem_append] at h
    rcases h with h | h
    · split at h
      · simp at h
      · rw [List.mem_singleton.1 h]; simp
    · have := ih f h; simp [this]
theorem putG_len (n d : ByteArray) (fs : List Fl) : ∀ b, (putG n d b fs).length ≤ fs.length + (if b then 0 else 1) := by
  induction fs with
  | nil => intro b; cases b <;> simp [putG]
  | cons g t ih =>
    intro b
    have e : putG n d b (g :: t) = (if !b && !lessN g.1 n then [(n, d)] else []) ++ ((if eqN g.1 n then [] else [g]) ++ putG n d (b || !lessN g.1 n) t) := by cases b <;> rw [putG]
    rw [e, List.length_append, List.length_append, List.length_cons]
    have h1 := ih (b || !lessN g.1 n)
    have h2 : (if eqN g.1 n then [] else [g] : List Fl).length ≤ 1 := by split <;> simp
    cases b <;> cases hl : lessN g.1 n <;> rw [hl] at h1 <;> simp at h1 ⊢ <;> omega
theorem okF_names (fs : List Fl) : ∀ p, okF p fs = true → ∀ f ∈ fs, f.1.size ≤ 100 := by
  induction fs with
  | nil => intro p _ f hf; simp at hf
  | cons g t ih =>
    intro p h f hf
    have h2 : nmB g.1 = true ∧ okF (some g.1) t = true := by
      cases p with
      | none => rw [okF, Bool.and_eq_true] at h; exact h
      | some q => rw [okF, Bool.and_eq_true, Bool.and_eq_true] at h; exact ⟨h.1.1, h.2⟩
    rcases List.mem_cons.1 hf with rfl | hf
    · have := h2.1; unfold nmB at this; simp at this; exact this.2
    · exact ih _ h2.2 f hf
theorem sumF_mem (fs : List Fl) : ∀ f ∈ fs, f.2.size ≤ sumF fs := by
  induction fs with
  | nil => intro f hf; simp at hf
  | cons g t ih =>
    intro f hf
    rw [sumF]
    rcases List.mem_cons.1 hf with rfl | hf
    · omega
    · have := ih f hf; omega
theorem files_small {fs : List Fl} (h : filesB fs = true) : fs.length ≤ 60 ∧ ∀ f ∈ fs, f.1.size ≤ 100 ∧ f.2.size ≤ 200000 := by
  unfold filesB at h
  rw [Bool.and_eq_true, Bool.and_eq_true] at h
  obtain ⟨h1, h2, h3⟩ := h
  have h4 := of_decide_eq_true h3
  exact ⟨of_decide_eq_true h1, fun f hf => ⟨okF_names fs none h2 f hf, Nat.le_trans (sumF_mem fs f hf) h4⟩⟩
/-- An op that a machine bears. -/
def SmO (o : Dop) : Prop := o.name.size ≤ 1000000000 ∧ o.to.size ≤ 1000000000 ∧ o.data.size ≤ 1000000000
theorem SmO.fit {o : Dop} (h : SmO o) : FitO o := ⟨by have := h.1; omega, by have := h.2.1; omega, by have := h.2.2; omega⟩
theorem small_fit {fs : List Fl} (h : filesB fs = true) : FitF fs := fun f hf => by have := (files_small h).2 f hf; omega
theorem do_fit {fs : List Fl} {o : Dop} (h : filesB fs = true) (ho : SmO o) : FitF (doF fs o).1 ∧ (doF fs o).1.length ≤ 61 := by
  obtain ⟨hl, hs⟩ := files_small h
  obtain ⟨o1, o2, o3⟩ := ho
  have hF : FitF fs := small_fit h
  have hget : ∀ i, (fs.getD i (⟨#[]⟩, ⟨#[]⟩)).2.size ≤ 200000 := by
    intro i
    rw [List.getD]
    cases hi : fs[i]? with
    | none => decide
    | some f => exact (hs f (List.mem_of_getElem? hi)).2
  have hput : ∀ (gs : List Fl) (n d : ByteArray), FitF gs → gs.length ≤ 60 → n.size ≤ 1000000000 → d.size ≤ 2000000000 → FitF (putF gs n d) ∧ (putF gs n d).length ≤ 61 := by
    intro gs n d hg hgl hn hd
    refine ⟨fun f hf => ?_, ?_⟩
    · rcases putG_mem n d gs false f hf with h | h
      · exact hg f h
      · subst h; exact ⟨by simp only; omega, by simp only; omega⟩
    · have := putG_len n d gs false; simp at this; unfold putF; omega
  have hcut : ∀ n, FitF (cutF n fs) ∧ (cutF n fs).length ≤ 60 := fun n => ⟨fun f hf => hF f (cutF_mem n fs f hf), Nat.le_trans (cutF_len n fs) hl⟩
  unfold doF
  by_cases h1 : o.kind = 1
  · rw [if_pos h1]
    refine hput fs _ _ hF hl o1 ?_
    cases atF o.name fs with
    | none => simp only; omega
    | some i => have := hget i; simp only [ByteArray.size_append]; omega
  · rw [if_neg h1]
    cases atF o.name fs with
    | none => exact ⟨hF, by simp only; omega⟩
    | some i =>
      by_cases h2 : o.kind = 2
      · simp only [if_pos h2]
        exact hput _ _ _ (hcut _).1 (hcut _).2 o2 (by have := hget i; omega)
      · simp only [if_neg h2]
        exact ⟨(hcut _).1, by have := (hcut o.name).2; omega⟩
theorem runF_step (fs : List Fl) (ops : List Dop) (k : Nat) (h : k < ops.length) : runF fs (ops.drop k) = if (doF fs ops[k]).2 && (formB ops[k] && filesB (doF fs ops[k]).1) then runF (doF fs ops[k]).1 (ops.drop (k + 1)) else none := by
  rw [List.drop_eq_getElem_cons h, runF]
def diskV (live safe : List Fl) (r : Option (List Fl)) : Bool := match r with | none => false | some now => sameF now live
theorem diskB_eq {live safe : List Fl} {ops : List Dop} (h1 : filesB live = true) (h2 : filesB safe = true) (h3 : ops.length ≤ 200) : diskB live safe ops = (match runF safe ops with | none => false | some now => sameF now live) := by
  unfold diskB
  rw [h1, h2, decide_eq_true h3]
  rfl
end Plain

/-- A row that begins anywhere in its block. -/
def Plain.RowO {α : Type} (e : Elem α) (W : World) (a : Option Addr) (xs : List α) : Prop := ∀ i (h : i < xs.length), ∃ g b, a = some ⟨g, b, none⟩ ∧ g < W.heap.size ∧
  ∀ j, j < e.n → W.cell? ⟨g, b + i * e.n + j, none⟩ = (e.enc xs[i])[j]? ∧ W.frozen? ⟨g, b + i * e.n + j, none⟩ = false
theorem RowAt.toO {α : Type} {e : Elem α} {W : World} {a : Option Addr} {xs : List α} (h : RowAt e W a xs) : RowO e W a xs := fun i hi => by
  obtain ⟨g, e1, hl, h1⟩ := h i hi
  exact ⟨g, 0, e1, hl, fun j hj => by rw [Nat.zero_add]; exact h1 j hj⟩
theorem Plain.RowO.below {α : Type} {e : Elem α} {W W' : World} {a : Option Addr} {xs : List α} (h : RowO e W a xs) (hb : Below W.heap.size W W') : RowO e W' a xs := fun i hi => by
  obtain ⟨g, b, e1, hl, h1⟩ := h i hi
  exact ⟨g, b, e1, Nat.lt_of_lt_of_le hl hb.size, fun j hj => ⟨(hb.cell (p := ⟨g, b + i * e.n + j, none⟩) hl).trans (h1 j hj).1, (hb.frozen (p := ⟨g, b + i * e.n + j, none⟩) hl).trans (h1 j hj).2⟩⟩
theorem Plain.RowO.dop {W : World} {a : Option Addr} {xs : List Dop} (h : RowO dopE W a xs) (i : Nat) (hi : i < xs.length) : ∃ g b, a = some ⟨g, b, none⟩ ∧ g < W.heap.size ∧ W.cell? ⟨g, b + i * 4, none⟩ = some (.int .i64 xs[i].kind) ∧ W.cell? ⟨g, b + i * 4 + 1, none⟩ = some (.string xs[i].name) ∧ W.cell? ⟨g, b + i * 4 + 2, none⟩ = some (.string xs[i].to) ∧ W.cell? ⟨g, b + i * 4 + 3, none⟩ = some (.string xs[i].data) := by
  obtain ⟨g, b, e1, hl, h1⟩ := h i hi
  exact ⟨g, b, e1, hl, (h1 0 (by decide)).1, (h1 1 (by decide)).1, (h1 2 (by decide)).1, (h1 3 (by decide)).1⟩
/-- A disk's three rows in memory. -/
structure Plain.DiskAt (W : World) (aL : Option Addr) (nL cL : Nat) (live : List Fl) (aS : Option Addr) (nS cS : Nat) (safe : List Fl) (aO : Option Addr) (nO cO : Nat) (ops : List Dop) : Prop where
  rl : RowAt fileE W aL live
  rs : RowAt fileE W aS safe
  ro : RowAt dopE W aO ops
  ll : live.length = nL
  ls : safe.length = nS
  lo : ops.length = nO
  adl : AdOk aL cL
  ads : AdOk aS cS
  ado : AdOk aO cO
  fl : FitF live
  fs : FitF safe
  fo : ∀ o ∈ ops, SmO o
  bl : nL ≤ 1048576
  bs : nS ≤ 1048576
  bo : nO ≤ 1048576
theorem Plain.DiskAt.below {W W' : World} {aL : Option Addr} {nL cL : Nat} {live : List Fl} {aS : Option Addr} {nS cS : Nat} {safe : List Fl} {aO : Option Addr} {nO cO : Nat} {ops : List Dop}
    (h : DiskAt W aL nL cL live aS nS cS safe aO nO cO ops) (hb : Below W.heap.size W W') : DiskAt W' aL nL cL live aS nS cS safe aO nO cO ops :=
  ⟨h.rl.below hb, h.rs.below hb, h.ro.below hb, h.ll, h.ls, h.lo, h.adl, h.ads, h.ado, h.fl, h.fs, h.fo, h.bl, h.bs, h.bo⟩
/-- A disk whose ops begin anywhere in their block. -/
structure Plain.DiskO (W : World) (aL : Option Addr) (nL cL : Nat) (live : List Fl) (aS : Option Addr) (nS cS : Nat) (safe : List Fl) (aO : Option Addr) (nO cO : Nat) (ops : List Dop) : Prop where
  rl : RowAt fileE W aL live
  rs : RowAt fileE W aS safe
  ro : RowO dopE W aO ops
  ll : live.length = nL
  ls : safe.length = nS
  lo : ops.length = nO
  adl : AdOk aL cL
  ads : AdOk aS cS
  fl : FitF live
  fs : FitF safe
  fo : ∀ o ∈ ops, SmO o
  bl : nL ≤ 1048576
  bs : nS ≤ 1048576
  bo : nO ≤ 1048576
theorem Plain.DiskO.below {W W' : World} {aL : Option Addr} {nL cL : Nat} {live : List Fl} {aS : Option Addr} {nS cS : Nat} {safe : List Fl} {aO : Option Addr} {nO cO : Nat} {ops : List Dop}
    (h : DiskO W aL nL cL live aS nS cS safe aO nO cO ops) (hb : Below W.heap.size W W') : DiskO W' aL nL cL live aS nS cS safe aO nO cO ops :=
  ⟨h.rl.below hb, h.rs.below hb, h.ro.below hb, h.ll, h.ls, h.lo, h.adl, h.ads, h.fl, h.fs, h.fo, h.bl, h.bs, h.bo⟩
theorem Plain.DiskAt.toO {W : World} {aL : Option Addr} {nL cL : Nat} {live : List Fl} {aS : Option Addr} {nS cS : Nat} {safe : List Fl} {aO : Option Addr} {nO cO : Nat} {ops : List Dop}
    (h : DiskAt W aL nL cL live aS nS cS safe aO nO cO ops) : DiskO W aL nL cL live aS nS cS safe aO nO cO ops :=
  ⟨h.rl, h.rs, h.ro.toO, h.ll, h.ls, h.lo, h.adl, h.ads, h.fl, h.fs, h.fo, h.bl, h.bs, h.bo⟩

set_option maxRecDepth 10000 in
set_option maxHeartbeats 8000000 in
theorem spec_DiskOkO (aL : Option Addr) (nL cL : Nat) (live : List Fl) (aS : Option Addr) (nS cS : Nat) (safe : List Fl) (aO : Option Addr) (nO cO : Nat) (ops : List Dop) (w : World) (h : DiskO w aL nL cL live aS nS cS safe aO nO cO ops) :
    Calls Try.prog 9 #[.agg #[.slice aL nL cL, .slice aS nS cS, .slice aO nO cO]] w fun e w' => e = .returned (.bool (diskB live safe ops)) ∧ Below w.heap.size w w' := by
  obtain ⟨W0, hW0⟩ : ∃ W0, W0 = w.alloc (.cells #[.slice aL nL cL, .slice aS nS cS, .slice aO nO cO] 27) := ⟨_, rfl⟩
  have hb0 : Below w.heap.size w W0 := by rw [hW0]; exact bel1 _ _
  have hlt : w.heap.size < W0.heap.size := by rw [hW0]; simp
  have c0 : W0.cell? ⟨w.heap.size, 0, none⟩ = some (.slice aL nL cL) := by rw [hW0]; simp [go_sem]
  have c1 : W0.cell? ⟨w.heap.size, 1, none⟩ = some (.slice aS nS cS) := by rw [hW0]; simp [go_sem]
  have c2 : W0.cell? ⟨w.heap.size, 2, none⟩ = some (.slice aO nO cO) := by rw [hW0]; simp [go_sem]
  have HD := hide (fun (W : World) (hW : Below W0.heap.size W0 W) => (h.below hb0).below hW)
  have HC := hide (fun (W : World) (hW : Below W0.heap.size W0 W) => And.intro (bcl hW hlt c0) (And.intro (bcl hW hlt c1) (bcl hW hlt c2)))
  have HFIN := hide (fun (W : World) (hW : Below W0.heap.size W0 W) => belOn hb0 hW)
  have HW0 := hide hW0.symm
  have hbl := h.bl
  have hbs := h.bs
  have hbo := h.bo
  have HH := hide h
  clear h hb0 hlt c0 c1 c2 hW0
  cases hL : filesB live with
  | false =>
    rw [show diskB live safe ops = false from by unfold diskB; rw [hL]; rfl]
    have HL := hide hL
    clear hL
    go_enter Try.func9, Try.ntmps9
    go_wp2_with fail
    rw [unhide HW0]
    refine (l4Files_calls aL nL cL live W0 (unhide HH).ll (by omega) (unhide HH).fl (unhide HD _ (Below.refl _ _)).rl).mono ?_
    rintro e w1 ⟨rfl, hb1⟩
    rw [unhide HL]
    have HB1 := hide (unhide HFIN _ hb1)
    clear hb1
    go_wp2_with fail
    go_ret
    exact ⟨rfl, unhide HB1⟩
  | true =>
    have HL := hide hL
    cases hS : filesB safe with
    | false =>
      rw [show diskB live safe ops = false from by unfold diskB; rw [hL, hS]; rfl]
      have HS := hide hS
      clear hL hS
      go_enter Try.func9, Try.ntmps9
      go_wp2_with fail
      rw [unhide HW0]
      refine (l4Files_calls aL nL cL live W0 (unhide HH).ll (by omega) (unhide HH).fl (unhide HD _ (Below.refl _ _)).rl).mono ?_
      rintro e w1 ⟨rfl, hb1⟩
      rw [unhide HL]
      have HB1 := hide hb1
      obtain ⟨q0, q1, q2⟩ := unhide HC _ hb1
      clear hb1
      go_wp2_with fail
      refine (l4Files_calls aS nS cS safe w1 (unhide HH).ls (by omega) (unhide HH).fs (unhide HD _ (unhide HB1)).rs).mono ?_
      rintro e w2 ⟨rfl, hb2⟩
      rw [unhide HS]
      have HB2 := hide (unhide HFIN _ (belOn (unhide HB1) hb2))
      clear hb2
      go_wp2_with fail
      go_ret
      exact ⟨rfl, unhide HB2⟩
    | true =>
      have HS := hide hS
      by_cases hO : nO ≤ 200
      · rw [diskB_eq hL hS (by rw [(unhide HH).lo]; exact hO)]
        clear hL hS
        have hRV : ∀ r, runF safe ops = r → (match runF safe ops with | none => false | some now => sameF now live) = diskV live safe r := fun r hr => by rw [hr]; rfl
        obtain ⟨R, hR⟩ : ∃ R, (match runF safe ops with | none => false | some now => sameF now live) = R := ⟨_, rfl⟩
        rw [hR]
        have HRV := hide (fun r hr => hR.symm.trans (hRV r hr))
        clear hRV hR
        go_enter Try.func9, Try.ntmps9
        go_wp2_with fail
        rw [unhide HW0]
        refine (l4Files_calls aL nL cL live W0 (unhide HH).ll (by omega) (unhide HH).fl (unhide HD _ (Below.refl _ _)).rl).mono ?_
        rintro e w1 ⟨rfl, hb1⟩
        rw [unhide HL]
        have HB1 := hide hb1
        obtain ⟨q0, q1, q2⟩ := unhide HC _ hb1
        clear hb1
        go_wp2_with fail
        refine (l4Files_calls aS nS cS safe w1 (unhide HH).ls (by omega) (unhide HH).fs (unhide HD _ (unhide HB1)).rs).mono ?_
        rintro e w2 ⟨rfl, hb2⟩
        rw [unhide HS]
        have HB2 := hide (belOn (unhide HB1) hb2)
        obtain ⟨r0, r1, r2⟩ := unhide HC _ (unhide HB2)
        clear hb2 q0 q1 q2 HB1
        go_wp2_with fail
        go_loopw [3, 4] (fun v i wr => ∃ (k n c : Nat) (a : Option Addr) (now : List Fl), v = .slice a n c ∧ i = .int .i64 k ∧ k ≤ nO ∧ n ≤ 60 ∧ Hid (RowAt fileE wr a now ∧ AdOk a c ∧ now.length = n ∧ filesB now = true) ∧ Hid (Below W0.heap.size W0 wr) ∧ Hid (runF now (ops.drop k) = runF safe ops)) (fun _ i _ => nO - (intOf i).toNat)
        case atStart => exact ⟨0, nS, cS, aS, safe, rfl, rfl, by omega, by have := (files_small (unhide HS)).1; rw [(unhide HH).ls] at this; exact this, hide ⟨(unhide HD _ (unhide HB2)).rs, (unhide HH).ads, (unhide HH).ls, unhide HS⟩, HB2, hide rfl⟩
        case round =>
          clear r0 r1 r2
          obtain ⟨k, n, c, a, now, rfl, rfl, hk, hn, HN, HB, HR⟩ := hrel
          obtain ⟨q0, q1, q2⟩ := unhide HC _ (unhide HB)
          by_cases hkn : k < nO
          · have hkl : k < ops.length := by rw [(unhide HH).lo]; exact hkn
            obtain ⟨g, ob, e1, l1, p0, p1, p2, p3⟩ := (unhide HD _ (unhide HB)).ro.dop k hkl
            have hsm := (unhide HH).fo ops[k] (by simp)
            have hst := runF_step now ops k hkl
            obtain ⟨hfit, hln⟩ := do_fit (unhide HN).2.2.2 hsm
            have HCD := hide (fun (W : World) (hW : Below W0.heap.size W0 W) => (unhide HD _ hW).ro.dop k hkl)
            generalize ops[k] = o at p0 p1 p2 p3 hsm hst hfit hln HCD
            have HDO := hide (l4Do_calls a n c now o wr (unhide HN).2.2.1 (by omega) (small_fit (unhide HN).2.2.2) hsm.fit (unhide HN).1 (unhide HN).2.1)
            have HFM := hide (fun W => l4Form_calls o W hsm.fit)
            have HST := hide (hst.symm.trans (unhide HR))
            have HFT := hide hfit
            obtain ⟨kd, nm, to, dt⟩ := o
            unfold dopV at HDO HFM
            simp only at p0 p1 p2 p3 HDO HFM
            subst e1
            have i0 : (0 : Int) ≤ (k : Int) := by omega
            have i1 : (k : Int) < (nO : Int) := by omega
            clear hsm hst hfit HR
            go_wp2_with fail
            refine (unhide HDO).mono ?_
            rintro e w3 ⟨v3, rfl, hO3, hb3⟩
            obtain ⟨a3, c3, hv3⟩ := hO3.form
            subst hv3
            have HB3 := hide (belOn (unhide HB) hb3)
            generalize doF now ⟨kd, nm, to, dt⟩ = r at hO3 HST HFT hln ⊢
            obtain ⟨nx, bb⟩ := r
            simp only at hO3 HST HFT hln ⊢
            obtain ⟨n3, hn3⟩ : ∃ n3, nx.length = n3 := ⟨_, rfl⟩
            rw [hn3] at hO3 hln ⊢
            have HN3 := hide hn3
            have HR3 := hide hO3.at
            have HA3 := hide hO3.ad
            clear q0 q1 q2 p0 p1 p2 p3 hb3 hO3 HDO hn3
            obtain ⟨q0, q1, q2⟩ := unhide HC _ (unhide HB3)
            obtain ⟨g', ob', e', l', p0, p1, p2, p3⟩ := unhide HCD _ (unhide HB3)
            obtain ⟨rfl, rfl⟩ : g = g' ∧ ob = ob' := by simpa using e'
            cases bb with
            | false =>
              have HX := hide (unhide HRV none (unhide HST).symm)
              have HBF := hide (unhide HFIN _ (unhide HB3))
              clear HST e'
              go_wp2_with fail
              go_ret
              exact ⟨by rw [unhide HX]; rfl, unhide HBF⟩
            | true =>
              cases hfm : formB ⟨kd, nm, to, dt⟩ with
              | false =>
                have HX := hide (unhide HRV none (by have := unhide HST; rw [hfm] at this; exact this.symm))
                have HFV := hide hfm
                clear HST hfm e'
                go_wp2_with fail
                refine (unhide HFM _).mono ?_
                rintro e w4 ⟨rfl, hb4⟩
                rw [unhide HFV]
                have HBF := hide (unhide HFIN _ (belOn (unhide HB3) hb4))
                clear hb4
                go_wp2_with fail
                go_ret
                exact ⟨by rw [unhide HX]; rfl, unhide HBF⟩
              | true =>
                have HFV := hide hfm
                cases hfl : filesB nx with
                | false =>
                  have HX := hide (unhide HRV none (by have := unhide HST; rw [hfm, hfl] at this; exact this.symm))
                  have HLV := hide hfl
                  clear HST hfm hfl e'
                  go_wp2_with fail
                  refine (unhide HFM _).mono ?_
                  rintro e w4 ⟨rfl, hb4⟩
                  rw [unhide HFV]
                  have HB4 := hide (belOn (unhide HB3) hb4)
                  have HR4 := hide ((unhide HR3).below hb4)
                  clear hb4
                  go_wp2_with fail
                  refine (l4Files_calls a3 n3 c3 nx w4 (unhide HN3) (by omega) (unhide HFT) (unhide HR4)).mono ?_
                  rintro e w5 ⟨rfl, hb5⟩
                  rw [unhide HLV]
                  have HBF := hide (unhide HFIN _ (belOn (unhide HB4) hb5))
                  clear hb5
                  go_wp2_with fail
                  go_ret
                  exact ⟨by rw [unhide HX]; rfl, unhide HBF⟩
                | true =>
                  have HX := hide (show runF nx (ops.drop (k + 1)) = runF safe ops from by have := unhide HST; rw [hfm, hfl] at this; exact this)
                  have HLV := hide hfl
                  have hn60 : n3 ≤ 60 := by have := (files_small hfl).1; rw [unhide HN3] at this; exact this
                  clear HST hfm hfl e'
                  go_wp2_with fail
                  refine (unhide HFM _).mono ?_
                  rintro e w4 ⟨rfl, hb4⟩
                  rw [unhide HFV]
                  have HB4 := hide (belOn (unhide HB3) hb4)
                  have HR4 := hide ((unhide HR3).below hb4)
                  clear hb4
                  go_wp2_with fail
                  refine (l4Files_calls a3 n3 c3 nx w4 (unhide HN3) (by omega) (unhide HFT) (unhide HR4)).mono ?_
                  rintro e w5 ⟨rfl, hb5⟩
                  rw [unhide HLV]
                  have HB5 := hide (belOn (unhide HB4) hb5)
                  have HR5 := hide ((unhide HR4).below hb5)
                  clear hb5
                  go_wp2_with fail
                  go_roundw
                  case rel => exact ⟨k + 1, n3, c3, a3, nx, rfl, by go_num, by omega, hn60, hide ⟨unhide HR5, unhide HA3, unhide HN3, unhide HLV⟩, HB5, HX⟩
                  case measure => simp [intOf]; omega
          · obtain rfl : k = nO := by omega
            have HX := hide (unhide HRV (some now) (by have := unhide HR; rw [List.drop_of_length_le (by rw [(unhide HH).lo]; exact Nat.le_refl _)] at this; exact this.symm))
            clear HR
            go_wp2_with fail
            refine (l4Same_calls a aL n nL c cL now live wr (unhide HN).2.2.1 (unhide HH).ll (by omega) (by omega) (unhide HN).1 (unhide HD _ (unhide HB)).rl).mono ?_
            rintro e w6 ⟨rfl, hb6⟩
            have HBF := hide (unhide HFIN _ (belOn (unhide HB) hb6))
            clear hb6
            go_wp2_with fail
            go_ret
            exact ⟨by rw [unhide HX]; rfl, unhide HBF⟩
      · rw [show diskB live safe ops = false from by unfold diskB; rw [hL, hS, decide_eq_false (by rw [(unhide HH).lo]; exact hO)]; rfl]
        clear hL hS
        go_enter Try.func9, Try.ntmps9
        go_wp2_with fail
        rw [unhide HW0]
        refine (l4Files_calls aL nL cL live W0 (unhide HH).ll (by omega) (unhide HH).fl (unhide HD _ (Below.refl _ _)).rl).mono ?_
        rintro e w1 ⟨rfl, hb1⟩
        rw [unhide HL]
        have HB1 := hide hb1
        obtain ⟨q0, q1, q2⟩ := unhide HC _ hb1
        clear hb1
        go_wp2_with fail
        refine (l4Files_calls aS nS cS safe w1 (unhide HH).ls (by omega) (unhide HH).fs (unhide HD _ (unhide HB1)).rs).mono ?_
        rintro e w2 ⟨rfl, hb2⟩
        rw [unhide HS]
        obtain ⟨r0, r1, r2⟩ := unhide HC _ (belOn (unhide HB1) hb2)
        have HB2 := hide (unhide HFIN _ (belOn (unhide HB1) hb2))
        clear hb2 q0 q1 q2
        go_wp2_with fail
        go_ret
        exact ⟨rfl, unhide HB2⟩

theorem spec_DiskOk (aL : Option Addr) (nL cL : Nat) (live : List Fl) (aS : Option Addr) (nS cS : Nat) (safe : List Fl) (aO : Option Addr) (nO cO : Nat) (ops : List Dop) (w : World) (h : DiskAt w aL nL cL live aS nS cS safe aO nO cO ops) :
    Calls Try.prog 9 #[.agg #[.slice aL nL cL, .slice aS nS cS, .slice aO nO cO]] w fun e w' => e = .returned (.bool (diskB live safe ops)) ∧ Below w.heap.size w w' :=
  spec_DiskOkO aL nL cL live aS nS cS safe aO nO cO ops w h.toO
end Go.Proofs.Ytknpccpfjclngaa
