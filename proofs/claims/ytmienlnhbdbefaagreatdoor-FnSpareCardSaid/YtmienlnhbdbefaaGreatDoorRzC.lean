/- Texts of one kind, put together. -/
import Derived.Test.YtmienlnhbdbefaaGreatDoorDzB
import Derived.Test.YtmienlnhbdbefaaGreatDoorRzL
import Derived.Test.YtmienlnhbdbefaaGreatDoorRzK
import Derived.Deep.QuietTactic
import Derived.BigQuiet

/- What is needed, nodes and what they have, drawn. -/
namespace Go.Proofs.YtmienlnhbdbefaaGreatDoor
open Go.RowKit Plain
set_option linter.unusedVariables false

namespace Plain
/-- Rows of texts that are drawn: their heads lie at v. -/
structure HavD (W : World) (B : Nat) (v : Value) (hds : List Hd) (hs : List (List ByteArray)) : Prop where
  out : OwnR hdE W B v hds
  len : hds.length = hs.length
  row : ∀ i (h1 : i < hds.length) (h2 : i < hs.length), OwnR strE W B (.slice hds[i].a hds[i].n hds[i].c) hs[i]
  fit : ∀ l ∈ hs, l.length ≤ 12 ∧ ∀ s ∈ l, s.size ≤ 100
/-- The row v is none of them. -/
def offD (hds : List Hd) (v : Value) : Prop := ∀ h ∈ hds, ∀ g, v.ownBlock = some g → (Value.slice h.a h.n h.c).ownBlock ≠ some g
theorem HavD.keep {W W' : World} {B : Nat} {v : Value} {hds : List Hd} {hs : List (List ByteArray)} (h : HavD W B v hds hs) (hb : Below W.heap.size W W') : HavD W' B v hds hs := ⟨h.out.keep hb, h.len, fun i h1 h2 => (h.row i h1 h2).keep hb, h.fit⟩
theorem HavD.le {W : World} {B B' : Nat} {v : Value} {hds : List Hd} {hs : List (List ByteArray)} (h : HavD W B v hds hs) (hB : B' ≤ B) : HavD W B' v hds hs := ⟨h.out.le hB, h.len, fun i h1 h2 => (h.row i h1 h2).le hB, h.fit⟩
theorem HavD.onlN {W W' : World} {B : Nat} {v : Value} {hds : List Hd} {hs : List (List ByteArray)} {q : Addr} (h : HavD W B v hds hs) (ho : OnlyAt q W W') (hq : q.block < B) : HavD W' B v hds hs := ⟨h.out.onlN ho hq, h.len, fun i h1 h2 => (h.row i h1 h2).onlN ho hq, h.fit⟩
theorem HavD.made {w : World} {B : Nat} (hB : B ≤ w.heap.size) : HavD (w.alloc (.cells #[] 24)) B (.slice (some ⟨w.heap.size, 0, none⟩) 0 0) [] [] := ⟨ownR_empty hdE w B hB, rfl, fun i h1 => by simp at h1, fun l hl => by cases hl⟩
theorem HavD.lt {W : World} {B : Nat} {v : Value} {hds : List Hd} {hs : List (List ByteArray)} (h : HavD W B v hds hs) : ∀ hd ∈ hds, ∀ g, (Value.slice hd.a hd.n hd.c).ownBlock = some g → g < W.heap.size := by
  intro hd hm g hg
  obtain ⟨i, hi, rfl⟩ := List.mem_iff_getElem.1 hm
  exact (h.row i hi (by rw [← h.len]; exact hi)).lt g hg
theorem HavD.fresh {W : World} {B : Nat} {v u : Value} {hds : List Hd} {hs : List (List ByteArray)} (h : HavD W B v hds hs) (hu : ∀ g, u.ownBlock = some g → W.heap.size ≤ g) : offD hds u := by
  intro hd hm g hg q
  have := h.lt hd hm g q
  have := hu g hg
  omega
theorem offD.next {W : World} {B : Nat} {v u u' : Value} {hds : List Hd} {hs : List (List ByteArray)} (h : offD hds u) (hH : HavD W B v hds hs) {H : Nat} (hw : W.heap.size ≤ H) (hu : u'.ownBlock = u.ownBlock ∨ u'.ownBlock = some H) : offD hds u' := by
  rcases hu with q | q
  · intro hd hm g hg
    exact h hd hm g (by rw [← q]; exact hg)
  · refine hH.fresh fun g hg => ?_
    rw [q] at hg
    have : H = g := by simpa using hg
    omega
theorem offD.snoc {hds : List Hd} {u : Value} (h : offD hds u) {hd : Hd} (h2 : ∀ g, u.ownBlock = some g → (Value.slice hd.a hd.n hd.c).ownBlock ≠ some g) : offD (hds ++ [hd]) u := by
  intro x hx
  rcases List.mem_append.1 hx with q | q
  · exact h x q
  · rw [List.mem_singleton] at q
    subst q
    exact h2
theorem HavD.app {W w' : World} {B : Nat} {v v' : Value} {hds : List Hd} {hs : List (List ByteArray)} (h : HavD W B v hds hs) {hd : Hd} {ss : List ByteArray} (hr : OwnR strE W B (.slice hd.a hd.n hd.c) ss) (hf : ss.length ≤ 12 ∧ ∀ s ∈ ss, s.size ≤ 100) {o : Obj} (own : OwnR hdE w' B v' (hds ++ [hd])) (hg : (W.alloc o).grownBy w' v.ownBlock) : HavD w' B v' (hds ++ [hd]) (hs ++ [ss]) := by
  refine ⟨own, by rw [List.length_append, List.length_append, h.len]; rfl, fun i h1 h2 => ?_, fun l hl => ?_⟩
  · by_cases e : i < hds.length
    · have e2 : i < hs.length := by rw [← h.len]; exact e
      have e3 : (hds ++ [hd])[i] = hds[i] := List.getElem_append_left e
      have e4 : (hs ++ [ss])[i] = hs[i] := List.getElem_append_left e2
      rw [e4]
      simp only [e3]
      exact (h.row i e e2).beside h.out (by decide) hg
    · have e0 : i = hds.length := by rw [List.length_append] at h1; simp at h1; omega
      have e3 : (hds ++ [hd])[i] = hd := by subst e0; simp
      have e4 : (hs ++ [ss])[i] = ss := by
        rw [h.len] at e0
        subst e0; simp
      rw [e4]
      simp only [e3]
      exact hr.beside h.out (by decide) hg
  · rcases List.mem_append.1 hl with q | q
    · exact h.fit l q
    · rw [List.mem_singleton] at q
      subst q
      exact hf
theorem HavD.strs {W w' : World} {B B2 : Nat} {v u : Value} {hds : List Hd} {hs : List (List ByteArray)} {L : List ByteArray} (h : HavD W B v hds hs) (hoff : offD hds u) (hA : OwnR strE W B2 u L) (hg : W.grownBy w' u.ownBlock) : HavD w' B v hds hs := by
  refine ⟨?_, h.len, fun i h1 h2 => World.ownsRow.kept (h.row i h1 h2) hg ?_, h.fit⟩
  · refine World.ownsRow.kept h.out hg ?_
    rcases h.out.2 with ⟨q, _⟩ | ⟨g1, cap, cur, q, _, h3, _⟩
    · exact .inl (by rw [q]; rfl)
    · rcases hA.2 with ⟨q', _⟩ | ⟨g2, cap', cur', q', _, h3', _⟩
      · subst q'; subst q; exact .inr (by simp [Value.ownBlock])
      · subst q
        subst q'
        refine .inr ?_
        intro hh
        have e1 : g1 = g2 := by simpa [Value.ownBlock] using hh
        subst e1
        rw [h3] at h3'
        simp at h3'
        exact absurd h3'.2 (by decide)
  · cases hu : u.ownBlock with
    | none =>
      cases hx : (Value.slice hds[i].a hds[i].n hds[i].c).ownBlock with
      | none => exact .inl rfl
      | some g => exact .inr (by simp)
    | some g => exact .inr (hoff hds[i] (by simp) g hu)
theorem HavD.at {W : World} {B : Nat} {v : Value} {hds : List Hd} {hs : List (List ByteArray)} (h : HavD W B v hds hs) {a : Option Addr} {n c : Nat} (hv : v = .slice a n c) (hn : hs.length = n) (hn2 : n ≤ 1000) : HavAt W a n hs := by
  subst hv
  refine ⟨hn, by omega, fun i hi => ?_⟩
  have h1 : i < hds.length := by rw [h.len]; exact hi
  obtain ⟨g, e1, l1, p1, -⟩ := h.out.at.hd i h1
  have hr := h.row i h1 hi
  have hf := h.fit hs[i] (by simp)
  have hln : hds[i].n = hs[i].length := by
    obtain ⟨x, y, e⟩ := hr.form
    simp at e
    exact e.2.1
  refine ⟨g, hds[i].a, hds[i].c, e1, l1, by rw [← hln]; exact p1, hr.at, rfl, by omega, fun s hs2 => ?_⟩
  have := hf.2 s hs2
  omega
/-- Two rows of one kind that do not lie in one block. -/
def ApV (u v : Value) : Prop := ∀ g, u.ownBlock = some g → v.ownBlock ≠ some g
theorem keptV {W w' : World} {B : Nat} {u v : Value} {L : List ByteArray} (h : OwnR strE W B v L) (ha : ApV u v) (hg : W.grownBy w' u.ownBlock) : OwnR strE w' B v L := by
  refine World.ownsRow.kept h hg ?_
  cases hu : u.ownBlock with
  | none =>
    cases hx : v.ownBlock with
    | none => exact .inl rfl
    | some g => exact .inr (by simp)
  | some g => exact .inr (ha g hu)
theorem ApV.next {W : World} {B : Nat} {u u' v : Value} {L : List ByteArray} (h : ApV u v) (hv : OwnR strE W B v L) {H : Nat} (hw : W.heap.size ≤ H) (hu : u'.ownBlock = u.ownBlock ∨ u'.ownBlock = some H) : ApV u' v := by
  intro g hg q
  rcases hu with e | e
  · exact h g (by rw [← e]; exact hg) q
  · rw [e] at hg
    have : H = g := by simpa using hg
    have := hv.lt g q
    omega
theorem besideW {α β : Type} {e : Elem α} {e' : Elem β} {W w' : World} {B B' : Nat} {v v' : Value} {xs : List α} {ys : List β} (h : OwnR e W B v xs) (ho : OwnR e' W B' v' ys) (hne : e.E ≠ e'.E) (hg : W.grownBy w' v'.ownBlock) : OwnR e w' B v xs := by
  refine World.ownsRow.kept h hg ?_
  rcases h.2 with ⟨q, _⟩ | ⟨g1, cap, cur, q, _, h3, _⟩
  · exact .inl (by rw [q]; rfl)
  · rcases ho.2 with ⟨q', _⟩ | ⟨g2, cap', cur', q', _, h3', _⟩
    · subst q'; subst q; exact .inr (by simp [Value.ownBlock])
    · subst q
      subst q'
      refine .inr ?_
      intro hh
      have e1 : g1 = g2 := by simpa [Value.ownBlock] using hh
      subst e1
      rw [h3] at h3'
      simp at h3'
      exact hne h3'.2
/-- What the drawer answers. -/
def CasQ (R : Nat) (a : Option Addr) (len cap : Nat) (zs : List Int) (w : World) (e : Ending) (w' : World) : Prop :=
  ∃ (vn : Value) (ds : List ByteArray) (v : Value) (ns : List Int) (vh : Value) (hds : List Hd) (hs : List (List ByteArray)) (k : Int), e = .returned (.tuple #[vn, v, vh, .int .i64 k]) ∧ OwnR strE w' w.heap.size vn ds ∧ (∀ s ∈ ds, s.size ≤ 100) ∧ ds.length ≤ 200 ∧ OwnR i64E w' w.heap.size v ns ∧ ns.length ≤ 7 ∧ HavD w' w.heap.size vh hds hs ∧ hs.length ≤ 8 ∧ Rd w' R a len cap zs ∧ OnlyAt ⟨R, 1, none⟩ w w'
end Plain

set_option maxRecDepth 10000 in
set_option maxHeartbeats 4000000 in
theorem l14Case_calls (R : Nat) (a : Option Addr) (len cap : Nat) (zs : List Int) (w : World) (h : Rd w R a len cap zs) :
    Calls Tryz.prog 25 #[.pointer (some ⟨R, 0, none⟩)] w (CasQ R a len cap zs w) := by
  have hR := h.lt
  have HD0 := hide (DS.start h)
  have HN0 := hide (nodes_calls R a len cap zs w h)
  clear h
  go_enter Tryz.func25, Tryz.ntmps25
  go_wp2_with fail
  refine (unhide HN0).mono ?_
  rintro e w1 ⟨v, ns, rfl, HO1, hns, hR1, ho1⟩
  obtain ⟨aN, cN, hv⟩ := (unhide HO1).form
  obtain ⟨n, hn⟩ : ∃ n, ns.length = n := ⟨_, rfl⟩
  rw [hn] at hv hns
  subst hv
  have HNL := hide hn
  obtain ⟨W2, hW2⟩ : ∃ W2, W2 = (w1.alloc (.cells #[] 24)).alloc (.cells #[] 9) := ⟨_, rfl⟩
  have hb12 : Below w1.heap.size w1 W2 := by rw [hW2]; exact belOnD (bel1D _ _) (bel1D _ _)
  have HD2 := hide (((unhide HD0).call hR1 ho1).below hb12)
  have HI2 := hide ((unhide HO1).keep hb12)
  have hz1 := ho1.size
  have HH2 := hide (show HavD W2 w.heap.size (.slice (some ⟨w1.heap.size, 0, none⟩) 0 0) [] [] from by rw [hW2]; exact (HavD.made hz1).keep (bel1D _ _))
  have HA2 := hide (show OwnR strE W2 w.heap.size (.slice (some ⟨w1.heap.size + 1, 0, none⟩) 0 0) [] from by
    rw [hW2]
    have := ownR_empty strE (w1.alloc (.cells #[] 24)) w.heap.size (by simp; omega)
    rwa [show (w1.alloc (.cells #[] 24)).heap.size = w1.heap.size + 1 from by simp] at this)
  have hz2 : w.heap.size ≤ W2.heap.size := Nat.le_trans hz1 hb12.size
  have HW2 := hide hW2.symm
  clear hR1 ho1 HO1 hW2 hb12 HN0 HD0 hn
  go_wp2_with fail
  rw [unhide HW2]
  go_loopw [7, 8, 9] (fun s7 s8 s9 wr => ∃ (p : Nat) (hds : List Hd) (hs : List (List ByteArray)) (L : List ByteArray), s9 = .int .i64 p ∧ p ≤ n ∧ hs.length = p ∧ L.length ≤ 12 * p ∧ w.heap.size ≤ wr.heap.size ∧ Hid (HavD wr w.heap.size s7 hds hs) ∧ Hid (OwnR strE wr w.heap.size s8 L) ∧ Hid (offD hds s8) ∧ Hid (∀ s ∈ L, s.size ≤ 100) ∧ Hid (OwnR i64E wr w.heap.size (.slice aN n cN) ns) ∧ Hid (DS w R a len cap zs wr)) (fun _ _ s9 _ => n - (intOf s9).toNat)
  case atStart => exact ⟨0, [], [], [], rfl, by omega, rfl, by simp, hz2, HH2, HA2, hide (fun h hh => by cases hh), hide (fun s hs => by cases hs), HI2, HD2⟩
  case round =>
    clear HH2 HA2 HI2 HD2 hz2 hz1 HW2
    obtain ⟨p, hds, hs, L, rfl, hp, hhl, hLl, hz, HH, HA, HOF, HF, HI, HD⟩ := hrel
    obtain ⟨aH, cH, hvH⟩ := (unhide HH).out.form
    rw [(unhide HH).len, hhl] at hvH
    obtain ⟨aA, cA, hvA⟩ := (unhide HA).form
    obtain ⟨q, hq⟩ : ∃ q, L.length = q := ⟨_, rfl⟩
    rw [hq] at hvA hLl
    subst hvH hvA
    have hRw : R < wr.heap.size := by omega
    by_cases hpn : p < n
    · have i1 : (p : Int) < (n : Int) := by omega
      have HSET := hide (set_calls R a len cap zs wr (unhide HD).rd)
      go_wp2_with fail
      refine (unhide HSET).mono ?_
      rintro e w2 ⟨vs, ss, rfl, HS2, HF2, hsl, hR2, ho2⟩
      obtain ⟨aS, cS, hvS⟩ := (unhide HS2).form
      obtain ⟨m, hm⟩ : ∃ m, ss.length = m := ⟨_, rfl⟩
      rw [hm] at hvS hsl
      subst hvS
      have HD2 := hide ((unhide HD).call hR2 ho2)
      have HH2 := hide ((unhide HH).onlN ho2 (by simp; omega))
      have HA2 := hide ((unhide HA).onlN ho2 (by simp; omega))
      have HI2 := hide ((unhide HI).onlN ho2 (by simp; omega))
      have hz2 : w.heap.size ≤ w2.heap.size := Nat.le_trans hz ho2.size
      have HSB := hide ((unhide HS2).le hz)
      have HFR := hide (fun g (hg : (Value.slice aS m cS).ownBlock = some g) => (show wr.heap.size ≤ g from (World.ownsRow.lt (unhide HS2) g hg).1))
      have HAL := hide (unhide HA).lt
      have HMM := hide hm
      have hlh : hds.length < 100000000 := by rw [(unhide HH).len, hhl]; omega
      have HLH := hide (show (hds ++ [(⟨aS, m, cS⟩ : Hd)]).length = p + 1 from by rw [List.length_append, (unhide HH).len, hhl]; rfl)
      clear hR2 ho2 HD HH HA HI HS2 HSET hm
      have hlA : L.length + m < 100000000 := by omega
      have HLA := hide (show (L ++ ss).length = q + m from by rw [List.length_append, hq, unhide HMM])
      have HFA := hide (show ∀ s ∈ L ++ ss, s.size ≤ 100 from fun s hs => by
        rcases List.mem_append.1 hs with x | x
        · exact unhide HF s x
        · exact unhide HF2 s x)
      go_wp2_with (first
        | (at_builtin; refine appR (e := hdE) rfl _ _ rfl (unhide HH2).out rfl (⟨aS, m, cS⟩ : Hd) rfl _ rfl rfl hlh hz2 ?_; intro v' w3 hown3 hb3 hg3; obtain ⟨a3, c3, hv3⟩ := hown3.form; rw [unhide HLH] at hv3; subst hv3; have HH3 := hide ((unhide HH2).app (unhide HSB) ⟨by rw [unhide HMM]; exact hsl, unhide HF2⟩ hown3 hg3); have HA3 := hide ((unhide HA2).beside (unhide HH2).out (by decide) hg3); have HI3 := hide ((unhide HI2).beside (unhide HH2).out (by decide) hg3); have HS3 := hide ((unhide HSB).beside (unhide HH2).out (by decide) hg3); have HD3 := hide ((unhide HD2).belowB hb3 hR (Nat.le_refl _)); have HOF3 := hide (show offD (hds ++ [(⟨aS, m, cS⟩ : Hd)]) (.slice aA q cA) from (unhide HOF).snoc fun g hg q => by { have x1 := unhide HFR g q; have x2 := unhide HAL g hg; omega }); have hz3 : w.heap.size ≤ w3.heap.size := Nat.le_trans hz2 hb3.size; clear hown3 hb3 hg3)
        | (at_builtin; refine appAt (e := strE) rfl (.tmp 29) (.tmp 30) rfl (unhide HA3) rfl aS m cS rfl (unhide HMM) (unhide HS3).at (unhide HS3).adG hlA hz3 ?_; intro v4 w4 hown4 hb4 hg4 hl4; obtain ⟨a4, c4, hv4⟩ := hown4.form; rw [unhide HLA] at hv4; subst hv4; have HH4 := hide ((unhide HH3).strs (unhide HOF3) (unhide HA3) hg4); have HI4 := hide (besideW (unhide HI3) (unhide HA3) (by decide) hg4); have HOF4 := hide ((unhide HOF3).next (unhide HH3) (Nat.le_refl _) hl4); have HD4 := hide ((unhide HD3).belowB hb4 hR (Nat.le_refl _)); have HA4 := hide hown4; have hz4 : w.heap.size ≤ w4.heap.size := Nat.le_trans hz3 hb4.size; clear hown4 hb4 hg4 hl4))
      go_roundw
      case rel => exact ⟨p + 1, _, hs ++ [ss], L ++ ss, by go_num, by omega, by rw [List.length_append, hhl]; rfl, by rw [unhide HLA]; omega, hz4, HH4, HA4, HOF4, HFA, HI4, HD4⟩
      case measure => simp [intOf]; omega
    · obtain rfl : p = n := by omega
      obtain ⟨W5, hW5⟩ : ∃ W5, W5 = wr.alloc (.cells #[] 9) := ⟨_, rfl⟩
      have hb5 : Below wr.heap.size wr W5 := by rw [hW5]; exact bel1D _ _
      have HD5 := hide ((unhide HD).below hb5)
      have HI5 := hide ((unhide HI).keep hb5)
      have HH5 := hide ((unhide HH).keep hb5)
      have HA5 := hide ((unhide HA).keep hb5)
      have HN5 := hide (show OwnR strE W5 w.heap.size (.slice (some ⟨wr.heap.size, 0, none⟩) 0 0) [] from by rw [hW5]; exact ownR_empty strE wr w.heap.size hz)
      have HO5 := hide (show offD hds (.slice (some ⟨wr.heap.size, 0, none⟩) 0 0) from (unhide HH).fresh fun g hg => by simp [Value.ownBlock] at hg; omega)
      have HP5 := hide (show ApV (.slice (some ⟨wr.heap.size, 0, none⟩) 0 0) (.slice aA q cA) from fun g hg x => by
        have x1 := (unhide HA).lt g x
        simp [Value.ownBlock] at hg
        omega)
      have hz5 : w.heap.size ≤ W5.heap.size := Nat.le_trans hz hb5.size
      have HW5 := hide hW5.symm
      have hq84 : q ≤ 84 := by omega
      have HQ := hide hq
      clear HD HI HH HA HOF hb5 hW5 hq
      go_wp2_with fail
      rw [unhide HW5]
      go_loopw [11, 12] (fun s11 s12 wq => ∃ (i : Nat) (N : List ByteArray), s12 = .int .i64 i ∧ i ≤ q ∧ N.length ≤ i ∧ w.heap.size ≤ wq.heap.size ∧ Hid (HavD wq w.heap.size (.slice aH p cH) hds hs) ∧ Hid (OwnR strE wq w.heap.size (.slice aA q cA) L) ∧ Hid (OwnR strE wq w.heap.size s11 N) ∧ Hid (offD hds s11) ∧ Hid (ApV s11 (.slice aA q cA)) ∧ Hid (∀ s ∈ N, s.size ≤ 100) ∧ Hid (OwnR i64E wq w.heap.size (.slice aN p cN) ns) ∧ Hid (DS w R a len cap zs wq)) (fun _ s12 _ => q - (intOf s12).toNat)
      case atStart => exact ⟨0, [], rfl, by omega, by simp, hz5, HH5, HA5, HN5, HO5, HP5, hide (fun s hs => by cases hs), HI5, HD5⟩
      case round =>
        clear HH5 HA5 HN5 HO5 HP5 HI5 HD5 hz5 hz HW5
        obtain ⟨i, N, rfl, hi, hNl, hz, HH, HA, HN, HOF, HAP, HFN, HI, HD⟩ := hrel
        obtain ⟨aX, cX, hvX⟩ := (unhide HN).form
        obtain ⟨x, hx⟩ : ∃ x, N.length = x := ⟨_, rfl⟩
        rw [hx] at hvX hNl
        subst hvX
        by_cases hiq : i < q
        · have hil : i < L.length := by rw [unhide HQ]; exact hiq
          have i0 : (0 : Int) ≤ (i : Int) := by omega
          have i1 : (i : Int) < (q : Int) := by omega
          have HON := hide (once_calls R a len cap zs 4 wr (unhide HD).rd (by omega) (by omega))
          go_wp2_with fail
          refine (unhide HON).mono ?_
          rintro e w2 ⟨bo, rfl, hR2, ho2⟩
          have HD2 := hide ((unhide HD).call hR2 ho2)
          have HH2 := hide ((unhide HH).onlN ho2 (by simp; omega))
          have HA2 := hide ((unhide HA).onlN ho2 (by simp; omega))
          have HN2 := hide ((unhide HN).onlN ho2 (by simp; omega))
          have HI2 := hide ((unhide HI).onlN ho2 (by simp; omega))
          have hz2 : w.heap.size ≤ w2.heap.size := Nat.le_trans hz ho2.size
          clear hR2 ho2 HD HH HA HN HI HON
          cases bo with
          | true =>
            go_wp2_with fail
            go_roundw
            case rel => exact ⟨i + 1, N, by go_num, by omega, by omega, hz2, HH2, HA2, HN2, HOF, HAP, HFN, HI2, HD2⟩
            case measure => simp [intOf]; omega
          | false =>
            obtain ⟨gA, eA, lA, pA, -⟩ := (unhide HA2).at.str i hil
            have hsA := unhide HF L[i] (by simp)
            generalize L[i] = y at pA hsA
            have hlN : N.length < 100000000 := by omega
            have HLN := hide (show (N ++ [y]).length = x + 1 from by rw [List.length_append, hx]; rfl)
            have HFY := hide (show ∀ s ∈ N ++ [y], s.size ≤ 100 from fun s hs => by
              rcases List.mem_append.1 hs with z | z
              · exact unhide HFN s z
              · rw [List.mem_singleton] at z; subst z; exact hsA)
            subst eA
            go_wp2_with (at_builtin; refine appRAt (e := strE) rfl _ _ rfl (unhide HN2) rfl y rfl _ rfl rfl hlN hz2 ?_; intro v3 w3 hown3 hb3 hg3 hl3; obtain ⟨a3, c3, hv3⟩ := hown3.form; rw [unhide HLN] at hv3; subst hv3; have HH3 := hide (((unhide HH2).keep (bel1D _ _)).strs (unhide HOF) ((unhide HN2).keep (bel1D _ _)) hg3); have HA3 := hide (keptV ((unhide HA2).keep (bel1D _ _)) (unhide HAP) hg3); have HI3 := hide ((unhide HI2).beside (unhide HN2) (by decide) hg3); have HOF3 := hide ((unhide HOF).next (unhide HH2) (Nat.le_succ _) hl3); have HAP3 := hide ((unhide HAP).next (unhide HA2) (Nat.le_succ _) hl3); have HD3 := hide ((unhide HD2).belowB hb3 hR (Nat.le_refl _)); have HN3 := hide hown3; have hz3 : w.heap.size ≤ w3.heap.size := Nat.le_trans hz2 hb3.size; clear hown3 hb3 hg3 hl3)
            go_roundw
            case rel => exact ⟨i + 1, N ++ [y], by go_num, by omega, by rw [unhide HLN]; omega, hz3, HH3, HA3, HN3, HOF3, HAP3, HFY, HI3, HD3⟩
            case measure => simp [intOf]; omega
        · obtain rfl : i = q := by omega
          have HON := hide (once_calls R a len cap zs 3 wr (unhide HD).rd (by omega) (by omega))
          have hi84 : i ≤ 84 := hq84
          clear HA HAP
          go_wp2_with fail
          refine (unhide HON).mono ?_
          rintro e w2 ⟨bo, rfl, hR2, ho2⟩
          have HD2 := hide ((unhide HD).call hR2 ho2)
          have HH2 := hide ((unhide HH).onlN ho2 (by simp; omega))
          have HN2 := hide ((unhide HN).onlN ho2 (by simp; omega))
          have HI2 := hide ((unhide HI).onlN ho2 (by simp; omega))
          have hz2 : w.heap.size ≤ w2.heap.size := Nat.le_trans hz ho2.size
          clear hR2 ho2 HD HH HN HI HON
          cases bo with
          | false =>
            go_wp2_with fail
            refine (l1Rising_calls aX (x) cX (N) w2 hx (by omega) (unhide HN2).at.strs).mono ?_
            rintro e w5 ⟨v5, out, rfl, o5, HS5, hb5⟩
            obtain ⟨a5, c5, hv5⟩ := o5.form
            obtain ⟨no, hno⟩ : ∃ no, out.length = no := ⟨_, rfl⟩
            rw [hno] at hv5
            have hol : no ≤ 85 := by
              have := nodup_len out (N) (strict_nodup (unhide HS5).1) fun z hz => ((unhide HS5).2 z).1 hz
              omega
            have HFO := hide (fun s (hs : s ∈ out) => unhide HFN s (((unhide HS5).2 s).1 hs))
            subst hv5
            have HH5 := hide ((unhide HH2).keep hb5)
            have HI5 := hide ((unhide HI2).keep hb5)
            have HD5 := hide ((unhide HD2).below hb5)
            have HF5 := hide (show offD hds (.slice a5 no c5) from (unhide HH2).fresh fun g hg => (World.ownsRow.lt o5 g hg).1)
            have HN5 := hide (o5.le hz2)
            have hz5 : w.heap.size ≤ w5.heap.size := Nat.le_trans hz2 hb5.size
            have hno2 : ¬ (200 : Int) < (no : Int) := by omega
            clear o5 hb5 HS5
            go_wp2_with fail
            refine (below_calls R a len cap zs 24 _ (unhide HD5).rd (by omega) (by omega)).mono ?_
            rintro e w6 ⟨u, rfl, hu0, hu1, hR6, ho6⟩
            have HD6 := hide ((unhide HD5).call hR6 ho6)
            have HH6 := hide ((unhide HH5).onlN ho6 (by simp; omega))
            have HN6 := hide ((unhide HN5).onlN ho6 (by simp; omega))
            have HI6 := hide ((unhide HI5).onlN ho6 (by simp; omega))
            have hz6 : w.heap.size ≤ w6.heap.size := Nat.le_trans hz5 ho6.size
            clear hR6 ho6 HD5 HH5 HN5 HI5
            by_cases c0 : u = 0
            · subst c0
              go_wp2_with fail
              refine (set_calls R a len cap zs w6 (unhide HD6).rd).mono ?_
              rintro e w7 ⟨vs, ss, rfl, HS7, HF7, hsl, hR7, ho7⟩
              obtain ⟨aS, cS, hvS⟩ := (unhide HS7).form
              obtain ⟨m, hm⟩ : ∃ m, ss.length = m := ⟨_, rfl⟩
              rw [hm] at hvS hsl
              subst hvS
              have HMM := hide hm
              have HD7 := hide ((unhide HD6).call hR7 ho7)
              have HH7 := hide ((unhide HH6).onlN ho7 (by simp; omega))
              have HN7 := hide ((unhide HN6).onlN ho7 (by simp; omega))
              have HI7 := hide ((unhide HI6).onlN ho7 (by simp; omega))
              have hz7 : w.heap.size ≤ w7.heap.size := Nat.le_trans hz6 ho7.size
              have HSB := hide ((unhide HS7).le hz6)
              have hlh : hds.length < 100000000 := by rw [(unhide HH7).len, hhl]; omega
              have HLH := hide (show (hds ++ [(⟨aS, m, cS⟩ : Hd)]).length = p + 1 from by rw [List.length_append, (unhide HH7).len, hhl]; rfl)
              clear hR7 ho7 HD6 HH6 HN6 HI6 HS7 hm
              go_wp2_with (at_builtin; refine appR (e := hdE) rfl _ _ rfl (unhide HH7).out rfl (⟨aS, m, cS⟩ : Hd) rfl _ rfl rfl hlh hz7 ?_; intro v' w8 hown8 hb8 hg8; obtain ⟨a8, c8, hv8⟩ := hown8.form; rw [unhide HLH] at hv8; subst hv8; have HH8 := hide ((unhide HH7).app (unhide HSB) ⟨by rw [unhide HMM]; exact hsl, unhide HF7⟩ hown8 hg8); have HN8 := hide ((unhide HN7).beside (unhide HH7).out (by decide) hg8); have HI8 := hide ((unhide HI7).beside (unhide HH7).out (by decide) hg8); have HD8 := hide ((unhide HD7).belowB hb8 hR (Nat.le_refl _)); have hz8 : w.heap.size ≤ w8.heap.size := Nat.le_trans hz7 hb8.size; clear hown8 hb8 hg8)
              refine (off_calls _ a len cap zs 1 4 _ (unhide HD8).rd (by omega) (by omega) (by omega)).mono ?_
              rintro e w9 ⟨k, rfl, -, -, hR9, ho9⟩
              have HD9 := hide ((unhide HD8).call hR9 ho9)
              have HH9 := hide ((unhide HH8).onlN ho9 (by simp; omega))
              have HN9 := hide ((unhide HN8).onlN ho9 (by simp; omega))
              have HI9 := hide ((unhide HI8).onlN ho9 (by simp; omega))
              clear hR9 ho9
              go_wp2_with fail
              exact bodyPost_ret (v := .tuple #[.slice a5 no c5, .slice aN p cN, .slice a8 (p + 1) c8, .int .i64 k]) (by simp [results, Tryz.results25, go_sem]) rfl ⟨_, out, _, ns, _, _, hs ++ [ss], k, rfl, unhide HN9, unhide HFO, by omega, unhide HI9, by rw [unhide HNL]; omega, unhide HH9, by rw [List.length_append, hhl]; simp; omega, (unhide HD9).rd, (unhide HD9).only⟩
            have b0 : (u == 0) = false := by simpa using c0
            by_cases c1 : u = 1
            · subst c1
              have hlN : out.length < 100000000 := by omega
              have HLN := hide (show (out ++ [(⟨#[120]⟩ : ByteArray)]).length = no + 1 from by rw [List.length_append, hno]; rfl)
              go_wp2_with (at_builtin; refine appRAt (e := strE) rfl _ _ rfl (unhide HN6) rfl (⟨#[120]⟩ : ByteArray) rfl _ rfl rfl hlN hz6 ?_; intro v8 w8 hown8 hb8 hg8 hl8; obtain ⟨a8, c8, hv8⟩ := hown8.form; rw [unhide HLN] at hv8; subst hv8; have HH8 := hide (((unhide HH6).keep (bel1D _ _)).strs (unhide HF5) ((unhide HN6).keep (bel1D _ _)) hg8); have HI8 := hide ((unhide HI6).beside (unhide HN6) (by decide) hg8); have HN8 := hide hown8; have HD8 := hide ((unhide HD6).belowB hb8 hR (Nat.le_refl _)); have hz8 : w.heap.size ≤ w8.heap.size := Nat.le_trans hz6 hb8.size; clear hown8 hb8 hg8 hl8)
              refine (off_calls _ a len cap zs 1 4 _ (unhide HD8).rd (by omega) (by omega) (by omega)).mono ?_
              rintro e w9 ⟨k, rfl, -, -, hR9, ho9⟩
              have HD9 := hide ((unhide HD8).call hR9 ho9)
              have HH9 := hide ((unhide HH8).onlN ho9 (by simp; omega))
              have HN9 := hide ((unhide HN8).onlN ho9 (by simp; omega))
              have HI9 := hide ((unhide HI8).onlN ho9 (by simp; omega))
              clear hR9 ho9
              go_wp2_with fail
              exact bodyPost_ret (v := .tuple #[.slice a8 (no + 1) c8, .slice aN p cN, .slice aH p cH, .int .i64 k]) (by simp [results, Tryz.results25, go_sem]) rfl ⟨_, out ++ [(⟨#[120]⟩ : ByteArray)], _, ns, _, _, hs, k, rfl, unhide HN9, fun s hs => by
                rcases List.mem_append.1 hs with z | z
                · exact unhide HFO s z
                · rw [List.mem_singleton] at z; subst z; decide, by rw [unhide HLN]; omega, unhide HI9, by rw [unhide HNL]; omega, unhide HH9, by rw [hhl]; omega, (unhide HD9).rd, (unhide HD9).only⟩
            have b1 : (u == 1) = false := by simpa using c1
            go_wp2_with fail
            refine (off_calls _ a len cap zs 1 4 _ (unhide HD6).rd (by omega) (by omega) (by omega)).mono ?_
            rintro e w9 ⟨k, rfl, -, -, hR9, ho9⟩
            have HD9 := hide ((unhide HD6).call hR9 ho9)
            have HH9 := hide ((unhide HH6).onlN ho9 (by simp; omega))
            have HN9 := hide ((unhide HN6).onlN ho9 (by simp; omega))
            have HI9 := hide ((unhide HI6).onlN ho9 (by simp; omega))
            clear hR9 ho9
            go_wp2_with fail
            exact bodyPost_ret (v := .tuple #[.slice a5 no c5, .slice aN p cN, .slice aH p cH, .int .i64 k]) (by simp [results, Tryz.results25, go_sem]) rfl ⟨_, out, _, ns, _, _, hs, k, rfl, unhide HN9, unhide HFO, by omega, unhide HI9, by rw [unhide HNL]; omega, unhide HH9, by rw [hhl]; omega, (unhide HD9).rd, (unhide HD9).only⟩
          | true =>
            have HDG := hide (specDigest_calls ⟨#[108, 111, 115, 116]⟩ w2 (by decide))
            have hgz := digestB_size ⟨#[108, 111, 115, 116]⟩
            generalize digestB ⟨#[108, 111, 115, 116]⟩ = y at HDG hgz
            go_wp2_with fail
            refine (unhide HDG).mono ?_
            rintro e w3 ⟨rfl, hb3⟩
            have HD3 := hide ((unhide HD2).below hb3)
            have HH3 := hide ((unhide HH2).keep hb3)
            have HN3 := hide ((unhide HN2).keep hb3)
            have HI3 := hide ((unhide HI2).keep hb3)
            have hz3 : w.heap.size ≤ w3.heap.size := Nat.le_trans hz2 hb3.size
            have hlN : N.length < 100000000 := by omega
            have HLN := hide (show (N ++ [y]).length = x + 1 from by rw [List.length_append, hx]; rfl)
            have HFY := hide (show ∀ s ∈ N ++ [y], s.size ≤ 100 from fun s hs => by
              rcases List.mem_append.1 hs with z | z
              · exact unhide HFN s z
              · rw [List.mem_singleton] at z; subst z; omega)
            clear hb3 HD2 HH2 HN2 HI2 HDG
            go_wp2_with (at_builtin; refine appRAt (e := strE) rfl _ _ rfl (unhide HN3) rfl y rfl _ rfl rfl hlN hz3 ?_; intro v4 w4 hown4 hb4 hg4 hl4; obtain ⟨a4, c4, hv4⟩ := hown4.form; rw [unhide HLN] at hv4; subst hv4; have HH4 := hide (((unhide HH3).keep (bel1D _ _)).strs (unhide HOF) ((unhide HN3).keep (bel1D _ _)) hg4); have HI4 := hide ((unhide HI3).beside (unhide HN3) (by decide) hg4); have HD4 := hide ((unhide HD3).belowB hb4 hR (Nat.le_refl _)); have HN4 := hide hown4; have hz4 : w.heap.size ≤ w4.heap.size := Nat.le_trans hz3 hb4.size; clear hown4 hb4 hg4 hl4)
            refine (l1Rising_calls a4 (x + 1) c4 (N ++ [y]) w4 (unhide HLN) (by omega) (unhide HN4).at.strs).mono ?_
            rintro e w5 ⟨v5, out, rfl, o5, HS5, hb5⟩
            obtain ⟨a5, c5, hv5⟩ := o5.form
            obtain ⟨no, hno⟩ : ∃ no, out.length = no := ⟨_, rfl⟩
            rw [hno] at hv5
            have hol : no ≤ 85 := by
              have := nodup_len out (N ++ [y]) (strict_nodup (unhide HS5).1) fun z hz => ((unhide HS5).2 z).1 hz
              have e0 := unhide HLN
              omega
            have HFO := hide (fun s (hs : s ∈ out) => unhide HFY s (((unhide HS5).2 s).1 hs))
            subst hv5
            have HH5 := hide ((unhide HH4).keep hb5)
            have HI5 := hide ((unhide HI4).keep hb5)
            have HD5 := hide ((unhide HD4).below hb5)
            have HF5 := hide (show offD hds (.slice a5 no c5) from (unhide HH4).fresh fun g hg => (World.ownsRow.lt o5 g hg).1)
            have HN5 := hide (o5.le hz4)
            have hz5 : w.heap.size ≤ w5.heap.size := Nat.le_trans hz4 hb5.size
            have hno2 : ¬ (200 : Int) < (no : Int) := by omega
            clear o5 hb5 HS5
            go_wp2_with fail
            refine (below_calls R a len cap zs 24 _ (unhide HD5).rd (by omega) (by omega)).mono ?_
            rintro e w6 ⟨u, rfl, hu0, hu1, hR6, ho6⟩
            have HD6 := hide ((unhide HD5).call hR6 ho6)
            have HH6 := hide ((unhide HH5).onlN ho6 (by simp; omega))
            have HN6 := hide ((unhide HN5).onlN ho6 (by simp; omega))
            have HI6 := hide ((unhide HI5).onlN ho6 (by simp; omega))
            have hz6 : w.heap.size ≤ w6.heap.size := Nat.le_trans hz5 ho6.size
            clear hR6 ho6 HD5 HH5 HN5 HI5
            by_cases c0 : u = 0
            · subst c0
              go_wp2_with fail
              refine (set_calls R a len cap zs w6 (unhide HD6).rd).mono ?_
              rintro e w7 ⟨vs, ss, rfl, HS7, HF7, hsl, hR7, ho7⟩
              obtain ⟨aS, cS, hvS⟩ := (unhide HS7).form
              obtain ⟨m, hm⟩ : ∃ m, ss.length = m := ⟨_, rfl⟩
              rw [hm] at hvS hsl
              subst hvS
              have HMM := hide hm
              have HD7 := hide ((unhide HD6).call hR7 ho7)
              have HH7 := hide ((unhide HH6).onlN ho7 (by simp; omega))
              have HN7 := hide ((unhide HN6).onlN ho7 (by simp; omega))
              have HI7 := hide ((unhide HI6).onlN ho7 (by simp; omega))
              have hz7 : w.heap.size ≤ w7.heap.size := Nat.le_trans hz6 ho7.size
              have HSB := hide ((unhide HS7).le hz6)
              have hlh : hds.length < 100000000 := by rw [(unhide HH7).len, hhl]; omega
              have HLH := hide (show (hds ++ [(⟨aS, m, cS⟩ : Hd)]).length = p + 1 from by rw [List.length_append, (unhide HH7).len, hhl]; rfl)
              clear hR7 ho7 HD6 HH6 HN6 HI6 HS7 hm
              go_wp2_with (at_builtin; refine appR (e := hdE) rfl _ _ rfl (unhide HH7).out rfl (⟨aS, m, cS⟩ : Hd) rfl _ rfl rfl hlh hz7 ?_; intro v' w8 hown8 hb8 hg8; obtain ⟨a8, c8, hv8⟩ := hown8.form; rw [unhide HLH] at hv8; subst hv8; have HH8 := hide ((unhide HH7).app (unhide HSB) ⟨by rw [unhide HMM]; exact hsl, unhide HF7⟩ hown8 hg8); have HN8 := hide ((unhide HN7).beside (unhide HH7).out (by decide) hg8); have HI8 := hide ((unhide HI7).beside (unhide HH7).out (by decide) hg8); have HD8 := hide ((unhide HD7).belowB hb8 hR (Nat.le_refl _)); have hz8 : w.heap.size ≤ w8.heap.size := Nat.le_trans hz7 hb8.size; clear hown8 hb8 hg8)
              refine (off_calls _ a len cap zs 1 4 _ (unhide HD8).rd (by omega) (by omega) (by omega)).mono ?_
              rintro e w9 ⟨k, rfl, -, -, hR9, ho9⟩
              have HD9 := hide ((unhide HD8).call hR9 ho9)
              have HH9 := hide ((unhide HH8).onlN ho9 (by simp; omega))
              have HN9 := hide ((unhide HN8).onlN ho9 (by simp; omega))
              have HI9 := hide ((unhide HI8).onlN ho9 (by simp; omega))
              clear hR9 ho9
              go_wp2_with fail
              exact bodyPost_ret (v := .tuple #[.slice a5 no c5, .slice aN p cN, .slice a8 (p + 1) c8, .int .i64 k]) (by simp [results, Tryz.results25, go_sem]) rfl ⟨_, out, _, ns, _, _, hs ++ [ss], k, rfl, unhide HN9, unhide HFO, by omega, unhide HI9, by rw [unhide HNL]; omega, unhide HH9, by rw [List.length_append, hhl]; simp; omega, (unhide HD9).rd, (unhide HD9).only⟩
            have b0 : (u == 0) = false := by simpa using c0
            by_cases c1 : u = 1
            · subst c1
              have hlN : out.length < 100000000 := by omega
              have HLN := hide (show (out ++ [(⟨#[120]⟩ : ByteArray)]).length = no + 1 from by rw [List.length_append, hno]; rfl)
              go_wp2_with (at_builtin; refine appRAt (e := strE) rfl _ _ rfl (unhide HN6) rfl (⟨#[120]⟩ : ByteArray) rfl _ rfl rfl hlN hz6 ?_; intro v8 w8 hown8 hb8 hg8 hl8; obtain ⟨a8, c8, hv8⟩ := hown8.form; rw [unhide HLN] at hv8; subst hv8; have HH8 := hide (((unhide HH6).keep (bel1D _ _)).strs (unhide HF5) ((unhide HN6).keep (bel1D _ _)) hg8); have HI8 := hide ((unhide HI6).beside (unhide HN6) (by decide) hg8); have HN8 := hide hown8; have HD8 := hide ((unhide HD6).belowB hb8 hR (Nat.le_refl _)); have hz8 : w.heap.size ≤ w8.heap.size := Nat.le_trans hz6 hb8.size; clear hown8 hb8 hg8 hl8)
              refine (off_calls _ a len cap zs 1 4 _ (unhide HD8).rd (by omega) (by omega) (by omega)).mono ?_
              rintro e w9 ⟨k, rfl, -, -, hR9, ho9⟩
              have HD9 := hide ((unhide HD8).call hR9 ho9)
              have HH9 := hide ((unhide HH8).onlN ho9 (by simp; omega))
              have HN9 := hide ((unhide HN8).onlN ho9 (by simp; omega))
              have HI9 := hide ((unhide HI8).onlN ho9 (by simp; omega))
              clear hR9 ho9
              go_wp2_with fail
              exact bodyPost_ret (v := .tuple #[.slice a8 (no + 1) c8, .slice aN p cN, .slice aH p cH, .int .i64 k]) (by simp [results, Tryz.results25, go_sem]) rfl ⟨_, out ++ [(⟨#[120]⟩ : ByteArray)], _, ns, _, _, hs, k, rfl, unhide HN9, fun s hs => by
                rcases List.mem_append.1 hs with z | z
                · exact unhide HFO s z
                · rw [List.mem_singleton] at z; subst z; decide, by rw [unhide HLN]; omega, unhide HI9, by rw [unhide HNL]; omega, unhide HH9, by rw [hhl]; omega, (unhide HD9).rd, (unhide HD9).only⟩
            have b1 : (u == 1) = false := by simpa using c1
            go_wp2_with fail
            refine (off_calls _ a len cap zs 1 4 _ (unhide HD6).rd (by omega) (by omega) (by omega)).mono ?_
            rintro e w9 ⟨k, rfl, -, -, hR9, ho9⟩
            have HD9 := hide ((unhide HD6).call hR9 ho9)
            have HH9 := hide ((unhide HH6).onlN ho9 (by simp; omega))
            have HN9 := hide ((unhide HN6).onlN ho9 (by simp; omega))
            have HI9 := hide ((unhide HI6).onlN ho9 (by simp; omega))
            clear hR9 ho9
            go_wp2_with fail
            exact bodyPost_ret (v := .tuple #[.slice a5 no c5, .slice aN p cN, .slice aH p cH, .int .i64 k]) (by simp [results, Tryz.results25, go_sem]) rfl ⟨_, out, _, ns, _, _, hs, k, rfl, unhide HN9, unhide HFO, by omega, unhide HI9, by rw [unhide HNL]; omega, unhide HH9, by rw [hhl]; omega, (unhide HD9).rd, (unhide HD9).only⟩
end Go.Proofs.YtmienlnhbdbefaaGreatDoor


/- Sets of digests: when they are right, by the specification. -/
namespace Go.Proofs.YtmienlnhbdbefaaGreatDoor
open Go.RowKit Plain
set_option linter.unusedVariables false

namespace Plain
def risS : Option ByteArray → List ByteArray → Bool
  | _, [] => true
  | p, s :: r => ltO p s && risS (some s) r
theorem risS_step (ls : List ByteArray) (k : Nat) (h : k < ls.length) : risS (prevS ls k) (ls.drop k) = (ltO (prevS ls k) ls[k] && risS (prevS ls (k + 1)) (ls.drop (k + 1))) := by
  rw [List.drop_eq_getElem_cons h, risS, prevS, List.getElem?_eq_getElem h]
theorem okS_split : ∀ (l : List ByteArray) (p : Option ByteArray), okS p l = (risS p l && l.all digB)
  | [], _ => rfl
  | s :: r, p => by
    rw [okS, okS_split r, risS, List.all_cons]
    cases digB s <;> cases ltO p s <;> simp
theorem belQS {B : Nat} {w w' : World} (h : Below B w w') (k : Nat) : Below B w (w'.drewN k) := ⟨h.os, h.tape, h.output, h.size, h.block⟩
end Plain

set_option maxRecDepth 10000 in
set_option maxHeartbeats 2000000 in
theorem l1Rises_calls (a : Option Addr) (n c : Nat) (ls : List ByteArray) (w : World) (h : TxtsAt w a n ls) :
    Calls Tryz.prog 46 #[.slice a n c] w fun e w' => e = .returned (.bool (risS none ls)) ∧ Below w.heap.size w w' := by
  have HLN := hide h.len
  have hbn := h.bn
  have HD := hide (fun (W : World) (hW : Below w.heap.size w W) => h.below hW)
  obtain ⟨R, hR⟩ : ∃ R, risS none ls = R := ⟨_, rfl⟩
  have HR := hide (show (if n = 0 then true else risS (prevS ls 1) (ls.drop 1)) = R from by
    rw [← hR]
    cases ls with
    | nil => rw [if_pos (by have := h.len; simp at this; omega)]; rfl
    | cons s r => rw [if_neg (by have := h.len; simp at this; omega)]; simp [risS, ltO, prevS])
  rw [hR]
  clear h hR
  go_enter Tryz.func46, Tryz.ntmps46
  go_wp2_with fail
  by_cases hn0 : n = 0
  · subst hn0
    have hr := unhide HR
    rw [if_pos rfl] at hr
    have HX := hide hr.symm
    clear hr HR
    refine wp_loop_rounds 1 ?_
    rw [rounds_succ]
    go_wp2_with fail
    go_ret
    exact ⟨by rw [unhide HX]; rfl, Below.refl _ _⟩
  have hr := unhide HR
  rw [if_neg hn0] at hr
  have HR2 := hide hr
  clear hr HR
  go_loopw [3] (fun s3 wr => ∃ (k : Nat), s3 = .int .i64 ((k + 1 : Nat) : Int) ∧ k + 1 ≤ n ∧ Hid (risS (prevS ls (k + 1)) (ls.drop (k + 1)) = R) ∧ Hid (Below w.heap.size w wr)) (fun s3 _ => n - (intOf s3).toNat)
  case atStart => exact ⟨0, rfl, by omega, HR2, hide (Below.refl _ _)⟩
  case round =>
    clear HR2
    obtain ⟨k, rfl, hk, HO, HB⟩ := hrel
    by_cases hkn : k + 1 < n
    · have hkl : k + 1 < ls.length := by rw [unhide HLN]; exact hkn
      have hkl0 : k < ls.length := by omega
      obtain ⟨g, e1, l1, p1, -⟩ := (unhide HD wr (unhide HB)).row.str (k + 1) hkl
      obtain ⟨g', e2, l2, p0, -⟩ := (unhide HD wr (unhide HB)).row.str k hkl0
      have hst := risS_step ls (k + 1) hkl
      rw [unhide HO, show prevS ls (k + 1) = some ls[k] from by rw [prevS, List.getElem?_eq_getElem hkl0]] at hst
      generalize ls[k + 1] = s at p1 hst
      generalize ls[k] = q at p0 hst
      subst e1
      cases e2
      change R = (Op.bytesLess q.toList s.toList && _) at hst
      obtain ⟨lt, hlt⟩ : ∃ lt, Op.bytesLess q.toList s.toList = lt := ⟨_, rfl⟩
      rw [hlt] at hst
      have hle := le_not s q lt hlt
      have HST := hide hst
      have j0 : (0 : Int) ≤ (k : Int) := by omega
      have j1 : (k : Int) < (n : Int) := by omega
      have i0 : (0 : Int) ≤ ((k + 1 : Nat) : Int) := by omega
      have i1 : ((k + 1 : Nat) : Int) < (n : Int) := by omega
      clear hst hlt HO
      cases lt with
      | true =>
        rw [Bool.not_true] at hle
        have HX := hide (show risS (prevS ls (k + 1 + 1)) (ls.drop (k + 1 + 1)) = R from by rw [unhide HST, Bool.true_and])
        go_wp2_with fail
        go_quiet (fail)
        go_wp2_with fail
        go_roundw
        case rel => exact ⟨k + 1, by go_num, by omega, HX, hide (belQS (unhide HB) _)⟩
        case measure => simp [intOf]; omega
      | false =>
        rw [Bool.not_false] at hle
        have HX := hide (show R = false from by rw [unhide HST]; rfl)
        go_wp2_with fail
        go_quiet (fail)
        go_wp2_with fail
        go_ret
        exact ⟨by rw [unhide HX]; rfl, belQS (unhide HB) _⟩
    · obtain rfl : k + 1 = n := by omega
      have hO := unhide HO
      rw [List.drop_of_length_le (by rw [unhide HLN]; exact Nat.le_refl _)] at hO
      have HX := hide (show R = true from hO.symm)
      clear hO HO
      go_wp2_with fail
      go_ret
      exact ⟨by rw [unhide HX]; rfl, unhide HB⟩

set_option maxRecDepth 10000 in
set_option maxHeartbeats 2000000 in
theorem l7Set_calls (a : Option Addr) (n c : Nat) (ls : List ByteArray) (w : World) (h : TxtsAt w a n ls) :
    Calls Tryz.prog 26 #[.slice a n c] w fun e w' => e = .returned (.bool (setB ls)) ∧ Below w.heap.size w w' := by
  have HLN := hide h.len
  have hbn := h.bn
  have HD := hide (fun (W : World) (hW : Below w.heap.size w W) => h.below hW)
  have HFIT := hide h.fit
  have HRI := hide (l1Rises_calls a n c ls w h)
  by_cases hbig : (200 : Int) < (n : Int)
  · have HX := hide (show setB ls = false from by unfold setB; rw [decide_eq_false (by have := h.len; omega)]; rfl)
    clear h
    go_enter Tryz.func26, Tryz.ntmps26
    go_wp2_with fail
    go_ret
    exact ⟨by rw [unhide HX]; rfl, Below.refl _ _⟩
  have hsb : setB ls = (risS none ls && ls.all digB) := by unfold setB; rw [decide_eq_true (by have := h.len; omega), okS_split]; rfl
  rw [hsb]
  clear h hsb
  cases hr : risS none ls with
  | false =>
    rw [hr] at HRI
    clear hr
    go_enter Tryz.func26, Tryz.ntmps26
    go_wp2_with fail
    refine (unhide HRI).mono ?_
    rintro e w1 ⟨rfl, hb1⟩
    have HB := hide hb1
    clear hb1
    go_wp2_with fail
    go_ret
    exact ⟨rfl, unhide HB⟩
  | true =>
    rw [hr] at HRI
    rw [Bool.true_and]
    obtain ⟨R, hR⟩ : ∃ R, ls.all digB = R := ⟨_, rfl⟩
    have HR := hide hR
    rw [hR]
    clear hr hR
    go_enter Tryz.func26, Tryz.ntmps26
    go_wp2_with fail
    refine (unhide HRI).mono ?_
    rintro e w1 ⟨rfl, hb1⟩
    have HB1 := hide hb1
    clear hb1
    go_wp2_with fail
    go_loopw [3] (fun s3 wr => ∃ (k : Nat), s3 = .int .i64 k ∧ k ≤ n ∧ Hid ((ls.drop k).all digB = R) ∧ Hid (Below w.heap.size w wr)) (fun s3 _ => n - (intOf s3).toNat)
    case atStart => exact ⟨0, rfl, by omega, HR, HB1⟩
    case round =>
      clear HR HB1
      obtain ⟨k, rfl, hk, HO, HB⟩ := hrel
      by_cases hkn : k < n
      · have hkl : k < ls.length := by rw [unhide HLN]; exact hkn
        obtain ⟨g, e1, l1, p0, -⟩ := (unhide HD wr (unhide HB)).row.str k hkl
        have hst := unhide HO
        rw [List.drop_eq_getElem_cons hkl, List.all_cons] at hst
        have hsz := unhide HFIT ls[k] (by simp)
        generalize ls[k] = s at p0 hst hsz
        have HDG := hide (spec_DigestOk s wr (by omega))
        subst e1
        have i0 : (0 : Int) ≤ (k : Int) := by omega
        have i1 : (k : Int) < (n : Int) := by omega
        have HST := hide hst
        clear hst HO
        cases hd : digB s with
        | false =>
          rw [hd] at HDG
          have HX := hide (show R = false from by rw [← unhide HST, hd]; rfl)
          clear hd
          go_wp2_with fail
          refine (unhide HDG).mono ?_
          rintro e w2 ⟨rfl, rfl⟩
          go_wp2_with fail
          go_ret
          exact ⟨by rw [unhide HX]; rfl, unhide HB⟩
        | true =>
          rw [hd] at HDG
          have HX := hide (show (ls.drop (k + 1)).all digB = R from by rw [← unhide HST, hd]; rfl)
          clear hd
          go_wp2_with fail
          refine (unhide HDG).mono ?_
          rintro e w2 ⟨rfl, rfl⟩
          go_wp2_with fail
          go_roundw
          case rel => exact ⟨k + 1, by go_num, by omega, HX, HB⟩
          case measure => simp [intOf]; omega
      · obtain rfl : k = n := by omega
        have hO := unhide HO
        rw [List.drop_of_length_le (by rw [unhide HLN]; exact Nat.le_refl _)] at hO
        have HX := hide (show R = true from hO.symm)
        clear hO HO
        go_wp2_with fail
        go_ret
        exact ⟨by rw [unhide HX]; rfl, unhide HB⟩
end Go.Proofs.YtmienlnhbdbefaaGreatDoor

