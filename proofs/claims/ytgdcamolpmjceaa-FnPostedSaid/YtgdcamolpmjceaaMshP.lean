/- The packets of a mesh, by rising ids. -/
import Derived.Test.YtgdcamolpmjceaaMshK
import Derived.Test.YtgdcamolpmjceaaPkSrt
import Derived.Maps.RangeWalk
namespace Go.Proofs.Ytgdcamolpmjceaa
open Go.RowKit Go.Maps Plain
set_option linter.unusedVariables false

namespace Plain
theorem filter_or_perm {α : Type} (p q : α → Bool) (hd : ∀ x, p x = true → q x = false) : ∀ l : List α, (l.filter fun x => p x || q x).Perm (l.filter p ++ l.filter q)
  | [] => .nil
  | x :: l => by
    have ih := filter_or_perm p q hd l
    cases hp : p x with
    | true =>
      have hq := hd x hp
      rw [List.filter_cons_of_pos (by simp [hp]), List.filter_cons_of_pos hp, List.filter_cons_of_neg (by simp [hq])]
      exact ih.cons x
    | false =>
      cases hq : q x with
      | true =>
        rw [List.filter_cons_of_pos (by simp [hq]), List.filter_cons_of_neg (by simp [hp]), List.filter_cons_of_pos hq]
        exact (ih.cons x).trans List.perm_middle.symm
      | false =>
        rw [List.filter_cons_of_neg (by simp [hp, hq]), List.filter_cons_of_neg (by simp [hp]), List.filter_cons_of_neg (by simp [hq])]
        exact ih
/-- What has come of a net's packets: those whose way is no longer to come. -/
def cameP (left : Lit → Bool) (es : List Pkt) : List Pkt := es.filter fun p => !left (keyW p.src p.dst)
theorem cameP_next (left : Lit → Bool) (es : List Pkt) (f t : Int) (hw : ∀ e ∈ es, wfP e.src e.dst) (hft : wfP f t) (hl : left (keyW f t) = true) (left' : Lit → Bool) (h1 : ∀ f' t', wfP f' t' → left' (keyW f' t') = (left (keyW f' t') && !(decide (f' = f) && decide (t' = t)))) :
    (cameP left' es).Perm (cameP left es ++ wayF es f t) := by
  unfold cameP wayF
  have e : (es.filter fun p => !left' (keyW p.src p.dst)) = es.filter fun p => (!left (keyW p.src p.dst)) || (decide (p.src = f) && decide (p.dst = t)) := by
    refine List.filter_congr fun p hp => ?_
    rw [h1 _ _ (hw p hp)]
    cases left (keyW p.src p.dst) <;> simp
  rw [e]
  refine filter_or_perm _ _ (fun x hx => ?_) es
  cases hq : (decide (x.src = f) && decide (x.dst = t)) with
  | false => rfl
  | true =>
    simp at hq
    rw [hq.1, hq.2, hl] at hx
    simp at hx
end Plain
theorem Plain.below_none2 {w w' : World} (h : w.grownBy w' none) : Below w.heap.size w w' := ⟨h.os, h.tape, h.output, h.size, fun k hk => h.block k hk (fun q => by cases q)⟩
theorem keyW_same {f t f' t' : Int} (h : wfP f t) (h' : wfP f' t') : (keyW f' t').sameKey (keyW f t) = (decide (f' = f) && decide (t' = t)) := by
  rw [Bool.eq_iff_iff, WideAt.sameKey_iff (keyW_ok f t)]
  simp only [Bool.and_eq_true, decide_eq_true_eq]
  exact ⟨fun e => keyW_inj h' h e, fun ⟨e1, e2⟩ => by rw [e1, e2]⟩
def Plain.wayV (x : Int × Int) : Value := .agg #[.int .i64 x.1, .int .i64 x.2]
def Plain.hdV (c : Option Addr × Nat × Nat) : Value := .slice c.1 c.2.1 c.2.2
set_option maxRecDepth 100000 in
theorem keyW_inv2 {key : Value} {kl : Lit} (h : keyOf Try.prog 53 key = some kl) : ∃ x, key = wayV x ∧ wfP x.1 x.2 := by
  have hu := Try.underlying53
  have hi := Try.underlying2
  unfold keyOf at h
  rw [hu] at h
  simp only [keyTypeW, Bool.true_and] at h
  split at h
  · next hf =>
    cases key with
    | agg cs =>
      simp only [Value.formed, hu, cellsW] at hf
      obtain ⟨l⟩ := cs
      match l, hf with
      | [u, v], _ =>
        simp only [Value.cells] at h
        rw [sizeW] at h
        generalize Try.prog.types.size - 1 = dd at h
        unfold Program.keyLits at h
        rw [hu] at h
        simp only [cellsW, List.length_cons, List.length_nil] at h
        have e2 : ∀ (d : Nat) (z : Value) (ls : List Lit), Try.prog.keyLits (d + 1) 2 [z] = some ls → ∃ n, z = .int .i64 n ∧ (Lit.int .i64 n).wf = true := by
          intro d z ls hz
          unfold Program.keyLits at hz
          rw [hi] at hz
          cases z <;> simp at hz
          obtain ⟨⟨rfl, q⟩, _⟩ := hz
          exact ⟨_, rfl, q⟩
        cases h1 : Try.prog.keyLits (dd + 1) 2 [u] with
        | none => simp [cellsI, h1] at h
        | some l1 =>
          cases h2 : Try.prog.keyLits (dd + 1) 2 [v] with
          | none => simp [cellsI, h1, h2] at h
          | some l2 =>
            obtain ⟨n1, rfl, w1⟩ := e2 _ _ _ h1
            obtain ⟨n2, rfl, w2⟩ := e2 _ _ _ h2
            exact ⟨(n1, n2), rfl, w1, w2⟩
      | [], hf => simp at hf
      | [_], hf => simp at hf
      | _ :: _ :: _ :: _, hf => simp at hf
    | _ => simp [Value.formed, hu] at hf
  · cases h
theorem keyW_inv {key : Value} {kl : Lit} (h : keyOf Try.prog 53 key = some kl) : ∃ x, key = wayV x := by
  obtain ⟨x, e, _⟩ := keyW_inv2 h
  exact ⟨x, e⟩
theorem wayV_wf {x : Int × Int} {kl : Lit} (h : keyOf Try.prog 53 (wayV x) = some kl) : wfP x.1 x.2 := by
  obtain ⟨y, e, hw⟩ := keyW_inv2 h
  unfold wayV at e
  simp at e
  rw [e.1, e.2]
  exact hw
theorem hdV_inv {v : Value} {y : DataW Unit × List MemPlace} (h : hdElem v = some y) : ∃ c, v = hdV c := by
  rcases hdElem_cases h with ⟨rfl, _⟩ | ⟨g, n, c, rfl, _⟩
  · exact ⟨(none, 0, 0), rfl⟩
  · exact ⟨(some ⟨g, 0, none⟩, n, c), rfl⟩
theorem Plain.ranges_below {w w' : World} {b r n B : Nat} {D : DataW Unit} {left : Lit → Bool} {cnt : Nat} (h : w.ranges Try.prog 53 hdElem b r n D left cnt) (hb : Below B w w') (h1 : b < B) (h2 : r < B) : w'.ranges Try.prog 53 hdElem b r n D left cnt := by
  obtain ⟨es, clock, since, seen, c0, q1, F, hs, hD, q2, rest⟩ := h
  exact ⟨es, clock, since, seen, c0, (hb.block b h1).trans q1, F, hs, hD, (hb.block r h2).trans q2, rest⟩
/-- An entry that has come is a row of the mesh. -/
theorem Plain.MshAt.came {W : World} {B M b n : Nat} {nx : Int} {F : Int → Int → List Pkt} {H : Int → Int → Option (Nat × Nat)} (h : MshAt W B M b n nx F H) {D : DataW Unit} (hK : ∀ f t, wfP f t → match H f t with
    | none => Maps.has D (keyW f t) = false
    | some y => Maps.has D (keyW f t) = true ∧ ∀ z, D.atKey (keyW f t) z = hdD y.1 (F f t).length y.2) {x : Int × Int} {c : Option Addr × Nat × Nat} {kl : Lit} {y : DataW Unit × List MemPlace} (hx : keyOf Try.prog 53 (wayV x) = some kl) (hv : hdElem (hdV c) = some y) (hat : ∀ z, D.atKey kl z = y.1) :
    kl = keyW x.1 x.2 ∧ hdV c = rowV H F x.1 x.2 := by
  have hw := wayV_wf hx
  have e1 : kl = keyW x.1 x.2 := by
    have := keyW_of hw
    unfold wayV at hx
    rw [this] at hx
    exact (Option.some.inj hx).symm
  refine ⟨e1, ?_⟩
  have hk := hK _ _ hw
  unfold rowV
  cases hh : H x.1 x.2 with
  | none =>
    rw [hh] at hk
    have a1 := hat (.agg [])
    have a2 := hat (.map [])
    rw [e1, atKey_of_not_has hk] at a1 a2
    rw [← a1] at a2
    cases a2
  | some y0 =>
    rw [hh] at hk
    have a1 := hat (.agg [])
    rw [e1, hk.2] at a1
    obtain ⟨y1, y2⟩ := y
    simp only at a1
    rw [← a1] at hv
    exact hdElem_some hv

set_option maxRecDepth 10000 in
set_option maxHeartbeats 4000000 in
theorem packets_calls {W : World} {B M b n : Nat} {nx : Int} {es : List Pkt} {H : Int → Int → Option (Nat × Nat)} (h : MshAt W B M b n nx (wayF es) H) (hr : RisP es) (hw : ∀ e ∈ es, wfP e.src e.dst) (hl : es.length ≤ 1000) :
    Calls Try.prog 41 #[.pointer (some ⟨M, 0, none⟩)] W fun e w' => ∃ a c, e = .returned (.slice a es.length c) ∧ OwnR pktE w' W.heap.size (.slice a es.length c) es ∧ Below W.heap.size W w' := by
  obtain ⟨D, hD, hK⟩ := h.map
  have m1 := h.c1
  have hlt := h.lt
  have HH := hide h
  have HK := hide hK
  have hst : (cameP (Maps.has D) es) = [] := by
    unfold cameP
    rw [List.filter_eq_nil_iff]
    intro p hp
    have hx := hK _ _ (hw p hp)
    cases hh : H p.src p.dst with
    | none =>
      have hnil := h.nil _ _ hh
      have : p ∈ wayF es p.src p.dst := by unfold wayF; rw [List.mem_filter]; exact ⟨hp, by simp⟩
      rw [hnil] at this
      cases this
    | some y => rw [hh] at hx; simp [hx.1]
  clear h hK
  go_enter Try.func41, Try.ntmps41
  go_wp2_with (first
    | (at_range; refine wpList_range_own _ rfl _ 51 rfl 53 24 law_way Try.underlying51 _ b n _ rfl hD ?_; intro w0 hrg0 hg0 hs0)
    | go_in)
  go_frame
  go_loopw [3] (fun s3 wr => ∃ (left : Lit → Bool) (cnt : Nat) (ls : List Pkt), wr.ranges Try.prog 53 hdElem b W.heap.size n D left cnt ∧ Hid (ls.Perm (cameP left es)) ∧ Hid (OwnR pktE wr (W.heap.size + 1) s3 ls) ∧ Hid (Below W.heap.size W wr) ∧ W.heap.size + 1 ≤ wr.heap.size)
    (fun _ wr => wr.rangeLeft b W.heap.size)
  case atStart => exact ⟨_, _, [], hrg0, hide (by rw [hst]), hide (ownR_nil _ _ _), hide (below_none2 hg0), by omega⟩
  case round =>
    obtain ⟨left, cnt, ls, hrg, HP, HO, HB, hz⟩ := hrel
    obtain ⟨sa, sc, hv⟩ := (unhide HO).form
    subst hv
    have hcl : ls.length ≤ es.length := by rw [(unhide HP).length_eq]; exact List.length_filter_le _ _
    go_wp2_with (first
      | (at_next; refine wpList_next_ranges _ rfl _ rfl 53 law_way hdElem wayV hdV (fun _ _ hh => keyW_inv hh) (fun _ _ hh => hdV_inv hh) b W.heap.size n _ _ _ rfl hrg ?_ ?_)
      | go_in)
    · intro hc0 hl0
      have hpe : ls.Perm es := by
        have := unhide HP
        rwa [show cameP left es = es from by unfold cameP; rw [List.filter_eq_self]; intro p _; simp [hl0]] at this
      have hle := hpe.length_eq
      have HSRT := hide (sortP_any (W.heap.size + 1) sa ls.length sc es ls wr rfl (by omega) hr hpe (unhide HO))
      rw [hle] at HSRT ⊢
      clear hrg HO
      go_wp2_with fail
      refine (unhide HSRT).mono ?_
      rintro e w5 ⟨rfl, ho5, hb5⟩
      have HO5 := hide (ho5.le (show W.heap.size ≤ W.heap.size + 1 by omega))
      have HB5 := hide ((unhide HB).trans (hb5.mono (show W.heap.size ≤ W.heap.size + 1 by omega)))
      clear ho5 hb5
      go_wp2_with fail
      go_ret
      exact ⟨_, _, rfl, unhide HO5, unhide HB5⟩
    · intro xf xt ca cn cc kl y1 y2 w1 cnt1 hx hlk hvv hat hrg1 hcl1 hg1 hs1 hen
      have hW1 : Below W.heap.size W w1 := (unhide HB).trans ⟨hg1.os, hg1.tape, hg1.output, hg1.size, fun k hk => hg1.block k (by omega) (fun e => by cases e; omega)⟩
      have hM1 := (unhide HH).below hW1
      obtain ⟨e1, e2⟩ := hM1.came (x := (xf, xt)) (c := (ca, cn, cc)) (y := (y1, y2)) (unhide HK) hx hvv hat
      have hwx : wfP xf xt := wayV_wf hx
      have hrow := hM1.rowOf xf xt
      simp only at e1 e2
      rw [← e2] at hrow
      subst e1
      have hperm := cameP_next left es xf xt hw hwx hlk (fun z => left z && !z.sameKey (keyW xf xt)) (fun f' t' hf => by show (left (keyW f' t') && !(keyW f' t').sameKey (keyW xf xt)) = _; rw [keyW_same hwx hf])
      have hlw := wayF_len es xf xt
      unfold hdV at hrow hen
      unfold wayV at hen
      simp only at hrow hen
      obtain rfl : cn = (wayF es xf xt).length := by
        obtain ⟨_, _, q⟩ := hrow.form
        simpa using (by simpa using q : _ ∧ _ ∧ _).2.1
      have HO1 := hide ((unhide HO).otherN (W' := w1) (fun g hg => hg1.block g (by have := (unhide HO).lt g hg; omega) (fun e => by have h9 := World.ownsRow.lt (unhide HO) g hg; cases e; omega)))
      have HAT := hide hrow.at
      have HAD := hide hrow.adG
      have HP2 := hide (show (ls ++ wayF es xf xt).Perm _ from ((unhide HP).append_right _).trans hperm.symm)
      have HB1 := hide hW1
      have hz1 : W.heap.size + 1 ≤ w1.heap.size := by omega
      have hlen : ls.length + (wayF es xf xt).length < 100000000 := by omega
      clear hrow hW1 hM1 hperm hat hvv hx HO HP
      go_wp2_with (first
        | (at_builtin; go_must (refine appGG (e := pktE) rfl _ _ rfl (unhide HO1) rfl ca _ cc rfl rfl (unhide HAT) (unhide HAD) hlen hz1 ?_); intro v' w6 hown6 hb6)
        | fail)
      have hrg6 := ranges_below hrg1 hb6 (by omega) (by omega)
      have hb7 : Below W.heap.size W w6 := (unhide HB1).trans (hb6.mono (by omega))
      have hz6 := hb6.size
      go_roundw
      case rel => exact ⟨_, cnt1, _, hrg6, HP2, hide hown6, hide hb7, by omega⟩
      case measure => rw [hrg6.left_eq, hrg.left_eq]; exact hcl1
end Go.Proofs.Ytgdcamolpmjceaa
