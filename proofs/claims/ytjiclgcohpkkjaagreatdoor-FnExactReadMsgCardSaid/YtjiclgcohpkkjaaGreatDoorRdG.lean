/- The program's reader of rows, for whatever it reads into: numbers, texts. -/
import Derived.Test.YtjiclgcohpkkjaaGreatDoorGzAC
import Derived.Test.YtjiclgcohpkkjaaGreatDoorGzAM
namespace Go.Proofs.YtjiclgcohpkkjaaGreatDoor
open Go.RowKit Plain
set_option linter.unusedVariables false

namespace Plain
theorem bclG {w w' : World} {B : Nat} (h : Below B w w') {g i : Nat} {v : Value} (hg : g < B) (hc : w.cell? ⟨g, i, none⟩ = some v) : w'.cell? ⟨g, i, none⟩ = some v := (h.cell (p := ⟨g, i, none⟩) hg).trans hc
def ad (q : Nat × Nat) : Addr := ⟨q.1, q.2, none⟩
/-- A reader at R. -/
structure RS (w : World) (R : Nat) (s : ByteArray) (p : Nat) (f : Bool) : Prop where
  t0 : w.cell? ⟨R, 0, none⟩ = some (.string s)
  t1 : w.cell? ⟨R, 1, none⟩ = some (.int .i64 p)
  t2 : w.cell? ⟨R, 2, none⟩ = some (.bool f)
  z1 : w.frozen? ⟨R, 1, none⟩ = false
  z2 : w.frozen? ⟨R, 2, none⟩ = false
/-- Pointers in a block. -/
def PtrsAt (w : World) (S : Nat) (qs : List (Nat × Nat)) : Prop := ∀ j (h : j < qs.length), w.cell? ⟨S, j, none⟩ = some (.pointer (some (ad qs[j])))
/-- What lies where they point to. -/
def TgtAt {α : Type} (val : α → Value) (w : World) (qs : List (Nat × Nat)) (us : List α) : Prop := us.length = qs.length ∧ ∀ j (h : j < qs.length) (h2 : j < us.length), w.cell? (ad qs[j]) = some (val us[j]) ∧ w.frozen? (ad qs[j]) = false
/-- Nothing has changed but a reader and some cells, and new blocks. -/
structure Tch (R : Nat) (qs : List (Nat × Nat)) (w w' : World) : Prop where
  os : w'.os = w.os
  tape : w'.tape = w.tape
  output : w'.output = w.output
  size : w.heap.size ≤ w'.heap.size
  block : ∀ k, k < w.heap.size → k ≠ R → (∀ q ∈ qs, q.1 ≠ k) → w'.heap[k]? = w.heap[k]?
  cell : ∀ b o, b < w.heap.size → b ≠ R → (b, o) ∉ qs → w'.cell? ⟨b, o, none⟩ = w.cell? ⟨b, o, none⟩
  frozen : ∀ q : Addr, q.block < w.heap.size → w'.frozen? q = w.frozen? q
theorem Tch.refl (R : Nat) (qs : List (Nat × Nat)) (w : World) : Tch R qs w w := ⟨rfl, rfl, rfl, Nat.le_refl _, fun _ _ _ _ => rfl, fun _ _ _ _ _ => rfl, fun _ _ => rfl⟩
theorem Tch.trans {R : Nat} {qs : List (Nat × Nat)} {u v w : World} (h : Tch R qs u v) (h2 : Tch R qs v w) : Tch R qs u w :=
  ⟨h2.os.trans h.os, h2.tape.trans h.tape, h2.output.trans h.output, Nat.le_trans h.size h2.size, fun k hk h3 h4 => (h2.block k (Nat.lt_of_lt_of_le hk h.size) h3 h4).trans (h.block k hk h3 h4), fun b o hb h3 h4 => (h2.cell b o (Nat.lt_of_lt_of_le hb h.size) h3 h4).trans (h.cell b o hb h3 h4), fun q hq => (h2.frozen q (Nat.lt_of_lt_of_le hq h.size)).trans (h.frozen q hq)⟩
theorem Tch.of {R : Nat} {qs : List (Nat × Nat)} {w w' : World} (h : Below w.heap.size w w') : Tch R qs w w' := ⟨h.os, h.tape, h.output, h.size, fun k hk _ _ => h.block k hk, fun b o hb _ _ => h.cell (p := ⟨b, o, none⟩) hb, fun q hq => h.frozen (p := q) hq⟩
theorem Tch.only {R i : Nat} {qs : List (Nat × Nat)} {w w' : World} (h : OnlyAt ⟨R, i, none⟩ w w') : Tch R qs w w' := ⟨h.os, h.tape, h.output, h.size, fun k hk h3 _ => h.block k hk h3, fun b o hb h3 _ => h.cell ⟨b, o, none⟩ hb (fun e => h3 (congrArg Addr.block e)), fun q hq => h.frozen q hq⟩
theorem Tch.set {R : Nat} {qs : List (Nat × Nat)} {w : World} {q : Nat × Nat} (hq : q ∈ qs) (v : Value) : Tch R qs w (w.setCell (ad q) v) :=
  have h := OnlyAt.setCell (ad q) w v
  ⟨h.os, h.tape, h.output, h.size, fun k hk _ h4 => h.block k hk (fun e => h4 q hq e.symm), fun b o hb _ h4 => h.cell ⟨b, o, none⟩ hb (fun e => h4 (by obtain ⟨x, y⟩ := q; simp only [ad, Addr.mk.injEq, and_true] at e; rw [e.1, e.2]; exact hq)), fun q hq => h.frozen q hq⟩
theorem Tch.below {R K : Nat} {qs : List (Nat × Nat)} {w w' : World} (h : Tch R qs w w') (hR : K ≤ R) (hq : ∀ q ∈ qs, K ≤ q.1) (hK : K ≤ w.heap.size) : Below K w w' :=
  ⟨h.os, h.tape, h.output, h.size, fun k hk => h.block k (Nat.lt_of_lt_of_le hk hK) (by omega) (fun q hx e => by have := hq q hx; omega)⟩
theorem Tch.onlyP {R : Nat} {qs : List (Nat × Nat)} {p : Nat → Prop} {w w' : World} (h : Tch R qs w w') (hR : p R) (hq : ∀ q ∈ qs, p q.1) : OnlyP p w w' :=
  ⟨h.os, h.tape, h.output, h.size, fun k hk hn => h.block k hk (fun e => hn (e ▸ hR)) (fun q hx e => hn (e ▸ hq q hx))⟩
theorem RS.keep {w w' : World} {R : Nat} {s : ByteArray} {p : Nat} {f : Bool} (h : RS w R s p f) (hb : Below w.heap.size w w') : RS w' R s p f :=
  have lr := lt_of_cell h.t0
  ⟨bclG hb lr h.t0, bclG hb lr h.t1, bclG hb lr h.t2, (hb.frozen (p := ⟨R, 1, none⟩) lr).trans h.z1, (hb.frozen (p := ⟨R, 2, none⟩) lr).trans h.z2⟩
theorem RS.move {w w' : World} {R : Nat} {s : ByteArray} {p p' : Nat} {f : Bool} (h : RS w R s p f) (ho : OnlyAt ⟨R, 1, none⟩ w w') (hq : w'.cell? ⟨R, 1, none⟩ = some (.int .i64 p')) : RS w' R s p' f :=
  have lr := lt_of_cell h.t0
  ⟨(ho.cell ⟨R, 0, none⟩ lr (by simp)).trans h.t0, hq, (ho.cell ⟨R, 2, none⟩ lr (by simp)).trans h.t2, (ho.frozen ⟨R, 1, none⟩ lr).trans h.z1, (ho.frozen ⟨R, 2, none⟩ lr).trans h.z2⟩
theorem RS.off {w : World} {R b o : Nat} {s : ByteArray} {p : Nat} {f : Bool} (h : RS w R s p f) (hne : b ≠ R) (v : Value) : RS (w.setCell ⟨b, o, none⟩ v) R s p f :=
  have e : ∀ i, (⟨b, o, none⟩ : Addr) ≠ ⟨R, i, none⟩ := fun i q => hne (congrArg Addr.block q)
  ⟨(World.cell?_setCell_other _ _ _ _ (e 0)).trans h.t0, (World.cell?_setCell_other _ _ _ _ (e 1)).trans h.t1, (World.cell?_setCell_other _ _ _ _ (e 2)).trans h.t2, (World.frozen?_setCell _ _ _ _).trans h.z1, (World.frozen?_setCell _ _ _ _).trans h.z2⟩
theorem RS.flag {w : World} {R : Nat} {s : ByteArray} {p : Nat} {f : Bool} (h : RS w R s p f) (g : Bool) : RS (w.setCell ⟨R, 2, none⟩ (.bool g)) R s p g :=
  ⟨(World.cell?_setCell_other _ _ _ _ (by simp)).trans h.t0, (World.cell?_setCell_other _ _ _ _ (by simp)).trans h.t1, World.cell?_setCell_same _ _ _ h.t2, (World.frozen?_setCell _ _ _ _).trans h.z1, (World.frozen?_setCell _ _ _ _).trans h.z2⟩
theorem PtrsAt.touch {R S : Nat} {qs : List (Nat × Nat)} {w w' : World} (h : PtrsAt w S qs) (ht : Tch R qs w w') (hS : S < w.heap.size) (hR : S ≠ R) (hq : ∀ q ∈ qs, q.1 ≠ S) : PtrsAt w' S qs := fun j hj => (ht.cell S j hS hR (fun e => hq _ e rfl)).trans (h j hj)
theorem TgtAt.only {α : Type} {val : α → Value} {R : Nat} {qs : List (Nat × Nat)} {us : List α} {w w' : World} (h : TgtAt val w qs us) (ho : OnlyAt ⟨R, 1, none⟩ w w') (hne : ∀ q ∈ qs, q.1 ≠ R) : TgtAt val w' qs us := ⟨h.1, fun j hj h2 => by
  obtain ⟨a, b⟩ := h.2 j hj h2
  have hl : qs[j].1 < w.heap.size := lt_of_cell a
  exact ⟨(ho.cell (ad qs[j]) hl (fun e => hne qs[j] (List.getElem_mem hj) (congrArg Addr.block e))).trans a, (ho.frozen (ad qs[j]) hl).trans b⟩⟩
theorem TgtAt.flag {α : Type} {val : α → Value} {R : Nat} {qs : List (Nat × Nat)} {us : List α} {w : World} (h : TgtAt val w qs us) (hne : ∀ q ∈ qs, q.1 ≠ R) (v : Value) : TgtAt val (w.setCell ⟨R, 2, none⟩ v) qs us := ⟨h.1, fun j hj h2 => by
  obtain ⟨a, b⟩ := h.2 j hj h2
  exact ⟨(World.cell?_setCell_other _ _ _ _ (fun e => hne qs[j] (List.getElem_mem hj) (congrArg Addr.block e).symm)).trans a, (World.frozen?_setCell _ _ _ _).trans b⟩⟩
theorem TgtAt.keep {α : Type} {val : α → Value} {qs : List (Nat × Nat)} {us : List α} {w w' : World} (h : TgtAt val w qs us) (hb : Below w.heap.size w w') : TgtAt val w' qs us := ⟨h.1, fun j hj h2 => by
  obtain ⟨a, b⟩ := h.2 j hj h2
  have hl : qs[j].1 < w.heap.size := lt_of_cell a
  exact ⟨(hb.cell (p := ad qs[j]) hl).trans a, (hb.frozen (p := ad qs[j]) hl).trans b⟩⟩
theorem TgtAt.put {α : Type} {val : α → Value} {qs : List (Nat × Nat)} {us : List α} {w : World} (h : TgtAt val w qs us) (hd : qs.Nodup) (k : Nat) (hk : k < qs.length) (x : α) : TgtAt val (w.setCell (ad qs[k]) (val x)) qs (us.set k x) := by
  refine ⟨by rw [List.length_set]; exact h.1, fun j hj h2 => ?_⟩
  rw [List.length_set] at h2
  obtain ⟨a, b⟩ := h.2 j hj h2
  refine ⟨?_, (World.frozen?_setCell _ _ _ _).trans b⟩
  by_cases e : k = j
  · subst e
    rw [List.getElem_set_self]
    exact World.cell?_setCell_same _ _ _ a
  · rw [List.getElem_set_ne e]
    refine (World.cell?_setCell_other _ _ _ _ (fun q => e ?_)).trans a
    have q2 : qs[k] = qs[j] := by
      simp only [ad, Addr.mk.injEq, and_true] at q
      exact Prod.ext q.1 q.2
    have hp := List.pairwise_iff_getElem.1 hd
    rcases Nat.lt_trichotomy k j with hl | hl | hl
    · exact absurd q2 (hp k j hk hj hl)
    · exact hl
    · exact absurd q2.symm (hp j k hj hk hl)
/-- What was read one behind the other. -/
def chn {α : Type} (rd : Nat → Option (α × Nat)) : Nat → Bool → List α → Nat → Bool → Prop
  | p, f, [], p', f' => p' = p ∧ f' = f
  | p, f, v :: vs, p', f' => ∃ p1 f1, MoR (rd p) p1 f f1 v ∧ chn rd p1 f1 vs p' f'
theorem chn.snoc {α : Type} {rd : Nat → Option (α × Nat)} {v : α} {p2 : Nat} {f2 : Bool} : ∀ {vs : List α} {p p1 : Nat} {f f1 : Bool}, chn rd p f vs p1 f1 → MoR (rd p1) p2 f1 f2 v → chn rd p f (vs ++ [v]) p2 f2
  | [], p, p1, f, f1, h, m => by obtain ⟨rfl, rfl⟩ := h; exact ⟨p2, f2, m, rfl, rfl⟩
  | u :: vs, p, p1, f, f1, h, m => by obtain ⟨p3, f3, m3, h3⟩ := h; exact ⟨p3, f3, m3, chn.snoc h3 m⟩
theorem set_take {α : Type} (vs us : List α) (k : Nat) (v : α) (h : vs.length = k) (hk : k < us.length) : (vs ++ us.drop k).set k v = (vs ++ [v]) ++ us.drop (k + 1) := by
  subst h
  rw [List.set_append_right _ _ (Nat.le_refl _), Nat.sub_self, List.drop_eq_getElem_cons hk, List.set_cons_zero, List.append_assoc]
  rfl
/-- What numbers or texts leave. -/
def GotPost {α : Type} (val : α → Value) (rd : Nat → Option (α × Nat)) (small : α → Prop) (s : ByteArray) (p : Nat) (f : Bool) (R : Nat) (qs : List (Nat × Nat)) (w : World) (e : Ending) (w' : World) : Prop := ∃ (p' : Nat) (f' : Bool) (vs : List α), e = .returned (.tuple #[]) ∧ p' ≤ s.size ∧ RS w' R s p' f' ∧ TgtAt val w' qs vs ∧ chn rd p f vs p' f' ∧ (∀ v ∈ vs, small v) ∧ Tch R qs w w'
end Plain

namespace Plain
theorem numG_open (s : ByteArray) (p : Nat) (hp : p ≤ s.size) : ∃ (v : Int) (g : Bool) (p' : Nat), numV (tkN s p) = .tuple #[.int .i64 v, .bool g] ∧ numAt p (tkN s p) = p' ∧ p' ≤ s.size ∧ (0 ≤ v ∧ v ≤ 1000000000000) ∧ ∀ f, MoR (stp s p) p' f (f || !g) v := by
  cases h : tkN s p with
  | none => exact ⟨0, false, p, rfl, rfl, hp, by omega, fun f => .inl ⟨by simp, .inr (by unfold stp; rw [h]; rfl)⟩⟩
  | some y =>
    obtain ⟨v, l⟩ := y
    have := tkN_le h
    refine ⟨v, true, p + l, rfl, rfl, by omega, by omega, fun f => ?_⟩
    cases f with
    | true => exact .inl ⟨rfl, .inl rfl⟩
    | false => exact .inr ⟨rfl, rfl, by unfold stp; rw [h]; rfl⟩
theorem fldG_open (s : ByteArray) (p : Nat) (hp : p ≤ s.size) : ∃ (v : ByteArray) (g : Bool) (p' : Nat), fldV s p (tkT s p) = .tuple #[.string v, .bool g] ∧ fldAt p (tkT s p) = p' ∧ p' ≤ s.size ∧ v.size ≤ 20000 ∧ ∀ f, MoR (txp s p) p' f (f || !g) v := by
  cases h : tkT s p with
  | none => exact ⟨⟨#[]⟩, false, p, rfl, rfl, hp, by decide, fun f => .inl ⟨by simp, .inr (by unfold txp; rw [h]; rfl)⟩⟩
  | some y =>
    obtain ⟨l, v⟩ := y
    have := tkT_le h
    refine ⟨_, true, p + l + v, rfl, rfl, by omega, by rw [ByteArray.size_extract]; omega, fun f => ?_⟩
    cases f with
    | true => exact .inl ⟨rfl, .inl rfl⟩
    | false => exact .inr ⟨rfl, rfl, by unfold txp; rw [h]; rfl⟩
end Plain

set_option maxRecDepth 10000 in
set_option maxHeartbeats 8000000 in
theorem numbersG_calls (R S n : Nat) (s : ByteArray) (p : Nat) (f : Bool) (qs : List (Nat × Nat)) (us : List Int) (w : World) (h : RS w R s p f) (hp : p ≤ s.size) (hs : s.size ≤ 1000000000000) (hq : PtrsAt w S qs) (ht : TgtAt (fun v : Int => Value.int .i64 v) w qs us) (hn : qs.length = n) (hn2 : n ≤ 100) (hd : qs.Nodup) (hSR : S ≠ R) (hSl : S < w.heap.size) (hqR : ∀ q ∈ qs, q.1 ≠ R) (hqS : ∀ q ∈ qs, q.1 ≠ S) :
    Calls Tryz.prog 22 #[.pointer (some ⟨R, 0, none⟩), .slice (some ⟨S, 0, none⟩) n n] w (GotPost (fun v : Int => Value.int .i64 v) (stp s) (fun v => 0 ≤ v ∧ v ≤ 1000000000000) s p f R qs w) := by
  have HH := hide h
  have HQ := hide hq
  have HT := hide (show TgtAt (fun v : Int => Value.int .i64 v) w qs ([] ++ us.drop 0) from ht)
  have HD := hide hd
  have HQR := hide hqR
  have HQS := hide hqS
  have HUL := hide (ht.1.trans hn)
  clear h hq ht hd hqR hqS
  go_enter Tryz.func22, Tryz.ntmps22
  go_wp2_with fail
  go_loopw [10] (fun i wr => ∃ (k p' : Nat) (f' : Bool) (vs : List Int), i = .int .i64 k ∧ k ≤ n ∧ p' ≤ s.size ∧ Hid (vs.length = k) ∧ Hid (RS wr R s p' f') ∧ Hid (chn (stp s) p f vs p' f') ∧ Hid (∀ v ∈ vs, 0 ≤ v ∧ v ≤ 1000000000000) ∧ Hid (TgtAt (fun v : Int => Value.int .i64 v) wr qs (vs ++ us.drop k)) ∧ Hid (Tch R qs w wr)) (fun i _ => n - (intOf i).toNat)
  case atStart => exact ⟨0, p, f, [], rfl, by omega, hp, hide rfl, HH, hide ⟨rfl, rfl⟩, hide (fun v hv => by cases hv), HT, hide (Tch.refl _ _ _)⟩
  case round =>
    clear HT HH
    obtain ⟨k, p', f', vs, rfl, hk, hp', HL, HR, HC, HV, HT, HB⟩ := hrel
    by_cases hkn : k < n
    · have hkq : k < qs.length := by rw [hn]; exact hkn
      have HQ1 := hide ((unhide HQ).touch (unhide HB) hSl hSR (unhide HQS))
      have u0 := unhide HQ1 k hkq
      have hku : k < (vs ++ us.drop k).length := by rw [List.length_append, List.length_drop, unhide HL, unhide HUL]; omega
      have HN := hide (number_ok R 0 s p' wr (unhide HR).t0 (unhide HR).t1 (unhide HR).z1 hs hp')
      obtain ⟨v, g, p2, e1, e2, hp2, hvb, hmo⟩ := numG_open s p' hp'
      rw [e1, e2] at HN
      have HM := hide (hmo f')
      have hmem := List.getElem_mem hkq
      have HQK := hide (show (qs[k].1, qs[k].2) = qs[k] from rfl)
      obtain ⟨qb, hqb⟩ : ∃ x, qs[k].1 = x := ⟨_, rfl⟩
      obtain ⟨qo, hqo⟩ : ∃ x, qs[k].2 = x := ⟨_, rfl⟩
      have hadq : ad qs[k] = ⟨qb, qo, none⟩ := by unfold ad; rw [hqb, hqo]
      have HAD := hide hadq
      rw [hadq] at u0
      have hqbR : qb ≠ R := by rw [← hqb]; exact unhide HQR _ hmem
      have HMEM := hide hmem
      have i0 : (0 : Int) ≤ (k : Int) := by omega
      have i1 : (k : Int) < (n : Int) := by omega
      clear e1 e2 hmo hadq hqb hqo hmem
      go_wp2_with fail
      refine (unhide HN).mono ?_
      rintro e w1 ⟨rfl, ho, hc⟩
      have hR1 := (unhide HR).move ho hc
      have HR1 := hide hR1
      have hT1 := (unhide HT).only ho (unhide HQR)
      have HT1 := hide hT1
      have HB1 := hide ((unhide HB).trans (Tch.only ho))
      have b2 := hR1.t2
      have b3 := hR1.z2
      obtain ⟨b4, b5⟩ := hT1.2 k hkq hku
      rw [unhide HAD] at b4 b5
      generalize (vs ++ us.drop k)[k] = old at b4
      have hne : (⟨qb, qo, none⟩ : Addr) ≠ ⟨R, 2, none⟩ := fun e => hqbR (congrArg Addr.block e)
      clear hR1 hT1 ho hc u0 hku
      cases f' <;> (
        go_wp2_with fail
        go_roundw
        case rel =>
          refine ⟨k + 1, p2, _, vs ++ [v], by go_num, by omega, hp2, hide (by rw [List.length_append, unhide HL]; rfl), hide (((unhide HR1).off hqbR _).flag _), hide ((unhide HC).snoc (unhide HM)), hide (fun x hx => by rcases List.mem_append.1 hx with hx | hx; exact unhide HV x hx; (obtain rfl := List.mem_singleton.1 hx; exact hvb)), hide ?_, hide ?_⟩
          · have := (unhide HT1).put (unhide HD) k hkq v
            rw [set_take vs us k v (unhide HL) (by rw [unhide HUL]; exact hkn), unhide HAD] at this
            exact this.flag (unhide HQR) _
          · refine (unhide HB1).trans ?_
            have t1 : Tch R qs w1 (w1.setCell ⟨qb, qo, none⟩ (.int .i64 v)) := by rw [← unhide HAD]; exact Tch.set (unhide HMEM) _
            exact t1.trans (Tch.only (OnlyAt.setCell ⟨R, 2, none⟩ _ _))
        case measure => simp [intOf]; omega)
    · obtain rfl : k = n := by omega
      go_wp2_with fail
      refine bodyPost_ret (v := .tuple #[]) (by simp [results, Tryz.results22, go_sem]) rfl ⟨p', f', vs, rfl, hp', unhide HR, ?_, unhide HC, unhide HV, unhide HB⟩
      have := unhide HT
      rw [List.drop_of_length_le (by rw [unhide HUL]; exact Nat.le_refl _), List.append_nil] at this
      exact this

set_option maxRecDepth 10000 in
set_option maxHeartbeats 8000000 in
theorem textsG_calls (R S n : Nat) (s : ByteArray) (p : Nat) (f : Bool) (qs : List (Nat × Nat)) (us : List ByteArray) (w : World) (h : RS w R s p f) (hp : p ≤ s.size) (hs : s.size ≤ 1000000000000) (hq : PtrsAt w S qs) (ht : TgtAt (fun v : ByteArray => Value.string v) w qs us) (hn : qs.length = n) (hn2 : n ≤ 100) (hd : qs.Nodup) (hSR : S ≠ R) (hSl : S < w.heap.size) (hqR : ∀ q ∈ qs, q.1 ≠ R) (hqS : ∀ q ∈ qs, q.1 ≠ S) :
    Calls Tryz.prog 23 #[.pointer (some ⟨R, 0, none⟩), .slice (some ⟨S, 0, none⟩) n n] w (GotPost (fun v : ByteArray => Value.string v) (txp s) (fun v => v.size ≤ 20000) s p f R qs w) := by
  have HH := hide h
  have HQ := hide hq
  have HT := hide (show TgtAt (fun v : ByteArray => Value.string v) w qs ([] ++ us.drop 0) from ht)
  have HD := hide hd
  have HQR := hide hqR
  have HQS := hide hqS
  have HUL := hide (ht.1.trans hn)
  clear h hq ht hd hqR hqS
  go_enter Tryz.func23, Tryz.ntmps23
  go_wp2_with fail
  go_loopw [10] (fun i wr => ∃ (k p' : Nat) (f' : Bool) (vs : List ByteArray), i = .int .i64 k ∧ k ≤ n ∧ p' ≤ s.size ∧ Hid (vs.length = k) ∧ Hid (RS wr R s p' f') ∧ Hid (chn (txp s) p f vs p' f') ∧ Hid (∀ v ∈ vs, v.size ≤ 20000) ∧ Hid (TgtAt (fun v : ByteArray => Value.string v) wr qs (vs ++ us.drop k)) ∧ Hid (Tch R qs w wr)) (fun i _ => n - (intOf i).toNat)
  case atStart => exact ⟨0, p, f, [], rfl, by omega, hp, hide rfl, HH, hide ⟨rfl, rfl⟩, hide (fun v hv => by cases hv), HT, hide (Tch.refl _ _ _)⟩
  case round =>
    clear HT HH
    obtain ⟨k, p', f', vs, rfl, hk, hp', HL, HR, HC, HV, HT, HB⟩ := hrel
    by_cases hkn : k < n
    · have hkq : k < qs.length := by rw [hn]; exact hkn
      have HQ1 := hide ((unhide HQ).touch (unhide HB) hSl hSR (unhide HQS))
      have u0 := unhide HQ1 k hkq
      have hku : k < (vs ++ us.drop k).length := by rw [List.length_append, List.length_drop, unhide HL, unhide HUL]; omega
      have HN := hide (field_ok R 0 s p' wr (unhide HR).t0 (unhide HR).t1 (unhide HR).z1 hs hp')
      obtain ⟨v, g, p2, e1, e2, hp2, hvb, hmo⟩ := fldG_open s p' hp'
      rw [e1, e2] at HN
      have HM := hide (hmo f')
      have HVB := hide hvb
      have hmem := List.getElem_mem hkq
      obtain ⟨qb, hqb⟩ : ∃ x, qs[k].1 = x := ⟨_, rfl⟩
      obtain ⟨qo, hqo⟩ : ∃ x, qs[k].2 = x := ⟨_, rfl⟩
      have hadq : ad qs[k] = ⟨qb, qo, none⟩ := by unfold ad; rw [hqb, hqo]
      have HAD := hide hadq
      rw [hadq] at u0
      have hqbR : qb ≠ R := by rw [← hqb]; exact unhide HQR _ hmem
      have HMEM := hide hmem
      have i0 : (0 : Int) ≤ (k : Int) := by omega
      have i1 : (k : Int) < (n : Int) := by omega
      clear e1 e2 hmo hadq hqb hqo hmem hvb
      go_wp2_with fail
      refine (unhide HN).mono ?_
      rintro e w1 ⟨rfl, ho, hc⟩
      have hR1 := (unhide HR).move ho hc
      have HR1 := hide hR1
      have hT1 := (unhide HT).only ho (unhide HQR)
      have HT1 := hide hT1
      have HB1 := hide ((unhide HB).trans (Tch.only ho))
      have b2 := hR1.t2
      have b3 := hR1.z2
      obtain ⟨b4, b5⟩ := hT1.2 k hkq hku
      rw [unhide HAD] at b4 b5
      generalize (vs ++ us.drop k)[k] = old at b4
      have hne : (⟨qb, qo, none⟩ : Addr) ≠ ⟨R, 2, none⟩ := fun e => hqbR (congrArg Addr.block e)
      clear hR1 hT1 ho hc u0 hku
      cases f' <;> (
        go_wp2_with fail
        go_roundw
        case rel =>
          refine ⟨k + 1, p2, _, vs ++ [v], by go_num, by omega, hp2, hide (by rw [List.length_append, unhide HL]; rfl), hide (((unhide HR1).off hqbR _).flag _), hide ((unhide HC).snoc (unhide HM)), hide (fun x hx => by rcases List.mem_append.1 hx with hx | hx; exact unhide HV x hx; (obtain rfl := List.mem_singleton.1 hx; exact unhide HVB)), hide ?_, hide ?_⟩
          · have := (unhide HT1).put (unhide HD) k hkq v
            rw [set_take vs us k v (unhide HL) (by rw [unhide HUL]; exact hkn), unhide HAD] at this
            exact this.flag (unhide HQR) _
          · refine (unhide HB1).trans ?_
            have t1 : Tch R qs w1 (w1.setCell ⟨qb, qo, none⟩ (.string v)) := by rw [← unhide HAD]; exact Tch.set (unhide HMEM) _
            exact t1.trans (Tch.only (OnlyAt.setCell ⟨R, 2, none⟩ _ _))
        case measure => simp [intOf]; omega)
    · obtain rfl : k = n := by omega
      go_wp2_with fail
      refine bodyPost_ret (v := .tuple #[]) (by simp [results, Tryz.results23, go_sem]) rfl ⟨p', f', vs, rfl, hp', unhide HR, ?_, unhide HC, unhide HV, unhide HB⟩
      have := unhide HT
      rw [List.drop_of_length_le (by rw [unhide HUL]; exact Nat.le_refl _), List.append_nil] at this
      exact this
end Go.Proofs.YtjiclgcohpkkjaaGreatDoor
