/- Texts of one kind, put together. -/
import Derived.Test.YtjiclgcohpkkjaaGreatDoorGzAO
import Derived.Test.YtjiclgcohpkkjaaGreatDoorGzAP
import Derived.Test.YtjiclgcohpkkjaaGreatDoorGzAL

/- An entry of a message, as the program reads it. -/
namespace Go.Proofs.YtjiclgcohpkkjaaGreatDoor
open Go.RowKit Plain
set_option linter.unusedVariables false

theorem Plain.run_small (s : ByteArray) : ∀ (f p done : Nat), ∀ x ∈ (run s f p done).1, x.2.size ≤ s.size
  | 0, p, done, x, hx => by rw [run] at hx; simp at hx
  | f + 1, p, done, x, hx => by
    by_cases h1 : s.size ≤ p
    · rw [run_end s f p done h1] at hx; simp at hx
    · by_cases h2 : done = 2000
      · subst h2; rw [run_many s f p h1] at hx; simp at hx
      · by_cases h3 : frC (s.extract p s.size) = 0
        · rw [run_next s f p done h1 h2 h3] at hx
          rcases List.mem_cons.1 hx with rfl | hx
          · unfold frm frB
            simp only [ByteArray.size_extract]
            omega
          · exact Plain.run_small s f _ _ x hx
        · rw [run_code s f p done h1 h2 h3] at hx; simp at hx
theorem ownF_formN {W : World} {B : Nat} {v : Value} {fs : List (Int × ByteArray)} (h : OwnF W B v fs) : ∃ a cap, v = .slice a fs.length cap := by
  rcases h.2 with ⟨a, c⟩ | ⟨g, cap, cur, rfl, c, d, r⟩
  · exact ⟨none, 0, by rw [a, c]⟩
  · exact ⟨_, cap, rfl⟩

namespace Plain
/-- One entry of a message's text. -/
def oneE (s : ByteArray) (p : Nat) : Option (Ent × Nat) := match txp s p with
  | none => none
  | some (t, q) => match (readF t).1 with
    | [f] => some (rawE f.2, q)
    | _ => none
theorem rawEs_one (s : ByteArray) (n p : Nat) : rawEs s (n + 1) p = match oneE s p with
    | none => none
    | some (e, q) => (rawEs s n q).map fun x => (e :: x.1, x.2) := by
  unfold oneE
  rw [rawEs]
  cases txp s p with
  | none => rfl
  | some x =>
    obtain ⟨t, q⟩ := x
    simp only []
    rcases h : (readF t).1 with _ | ⟨f, _ | ⟨g, l⟩⟩
    · rfl
    · rfl
    · rfl
/-- The block of an entry. -/
structure EB (W : World) (E : Nat) (e : Ent) : Prop where
  c0 : W.cell? ⟨E, 0, none⟩ = some (.int .i64 e.term)
  c1 : W.cell? ⟨E, 1, none⟩ = some (.int .i64 e.kind)
  c2 : W.cell? ⟨E, 2, none⟩ = some (.string e.body)
  z0 : W.frozen? ⟨E, 0, none⟩ = false
  z1 : W.frozen? ⟨E, 1, none⟩ = false
  z2 : W.frozen? ⟨E, 2, none⟩ = false
theorem EB.keep {W W' : World} {E B : Nat} {e : Ent} (h : EB W E e) (hb : Below B W W') (hE : E < B) : EB W' E e :=
  ⟨bclG hb hE h.c0, bclG hb hE h.c1, bclG hb hE h.c2, (hb.frozen (p := ⟨E, 0, none⟩) hE).trans h.z0, (hb.frozen (p := ⟨E, 1, none⟩) hE).trans h.z1, (hb.frozen (p := ⟨E, 2, none⟩) hE).trans h.z2⟩
theorem EB.tch {W W' : World} {R E : Nat} {qs : List (Nat × Nat)} {e : Ent} (h : EB W E e) (ht : Tch R qs W W') (hR : E ≠ R) (hq : ∀ q ∈ qs, q.1 ≠ E) : EB W' E e := by
  have hl := lt_of_cell h.c0
  have n : ∀ i, (E, i) ∉ qs := fun i hi => hq _ hi rfl
  exact ⟨(ht.cell E 0 hl hR (n 0)).trans h.c0, (ht.cell E 1 hl hR (n 1)).trans h.c1, (ht.cell E 2 hl hR (n 2)).trans h.c2, (ht.frozen ⟨E, 0, none⟩ hl).trans h.z0, (ht.frozen ⟨E, 1, none⟩ hl).trans h.z1, (ht.frozen ⟨E, 2, none⟩ hl).trans h.z2⟩
theorem EB.flag {W : World} {R E : Nat} {e : Ent} {v : Value} (h : EB W E e) (hR : E ≠ R) : EB (W.setCell ⟨R, 2, none⟩ v) E e :=
  have n : ∀ i, (⟨R, 2, none⟩ : Addr) ≠ ⟨E, i, none⟩ := fun i q => hR (congrArg Addr.block q).symm
  ⟨(World.cell?_setCell_other _ _ _ _ (n 0)).trans h.c0, (World.cell?_setCell_other _ _ _ _ (n 1)).trans h.c1, (World.cell?_setCell_other _ _ _ _ (n 2)).trans h.c2, (World.frozen?_setCell _ _ _ _).trans h.z0, (World.frozen?_setCell _ _ _ _).trans h.z1, (World.frozen?_setCell _ _ _ _).trans h.z2⟩
theorem EB.put {W : World} {E : Nat} {e : Ent} (h : EB W E e) (e' : Ent) : EB (((W.setCell ⟨E, 0, none⟩ (.int .i64 e'.term)).setCell ⟨E, 1, none⟩ (.int .i64 e'.kind)).setCell ⟨E, 2, none⟩ (.string e'.body)) E e' :=
  ⟨(World.cell?_setCell_other _ _ _ _ (by simp)).trans ((World.cell?_setCell_other _ _ _ _ (by simp)).trans (World.cell?_setCell_same _ _ _ h.c0)),
   (World.cell?_setCell_other _ _ _ _ (by simp)).trans (World.cell?_setCell_same _ _ _ ((World.cell?_setCell_other _ _ _ _ (by simp)).trans h.c1)),
   World.cell?_setCell_same _ _ _ ((World.cell?_setCell_other _ _ _ _ (by simp)).trans ((World.cell?_setCell_other _ _ _ _ (by simp)).trans h.c2)),
   by simpa using h.z0, by simpa using h.z1, by simpa using h.z2⟩
/-- What reading an entry leaves. -/
def EntPost (s : ByteArray) (p : Nat) (f : Bool) (R E : Nat) (w : World) (e : Ending) (w' : World) : Prop := ∃ (p' : Nat) (f' : Bool) (x : Ent), e = .returned (.tuple #[]) ∧ p' ≤ s.size ∧ (f' = false → p < p') ∧ RS w' R s p' f' ∧ EB w' E x ∧ MoR (oneE s p) p' f f' x ∧ x.body.size ≤ 20000 ∧ Tch R [(E, 0), (E, 1), (E, 2)] w w'
end Plain

set_option maxRecDepth 10000 in
set_option maxHeartbeats 4000000 in
theorem entry_calls (R E : Nat) (s : ByteArray) (p : Nat) (f : Bool) (x0 : Ent) (w : World) (h : RS w R s p f) (hp : p ≤ s.size) (hs : s.size ≤ 1048576) (hE : EB w E x0) (hER : E ≠ R) (hx0 : x0.body.size ≤ 20000) :
    Calls Tryz.prog 26 #[.pointer (some ⟨R, 0, none⟩), .pointer (some ⟨E, 0, none⟩)] w (EntPost s p f R E w) := by
  have hRl : R < w.heap.size := lt_of_cell h.t0
  have hEl : E < w.heap.size := lt_of_cell hE.c0
  obtain ⟨W1, hW1⟩ : ∃ W1, W1 = (w.alloc (.cells #[.string ⟨#[]⟩] 9)).alloc (.cells #[.pointer (some ⟨w.heap.size, 0, none⟩)] 61) := ⟨_, rfl⟩
  have hb1 : Below w.heap.size w W1 := by rw [hW1]; exact belOn (bel1 _ _) (bel1 _ _)
  have hz1 : W1.heap.size = w.heap.size + 2 := by rw [hW1]; simp
  have t0 : W1.cell? ⟨w.heap.size, 0, none⟩ = some (.string ⟨#[]⟩) := by rw [hW1]; simp [go_sem]
  have y0 : W1.frozen? ⟨w.heap.size, 0, none⟩ = false := by rw [hW1]; simp [go_sem]
  have q0 : W1.cell? ⟨w.heap.size + 1, 0, none⟩ = some (.pointer (some ⟨w.heap.size, 0, none⟩)) := by rw [hW1]; simp [go_sem]
  have HTX := hide (textsG_calls R (w.heap.size + 1) 1 s p f [(w.heap.size, 0)] [⟨#[]⟩] W1 (h.keep hb1) hp (by omega) (fun j hj => by
      obtain rfl : j = 0 := by simp at hj; omega
      exact q0) ⟨rfl, fun j hj h2 => by
      obtain rfl : j = 0 := by simp at hj; omega
      exact ⟨t0, y0⟩⟩ rfl (by omega) (by simp) (by omega) (by omega) (fun q hq => by simp at hq; subst hq; simp; omega) (fun q hq => by simp at hq; subst hq; simp))
  have HE1 := hide (hE.keep hb1 hEl)
  have HB1 := hide hb1
  have HW1 := hide hW1.symm
  clear h hE hb1 hW1 t0 y0 q0
  go_enter Tryz.func26, Tryz.ntmps26
  go_wp2_with fail
  rw [unhide HW1]
  refine (unhide HTX).mono ?_
  unfold GotPost
  rintro e w2 ⟨p', f1, vs, rfl, hp', hR2, hT2, hch, hsm, ht2⟩
  obtain ⟨t, rfl⟩ : ∃ t, vs = [t] := by
    have hl := hT2.1
    match vs, hl with
    | [t], _ => exact ⟨t, rfl⟩
  obtain ⟨x0c, x0z⟩ := hT2.2 0 (by simp) (by simp)
  have x0c : w2.cell? ⟨w.heap.size, 0, none⟩ = some (.string t) := x0c
  have ht20 : t.size ≤ 20000 := hsm t (by simp)
  obtain ⟨_, _, hmo, rfl, rfl⟩ := hch
  have HMO := hide hmo
  have HT := hide (show Tch R [(w.heap.size, 0)] W1 w2 from ht2)
  have HE2 := hide ((unhide HE1).tch ht2 hER (fun q hq => by simp at hq; subst hq; simp; omega))
  have hs2 := ht2.size
  have HR2 := hide hR2
  have HRF := hide (implRead_calls t w2 (by omega))
  clear hT2 hsm hmo ht2 hR2 HTX HE1
  go_wp2_with fail
  refine (unhide HRF).mono ?_
  rintro e w3 ⟨v3, rfl, hO3, hb3⟩
  obtain ⟨a3, c3, rfl⟩ := ownF_formN hO3
  have hs3 := hb3.size
  have HR3 := hide ((unhide HR2).keep hb3)
  have HE3 := hide ((unhide HE2).keep hb3 (by omega))
  have HPR := hide (show f1 = false → p < p' from fun hf => by
    subst hf
    rcases unhide HMO with ⟨hx, _⟩ | ⟨_, _, hx⟩
    · cases hx
    · unfold txp at hx
      cases ht : tkT s p with
      | none => rw [ht] at hx; simp at hx
      | some y =>
        obtain ⟨l, n⟩ := y
        rw [ht] at hx
        simp at hx
        have : 0 < l := by
          unfold tkT at ht
          cases hn : tkN s p with
          | none => rw [hn] at ht; simp at ht
          | some z =>
            obtain ⟨v', l'⟩ := z
            rw [hn] at ht
            have := tkN_le hn
            simp at ht
            omega
        omega)
  have HTC := hide (fun (X : World) (hX : Below w3.heap.size w3 X) => show Tch R [(E, 0), (E, 1), (E, 2)] w X from
    ⟨(hX.os.trans hb3.os).trans ((unhide HT).os.trans (unhide HB1).os), (hX.tape.trans hb3.tape).trans ((unhide HT).tape.trans (unhide HB1).tape), (hX.output.trans hb3.output).trans ((unhide HT).output.trans (unhide HB1).output), by have h1 := hX.size; omega,
     fun k hk hkR _ => (hX.block k (by omega)).trans ((hb3.block k (by omega)).trans (((unhide HT).block k (by omega) hkR (fun q hq => by simp at hq; subst hq; simp; omega)).trans ((unhide HB1).block k hk))),
     fun b o hb hbR _ => (hX.cell (p := ⟨b, o, none⟩) (show b < w3.heap.size by omega)).trans ((hb3.cell (p := ⟨b, o, none⟩) (show b < w2.heap.size by omega)).trans (((unhide HT).cell b o (by omega) hbR (fun hq => by simp at hq; omega)).trans ((unhide HB1).cell (p := ⟨b, o, none⟩) hb))),
     fun q hq => (hX.frozen (p := q) (by omega)).trans ((hb3.frozen (p := q) (by omega)).trans (((unhide HT).frozen q (by omega)).trans ((unhide HB1).frozen (p := q) hq)))⟩)
  have HFA := hide (hO3.at rfl)
  have HSM := hide (Plain.run_small t 2001 0 0)
  have HON := hide (show oneE s p = match txp s p with
    | none => none
    | some (t, q) => match (readF t).1 with
      | [f] => some (rawE f.2, q)
      | _ => none from rfl)
  change Hid (∀ x ∈ (readF t).1, x.2.size ≤ t.size) at HSM
  have r2 := (unhide HR3).t2
  have rz := (unhide HR3).z2
  obtain ⟨g0, g1, g2, z0, z1, z2⟩ := unhide HE3
  by_cases h1 : (readF t).1.length = 1
  · obtain ⟨fr, hfr⟩ : ∃ fr, (readF t).1 = [fr] := by
      match (readF t).1, h1 with
      | [x], _ => exact ⟨x, rfl⟩
    have HFR := hide hfr
    rw [hfr] at HFA HSM ⊢
    obtain ⟨g, rfl, hgl, k0, k1, -, -⟩ := unhide HFA 0 (by simp)
    simp only [List.length_cons, List.length_nil, Nat.zero_add, Nat.zero_mul, List.getElem_cons_zero] at k0 k1 ⊢
    have hfs : fr.2.size ≤ 20000 := by have := unhide HSM fr (by simp); omega
    obtain ⟨fk, fb⟩ := fr
    simp only [] at k0 k1 hfs
    have HRE := hide (readEntry_calls fk fb w3 (by omega))
    generalize (readF t).2.1 = rn
    generalize (readF t).2.2 = rc
    clear hO3 hb3 hfr h1 HFA
    go_wp2_with fail
    refine (unhide HRE).mono ?_
    rintro e w4 ⟨gg, rfl, hb4⟩
    obtain ⟨g0, g1, g2, z0, z1, z2⟩ := (unhide HE3).keep hb4 (by omega)
    have HE4 := hide ((unhide HE3).keep hb4 (by omega))
    have HR4 := hide ((unhide HR3).keep hb4)
    have HT4 := hide (unhide HTC w4 hb4)
    have hx := rawE_small fb (by omega)
    have HMX := hide (show MoR (oneE s p) p' f f1 (rawE fb) from by
      rcases unhide HMO with ⟨h1, h2⟩ | ⟨h1, h2, h3⟩
      · exact .inl ⟨h1, h2.imp id (fun h => by rw [unhide HON, h])⟩
      · exact .inr ⟨h1, h2, by rw [unhide HON, h3]; simp only [unhide HFR]⟩)
    have HRW := hide (show rawE fb = ⟨(rawE fb).term, (rawE fb).kind, (rawE fb).body⟩ from rfl)
    generalize rawE fb = re at HMX hx HRW
    obtain ⟨e1, e2, e3⟩ := re
    simp only [] at hx
    clear hb4 r2 rz
    go_wp2_with fail
    refine bodyPost_ret (v := .tuple #[]) (by simp [results, Tryz.results26, go_sem]) rfl ⟨p', f1, ⟨e1, e2, e3⟩, rfl, hp', unhide HPR, ?_, ?_, unhide HMX, hx, ?_⟩
    · exact (((unhide HR4).off hER _).off hER _).off hER _
    · exact EB.put (unhide HE4) ⟨e1, e2, e3⟩
    · exact (((unhide HT4).trans (Tch.set (q := (E, 0)) (by simp) _)).trans (Tch.set (q := (E, 1)) (by simp) _)).trans (Tch.set (q := (E, 2)) (by simp) _)
  · obtain ⟨l, hl⟩ : ∃ l, (readF t).1.length = l := ⟨_, rfl⟩
    have HH1 := hide h1
    have HT3 := hide (unhide HTC w3 (Below.refl _ _))
    have HMX := hide (show MoR (oneE s p) p' f true x0 from by
      rcases unhide HMO with ⟨h1, h2⟩ | ⟨h1, h2, h3⟩
      · exact .inl ⟨rfl, h2.imp id (fun h => by rw [unhide HON, h])⟩
      · refine .inl ⟨rfl, .inr ?_⟩
        rw [unhide HON, h3]
        simp only []
        split
        · rename_i fr hfr
          exact absurd (by rw [hfr]; rfl) (unhide HH1)
        · rfl)
    rw [hl] at h1 ⊢
    have hne : ((l : Int) == 1) = false := by rw [beq_eq_false_iff_ne]; omega
    generalize (readF t).2.1 = rn
    generalize (readF t).2.2 = rc
    clear hO3 hb3 HFA hl h1
    go_wp2_with fail
    refine bodyPost_ret (v := .tuple #[]) (by simp [results, Tryz.results26, go_sem]) rfl ⟨p', true, x0, rfl, hp', (fun h => by cases h), ?_, ?_, unhide HMX, hx0, ?_⟩
    · exact (unhide HR3).flag _
    · exact (unhide HE3).flag hER
    · exact (unhide HT3).trans (Tch.only (OnlyAt.setCell ⟨R, 2, none⟩ _ _))
end Go.Proofs.YtjiclgcohpkkjaaGreatDoor


/- The texts of messages, by the program: their numbers, their rows. -/
namespace Go.Proofs.YtjiclgcohpkkjaaGreatDoor
open Go.RowKit Plain
set_option linter.unusedVariables false

namespace Plain
def intV (ns : List Int) : List Value := ns.map fun z => .int .i64 z
/-- The block g holds the numbers ns. -/
def NumsAt (W : World) (g : Nat) (ns : List Int) : Prop := W.heap[g]? = some (.cells (intV ns).toArray 2 (0, 0))
theorem NumsAt.lt {W : World} {g : Nat} {ns : List Int} (h : NumsAt W g ns) : g < W.heap.size := by
  unfold NumsAt at h
  rcases Nat.lt_or_ge g W.heap.size with h' | h'
  · exact h'
  · simp [Array.getElem?_eq_none h'] at h
theorem NumsAt.keep {W W' : World} {g : Nat} {ns : List Int} (h : NumsAt W g ns) (hb : Below W.heap.size W W') : NumsAt W' g ns := (hb.block g h.lt).trans h
theorem NumsAt.cell {W : World} {g : Nat} {ns : List Int} (h : NumsAt W g ns) (k : Nat) (hk : k < ns.length) : W.cell? ⟨g, k, none⟩ = some (.int .i64 ns[k]) := by
  rw [Lib.cell_of_heap h]
  simp [intV, hk]
end Plain

/-- What numbersOf leaves. -/
def NumsPost (ns : List Int) (w : World) (e : Ending) (w' : World) : Prop := ∃ g, e = .returned (.slice (some ⟨g, 0, none⟩) 8 8) ∧ w.heap.size ≤ g ∧ NumsAt w' g ns ∧ Below w.heap.size w w'

set_option maxRecDepth 10000 in
set_option maxHeartbeats 2000000 in
theorem numbersOf_calls (kd fr tt tm ix lg cm : Int) (ok : Bool) (tx : ByteArray) (ae : Option Addr) (ne ce : Nat) (av : Option Addr) (nv cv : Nat) (al : Option Addr) (nl cl : Nat) (w : World) :
    Calls Tryz.prog 37 #[.agg #[.int .i64 kd, .int .i64 fr, .int .i64 tt, .int .i64 tm, .int .i64 ix, .int .i64 lg, .slice ae ne ce, .int .i64 cm, .bool ok, .string tx, .slice av nv cv, .slice al nl cl]] w (NumsPost (numsM kd fr tt tm ix lg cm ok) w) := by
  have HF := hide (fun (o : Obj) (C : Array Value) (hC : C = (intV (numsM kd fr tt tm ix lg cm ok)).toArray) => (show NumsPost (numsM kd fr tt tm ix lg cm ok) w (.returned (.slice (some ⟨w.heap.size + 1, 0, none⟩) 8 8)) ((w.alloc o).alloc (.cells C 2)) from ⟨w.heap.size + 1, rfl, by omega, by
    unfold NumsAt
    rw [hC]
    have := (MapKept.heap_alloc (w.alloc o) (.cells (intV (numsM kd fr tt tm ix lg cm ok)).toArray 2)).1
    simpa using this, belOn (bel1 _ _) (bel1 _ _)⟩))
  cases ok with
  | false =>
    go_enter Tryz.func37, Tryz.ntmps37
    go_wp2_with fail
    go_ret
    exact unhide HF _ _ rfl
  | true =>
    go_enter Tryz.func37, Tryz.ntmps37
    go_wp2_with fail
    go_ret
    exact unhide HF _ _ rfl

set_option maxHeartbeats 1000000 in
theorem numberOkM_calls (n : Int) (w : World) : Calls Tryz.prog 77 #[.int .i64 n] w fun e w' => e = .returned (.bool (numB n)) ∧ w = w' := by
  obtain ⟨R, hR⟩ : ∃ R, numB n = R := ⟨_, rfl⟩
  rw [hR]
  unfold numB at hR
  have HR := hide hR
  clear hR
  go_enter Tryz.func77, Tryz.ntmps77
  go_wp2_with fail
  all_goals go_ret
  all_goals refine ⟨?_, rfl⟩
  all_goals (show Ending.returned (.bool _) = Ending.returned (.bool _); rw [← unhide HR]; congr 2; rw [Bool.eq_iff_iff]; simp; try omega)

set_option maxRecDepth 10000 in
set_option maxHeartbeats 1000000 in
theorem msgOk1_calls (t k : Int) (b : ByteArray) (w : World) (hb : b.size ≤ 1000000000000) :
    Calls Tryz.prog 79 #[.agg #[.int .i64 t, .int .i64 k, .string b]] w fun e w' => e = .returned (.bool (!entB t k b)) ∧ Below w.heap.size w w' := by
  have HB := hide (bel1 w (.cells #[.int .i64 t, .int .i64 k, .string b] 51))
  have HR := hide (entryOk_calls t k b (w.alloc (.cells #[.int .i64 t, .int .i64 k, .string b] 51)) hb)
  go_enter Tryz.func79, Tryz.ntmps79
  go_wp2_with fail
  refine (unhide HR).mono ?_
  rintro e w1 ⟨rfl, hb1⟩
  have HB1 := hide (belOn (unhide HB) hb1)
  go_wp2_with fail
  go_ret
  exact ⟨rfl, unhide HB1⟩

namespace Plain
def smallE (es : List Ent) : Prop := ∀ e ∈ es, e.body.size ≤ 1000000000000
theorem entsB_step (es : List Ent) (k : Nat) (h : k < es.length) : entsB (es.drop k) = (entB es[k].term es[k].kind es[k].body && entsB (es.drop (k + 1))) := by rw [entsB, List.drop_eq_getElem_cons h, List.all_cons]; rfl
theorem entsB_end (es : List Ent) (k : Nat) (h : es.length ≤ k) : entsB (es.drop k) = true := by rw [List.drop_of_length_le h]; rfl
theorem numsB_step (ns : List Int) (k : Nat) (h : k < ns.length) : (ns.drop k).all numB = (numB ns[k] && (ns.drop (k + 1)).all numB) := by rw [List.drop_eq_getElem_cons h, List.all_cons]
theorem numsB_end (ns : List Int) (k : Nat) (h : ns.length ≤ k) : (ns.drop k).all numB = true := by rw [List.drop_of_length_le h]; rfl
end Plain

set_option maxRecDepth 10000 in
set_option maxHeartbeats 1000000 in
theorem indexE_calls (a : Option Addr) (n c : Nat) (es : List Ent) (w : World) (hn : es.length = n) (hn2 : n ≤ 1048576) (hsm : smallE es) (h : RowAt entE w a es) :
    Calls Tryz.prog 105 #[.slice a n c, .func (.func 79) #[] #[]] w fun e w' => ((e = .returned (.int .i64 (-1)) ∧ entsB es = true) ∨ ∃ k : Nat, e = .returned (.int .i64 k) ∧ entsB es = false) ∧ Below w.heap.size w w' := by
  have H := hide h
  have HN := hide hn
  have HSM := hide hsm
  clear h hn hsm
  go_enter Tryz.func105, Tryz.ntmps105
  go_wp2_with fail
  go_loopw [8] (fun i wr => ∃ k : Nat, i = .int .i64 k ∧ k ≤ n ∧ Hid (entsB es = entsB (es.drop k)) ∧ Hid (Below w.heap.size w wr)) (fun i _ => n - (intOf i).toNat)
  case atStart => exact ⟨0, rfl, by omega, hide (by rw [List.drop_zero]), hide (Below.refl _ _)⟩
  case round =>
    obtain ⟨k, rfl, hk, HV, HB⟩ := hrel
    by_cases hlk : k < n
    · have hkl : k < es.length := by rw [unhide HN]; exact hlk
      obtain ⟨g, e1, l1, p0, p1, p2⟩ := ((unhide H).below (unhide HB)).ex k hkl
      have HS := (unhide HV).trans (entsB_step es k hkl)
      have hsz := unhide HSM es[k] (by simp)
      generalize es[k] = x at p0 p1 p2 HS hsz
      obtain ⟨tm, kd, bd⟩ := x
      simp only at p0 p1 p2 HS hsz
      have HCL := hide (fun W => msgOk1_calls tm kd bd W hsz)
      obtain ⟨t, ht⟩ : ∃ t, entB tm kd bd = t := ⟨_, rfl⟩
      rw [ht] at HCL HS
      have HS2 := hide HS
      clear HV ht HS hsz hkl
      subst e1
      have i0 : (0 : Int) ≤ (k : Int) := by omega
      have i1 : (k : Int) < (n : Int) := by omega
      cases t with
      | false =>
        go_wp2_with (go_at_call 79; refine (unhide HCL _).mono ?_; rintro e w1 ⟨rfl, hb1⟩)
        go_ret
        exact ⟨.inr ⟨k, rfl, by rw [unhide HS2]; rfl⟩, belOn (unhide HB) hb1⟩
      | true =>
        rw [Bool.true_and] at HS2
        go_wp2_with (go_at_call 79; refine (unhide HCL _).mono ?_; rintro e w1 ⟨rfl, hb1⟩)
        go_roundw
        case rel => exact ⟨k + 1, by go_num, by omega, HS2, hide (belOn (unhide HB) hb1)⟩
        case measure => simp [intOf]; omega
    · have HF := hide ((unhide HV).trans (entsB_end es k (by rw [unhide HN]; omega)))
      go_wp2_with fail
      go_ret
      exact ⟨.inl ⟨rfl, unhide HF⟩, unhide HB⟩

set_option maxRecDepth 10000 in
set_option maxHeartbeats 1000000 in
theorem containsE_calls (a : Option Addr) (n c : Nat) (es : List Ent) (w : World) (hn : es.length = n) (hn2 : n ≤ 1048576) (hsm : smallE es) (h : RowAt entE w a es) :
    Calls Tryz.prog 78 #[.slice a n c, .func (.func 79) #[] #[]] w fun e w' => e = .returned (.bool (!entsB es)) ∧ Below w.heap.size w w' := by
  have HI := hide (indexE_calls a n c es w hn hn2 hsm h)
  clear h hsm hn
  go_enter Tryz.func78, Tryz.ntmps78
  go_wp2_with fail
  refine (unhide HI).mono ?_
  rintro e w1 ⟨he, hb1⟩
  have HB := hide hb1
  clear hb1
  rcases he with ⟨rfl, hv⟩ | ⟨k, rfl, hv⟩
  · have HV := hide hv
    clear hv
    go_wp2_with fail
    go_ret
    exact ⟨by rw [unhide HV]; rfl, unhide HB⟩
  · have HV := hide hv
    clear hv
    have i0 : (0 : Int) ≤ (k : Int) := by omega
    go_wp2_with fail
    go_ret
    exact ⟨by rw [unhide HV]; rfl, unhide HB⟩

set_option maxRecDepth 10000 in
set_option maxHeartbeats 4000000 in
theorem msgOk_calls (kd fr tt tm ix lg cm : Int) (ok : Bool) (tx : ByteArray) (ae : Option Addr) (ne ce : Nat) (es : List Ent) (av : Option Addr) (nv cv : Nat) (al : Option Addr) (nl cl : Nat) (w : World) (htx : tx.size ≤ 1000000000) (hn : es.length = ne) (hn2 : ne ≤ 1048576) (hsm : smallE es) (h : RowAt entE w ae es) :
    Calls Tryz.prog 36 #[.agg #[.int .i64 kd, .int .i64 fr, .int .i64 tt, .int .i64 tm, .int .i64 ix, .int .i64 lg, .slice ae ne ce, .int .i64 cm, .bool ok, .string tx, .slice av nv cv, .slice al nl cl]] w fun e w' => e = .returned (.bool (msgB (numsM kd fr tt tm ix lg cm ok) tx es)) ∧ Below w.heap.size w w' := by
  obtain ⟨W0, hW0⟩ : ∃ W0, W0 = w.alloc (.cells #[.int .i64 kd, .int .i64 fr, .int .i64 tt, .int .i64 tm, .int .i64 ix, .int .i64 lg, .slice ae ne ce, .int .i64 cm, .bool ok, .string tx, .slice av nv cv, .slice al nl cl] 27) := ⟨_, rfl⟩
  have hb0 : Below w.heap.size w W0 := by rw [hW0]; exact bel1 _ _
  have B0 : Blk W0 w.heap.size [.int .i64 kd, .int .i64 fr, .int .i64 tt, .int .i64 tm, .int .i64 ix, .int .i64 lg, .slice ae ne ce, .int .i64 cm, .bool ok, .string tx, .slice av nv cv, .slice al nl cl] := by rw [hW0]; exact Blk.new w _ _
  have HC := hide (fun (W : World) (hW : Below W0.heap.size W0 W) => And.intro ((B0.call hW).c 6 (by simp)) ((B0.call hW).c 9 (by simp)))
  have HFIN := hide (fun (W : World) (hW : Below W0.heap.size W0 W) => belOn hb0 hW)
  have HNO := hide (numbersOf_calls kd fr tt tm ix lg cm ok tx ae ne ce av nv cv al nl cl W0)
  have HCO := hide (fun (W : World) (hW : Below W0.heap.size W0 W) => containsE_calls ae ne ce es W hn hn2 hsm (h.below (belOn hb0 hW)))
  have HW0 := hide hW0.symm
  have hl8 : (numsM kd fr tt tm ix lg cm ok).length = 8 := rfl
  generalize numsM kd fr tt tm ix lg cm ok = ns at HNO hl8
  obtain ⟨R, hR⟩ : ∃ R, msgB ns tx es = R := ⟨_, rfl⟩
  rw [hR]
  unfold msgB at hR
  rw [hn] at hR
  have HR := hide hR
  have HL8 := hide hl8
  obtain ⟨E, hE⟩ : ∃ E, entsB es = E := ⟨_, rfl⟩
  rw [hE] at HR HCO
  clear hb0 hW0 B0 h hn hsm hR hE hl8
  go_enter Tryz.func36, Tryz.ntmps36
  go_wp2_with fail
  rw [unhide HW0]
  refine (unhide HNO).mono ?_
  rintro e w1 ⟨g, rfl, hg, hN1, hb1⟩
  have HN1 := hide hN1
  have HB1 := hide hb1
  clear hN1 hb1
  go_wp2_with fail
  go_loopw [8] (fun i wr => ∃ k : Nat, i = .int .i64 k ∧ k ≤ 8 ∧ Hid (ns.all numB = (ns.drop k).all numB) ∧ wr = w1) (fun i _ => 8 - (intOf i).toNat)
  case atStart => exact ⟨0, rfl, by omega, hide (by rw [List.drop_zero]), rfl⟩
  case round =>
    obtain ⟨k, rfl, hk, HV, rfl⟩ := hrel
    by_cases hk8 : k < 8
    · have hkl : k < ns.length := by rw [unhide HL8]; exact hk8
      have p0 := (unhide HN1).cell k hkl
      have HS := (unhide HV).trans (numsB_step ns k hkl)
      generalize ns[k] = x at p0 HS
      have HCL := hide (fun W => numberOkM_calls x W)
      obtain ⟨t, ht⟩ : ∃ t, numB x = t := ⟨_, rfl⟩
      rw [ht] at HCL HS
      have HS2 := hide HS
      clear HV ht HS hkl
      have i0 : (0 : Int) ≤ (k : Int) := by omega
      have i1 : (k : Int) < (8 : Int) := by omega
      cases t with
      | false =>
        go_wp2_with (go_at_call 77; refine (unhide HCL _).mono ?_; rintro e w2 ⟨rfl, rfl⟩)
        go_ret
        exact ⟨by rw [← unhide HR, unhide HS2]; simp, unhide HFIN _ (unhide HB1)⟩
      | true =>
        rw [Bool.true_and] at HS2
        go_wp2_with (go_at_call 77; refine (unhide HCL _).mono ?_; rintro e w2 ⟨rfl, rfl⟩)
        go_roundw
        case rel => exact ⟨k + 1, by go_num, by omega, HS2, by first | rfl | trivial⟩
        case measure => simp [intOf]; omega
    · obtain rfl : k = 8 := by omega
      have HF := (unhide HV).trans (numsB_end ns 8 (by rw [unhide HL8]; exact Nat.le_refl _))
      have HR2 := unhide HR
      rw [HF] at HR2
      have HR3 := hide HR2
      clear HF HR2 HV HR
      obtain ⟨q6, q9⟩ := unhide HC _ (unhide HB1)
      by_cases ht : 20000 < tx.size
      · have ht2 : (20000 : Int) < (tx.size : Int) := by omega
        have HF := hide (show R = false from by rw [← unhide HR3]; simp; omega)
        clear ht
        go_wp2_with fail
        go_ret
        exact ⟨by rw [unhide HF]; rfl, unhide HFIN _ (unhide HB1)⟩
      · have ht2 : ¬ (20000 : Int) < (tx.size : Int) := by omega
        by_cases h8 : 8 < ne
        · have h82 : (8 : Int) < (ne : Int) := by omega
          have HF := hide (show R = false from by rw [← unhide HR3]; simp; omega)
          clear ht h8
          go_wp2_with fail
          go_ret
          exact ⟨by rw [unhide HF]; rfl, unhide HFIN _ (unhide HB1)⟩
        · have h82 : ¬ (8 : Int) < (ne : Int) := by omega
          have HF := hide (show R = E from by rw [← unhide HR3]; simp; omega)
          clear ht h8
          go_wp2_with fail
          refine (unhide HCO _ (unhide HB1)).mono ?_
          rintro e w2 ⟨rfl, hb2⟩
          have HB2 := hide (belOn (unhide HB1) hb2)
          clear hb2
          go_wp2_with fail
          go_ret
          exact ⟨by rw [unhide HF]; simp, unhide HFIN _ (unhide HB2)⟩
end Go.Proofs.YtjiclgcohpkkjaaGreatDoor

