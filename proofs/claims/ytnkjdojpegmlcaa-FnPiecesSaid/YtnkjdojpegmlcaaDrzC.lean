/- Texts of one kind, put together. -/
import Derived.Test.YtnkjdojpegmlcaaWhM
import Derived.Test.YtnkjdojpegmlcaaRdK
import Derived.Test.YtnkjdojpegmlcaaRdT
import Derived.Test.YtnkjdojpegmlcaaRdQ
import Derived.Test.YtnkjdojpegmlcaaMan
import Derived.Maps.Own
import Derived.Maps.OwnOps
import Derived.Maps.OwnSet
import Derived.Maps.Views
import Derived.Deep.RegionHeld3
import Derived.Test.YtnkjdojpegmlcaaBld
import Derived.Test.YtnkjdojpegmlcaaStrR
import Derived.WalkArith

/- One piece read, by both programs. -/
namespace Go.Proofs.Ytnkjdojpegmlcaa
open Go.RowKit Plain
set_option linter.unusedVariables false

namespace Plain
/-- What is left of a body, where nothing failed. -/
def LfW (s : ByteArray) (p : Nat) (u : ByteArray) (f : Bool) : Prop := u.size ≤ 1000000000 ∧ (f = false → u = s.extract p s.size ∧ p ≤ s.size)
theorem ext_moreW (s : ByteArray) (p l : Nat) (hp : p ≤ s.size) : (s.extract p s.size).extract l (s.extract p s.size).size = s.extract (p + l) s.size := by
  rw [ByteArray.extract_extract, ByteArray.size_extract]
  congr 1
  omega
theorem ext_partW (s : ByteArray) (p l v : Nat) (h : p + l + v ≤ s.size) : (s.extract p s.size).extract l (l + v) = s.extract (p + l) (p + l + v) := by
  rw [ByteArray.extract_extract]
  congr 1
  omega
theorem take_open (s u : ByteArray) (p : Nat) (f : Bool) (hl : LfW s p u f) : ∃ (v : Int) (u' : ByteArray) (g : Bool) (p' : Nat), takeV u = .tuple #[.int .i64 v, .string u', .bool g] ∧ LfW s p' u' (f || !g) ∧ MoR (stp s p) p' f (f || !g) v := by
  cases h : tkN u 0 with
  | none =>
    refine ⟨0, ByteArray.empty, false, p, takeV_none h, ⟨by decide, fun e => by simp at e⟩, .inl ⟨by simp, ?_⟩⟩
    cases f with
    | true => exact .inl rfl
    | false =>
      obtain ⟨rfl, hp⟩ := hl.2 rfl
      rw [tkN_shift s p hp] at h
      exact .inr (by unfold stp; rw [h]; rfl)
  | some y =>
    obtain ⟨v, l⟩ := y
    have hu := hl.1
    cases f with
    | true => exact ⟨v, u.extract l u.size, true, 0, takeV_some h, ⟨by rw [ByteArray.size_extract]; omega, fun e => by simp at e⟩, .inl ⟨rfl, .inl rfl⟩⟩
    | false =>
      obtain ⟨rfl, hp⟩ := hl.2 rfl
      have h2 := h
      rw [tkN_shift s p hp] at h2
      have hle := tkN_le h2
      exact ⟨v, _, true, p + l, takeV_some h, ⟨by rw [ByteArray.size_extract]; omega, fun _ => ⟨ext_moreW s p l hp, by omega⟩⟩, .inr ⟨rfl, rfl, by unfold stp; rw [h2]; rfl⟩⟩
theorem text_open (s u : ByteArray) (p : Nat) (f : Bool) (hl : LfW s p u f) : ∃ (v u' : ByteArray) (g : Bool) (p' : Nat), textV u = .tuple #[.string v, .string u', .bool g] ∧ LfW s p' u' (f || !g) ∧ MoR (txp s p) p' f (f || !g) v ∧ v.size ≤ 20000 := by
  cases h : tkT u 0 with
  | none =>
    refine ⟨ByteArray.empty, ByteArray.empty, false, p, textV_none h, ⟨by decide, fun e => by simp at e⟩, .inl ⟨by simp, ?_⟩, by decide⟩
    cases f with
    | true => exact .inl rfl
    | false =>
      obtain ⟨rfl, hp⟩ := hl.2 rfl
      rw [tkT_shift s p hp] at h
      exact .inr (by unfold txp; rw [h]; rfl)
  | some y =>
    obtain ⟨l, v⟩ := y
    have hu := hl.1
    have hv := tkT_le h
    cases f with
    | true => exact ⟨u.extract l (l + v), u.extract (l + v) u.size, true, 0, textV_some h, ⟨by rw [ByteArray.size_extract]; omega, fun e => by simp at e⟩, .inl ⟨rfl, .inl rfl⟩, by rw [ByteArray.size_extract]; omega⟩
    | false =>
      obtain ⟨rfl, hp⟩ := hl.2 rfl
      have h2 := h
      rw [tkT_shift s p hp] at h2
      have hle := tkT_le h2
      exact ⟨_, _, true, p + l + v, textV_some h, ⟨by rw [ByteArray.size_extract]; omega, fun _ => ⟨by rw [ext_moreW s p (l + v) hp, Nat.add_assoc], by omega⟩⟩, .inr ⟨rfl, rfl, by unfold txp; rw [h2, ext_partW s p l v (by omega)]; rfl⟩, by rw [ByteArray.size_extract]; omega⟩
/-- What one piece's reading leaves. -/
def PiPost (s : ByteArray) (val : Int → Int → ByteArray → Bool → Value) (w : World) (e : Ending) (w' : World) : Prop := ∃ (a c : Int) (x : ByteArray) (g : Bool), e = .returned (val a c x g) ∧ PcIs (pieceR s) g a c x ∧ x.size ≤ 20000 ∧ Below w.heap.size w w'
theorem pieceR_len {s : ByteArray} {fs : List (Int × ByteArray)} {p : Nat} {c : Int} (h : readF s = (fs, p, c)) (hl : ¬ fs.length = 1) : pieceR s = none := by
  unfold pieceR
  rw [h]
  match fs with
  | [] => rfl
  | [y] => exact absurd rfl hl
  | _ :: _ :: _ => rfl
theorem pieceR_one {s : ByteArray} {k : Int} {b : ByteArray} {p : Nat} {c : Int} (h : readF s = ([(k, b)], p, c)) : pieceR s = if c = 0 ∧ k = 3 then bodR b else none := by
  unfold pieceR
  rw [h]
end Plain

set_option maxRecDepth 10000 in
set_option maxHeartbeats 4000000 in
theorem l11Piece_calls (s : ByteArray) (w : World) (hs : s.size ≤ 100000000) (hz : ∀ k b, (k, b) ∈ (readF s).1 → b.size ≤ 100000000) :
    Calls Try.prog 32 #[.string s] w (PiPost s (fun a c x g => .tuple #[.int .i64 a, .int .i64 c, .string x, .bool g]) w) := by
  have HR := hide (specRead_calls s w (by omega))
  obtain ⟨⟨fs, pos, cd⟩, hrd⟩ : ∃ r, readF s = r := ⟨_, rfl⟩
  rw [hrd] at HR hz
  have HRD := hide hrd
  have zero : PcIs (pieceR s) false 0 0 ⟨#[]⟩ → ∀ w' : World, Below w.heap.size w w' → PiPost s (fun a c x g => .tuple #[.int .i64 a, .int .i64 c, .string x, .bool g]) w (.returned (.tuple #[.int .i64 0, .int .i64 0, .string ⟨#[]⟩, .bool false])) w' := fun h w' hb => ⟨0, 0, ⟨#[]⟩, false, rfl, h, by decide, hb⟩
  have HZ := hide zero
  clear zero
  by_cases hc : cd = 0
  · subst hc
    by_cases hl : fs.length = 1
    · obtain ⟨⟨k, b⟩, rfl⟩ := List.length_eq_one_iff.1 hl
      have hb := hz k b (by simp)
      clear hl hz
      have hp1 := pieceR_one hrd
      by_cases hk : k = 3
      · subst hk
        rw [if_pos ⟨rfl, rfl⟩] at hp1
        obtain ⟨a, u1, g1, p1, e1, l1, m1⟩ := take_open b b 0 false ⟨by omega, fun _ => ⟨by simp, by omega⟩⟩
        obtain ⟨c, u2, g2, p2, e2, l2, m2⟩ := take_open b u1 p1 _ l1
        obtain ⟨x, u3, g3, p3, e3, l3, m3, hx⟩ := text_open b u2 p2 _ l2
        have hH := bodR_is (((HasR.start.num m1).num m2).txt m3)
        rw [← hp1] at hH
        have hG : ((!(((false || !g1) || !g2) || !g3) && decide (p3 = b.size)) && decide (a < c)) = ((((g1 && g2) && g3) && u3.toList.isEmpty) && decide (a < c)) := by
          cases g1 <;> cases g2 <;> cases g3 <;> simp
          obtain ⟨hu, hp⟩ := l3.2 rfl
          have hn := rest_nil b p3 hp
          rw [← hu] at hn
          rw [show decide (p3 = b.size) = u3.toList.isEmpty from by rw [Bool.eq_iff_iff]; simp [hn]]
        rw [hG] at hH
        have HH := hide hH
        have T1 := hide (fun W => spec_TakeNumber b W (by omega))
        have T2 := hide (fun W => spec_TakeNumber u1 W (by have := l1.1; omega))
        have T3 := hide (fun W => spec_TakeText u2 W (by have := l2.1; omega))
        rw [e1] at T1
        rw [e2] at T2
        rw [e3] at T3
        clear e1 e2 e3 l1 l2 l3 m1 m2 m3 hH hG hp1 hrd
        have hq := unhide HH
        clear HH
        cases g1 with
        | false =>
          have HQ : PcIs (pieceR s) false a c x := hq
          clear hq
          go_enter Try.func32, Try.ntmps32
          go_wp2_with fail
          refine (unhide HR).mono ?_
          rintro e w1 ⟨v, rfl, ho, hb1⟩
          obtain ⟨fa, fc, rfl⟩ := ownF_form ho
          obtain ⟨g, eg, lg, q0, q1, -⟩ := (ho.at rfl) 0 (by simp)
          subst eg
          simp only [Nat.zero_mul, Nat.zero_add, List.getElem_cons_zero] at q0 q1
          have HB1 := hide hb1
          clear ho hb1
          go_wp2_with fail
          refine (unhide T1 _).mono ?_
          rintro e w2 ⟨rfl, k2, rfl⟩
          go_wp2_with fail
          refine (unhide T2 _).mono ?_
          rintro e w3 ⟨rfl, k3, rfl⟩
          go_wp2_with fail
          refine (unhide T3 _).mono ?_
          rintro e w4 ⟨rfl, hb4⟩
          have HB4 := hide (belOn (show Below w.heap.size w (w1.drewN (k2 + k3)) from ⟨(unhide HB1).os, (unhide HB1).tape, (unhide HB1).output, (unhide HB1).size, (unhide HB1).block⟩) hb4)
          clear hb4 q0 q1
          go_wp2_with fail
          exact bodyPost_ret (v := .tuple #[.int .i64 a, .int .i64 c, .string x, .bool false]) (by simp [results, Try.results32, go_sem]) rfl ⟨a, c, x, _, rfl, HQ, hx, unhide HB4⟩
        | true =>
          cases g2 with
          | false =>
            have HQ : PcIs (pieceR s) false a c x := hq
            clear hq
            go_enter Try.func32, Try.ntmps32
            go_wp2_with fail
            refine (unhide HR).mono ?_
            rintro e w1 ⟨v, rfl, ho, hb1⟩
            obtain ⟨fa, fc, rfl⟩ := ownF_form ho
            obtain ⟨g, eg, lg, q0, q1, -⟩ := (ho.at rfl) 0 (by simp)
            subst eg
            simp only [Nat.zero_mul, Nat.zero_add, List.getElem_cons_zero] at q0 q1
            have HB1 := hide hb1
            clear ho hb1
            go_wp2_with fail
            refine (unhide T1 _).mono ?_
            rintro e w2 ⟨rfl, k2, rfl⟩
            go_wp2_with fail
            refine (unhide T2 _).mono ?_
            rintro e w3 ⟨rfl, k3, rfl⟩
            go_wp2_with fail
            refine (unhide T3 _).mono ?_
            rintro e w4 ⟨rfl, hb4⟩
            have HB4 := hide (belOn (show Below w.heap.size w (w1.drewN (k2 + k3)) from ⟨(unhide HB1).os, (unhide HB1).tape, (unhide HB1).output, (unhide HB1).size, (unhide HB1).block⟩) hb4)
            clear hb4 q0 q1
            go_wp2_with fail
            exact bodyPost_ret (v := .tuple #[.int .i64 a, .int .i64 c, .string x, .bool false]) (by simp [results, Try.results32, go_sem]) rfl ⟨a, c, x, _, rfl, HQ, hx, unhide HB4⟩
          | true =>
            cases g3 with
            | false =>
              have HQ : PcIs (pieceR s) false a c x := hq
              clear hq
              go_enter Try.func32, Try.ntmps32
              go_wp2_with fail
              refine (unhide HR).mono ?_
              rintro e w1 ⟨v, rfl, ho, hb1⟩
              obtain ⟨fa, fc, rfl⟩ := ownF_form ho
              obtain ⟨g, eg, lg, q0, q1, -⟩ := (ho.at rfl) 0 (by simp)
              subst eg
              simp only [Nat.zero_mul, Nat.zero_add, List.getElem_cons_zero] at q0 q1
              have HB1 := hide hb1
              clear ho hb1
              go_wp2_with fail
              refine (unhide T1 _).mono ?_
              rintro e w2 ⟨rfl, k2, rfl⟩
              go_wp2_with fail
              refine (unhide T2 _).mono ?_
              rintro e w3 ⟨rfl, k3, rfl⟩
              go_wp2_with fail
              refine (unhide T3 _).mono ?_
              rintro e w4 ⟨rfl, hb4⟩
              have HB4 := hide (belOn (show Below w.heap.size w (w1.drewN (k2 + k3)) from ⟨(unhide HB1).os, (unhide HB1).tape, (unhide HB1).output, (unhide HB1).size, (unhide HB1).block⟩) hb4)
              clear hb4 q0 q1
              go_wp2_with fail
              exact bodyPost_ret (v := .tuple #[.int .i64 a, .int .i64 c, .string x, .bool false]) (by simp [results, Try.results32, go_sem]) rfl ⟨a, c, x, _, rfl, HQ, hx, unhide HB4⟩
            | true =>
              cases hu3 : u3.toList.isEmpty with
              | false =>
                rw [hu3] at hq
                have HQ : PcIs (pieceR s) false a c x := hq
                clear hq
                go_enter Try.func32, Try.ntmps32
                go_wp2_with fail
                refine (unhide HR).mono ?_
                rintro e w1 ⟨v, rfl, ho, hb1⟩
                obtain ⟨fa, fc, rfl⟩ := ownF_form ho
                obtain ⟨g, eg, lg, q0, q1, -⟩ := (ho.at rfl) 0 (by simp)
                subst eg
                simp only [Nat.zero_mul, Nat.zero_add, List.getElem_cons_zero] at q0 q1
                have HB1 := hide hb1
                clear ho hb1
                go_wp2_with fail
                refine (unhide T1 _).mono ?_
                rintro e w2 ⟨rfl, k2, rfl⟩
                go_wp2_with fail
                refine (unhide T2 _).mono ?_
                rintro e w3 ⟨rfl, k3, rfl⟩
                go_wp2_with fail
                refine (unhide T3 _).mono ?_
                rintro e w4 ⟨rfl, hb4⟩
                have HB4 := hide (belOn (show Below w.heap.size w (w1.drewN (k2 + k3)) from ⟨(unhide HB1).os, (unhide HB1).tape, (unhide HB1).output, (unhide HB1).size, (unhide HB1).block⟩) hb4)
                clear hb4 q0 q1
                go_wp2_with fail
                exact bodyPost_ret (v := .tuple #[.int .i64 a, .int .i64 c, .string x, .bool false]) (by simp [results, Try.results32, go_sem]) rfl ⟨a, c, x, _, rfl, HQ, hx, unhide HB4⟩
              | true =>
                rw [hu3] at hq
                have HQ : PcIs (pieceR s) (decide (a < c)) a c x := hq
                clear hq
                go_enter Try.func32, Try.ntmps32
                go_wp2_with fail
                refine (unhide HR).mono ?_
                rintro e w1 ⟨v, rfl, ho, hb1⟩
                obtain ⟨fa, fc, rfl⟩ := ownF_form ho
                obtain ⟨g, eg, lg, q0, q1, -⟩ := (ho.at rfl) 0 (by simp)
                subst eg
                simp only [Nat.zero_mul, Nat.zero_add, List.getElem_cons_zero] at q0 q1
                have HB1 := hide hb1
                clear ho hb1
                go_wp2_with fail
                refine (unhide T1 _).mono ?_
                rintro e w2 ⟨rfl, k2, rfl⟩
                go_wp2_with fail
                refine (unhide T2 _).mono ?_
                rintro e w3 ⟨rfl, k3, rfl⟩
                go_wp2_with fail
                refine (unhide T3 _).mono ?_
                rintro e w4 ⟨rfl, hb4⟩
                have HB4 := hide (belOn (show Below w.heap.size w (w1.drewN (k2 + k3)) from ⟨(unhide HB1).os, (unhide HB1).tape, (unhide HB1).output, (unhide HB1).size, (unhide HB1).block⟩) hb4)
                clear hb4 q0 q1
                go_wp2_with fail
                exact bodyPost_ret (v := .tuple #[.int .i64 a, .int .i64 c, .string x, .bool (decide (a < c))]) (by simp [results, Try.results32, go_sem]) rfl ⟨a, c, x, _, rfl, HQ, hx, unhide HB4⟩
      · rw [if_neg (fun q => hk q.2)] at hp1
        have hpc : PcIs (pieceR s) false 0 0 ⟨#[]⟩ := .inl ⟨rfl, hp1⟩
        clear hp1 hrd
        go_enter Try.func32, Try.ntmps32
        go_wp2_with fail
        refine (unhide HR).mono ?_
        rintro e w1 ⟨v, rfl, ho, hb1⟩
        obtain ⟨fa, fc, rfl⟩ := ownF_form ho
        obtain ⟨g, eg, lg, q0, q1, -⟩ := (ho.at rfl) 0 (by simp)
        subst eg
        simp only [Nat.zero_mul, Nat.zero_add, List.getElem_cons_zero] at q0 q1
        have HB1 := hide hb1
        clear ho hb1
        go_wp2_with fail
        exact bodyPost_ret (v := .tuple #[.int .i64 0, .int .i64 0, .string ⟨#[]⟩, .bool false]) (by simp [results, Try.results32, go_sem]) rfl (unhide HZ hpc _ (unhide HB1))
    · have hpc : PcIs (pieceR s) false 0 0 ⟨#[]⟩ := .inl ⟨rfl, pieceR_len hrd hl⟩
      obtain ⟨n, hn⟩ : ∃ n, fs.length = n := ⟨_, rfl⟩
      rw [hn] at hl
      have HN := hide hn
      have hl2 : ¬ (n : Int) = 1 := by omega
      clear hrd hn hz
      go_enter Try.func32, Try.ntmps32
      go_wp2_with fail
      refine (unhide HR).mono ?_
      rintro e w1 ⟨v, rfl, ho, hb1⟩
      obtain ⟨fa, fc, rfl⟩ := ownF_form ho
      rw [unhide HN]
      have HB1 := hide hb1
      clear ho hb1
      go_wp2_with fail
      exact bodyPost_ret (v := .tuple #[.int .i64 0, .int .i64 0, .string ⟨#[]⟩, .bool false]) (by simp [results, Try.results32, go_sem]) rfl (unhide HZ hpc _ (unhide HB1))
  · have hpc : PcIs (pieceR s) false 0 0 ⟨#[]⟩ := by
      refine .inl ⟨rfl, ?_⟩
      by_cases hl : fs.length = 1
      · obtain ⟨⟨k, b⟩, rfl⟩ := List.length_eq_one_iff.1 hl
        rw [pieceR_one hrd, if_neg (fun q => hc q.1)]
      · exact pieceR_len hrd hl
    clear hrd hz
    go_enter Try.func32, Try.ntmps32
    go_wp2_with fail
    refine (unhide HR).mono ?_
    rintro e w1 ⟨v, rfl, ho, hb1⟩
    obtain ⟨fa, fc, rfl⟩ := ownF_form ho
    have HB1 := hide hb1
    clear ho hb1
    go_wp2_with fail
    exact bodyPost_ret (v := .tuple #[.int .i64 0, .int .i64 0, .string ⟨#[]⟩, .bool false]) (by simp [results, Try.results32, go_sem]) rfl (unhide HZ hpc _ (unhide HB1))
end Go.Proofs.Ytnkjdojpegmlcaa


/- One piece read, by the program. -/
namespace Go.Proofs.Ytnkjdojpegmlcaa
open Go.RowKit Plain
set_option linter.unusedVariables false

namespace Plain
theorem num_openW (s : ByteArray) (p : Nat) (hp : p ≤ s.size) : ∃ (v : Int) (g : Bool) (p' : Nat), numV (tkN s p) = .tuple #[.int .i64 v, .bool g] ∧ numAt p (tkN s p) = p' ∧ p' ≤ s.size ∧ ∀ f, MoR (stp s p) p' f (f || !g) v := by
  cases h : tkN s p with
  | none => exact ⟨0, false, p, rfl, rfl, hp, fun f => .inl ⟨by simp, .inr (by unfold stp; rw [h]; rfl)⟩⟩
  | some y =>
    obtain ⟨v, l⟩ := y
    have := tkN_le h
    refine ⟨v, true, p + l, rfl, rfl, by omega, fun f => ?_⟩
    cases f with
    | true => exact .inl ⟨rfl, .inl rfl⟩
    | false => exact .inr ⟨rfl, rfl, by unfold stp; rw [h]; rfl⟩
theorem fld_openW (s : ByteArray) (p : Nat) (hp : p ≤ s.size) : ∃ (v : ByteArray) (g : Bool) (p' : Nat), fldV s p (tkT s p) = .tuple #[.string v, .bool g] ∧ fldAt p (tkT s p) = p' ∧ p' ≤ s.size ∧ v.size ≤ 20000 ∧ ∀ f, MoR (txp s p) p' f (f || !g) v := by
  cases h : tkT s p with
  | none => exact ⟨⟨#[]⟩, false, p, rfl, rfl, hp, by decide, fun f => .inl ⟨by simp, .inr (by unfold txp; rw [h]; rfl)⟩⟩
  | some y =>
    obtain ⟨l, v⟩ := y
    have := tkT_le h
    refine ⟨s.extract (p + l) (p + l + v), true, p + l + v, rfl, rfl, by omega, by rw [ByteArray.size_extract]; omega, fun f => ?_⟩
    cases f with
    | true => exact .inl ⟨rfl, .inl rfl⟩
    | false => exact .inr ⟨rfl, rfl, by unfold txp; rw [h]; rfl⟩
/-- A reader at R that stands at p. -/
structure CurA (W : World) (R : Nat) (b : ByteArray) (p : Nat) : Prop where
  t0 : W.cell? ⟨R, 0, none⟩ = some (.string b)
  t1 : W.cell? ⟨R, 1, none⟩ = some (.int .i64 p)
  z1 : W.frozen? ⟨R, 1, none⟩ = false
theorem CurA.only {W W' : World} {R : Nat} {b : ByteArray} {p p' : Nat} (h : CurA W R b p) (ho : OnlyAt ⟨R, 1, none⟩ W W') (hq : W'.cell? ⟨R, 1, none⟩ = some (.int .i64 p')) : CurA W' R b p' :=
  have l := lt_of_cell h.t0
  ⟨(ho.cell ⟨R, 0, none⟩ l (by simp)).trans h.t0, hq, (ho.frozen ⟨R, 1, none⟩ l).trans h.z1⟩
theorem CurA.new (w : World) (b : ByteArray) (T : TypeId) : CurA (w.alloc (.cells #[.string b, .int .i64 0] T)) w.heap.size b 0 := ⟨by simp [go_sem], by simp [go_sem], by simp [go_sem]⟩
/-- A piece at C, nought. -/
structure Zp (W : World) (C : Nat) : Prop where
  z0 : W.cell? ⟨C, 0, none⟩ = some (.int .i64 0)
  z1 : W.cell? ⟨C, 1, none⟩ = some (.int .i64 0)
  z2 : W.cell? ⟨C, 2, none⟩ = some (.string ⟨#[]⟩)
  f : ∀ i, W.frozen? ⟨C, i, none⟩ = false
theorem Zp.new (w : World) (T : TypeId) : Zp (w.alloc (.cells #[.int .i64 0, .int .i64 0, .string ⟨#[]⟩] T)) w.heap.size := ⟨by simp [go_sem], by simp [go_sem], by simp [go_sem], fun i => by simp [go_sem]⟩
theorem Zp.keep {W W' : World} {C : Nat} (h : Zp W C) (hb : Below W.heap.size W W') : Zp W' C :=
  have l := lt_of_cell h.z0
  ⟨bcl hb l h.z0, bcl hb l h.z1, bcl hb l h.z2, fun i => (hb.frozen (p := ⟨C, i, none⟩) l).trans (h.f i)⟩
theorem Zp.only {W W' : World} {C R : Nat} (h : Zp W C) (ho : OnlyAt ⟨R, 1, none⟩ W W') (hne : C ≠ R) : Zp W' C :=
  have l := lt_of_cell h.z0
  have n : ∀ i, (⟨C, i, none⟩ : Addr) ≠ ⟨R, 1, none⟩ := fun i e => hne (congrArg Addr.block e)
  ⟨(ho.cell ⟨C, 0, none⟩ l (n 0)).trans h.z0, (ho.cell ⟨C, 1, none⟩ l (n 1)).trans h.z1, (ho.cell ⟨C, 2, none⟩ l (n 2)).trans h.z2, fun i => (ho.frozen ⟨C, i, none⟩ l).trans (h.f i)⟩
theorem three_below {K : Nat} {w w' : World} {C : Nat} (h : Below K w w') (hC : K ≤ C) (v0 v1 v2 : Value) : Below K w (((w'.setCell ⟨C, 0, none⟩ v0).setCell ⟨C, 1, none⟩ v1).setCell ⟨C, 2, none⟩ v2) :=
  ((h.setCell (p := ⟨C, 0, none⟩) hC _).setCell (p := ⟨C, 1, none⟩) hC _).setCell (p := ⟨C, 2, none⟩) hC _
def piV (a c : Int) (x : ByteArray) (g : Bool) : Value := .tuple #[.agg #[.int .i64 a, .int .i64 c, .string x], .bool g]
end Plain

set_option maxRecDepth 10000 in
set_option maxHeartbeats 4000000 in
theorem readPiece_calls (s : ByteArray) (w : World) (hs : s.size ≤ 100000000) (hz : ∀ k b, (k, b) ∈ (readF s).1 → b.size ≤ 100000000) :
    Calls Try.prog 30 #[.string s] w (PiPost s piV w) := by
  obtain ⟨W0, hW0⟩ : ∃ W0, W0 = w.alloc (.cells #[.int .i64 0, .int .i64 0, .string ⟨#[]⟩] 54) := ⟨_, rfl⟩
  have HZ0 := hide (show Zp W0 w.heap.size by rw [hW0]; exact Zp.new w _)
  have HB0 := hide (show Below w.heap.size w W0 by rw [hW0]; exact bel1 _ _)
  have HW0 := hide hW0.symm
  have HR := hide (implRead_calls s W0 (by omega))
  obtain ⟨⟨fs, pos, cd⟩, hrd⟩ : ∃ r, readF s = r := ⟨_, rfl⟩
  rw [hrd] at HR hz
  have HRD := hide hrd
  clear hW0
  by_cases hl : fs.length = 1
  · by_cases hc : cd = 0
    · subst hc
      obtain ⟨⟨k, b⟩, rfl⟩ := List.length_eq_one_iff.1 hl
      have hb := hz k b (by simp)
      clear hl hz
      have hp1 := pieceR_one hrd
      by_cases hk : k = 3
      · subst hk
        rw [if_pos ⟨rfl, rfl⟩] at hp1
        obtain ⟨a, g1, p1, e1, e1', l1, m1⟩ := num_openW b 0 (by omega)
        obtain ⟨c, g2, p2, e2, e2', l2, m2⟩ := num_openW b p1 l1
        obtain ⟨x, g3, p3, e3, e3', l3, hx, m3⟩ := fld_openW b p2 l2
        have hH := bodR_is (((HasR.start.num (m1 _)).num (m2 _)).txt (m3 _))
        rw [← hp1] at hH
        have hn := rest_nil b p3 l3
        have N1 := hide (fun (W : World) (R : Nat) (h : CurA W R b 0) => number_ok R 0 b 0 W h.t0 h.t1 h.z1 (by omega) (by omega))
        have N2 := hide (fun (W : World) (R : Nat) (h : CurA W R b p1) => number_ok R 0 b p1 W h.t0 h.t1 h.z1 (by omega) l1)
        have N3 := hide (fun (W : World) (R : Nat) (h : CurA W R b p2) => field_ok R 0 b p2 W h.t0 h.t1 h.z1 (by omega) l2)
        have N4 := hide (fun (W : World) (R : Nat) (h : CurA W R b p3) => rest_ok R 0 b p3 W h.t0 h.t1 (by omega) l3)
        rw [e1, e1'] at N1
        rw [e2, e2'] at N2
        rw [e3, e3'] at N3
        generalize b.extract p3 b.size = T at N4 hn
        clear e1 e1' e2 e2' e3 e3' l1 l2 l3 m1 m2 m3 hp1 hrd
        cases g1 with
        | false =>
          have HQ : PcIs (pieceR s) false a c x := hH
          clear hH
          go_enter Try.func30, Try.ntmps30
          go_wp2_with fail
          rw [unhide HW0]
          refine (unhide HR).mono ?_
          rintro e w1 ⟨v, rfl, ho, hb1⟩
          obtain ⟨fa, fc, rfl⟩ := ownF_form ho
          obtain ⟨g, eg, lg, q0, q1, -⟩ := (ho.at rfl) 0 (by simp)
          subst eg
          simp only [Nat.zero_mul, Nat.zero_add, List.getElem_cons_zero] at q0 q1
          have HZ1 := hide ((unhide HZ0).keep hb1)
          have HB1 := hide (belOn (unhide HB0) hb1)
          have lC : w.heap.size < w1.heap.size := lt_of_cell (unhide HZ1).z0
          clear ho hb1
          obtain ⟨W2, hW2⟩ : ∃ W2, W2 = w1.alloc (.cells #[.string b, .int .i64 0] 75) := ⟨_, rfl⟩
          have HC2 := hide (show CurA W2 w1.heap.size b 0 by rw [hW2]; exact CurA.new w1 b _)
          have HZ2 := hide (show Zp W2 w.heap.size by rw [hW2]; exact (unhide HZ1).keep (bel1 _ _))
          have HB2 := hide (show Below w.heap.size w W2 by rw [hW2]; exact belOn (unhide HB1) (bel1 _ _))
          have HW2 := hide hW2.symm
          clear hW2
          go_wp2_with fail
          rw [unhide HW2]
          refine (unhide N1 _ _ (unhide HC2)).mono ?_
          rintro e w3 ⟨rfl, ho3, hc3⟩
          have HC3 := hide ((unhide HC2).only ho3 hc3)
          have HZ3 := hide ((unhide HZ2).only ho3 (by omega))
          have HB3 := hide ((unhide HB2).trans (ho3.below (B := w.heap.size) (Nat.le_of_lt lC) (unhide HB2).size))
          clear ho3 hc3
          go_wp2_with fail
          refine (unhide N2 _ _ (unhide HC3)).mono ?_
          rintro e w4 ⟨rfl, ho4, hc4⟩
          have HC4 := hide ((unhide HC3).only ho4 hc4)
          have HZ4 := hide ((unhide HZ3).only ho4 (by omega))
          have HB4 := hide ((unhide HB3).trans (ho4.below (B := w.heap.size) (Nat.le_of_lt lC) (unhide HB3).size))
          clear ho4 hc4
          go_wp2_with fail
          refine (unhide N3 _ _ (unhide HC4)).mono ?_
          rintro e w5 ⟨rfl, ho5, hc5⟩
          have HC5 := hide ((unhide HC4).only ho5 hc5)
          have hz5 := (unhide HZ4).only ho5 (by omega)
          have HB5 := hide ((unhide HB4).trans (ho5.below (B := w.heap.size) (Nat.le_of_lt lC) (unhide HB4).size))
          obtain ⟨x0, x1, x2, xf⟩ := hz5
          clear ho5 hc5 q0 q1
          go_wp2_with fail
          exact bodyPost_ret (v := piV a c x false) (by simp [results, Try.results30, go_sem, x0, x1, x2, piV]) rfl ⟨a, c, x, _, rfl, HQ, hx, three_below (unhide HB5) (Nat.le_refl _) _ _ _⟩
        | true =>
          cases g2 with
          | false =>
            have HQ : PcIs (pieceR s) false a c x := hH
            clear hH
            go_enter Try.func30, Try.ntmps30
            go_wp2_with fail
            rw [unhide HW0]
            refine (unhide HR).mono ?_
            rintro e w1 ⟨v, rfl, ho, hb1⟩
            obtain ⟨fa, fc, rfl⟩ := ownF_form ho
            obtain ⟨g, eg, lg, q0, q1, -⟩ := (ho.at rfl) 0 (by simp)
            subst eg
            simp only [Nat.zero_mul, Nat.zero_add, List.getElem_cons_zero] at q0 q1
            have HZ1 := hide ((unhide HZ0).keep hb1)
            have HB1 := hide (belOn (unhide HB0) hb1)
            have lC : w.heap.size < w1.heap.size := lt_of_cell (unhide HZ1).z0
            clear ho hb1
            obtain ⟨W2, hW2⟩ : ∃ W2, W2 = w1.alloc (.cells #[.string b, .int .i64 0] 75) := ⟨_, rfl⟩
            have HC2 := hide (show CurA W2 w1.heap.size b 0 by rw [hW2]; exact CurA.new w1 b _)
            have HZ2 := hide (show Zp W2 w.heap.size by rw [hW2]; exact (unhide HZ1).keep (bel1 _ _))
            have HB2 := hide (show Below w.heap.size w W2 by rw [hW2]; exact belOn (unhide HB1) (bel1 _ _))
            have HW2 := hide hW2.symm
            clear hW2
            go_wp2_with fail
            rw [unhide HW2]
            refine (unhide N1 _ _ (unhide HC2)).mono ?_
            rintro e w3 ⟨rfl, ho3, hc3⟩
            have HC3 := hide ((unhide HC2).only ho3 hc3)
            have HZ3 := hide ((unhide HZ2).only ho3 (by omega))
            have HB3 := hide ((unhide HB2).trans (ho3.below (B := w.heap.size) (Nat.le_of_lt lC) (unhide HB2).size))
            clear ho3 hc3
            go_wp2_with fail
            refine (unhide N2 _ _ (unhide HC3)).mono ?_
            rintro e w4 ⟨rfl, ho4, hc4⟩
            have HC4 := hide ((unhide HC3).only ho4 hc4)
            have HZ4 := hide ((unhide HZ3).only ho4 (by omega))
            have HB4 := hide ((unhide HB3).trans (ho4.below (B := w.heap.size) (Nat.le_of_lt lC) (unhide HB3).size))
            clear ho4 hc4
            go_wp2_with fail
            refine (unhide N3 _ _ (unhide HC4)).mono ?_
            rintro e w5 ⟨rfl, ho5, hc5⟩
            have HC5 := hide ((unhide HC4).only ho5 hc5)
            have hz5 := (unhide HZ4).only ho5 (by omega)
            have HB5 := hide ((unhide HB4).trans (ho5.below (B := w.heap.size) (Nat.le_of_lt lC) (unhide HB4).size))
            obtain ⟨x0, x1, x2, xf⟩ := hz5
            clear ho5 hc5 q0 q1
            go_wp2_with fail
            exact bodyPost_ret (v := piV a c x false) (by simp [results, Try.results30, go_sem, x0, x1, x2, piV]) rfl ⟨a, c, x, _, rfl, HQ, hx, three_below (unhide HB5) (Nat.le_refl _) _ _ _⟩
          | true =>
            cases g3 with
            | false =>
              have HQ : PcIs (pieceR s) false a c x := hH
              clear hH
              go_enter Try.func30, Try.ntmps30
              go_wp2_with fail
              rw [unhide HW0]
              refine (unhide HR).mono ?_
              rintro e w1 ⟨v, rfl, ho, hb1⟩
              obtain ⟨fa, fc, rfl⟩ := ownF_form ho
              obtain ⟨g, eg, lg, q0, q1, -⟩ := (ho.at rfl) 0 (by simp)
              subst eg
              simp only [Nat.zero_mul, Nat.zero_add, List.getElem_cons_zero] at q0 q1
              have HZ1 := hide ((unhide HZ0).keep hb1)
              have HB1 := hide (belOn (unhide HB0) hb1)
              have lC : w.heap.size < w1.heap.size := lt_of_cell (unhide HZ1).z0
              clear ho hb1
              obtain ⟨W2, hW2⟩ : ∃ W2, W2 = w1.alloc (.cells #[.string b, .int .i64 0] 75) := ⟨_, rfl⟩
              have HC2 := hide (show CurA W2 w1.heap.size b 0 by rw [hW2]; exact CurA.new w1 b _)
              have HZ2 := hide (show Zp W2 w.heap.size by rw [hW2]; exact (unhide HZ1).keep (bel1 _ _))
              have HB2 := hide (show Below w.heap.size w W2 by rw [hW2]; exact belOn (unhide HB1) (bel1 _ _))
              have HW2 := hide hW2.symm
              clear hW2
              go_wp2_with fail
              rw [unhide HW2]
              refine (unhide N1 _ _ (unhide HC2)).mono ?_
              rintro e w3 ⟨rfl, ho3, hc3⟩
              have HC3 := hide ((unhide HC2).only ho3 hc3)
              have HZ3 := hide ((unhide HZ2).only ho3 (by omega))
              have HB3 := hide ((unhide HB2).trans (ho3.below (B := w.heap.size) (Nat.le_of_lt lC) (unhide HB2).size))
              clear ho3 hc3
              go_wp2_with fail
              refine (unhide N2 _ _ (unhide HC3)).mono ?_
              rintro e w4 ⟨rfl, ho4, hc4⟩
              have HC4 := hide ((unhide HC3).only ho4 hc4)
              have HZ4 := hide ((unhide HZ3).only ho4 (by omega))
              have HB4 := hide ((unhide HB3).trans (ho4.below (B := w.heap.size) (Nat.le_of_lt lC) (unhide HB3).size))
              clear ho4 hc4
              go_wp2_with fail
              refine (unhide N3 _ _ (unhide HC4)).mono ?_
              rintro e w5 ⟨rfl, ho5, hc5⟩
              have HC5 := hide ((unhide HC4).only ho5 hc5)
              have hz5 := (unhide HZ4).only ho5 (by omega)
              have HB5 := hide ((unhide HB4).trans (ho5.below (B := w.heap.size) (Nat.le_of_lt lC) (unhide HB4).size))
              obtain ⟨x0, x1, x2, xf⟩ := hz5
              clear ho5 hc5 q0 q1
              go_wp2_with fail
              exact bodyPost_ret (v := piV a c x false) (by simp [results, Try.results30, go_sem, x0, x1, x2, piV]) rfl ⟨a, c, x, _, rfl, HQ, hx, three_below (unhide HB5) (Nat.le_refl _) _ _ _⟩
            | true =>
              by_cases hT : T.toList = []
              · rw [decide_eq_true (hn.1 hT)] at hH
                have HQ : PcIs (pieceR s) (decide (a < c)) a c x := hH
                clear hH hn
                go_enter Try.func30, Try.ntmps30
                go_wp2_with fail
                rw [unhide HW0]
                refine (unhide HR).mono ?_
                rintro e w1 ⟨v, rfl, ho, hb1⟩
                obtain ⟨fa, fc, rfl⟩ := ownF_form ho
                obtain ⟨g, eg, lg, q0, q1, -⟩ := (ho.at rfl) 0 (by simp)
                subst eg
                simp only [Nat.zero_mul, Nat.zero_add, List.getElem_cons_zero] at q0 q1
                have HZ1 := hide ((unhide HZ0).keep hb1)
                have HB1 := hide (belOn (unhide HB0) hb1)
                have lC : w.heap.size < w1.heap.size := lt_of_cell (unhide HZ1).z0
                clear ho hb1
                obtain ⟨W2, hW2⟩ : ∃ W2, W2 = w1.alloc (.cells #[.string b, .int .i64 0] 75) := ⟨_, rfl⟩
                have HC2 := hide (show CurA W2 w1.heap.size b 0 by rw [hW2]; exact CurA.new w1 b _)
                have HZ2 := hide (show Zp W2 w.heap.size by rw [hW2]; exact (unhide HZ1).keep (bel1 _ _))
                have HB2 := hide (show Below w.heap.size w W2 by rw [hW2]; exact belOn (unhide HB1) (bel1 _ _))
                have HW2 := hide hW2.symm
                clear hW2
                go_wp2_with fail
                rw [unhide HW2]
                refine (unhide N1 _ _ (unhide HC2)).mono ?_
                rintro e w3 ⟨rfl, ho3, hc3⟩
                have HC3 := hide ((unhide HC2).only ho3 hc3)
                have HZ3 := hide ((unhide HZ2).only ho3 (by omega))
                have HB3 := hide ((unhide HB2).trans (ho3.below (B := w.heap.size) (Nat.le_of_lt lC) (unhide HB2).size))
                clear ho3 hc3
                go_wp2_with fail
                refine (unhide N2 _ _ (unhide HC3)).mono ?_
                rintro e w4 ⟨rfl, ho4, hc4⟩
                have HC4 := hide ((unhide HC3).only ho4 hc4)
                have HZ4 := hide ((unhide HZ3).only ho4 (by omega))
                have HB4 := hide ((unhide HB3).trans (ho4.below (B := w.heap.size) (Nat.le_of_lt lC) (unhide HB3).size))
                clear ho4 hc4
                go_wp2_with fail
                refine (unhide N3 _ _ (unhide HC4)).mono ?_
                rintro e w5 ⟨rfl, ho5, hc5⟩
                have HC5 := hide ((unhide HC4).only ho5 hc5)
                have hz5 := (unhide HZ4).only ho5 (by omega)
                have HB5 := hide ((unhide HB4).trans (ho5.below (B := w.heap.size) (Nat.le_of_lt lC) (unhide HB4).size))
                obtain ⟨x0, x1, x2, xf⟩ := hz5
                clear ho5 hc5 q0 q1
                go_wp2_with fail
                refine (unhide N4 _ _ (unhide HC5)).mono ?_
                rintro e w6 ⟨rfl, k6, rfl⟩
                go_wp2_with fail
                exact bodyPost_ret (v := piV a c x (decide (a < c))) (by simp [results, Try.results30, go_sem, x0, x1, x2, piV]) rfl ⟨a, c, x, _, rfl, HQ, hx, three_below (show Below w.heap.size w (w5.drewN k6) from ⟨(unhide HB5).os, (unhide HB5).tape, (unhide HB5).output, (unhide HB5).size, (unhide HB5).block⟩) (Nat.le_refl _) _ _ _⟩
              · rw [decide_eq_false (fun q => hT (hn.2 q))] at hH
                have HQ : PcIs (pieceR s) false a c x := hH
                have hT2 : T.toList.isEmpty = false := by simpa using hT
                clear hH hn
                go_enter Try.func30, Try.ntmps30
                go_wp2_with fail
                rw [unhide HW0]
                refine (unhide HR).mono ?_
                rintro e w1 ⟨v, rfl, ho, hb1⟩
                obtain ⟨fa, fc, rfl⟩ := ownF_form ho
                obtain ⟨g, eg, lg, q0, q1, -⟩ := (ho.at rfl) 0 (by simp)
                subst eg
                simp only [Nat.zero_mul, Nat.zero_add, List.getElem_cons_zero] at q0 q1
                have HZ1 := hide ((unhide HZ0).keep hb1)
                have HB1 := hide (belOn (unhide HB0) hb1)
                have lC : w.heap.size < w1.heap.size := lt_of_cell (unhide HZ1).z0
                clear ho hb1
                obtain ⟨W2, hW2⟩ : ∃ W2, W2 = w1.alloc (.cells #[.string b, .int .i64 0] 75) := ⟨_, rfl⟩
                have HC2 := hide (show CurA W2 w1.heap.size b 0 by rw [hW2]; exact CurA.new w1 b _)
                have HZ2 := hide (show Zp W2 w.heap.size by rw [hW2]; exact (unhide HZ1).keep (bel1 _ _))
                have HB2 := hide (show Below w.heap.size w W2 by rw [hW2]; exact belOn (unhide HB1) (bel1 _ _))
                have HW2 := hide hW2.symm
                clear hW2
                go_wp2_with fail
                rw [unhide HW2]
                refine (unhide N1 _ _ (unhide HC2)).mono ?_
                rintro e w3 ⟨rfl, ho3, hc3⟩
                have HC3 := hide ((unhide HC2).only ho3 hc3)
                have HZ3 := hide ((unhide HZ2).only ho3 (by omega))
                have HB3 := hide ((unhide HB2).trans (ho3.below (B := w.heap.size) (Nat.le_of_lt lC) (unhide HB2).size))
                clear ho3 hc3
                go_wp2_with fail
                refine (unhide N2 _ _ (unhide HC3)).mono ?_
                rintro e w4 ⟨rfl, ho4, hc4⟩
                have HC4 := hide ((unhide HC3).only ho4 hc4)
                have HZ4 := hide ((unhide HZ3).only ho4 (by omega))
                have HB4 := hide ((unhide HB3).trans (ho4.below (B := w.heap.size) (Nat.le_of_lt lC) (unhide HB3).size))
                clear ho4 hc4
                go_wp2_with fail
                refine (unhide N3 _ _ (unhide HC4)).mono ?_
                rintro e w5 ⟨rfl, ho5, hc5⟩
                have HC5 := hide ((unhide HC4).only ho5 hc5)
                have hz5 := (unhide HZ4).only ho5 (by omega)
                have HB5 := hide ((unhide HB4).trans (ho5.below (B := w.heap.size) (Nat.le_of_lt lC) (unhide HB4).size))
                obtain ⟨x0, x1, x2, xf⟩ := hz5
                clear ho5 hc5 q0 q1
                go_wp2_with fail
                refine (unhide N4 _ _ (unhide HC5)).mono ?_
                rintro e w6 ⟨rfl, k6, rfl⟩
                go_wp2_with fail
                exact bodyPost_ret (v := piV a c x false) (by simp [results, Try.results30, go_sem, x0, x1, x2, piV]) rfl ⟨a, c, x, _, rfl, HQ, hx, three_below (show Below w.heap.size w (w5.drewN k6) from ⟨(unhide HB5).os, (unhide HB5).tape, (unhide HB5).output, (unhide HB5).size, (unhide HB5).block⟩) (Nat.le_refl _) _ _ _⟩
      · rw [if_neg (fun q => hk q.2)] at hp1
        have hpc : PcIs (pieceR s) false 0 0 ⟨#[]⟩ := .inl ⟨rfl, hp1⟩
        clear hp1 hrd
        go_enter Try.func30, Try.ntmps30
        go_wp2_with fail
        rw [unhide HW0]
        refine (unhide HR).mono ?_
        rintro e w1 ⟨v, rfl, ho, hb1⟩
        obtain ⟨fa, fc, rfl⟩ := ownF_form ho
        obtain ⟨g, eg, lg, q0, q1, -⟩ := (ho.at rfl) 0 (by simp)
        subst eg
        simp only [Nat.zero_mul, Nat.zero_add, List.getElem_cons_zero] at q0 q1
        obtain ⟨x0, x1, x2, xf⟩ := (unhide HZ0).keep hb1
        have HB1 := hide (belOn (unhide HB0) hb1)
        clear ho hb1
        go_wp2_with fail
        exact bodyPost_ret (v := piV 0 0 ⟨#[]⟩ false) (by simp [results, Try.results30, go_sem, x0, x1, x2, piV]) rfl ⟨0, 0, ⟨#[]⟩, _, rfl, hpc, by decide, three_below (unhide HB1) (Nat.le_refl _) _ _ _⟩
    · obtain ⟨⟨k, b⟩, rfl⟩ := List.length_eq_one_iff.1 hl
      have hpc : PcIs (pieceR s) false 0 0 ⟨#[]⟩ := .inl ⟨rfl, by rw [pieceR_one hrd, if_neg (fun q => hc q.1)]⟩
      clear hrd hz hl
      go_enter Try.func30, Try.ntmps30
      go_wp2_with fail
      rw [unhide HW0]
      refine (unhide HR).mono ?_
      rintro e w1 ⟨v, rfl, ho, hb1⟩
      obtain ⟨fa, fc, rfl⟩ := ownF_form ho
      skip
      obtain ⟨x0, x1, x2, xf⟩ := (unhide HZ0).keep hb1
      have HB1 := hide (belOn (unhide HB0) hb1)
      clear ho hb1
      go_wp2_with fail
      exact bodyPost_ret (v := piV 0 0 ⟨#[]⟩ false) (by simp [results, Try.results30, go_sem, x0, x1, x2, piV]) rfl ⟨0, 0, ⟨#[]⟩, _, rfl, hpc, by decide, three_below (unhide HB1) (Nat.le_refl _) _ _ _⟩
  · have hpc : PcIs (pieceR s) false 0 0 ⟨#[]⟩ := .inl ⟨rfl, pieceR_len hrd hl⟩
    obtain ⟨n, hn⟩ : ∃ n, fs.length = n := ⟨_, rfl⟩
    rw [hn] at hl
    have HN := hide hn
    have hl2 : ¬ (n : Int) = 1 := by omega
    clear hrd hn hz
    go_enter Try.func30, Try.ntmps30
    go_wp2_with fail
    rw [unhide HW0]
    refine (unhide HR).mono ?_
    rintro e w1 ⟨v, rfl, ho, hb1⟩
    obtain ⟨fa, fc, rfl⟩ := ownF_form ho
    rw [unhide HN]
    obtain ⟨x0, x1, x2, xf⟩ := (unhide HZ0).keep hb1
    have HB1 := hide (belOn (unhide HB0) hb1)
    clear ho hb1
    go_wp2_with fail
    exact bodyPost_ret (v := piV 0 0 ⟨#[]⟩ false) (by simp [results, Try.results30, go_sem, x0, x1, x2, piV]) rfl ⟨0, 0, ⟨#[]⟩, _, rfl, hpc, by decide, three_below (unhide HB1) (Nat.le_refl _) _ _ _⟩

end Go.Proofs.Ytnkjdojpegmlcaa


/- The program's table of pieces: a map from a place to its piece. -/
namespace Go.Proofs.Ytnkjdojpegmlcaa
open Go.RowKit Go.Maps Plain
set_option linter.unusedVariables false

namespace Plain
def pcD (a c : Int) (d : ByteArray) : DataW Unit := .agg [.lit (.int .i64 a), .lit (.int .i64 c), .lit (.string d.data.toList)]
def pcElem (v : Value) : Option (DataW Unit × List MemPlace) := match v with
  | .agg cs => match cs.toList with
    | [.int .i64 a, .int .i64 c, .string d] => some (pcD a c d, [])
    | _ => none
  | _ => none
def pcA (a c : Int) (d : ByteArray) : Value := .agg #[.int .i64 a, .int .i64 c, .string d]
theorem pcElem_mk (a c : Int) (d : ByteArray) : pcElem (pcA a c d) = some (pcD a c d, []) := rfl
theorem pcElem_inv {v : Value} {a c : Int} {d : ByteArray} {ps : List MemPlace} (h : pcElem v = some (pcD a c d, ps)) : v = pcA a c d := by
  unfold pcElem at h
  split at h
  · next cs =>
    split at h
    · next a' c' d' hcs =>
      simp [pcD] at h
      obtain ⟨⟨h1, h2, h3⟩, _⟩ := h
      have e3 : d' = d := ByteArray.ext h3
      subst h1 h2 e3
      unfold pcA
      congr 1
      exact Array.toList_inj.1 hcs
    · simp at h
  · simp at h
def keyN (a : Int) : Lit := .int .i64 a
theorem keyN_ok (a : Int) : WideAt.IsKeyLit (keyN a) := trivial
theorem keyN_inj {a b : Int} (h : keyN a = keyN b) : a = b := by
  unfold keyN at h
  simpa using h
/-- What is read of the table: at each place a piece or none. -/
def TabN (D : DataW Unit) (f : Int → Option (Int × ByteArray)) : Prop := ∀ n, match f n with
  | none => Maps.has D (keyN n) = false
  | some y => Maps.has D (keyN n) = true ∧ ∀ z, D.atKey (keyN n) z = pcD n y.1 y.2
def updN (f : Int → Option (Int × ByteArray)) (n : Int) (y : Int × ByteArray) : Int → Option (Int × ByteArray) := fun x => if x = n then some y else f x
theorem TabN.put {D : DataW Unit} {f : Int → Option (Int × ByteArray)} (h : TabN D f) (hm : IsMap D) (n : Int) (y : Int × ByteArray) : TabN (D.put (keyN n) (pcD n y.1 y.2)) (updN f n y) := by
  intro x
  unfold updN
  by_cases e : x = n
  · subst e
    rw [if_pos rfl]
    exact ⟨has_put_same hm (keyN_ok x) _, fun z => atKey_put_same hm (keyN_ok x) _ z⟩
  · rw [if_neg e]
    have hne : keyN x ≠ keyN n := fun h => e (keyN_inj h)
    have hx := h x
    cases hf : f x with
    | none => rw [hf] at hx; exact (has_put_other hne _).trans hx
    | some y => rw [hf] at hx; exact ⟨(has_put_other hne _).trans hx.1, fun z => (atKey_put_other hne _ z).trans (hx.2 z)⟩
theorem TabN.has {D : DataW Unit} {f : Int → Option (Int × ByteArray)} (h : TabN D f) (n : Int) : Maps.has D (keyN n) = (f n).isSome := by
  have hx := h n
  cases hf : f n with
  | none => rw [hf] at hx; exact hx
  | some y => rw [hf] at hx; exact hx.1
/-- The table at b has n pieces, f. -/
def PTab (W : World) (b n : Nat) (f : Int → Option (Int × ByteArray)) : Prop := ∃ D m, m ≤ 100000 ∧ W.ownsMap Try.prog 2 pcElem b m D ∧ Maps.size D = n ∧ TabN D f
def pcAt (f : Int → Option (Int × ByteArray)) (a : Int) : Value := match f a with
  | none => pcA 0 0 ⟨#[]⟩
  | some y => pcA a y.1 y.2
theorem PTab.lt {W : World} {b n : Nat} {f : Int → Option (Int × ByteArray)} (h : PTab W b n f) : b < W.heap.size := by
  obtain ⟨D, m, _, ⟨es, clock, h1, _⟩, _⟩ := h
  rcases Nat.lt_or_ge b W.heap.size with q | q
  · exact q
  · rw [Array.getElem?_eq_none q] at h1; cases h1
theorem PTab.keep {W W' : World} {b n : Nat} {f : Int → Option (Int × ByteArray)} (h : PTab W b n f) (hb : Below W.heap.size W W') : PTab W' b n f := by
  have l := h.lt
  obtain ⟨D, m, hm, ⟨es, clock, h1, h2⟩, h3⟩ := h
  exact ⟨D, m, hm, ⟨es, clock, (hb.block b l).trans h1, h2⟩, h3⟩
end Plain
theorem law_int : Keyed Try.prog 2 := int_keyed Try.underlying2
theorem zeroP (w : World) : (zeroValue 54).run Try.prog w = .ok (pcA 0 0 ⟨#[]⟩) w := by kernel_rfl
theorem Plain.PTab.look {W : World} {b n : Nat} {f : Int → Option (Int × ByteArray)} (h : PTab W b n f) {a : Int} (ha : (Lit.int .i64 a).wf = true) : (Instr.lookup 55 (.map (some b)) (.int .i64 a) false).run Try.prog W = .ok (pcAt f a) W := by
  obtain ⟨D, m, _, hown, _, hD⟩ := h
  obtain ⟨v, ps, hrun, hv⟩ := hown.lookup law_int Try.underlying55 (zeroP W) (pcElem_mk 0 0 ⟨#[]⟩) (keyOf_int_mk Try.underlying2 ha)
  rw [hrun]
  have hx := hD a
  unfold pcAt
  cases hf : f a with
  | none =>
    rw [hf] at hx
    rw [show D.atKey (.int .i64 a) (pcD 0 0 ⟨#[]⟩) = pcD 0 0 ⟨#[]⟩ from atKey_of_not_has hx _] at hv
    rw [pcElem_inv hv]
  | some y =>
    rw [hf] at hx
    rw [show D.atKey (.int .i64 a) (pcD 0 0 ⟨#[]⟩) = pcD a y.1 y.2 from hx.2 _] at hv
    rw [pcElem_inv hv]
theorem Plain.PTab.look_ok {W : World} {b n : Nat} {f : Int → Option (Int × ByteArray)} (h : PTab W b n f) {a : Int} (ha : (Lit.int .i64 a).wf = true) : (Instr.lookup 55 (.map (some b)) (.int .i64 a) true).run Try.prog W = .ok (.tuple #[pcAt f a, .bool (f a).isSome]) W := by
  obtain ⟨D, m, _, hown, _, hD⟩ := h
  obtain ⟨v, ps, hrun, hv⟩ := hown.look_ok law_int Try.underlying55 (zeroP W) (pcElem_mk 0 0 ⟨#[]⟩) (keyOf_int_mk Try.underlying2 ha)
  rw [hrun, show Maps.has D (.int .i64 a) = (f a).isSome from hD.has a]
  have hx := hD a
  unfold pcAt
  cases hf : f a with
  | none =>
    rw [hf] at hx
    rw [show D.atKey (.int .i64 a) (pcD 0 0 ⟨#[]⟩) = pcD 0 0 ⟨#[]⟩ from atKey_of_not_has hx _] at hv
    rw [pcElem_inv hv]
  | some y =>
    rw [hf] at hx
    rw [show D.atKey (.int .i64 a) (pcD 0 0 ⟨#[]⟩) = pcD a y.1 y.2 from hx.2 _] at hv
    rw [pcElem_inv hv]
theorem Plain.PTab.len {W : World} {b n : Nat} {f : Int → Option (Int × ByteArray)} (h : PTab W b n f) (ty : TypeId) : (Builtin.len_ #[55] ty #[.map (some b)]).run Try.prog W = .ok (.int .i64 n) W := by
  obtain ⟨D, m, _, hown, hs, _⟩ := h
  rw [hown.len Try.underlying55 ty, hs]
theorem Plain.PTab.made (w : World) : PTab (w.alloc (.map #[] 0)) w.heap.size 0 (fun _ => none) :=
  ⟨_, 0, by decide, World.ownsMap_made w Try.prog 2 pcElem, rfl, fun n => rfl⟩
theorem make_pt (w : World) : (Instr.makeMap 55 none).run Try.prog w = .ok (.map (some w.heap.size)) (w.alloc (.map #[] 0)) := by
  simp [Instr.makeMap]
/-- 'm[a] = p'. -/
theorem Plain.PTab.upd {w : World} {b n : Nat} {f : Int → Option (Int × ByteArray)} (h : PTab w b n f) (pl cn : Int) (dt : ByteArray) (hn : n ≤ 5000) (hw : (Lit.int .i64 pl).wf = true) :
    ∃ w', (Instr.mapUpdate 55 (.map (some b)) (.int .i64 pl) (.agg #[.int .i64 pl, .int .i64 cn, .string dt])).run Try.prog w = .ok () w' ∧ PTab w' b (if (f pl).isSome then n else n + 1) (updN f pl (cn, dt)) ∧ w.grownBy w' (some b) := by
  obtain ⟨D, k, hk, hown, hs, hD⟩ := h
  obtain ⟨es, clock, e1, e2, e3, e4⟩ := hown
  have hsz : Maps.size D = es.size := by rw [e4]; simp [Maps.size, length_sorted]
  have hown : w.ownsMap Try.prog 2 pcElem b n D := ⟨es, clock, e1, e2, by omega, e4⟩
  obtain ⟨w', hrun, r1, r2⟩ := hown.update law_int Try.underlying55 (by unfold maxLen; omega) (keyOf_int_mk Try.underlying2 hw) (pcElem_mk pl cn dt)
  refine ⟨w', hrun, ⟨_, n + 1, by omega, r1, ?_, hD.put hown.isMap pl (cn, dt)⟩, r2⟩
  rw [size_put (hown.tidy law_int), show Maps.has D (.int .i64 pl) = (f pl).isSome from hD.has pl, hs]
end Go.Proofs.Ytnkjdojpegmlcaa


/- Pieces put together again, by the program. -/
namespace Go.Proofs.Ytnkjdojpegmlcaa
open Go.RowKit Go.Maps Plain
set_option linter.unusedVariables false

namespace Plain
theorem stp_range {s : ByteArray} {p q : Nat} {v : Int} (h : stp s p = some (v, q)) : 0 ≤ v ∧ v ≤ 1000000000000 := by
  unfold stp at h
  cases ht : tkN s p with
  | none => rw [ht] at h; simp at h
  | some y =>
    obtain ⟨n, l⟩ := y
    have := tkN_le ht
    rw [ht] at h
    simp at h
    omega
theorem bodR_range {b : ByteArray} {a c : Int} {x : ByteArray} (h : bodR b = some (a, c, x)) : (0 ≤ a ∧ a ≤ 1000000000000) ∧ (0 ≤ c ∧ c ≤ 1000000000000) ∧ x.size ≤ 20000 := by
  unfold bodR at h
  split at h
  · cases h
  · next u a' c' x' p he =>
    split at h
    · obtain ⟨rfl, rfl, rfl⟩ : a' = a ∧ c' = c ∧ x' = x := by simpa using h
      unfold stT stN at he
      simp only [Option.bind_eq_some_iff, Option.map_eq_some_iff] at he
      obtain ⟨⟨⟨u2, c2⟩, p2⟩, ⟨⟨⟨u1, a1⟩, p1⟩, ⟨y0, h0, ⟨v0, q0⟩, e0, k0⟩, ⟨v1, q1⟩, e1, k1⟩, ⟨v2, q2⟩, e2, k2⟩ := he
      simp at k0 k1 k2
      obtain ⟨⟨_, rfl⟩, rfl⟩ := k0
      obtain ⟨⟨⟨_, rfl⟩, rfl⟩, rfl⟩ := k1
      obtain ⟨⟨⟨⟨_, rfl⟩, rfl⟩, rfl⟩, rfl⟩ := k2
      exact ⟨stp_range e0, stp_range e1, txp_size e2⟩
    · cases h
theorem pieceR_range {s : ByteArray} {a c : Int} {x : ByteArray} (h : pieceR s = some (a, c, x)) : (0 ≤ a ∧ a ≤ 1000000000000) ∧ (0 ≤ c ∧ c ≤ 1000000000000) ∧ x.size ≤ 20000 := by
  unfold pieceR at h
  split at h
  · split at h
    · exact bodR_range h
    · cases h
  · cases h
theorem run_small (s : ByteArray) : ∀ (f p done : Nat) (k : Int) (b : ByteArray), (k, b) ∈ (run s f p done).1 → b.size ≤ s.size := by
  intro f
  induction f with
  | zero => intro p done k b h; simp [run] at h
  | succ f ih =>
    intro p done k b h
    rw [run] at h
    split at h
    · simp at h
    · split at h
      · simp at h
      · split at h
        · simp at h
        · rcases List.mem_cons.1 h with e | e
          · have : b = frB (s.extract p s.size) := congrArg Prod.snd e
            rw [this]
            unfold frB
            rw [ByteArray.size_extract, ByteArray.size_extract]
            omega
          · exact ih _ _ k b e
theorem readF_small (s : ByteArray) (k : Int) (b : ByteArray) (h : (k, b) ∈ (readF s).1) : b.size ≤ s.size := run_small s 2001 0 0 k b h
/-- The table of what is known. -/
def lkF (L : List (Int × ByteArray)) (c : Int) : Int → Option (Int × ByteArray) := fun a => (lk L a).map fun x => (c, x)
theorem lkF_new {L : List (Int × ByteArray)} {c : Int} {a : Int} {x : ByteArray} (h : lk L a = none) : updN (lkF L c) a (c, x) = lkF (L ++ [(a, x)]) c := by
  funext y
  unfold updN lkF
  rw [lk_snoc]
  by_cases e : y = a
  · subst e; rw [if_pos rfl, h]; simp
  · rw [if_neg e]
    cases lk L y with
    | none => simp; exact fun q => e q.symm
    | some z => rfl
theorem lkF_old {L : List (Int × ByteArray)} {c : Int} {a : Int} {x : ByteArray} (h : lk L a = some x) : updN (lkF L c) a (c, x) = lkF L c := by
  funext y
  unfold updN lkF
  by_cases e : y = a
  · subst e; rw [if_pos rfl, h]; rfl
  · rw [if_neg e]
/-- All texts are short. -/
def ShortL (L : List (Int × ByteArray)) : Prop := ∀ a x, lk L a = some x → x.size ≤ 20000
theorem ShortL.snoc {L : List (Int × ByteArray)} (h : ShortL L) {a : Int} {x : ByteArray} (hx : x.size ≤ 20000) : ShortL (L ++ [(a, x)]) := by
  intro b y hy
  rw [lk_snoc] at hy
  cases hb : lk L b with
  | none =>
    rw [hb] at hy
    by_cases e : a = b
    · have : x = y := by simpa [e] using hy
      rw [← this]; exact hx
    · simp [e] at hy
  | some z =>
    rw [hb] at hy
    have : z = y := by simpa using hy
    rw [← this]; exact h b z hb
theorem joinL_size {L : List (Int × ByteArray)} (h : ShortL L) : ∀ n, (joinL L n).size ≤ n * 20000 := by
  intro n
  induction n with
  | zero => exact Nat.le_refl _
  | succ n ih =>
    rw [joinL, ByteArray.size_append]
    have : ((lk L n).getD ⟨#[]⟩).size ≤ 20000 := by
      cases hl : lk L n with
      | none => exact Nat.zero_le _
      | some x => exact h _ x hl
    omega
end Plain

theorem field_data (a c : Int) (d : ByteArray) (W : World) : (Instr.field 54 (.agg #[.int .i64 a, .int .i64 c, .string d]) 2).run Try.prog W = .ok (.string d) W := by
  simp [Instr.field, go_sem, run_underlying Try.underlying54, asAgg]

set_option maxRecDepth 10000 in
set_option maxHeartbeats 2000000 in
theorem joined_calls (b : Nat) (L : List (Int × ByteArray)) (c : Int) (w : World) (h : PTab w b L.length (lkF L c)) (hl : L.length ≤ 2000) (hsh : ShortL L) :
    Calls Try.prog 31 #[.map (some b)] w fun e w' => e = .returned (.string (joinL L L.length)) ∧ Below w.heap.size w w' := by
  obtain ⟨n, hn⟩ : ∃ n, L.length = n := ⟨_, rfl⟩
  rw [hn] at h hl ⊢
  obtain ⟨W0, hW0⟩ : ∃ W0, W0 = w.alloc (.cells #[.pointer none, .slice none 0 0] 81) := ⟨_, rfl⟩
  have hb0 : Below w.heap.size w W0 := by rw [hW0]; exact bel1 _ _
  have hlen := fun ty => (h.keep hb0).len ty
  have HH := hide h
  have HS := hide hsh
  have HF := hide (show Lib.IsBuilder 81 5 w.heap.size w.heap.size (Lib.byteCells (joinL L 0).data.toList) W0 from .inl ⟨Nat.le_refl _, .slice none 0 0, by rw [hW0]; exact (MapKept.heap_alloc w _).1, World.ownsRow_nil _ _ _ _, by simp [Value.ownBlock]⟩)
  have HB0 := hide hb0
  have HW0 := hide hW0.symm
  rw [hW0] at hlen
  clear h hb0 hW0 hn hsh
  go_enter Try.func31, Try.ntmps31
  go_wp2_with fail
  rw [unhide HW0]
  clear hlen
  go_loopw [7] (fun i wr => ∃ k : Nat, i = .int .i64 k ∧ k ≤ n ∧ Hid (Lib.IsBuilder 81 5 w.heap.size w.heap.size (Lib.byteCells (joinL L k).data.toList) wr) ∧ Hid (Below w.heap.size w wr)) (fun i _ => n - (intOf i).toNat)
  case atStart => exact ⟨0, rfl, by omega, HF, HB0⟩
  case round =>
    clear HF HB0
    obtain ⟨k, rfl, hk, HF, HB⟩ := hrel
    by_cases hkn : k < n
    · have hwf : (Lit.int .i64 (k : Int)).wf = true := Go.WalkArith.wf_i64 ⟨by omega, by omega⟩
      have hlook := ((unhide HH).keep (unhide HB)).look hwf
      obtain ⟨a', c', hpc⟩ : ∃ a' c', pcAt (lkF L c) (k : Int) = pcA a' c' ((lk L k).getD ⟨#[]⟩) := by
        unfold pcAt lkF
        cases lk L (k : Int) with
        | none => exact ⟨0, 0, rfl⟩
        | some x => exact ⟨_, _, rfl⟩
      rw [hpc] at hlook
      unfold pcA at hlook
      have hsz : ((lk L (k : Int)).getD ⟨#[]⟩).size ≤ 20000 := by
        cases hq : lk L (k : Int) with
        | none => exact Nat.zero_le _
        | some x => exact unhide HS _ x hq
      have hjs := joinL_size (unhide HS) k
      have HST := hide (show Lib.byteCells (joinL L k).data.toList ++ Lib.strCells ((lk L (k : Int)).getD ⟨#[]⟩) = Lib.byteCells (joinL L (k + 1)).data.toList from by rw [joinL, Lib.strCells_eq]; simp [Lib.byteCells])
      have hz := (unhide HB).size
      have HWS := hide (WriteString_calls w.heap.size w.heap.size _ ((lk L (k : Int)).getD ⟨#[]⟩) wr (unhide HF) (by rw [Lib.byteCells_length, Array.length_toList]; show (joinL L k).size + _ ≤ _; omega) hz)
      rw [unhide HST] at HWS
      generalize (lk L (k : Int)).getD ⟨#[]⟩ = d at hlook HWS
      have i1 : (k : Int) < (n : Int) := by omega
      have hfd := fun W => field_data a' c' d W
      clear hpc hsz hjs HST hwf
      go_wp2_with fail
      refine (unhide HWS).mono ?_
      rintro e w2 ⟨rfl, hF2, hb2⟩
      have HF2 := hide (show Lib.IsBuilder 81 5 w.heap.size w.heap.size (Lib.byteCells (joinL L (k + 1)).data.toList) w2 from .inr hF2)
      have HB2 := hide ((unhide HB).trans hb2)
      clear hF2 hb2 hlook hfd
      go_wp2_with fail
      go_roundw
      case rel => exact ⟨k + 1, by go_num, by omega, HF2, HB2⟩
      case measure => simp [intOf]; omega
    · obtain rfl : k = n := by omega
      have hz := (unhide HB).size
      have HS2 := hide (BString_calls w.heap.size w.heap.size _ wr (unhide HF) hz)
      rw [show (⟨((joinL L k).data.toList).toArray⟩ : ByteArray) = joinL L k from by simp] at HS2
      clear HF
      go_wp2_with fail
      refine (unhide HS2).mono ?_
      rintro e w2 ⟨rfl, hb2⟩
      have HB2 := hide ((unhide HB).trans hb2)
      clear hb2
      go_wp2_with fail
      go_ret
      exact ⟨rfl, unhide HB2⟩
end Go.Proofs.Ytnkjdojpegmlcaa


/- Whole of the program. -/
namespace Go.Proofs.Ytnkjdojpegmlcaa
open Go.RowKit Go.Maps Plain
set_option linter.unusedVariables false

namespace Plain
theorem whS_none {i : Nat} {c : Int} {L : List (Int × ByteArray)} {s : ByteArray} (h : pieceR s = none) : whS i c L s = none := by unfold whS; rw [h]
theorem whS_count {i : Nat} {c a n : Int} {L : List (Int × ByteArray)} {s x : ByteArray} (h : pieceR s = some (a, n, x)) (h2 : 0 < i ∧ n ≠ c) : whS i c L s = none := by unfold whS; rw [h]; exact if_pos h2
theorem whS_new {i : Nat} {c a n : Int} {L : List (Int × ByteArray)} {s x : ByteArray} (h : pieceR s = some (a, n, x)) (h2 : ¬ (0 < i ∧ n ≠ c)) (hl : lk L a = none) : whS i c L s = some (n, L ++ [(a, x)]) := by
  unfold whS
  rw [h]
  show (if 0 < i ∧ n ≠ c then none else _) = _
  rw [if_neg h2, hl]
theorem whS_old {i : Nat} {c a n : Int} {L : List (Int × ByteArray)} {s x y : ByteArray} (h : pieceR s = some (a, n, x)) (h2 : ¬ (0 < i ∧ n ≠ c)) (hl : lk L a = some y) : whS i c L s = if y = x then some (n, L) else none := by
  unfold whS
  rw [h]
  show (if 0 < i ∧ n ≠ c then none else _) = _
  rw [if_neg h2, hl]
theorem whG_step {ps : List ByteArray} {k : Nat} {c : Int} {L : List (Int × ByteArray)} {s : ByteArray} (hk : k < ps.length) (hs : ps[k] = s) : whG k c L (ps.drop k) = match whS k c L s with | none => none | some (n, M) => whG (k + 1) n M (ps.drop (k + 1)) := by
  rw [List.drop_eq_getElem_cons hk, whG, hs]
  cases whS k c L s <;> rfl
/-- What is known of the state of a reading. -/
structure WhSt (ps : List ByteArray) (k : Nat) (c : Int) (L : List (Int × ByteArray)) : Prop where
  run : whG k c L (ps.drop k) = whG 0 0 [] ps
  len : L.length ≤ k
  nil : k = 0 → L = []
  nod : (L.map (·.1)).Nodup
  sh : ShortL L
  cr : 0 ≤ c ∧ c ≤ 1000000000000
theorem WhSt.start (ps : List ByteArray) : WhSt ps 0 0 [] := ⟨rfl, Nat.le_refl _, fun _ => rfl, List.nodup_nil, fun a x h => (by cases h), by omega⟩
theorem WhSt.new {ps : List ByteArray} {k : Nat} {c a n : Int} {L : List (Int × ByteArray)} {s x : ByteArray} (h : WhSt ps k c L) (hk : k < ps.length) (hs : ps[k] = s) (hp : pieceR s = some (a, n, x)) (h2 : ¬ (0 < k ∧ n ≠ c)) (hl : lk L a = none) : WhSt ps (k + 1) n (L ++ [(a, x)]) := by
  have hr := pieceR_range hp
  have := h.len
  refine ⟨?_, by simp; omega, by omega, ?_, h.sh.snoc hr.2.2, hr.2.1⟩
  · rw [← h.run, whG_step hk hs, whS_new hp h2 hl]
  · rw [List.map_append, List.nodup_append]
    refine ⟨h.nod, by simp, ?_⟩
    intro u hu v hv e
    simp at hv
    subst hv
    rw [e] at hu
    exact lk_none hl hu
theorem WhSt.old {ps : List ByteArray} {k : Nat} {c a n : Int} {L : List (Int × ByteArray)} {s x : ByteArray} (h : WhSt ps k c L) (hk : k < ps.length) (hs : ps[k] = s) (hp : pieceR s = some (a, n, x)) (h2 : ¬ (0 < k ∧ n ≠ c)) (hl : lk L a = some x) : WhSt ps (k + 1) n L := by
  have hr := pieceR_range hp
  have := h.len
  refine ⟨?_, by omega, by omega, h.nod, h.sh, hr.2.1⟩
  rw [← h.run, whG_step hk hs, whS_old hp h2 hl, if_pos rfl]
theorem WhSt.fail {ps : List ByteArray} {k : Nat} {c : Int} {L : List (Int × ByteArray)} {s : ByteArray} (h : WhSt ps k c L) (hk : k < ps.length) (hs : ps[k] = s) (hf : whS k c L s = none) (hn : ps.length ≤ 2000) : wholeR ps = (⟨#[]⟩, false) := by
  unfold wholeR
  rw [if_pos hn, ← h.run, whG_step hk hs, hf]
  rfl
theorem WhSt.fin {ps : List ByteArray} {k : Nat} {c : Int} {L : List (Int × ByteArray)} (h : WhSt ps k c L) (hk : ps.length ≤ k) (hn : ps.length ≤ 2000) : wholeR ps = if (L.length : Int) = c then (joinL L L.length, true) else (⟨#[]⟩, false) := by
  unfold wholeR
  rw [if_pos hn, ← h.run, List.drop_of_length_le hk]
  rfl
end Plain

/-- What Whole leaves. -/
def Plain.WhPost (ps : List ByteArray) (w : World) (e : Ending) (w' : World) : Prop := e = .returned (.tuple #[.string (wholeR ps).1, .bool (wholeR ps).2]) ∧ Below w.heap.size w w'

set_option maxRecDepth 10000 in
set_option maxHeartbeats 4000000 in
theorem impl_Whole (ad : Option Addr) (n c0 : Nat) (ps : List ByteArray) (w : World) (hn : ps.length = n) (hn2 : n ≤ 1048576) (hz : ∀ s ∈ ps, s.size ≤ 1048576) (h : StrsAt w ad ps) :
    Calls Try.prog 11 #[.slice ad n c0] w (WhPost ps w) := by
  by_cases hbig : 2000 < n
  · have hr : wholeR ps = (⟨#[]⟩, false) := by unfold wholeR; rw [if_neg (by omega)]
    unfold WhPost
    rw [hr]
    clear hr h hz
    go_enter Try.func11, Try.ntmps11
    go_wp2_with fail
    go_ret2
    exact ⟨rfl, Below.refl _ _⟩
  · have hmm := make_pt w
    have HP0 := hide (PTab.made w)
    have HB0 := hide (bel1 w (.map #[] 0))
    have HN := hide hn
    have HZ := hide hz
    have HA := hide h
    have HST0 := hide (WhSt.start ps)
    obtain ⟨R, hR⟩ : ∃ R, wholeR ps = R := ⟨_, rfl⟩
    have HR := hide hR
    have HFAIL := hide (fun (k : Nat) (c : Int) (L : List (Int × ByteArray)) (s : ByteArray) (hh : WhSt ps k c L) (hk : k < ps.length) (hs : ps[k] = s) (hf : whS k c L s = none) => hR.symm.trans (hh.fail hk hs hf (by omega)))
    unfold WhPost
    rw [hR]
    clear hR hn hz h
    go_enter Try.func11, Try.ntmps11
    go_wp2_with fail
    clear hmm
    go_loopw [5, 18] (fun co i wr => ∃ (k : Nat) (c : Int) (L : List (Int × ByteArray)), co = .int .i64 c ∧ i = .int .i64 k ∧ k ≤ n ∧ Hid (WhSt ps k c L) ∧ Hid (PTab wr w.heap.size L.length (lkF L c)) ∧ Hid (Below w.heap.size w wr)) (fun _ i _ => n - (intOf i).toNat)
    case atStart => exact ⟨0, 0, [], rfl, rfl, by omega, HST0, HP0, HB0⟩
    case round =>
      clear HP0 HB0 HST0
      obtain ⟨k, c, L, rfl, rfl, hk, HST, HP, HB⟩ := hrel
      by_cases hkn : k < n
      · have hkl : k < ps.length := by rw [unhide HN]; exact hkn
        obtain ⟨g, o, eg, lg, pg⟩ := (unhide HA) k hkl
        have pg2 : wr.cell? ⟨g, o + k, none⟩ = some (.string ps[k]) := ((unhide HB).cell (p := ⟨g, o + k, none⟩) lg).trans pg
        have hsz := unhide HZ ps[k] (List.getElem_mem hkl)
        have HF := hide (fun s (hs : ps[k] = s) hf => unhide HFAIL k c L s (unhide HST) hkl hs hf)
        have HNEW := hide (fun s a m x (hs : ps[k] = s) hp h2 hl => (unhide HST).new (a := a) (n := m) (x := x) hkl hs hp h2 hl)
        have HOLD := hide (fun s a m x (hs : ps[k] = s) hp h2 hl => (unhide HST).old (a := a) (n := m) (x := x) hkl hs hp h2 hl)
        generalize ps[k] = s at pg2 hsz HF HNEW HOLD
        have HRP := hide (readPiece_calls s wr (by omega) (fun kk b hb => by have := readF_small s kk b hb; omega))
        subst eg
        have i0 : (0 : Int) ≤ (k : Int) := by omega
        have i1 : (k : Int) < (n : Int) := by omega
        clear pg lg hkl
        go_wp2_with fail
        refine (unhide HRP).mono ?_
        rintro e w2 ⟨a, m, x, g, rfl, hpc, hx, hb2⟩
        have HP2 := hide ((unhide HP).keep hb2)
        have HB2 := hide (belOn (unhide HB) hb2)
        unfold piV
        clear hb2
        rcases hpc with ⟨rfl, hpc⟩ | ⟨rfl, hpc⟩
        · have HX := hide (unhide HF s rfl (whS_none hpc))
          clear pg2 hpc
          go_wp2_with fail
          go_ret2
          exact ⟨by rw [unhide HX]; rfl, belOn (unhide HB2) (bel1 _ _)⟩
        · by_cases h2 : 0 < k ∧ m ≠ c
          · have HX := hide (unhide HF s rfl (whS_count hpc h2))
            obtain ⟨hk0, hmc⟩ := h2
            have hk0' : (0 : Int) < (k : Int) := by omega
            clear pg2 hpc
            go_wp2_with fail
            go_ret2
            exact ⟨by rw [unhide HX]; rfl, belOn (unhide HB2) (bel1 _ _)⟩
          · have hrg := pieceR_range hpc
            have hwf : (Lit.int .i64 a).wf = true := Go.WalkArith.wf_i64 ⟨by omega, by omega⟩
            have hll : L.length ≤ 5000 := by have := (unhide HST).len; omega
            have hcm : lkF L c = lkF L m := by
              by_cases e : m = c
              · rw [e]
              · rw [(unhide HST).nil (by omega)]; rfl
            have HPM : Hid (PTab w2 w.heap.size L.length (lkF L m)) := hide (by rw [← hcm]; exact unhide HP2)
            have hgd : (k = 0) ∨ (0 < k ∧ m = c) := by omega
            cases hl : lk L a with
            | none =>
              have hla : (pcAt (lkF L m) a) = .agg #[.int .i64 0, .int .i64 0, .string ⟨#[]⟩] ∧ (lkF L m a).isSome = false := by unfold pcAt lkF; rw [hl]; exact ⟨rfl, rfl⟩
              have HN2 := hide (unhide HNEW s a m x rfl hpc h2 hl)
              have HF2 := hide (lkF_new (c := m) (x := x) hl)
              have hlook := (PTab.keep (unhide HPM) (bel1 w2 (.cells #[.int .i64 a, .int .i64 m, .string x] 54))).look_ok hwf
              rw [hla.1, hla.2] at hlook
              have HNO := hide hla.2
              have HB3 := hide (belOn (unhide HB2) (belDrew (belOn (bel1 w2 (.cells #[.int .i64 a, .int .i64 m, .string x] 54)) (bel1 _ (.cells #[.int .i64 0, .int .i64 0, .string ⟨#[]⟩] 54)))))
              obtain ⟨w5, hupd, hp5, hg5⟩ := (PTab.keep (unhide HPM) (belDrew (belOn (bel1 w2 (.cells #[.int .i64 a, .int .i64 m, .string x] 54)) (bel1 _ (.cells #[.int .i64 0, .int .i64 0, .string ⟨#[]⟩] 54))))).upd a m x hll hwf
              have hlb := (unhide HPM).lt
              have hc5 : w5.cell? ⟨w2.heap.size, 1, none⟩ = some (.int .i64 m) := (World.cell?_of_block (a := ⟨w2.heap.size, 1, none⟩) (hg5.block w2.heap.size (by show w2.heap.size < (w2.alloc _ |>.alloc _).heap.size; simp; omega) (fun e => by have := Option.some.inj e; omega))).trans (by show ((w2.alloc _).alloc _).cell? _ = _; simp [go_sem])
              have HP5 := hide hp5
              have HG5 := hide hg5
              clear hp5 hg5
              clear hpc h2 hl hla hcm pg2 HP2 HRP HF HNEW HOLD hrg
              rcases hgd with rfl | ⟨hk0, rfl⟩
              all_goals
                go_wp2_with fail
                go_region
                all_goals (try go_wp2_with fail)
                all_goals go_roundw
                case rel => exact ⟨_ + 1, m, L ++ [(a, x)], rfl, by go_num, by omega, HN2, hide (by have hp5 := unhide HP5; rw [unhide HNO] at hp5; rw [List.length_append, ← unhide HF2]; exact hp5), hide ((unhide HB3).grown (unhide HG5) (unhide HB3).size (fun j hj => by cases hj; exact Nat.le_refl _))⟩
                case measure => simp [intOf]; omega
            | some y =>
              have hk0 : 0 < k := by
                rcases Nat.eq_zero_or_pos k with q | q
                · rw [(unhide HST).nil q] at hl; cases hl
                · exact q
              have hmc : m = c := by omega
              subst hmc
              have hla : (pcAt (lkF L m) a) = .agg #[.int .i64 a, .int .i64 m, .string y] ∧ (lkF L m a).isSome = true := by unfold pcAt lkF; rw [hl]; exact ⟨rfl, rfl⟩
              have hlook := (PTab.keep (unhide HPM) (bel1 w2 (.cells #[.int .i64 a, .int .i64 m, .string x] 54))).look_ok hwf
              rw [hla.1, hla.2] at hlook
              have HNO := hide hla.2
              have hk0' : (0 : Int) < (k : Int) := by omega
              by_cases hyx : y = x
              · subst hyx
                have HN2 := hide (unhide HOLD s a m y rfl hpc h2 hl)
                have HF2 := hide (lkF_old (c := m) hl)
                have HB3 := hide (belOn (unhide HB2) (belDrew (belOn (bel1 w2 (.cells #[.int .i64 a, .int .i64 m, .string y] 54)) (bel1 _ (.cells #[.int .i64 a, .int .i64 m, .string y] 54)))))
                obtain ⟨w5, hupd, hp5, hg5⟩ := (PTab.keep (unhide HPM) (belDrew (belOn (bel1 w2 (.cells #[.int .i64 a, .int .i64 m, .string y] 54)) (bel1 _ (.cells #[.int .i64 a, .int .i64 m, .string y] 54))))).upd a m y hll hwf
                have hlb := (unhide HPM).lt
                have hc5 : w5.cell? ⟨w2.heap.size, 1, none⟩ = some (.int .i64 m) := (World.cell?_of_block (a := ⟨w2.heap.size, 1, none⟩) (hg5.block w2.heap.size (by show w2.heap.size < (w2.alloc _ |>.alloc _).heap.size; simp; omega) (fun e => by have := Option.some.inj e; omega))).trans (by show ((w2.alloc _).alloc _).cell? _ = _; simp [go_sem])
                have HP5 := hide hp5
                have HG5 := hide hg5
                clear hp5 hg5
                clear hpc h2 hl hla hcm pg2 HP2 HRP HF HNEW HOLD hrg hgd
                go_wp2_with fail
                go_region
                all_goals (try go_wp2_with fail)
                all_goals go_roundw
                case rel => exact ⟨k + 1, m, L, rfl, by go_num, by omega, HN2, hide (by have hp5 := unhide HP5; rw [unhide HNO] at hp5; rw [← unhide HF2]; exact hp5), hide ((unhide HB3).grown (unhide HG5) (unhide HB3).size (fun j hj => by cases hj; exact Nat.le_refl _))⟩
                case measure => simp [intOf]; omega
              · have HX := hide (unhide HF s rfl (by rw [whS_old hpc h2 hl, if_neg hyx]))
                have hyx2 : ¬ y.toList = x.toList := fun q => hyx (by rw [ByteArray.toList_eq, ByteArray.toList_eq] at q; exact ByteArray.ext (Array.toList_inj.1 q))
                clear hpc h2 hl hla hcm pg2 HP2 HRP HF HNEW HOLD hrg hgd hyx
                go_wp2_with fail
                go_ret2
                exact ⟨by rw [unhide HX]; rfl, belOn (unhide HB2) (belOn (bel1 _ _) (bel1 _ _))⟩
      · obtain rfl : k = n := by omega
        have hfin := (unhide HST).fin (by rw [unhide HN]; exact Nat.le_refl _) (by rw [unhide HN]; omega)
        rw [unhide HR] at hfin
        have hll : L.length ≤ 2000 := by have := (unhide HST).len; omega
        have hlen := fun ty => (unhide HP).len ty
        by_cases hc : (L.length : Int) = c
        · rw [if_pos hc] at hfin
          have HX := hide hfin
          have HJ := hide (joined_calls w.heap.size L c wr (unhide HP) hll (unhide HST).sh)
          clear hfin
          go_wp2_with fail
          refine (unhide HJ).mono ?_
          rintro e w2 ⟨rfl, hb2⟩
          have HB2 := hide (belOn (unhide HB) hb2)
          clear hb2 hlen
          go_wp2_with fail
          go_ret2
          exact ⟨by rw [unhide HX]; rfl, unhide HB2⟩
        · rw [if_neg hc] at hfin
          have HX := hide hfin
          clear hfin
          go_wp2_with fail
          go_ret2
          exact ⟨by rw [unhide HX]; rfl, unhide HB⟩
end Go.Proofs.Ytnkjdojpegmlcaa


/- Whole of the specification. -/
namespace Go.Proofs.Ytnkjdojpegmlcaa
open Go.RowKit Go.Maps Plain
set_option linter.unusedVariables false

/-- Numbers as elements. -/
def i64W : Elem Int where
  E := 2
  S := 44
  n := 1
  bytes := 8
  zero := .int .i64 0
  enc := fun x => [.int .i64 x]
  hund := Try.underlying44
  hinfo := by kernel_rfl
  hz := rfl
  hn := by decide
  hb := by decide
  hlen := fun _ => rfl
  hone := fun x u hu => by simp at hu; subst hu; rfl
namespace Plain
theorem RowAt.intW {W : World} {a : Option Addr} {xs : List Int} (h : RowAt i64W W a xs) (i : Nat) (hi : i < xs.length) : ∃ g, a = some ⟨g, 0, none⟩ ∧ g < W.heap.size ∧ W.cell? ⟨g, i, none⟩ = some (.int .i64 xs[i]) := by
  obtain ⟨g, e1, hl, h1⟩ := h i hi
  have := (h1 0 (by decide)).1
  rw [show i * i64W.n + 0 = i from Nat.mul_one i] at this
  exact ⟨g, e1, hl, this⟩
/-- A row stays while another one, of other elements, grows. -/
theorem OwnR.besides {α β : Type} {e : Elem α} {e' : Elem β} {W w' : World} {B B' : Nat} {v v' : Value} {xs : List α} {ys : List β} {o : Obj} (h : OwnR e W B v xs) (ho : OwnR e' W B' v' ys) (hne : e.E ≠ e'.E) (hg : (W.alloc o).grownBy w' v'.ownBlock) : OwnR e w' B v xs := by
  refine ⟨h.1, ?_⟩
  rcases h.2 with ⟨a, c⟩ | ⟨g, cap, cur, a, c, d, r⟩
  · exact .inl ⟨a, c⟩
  · have hl : g < W.heap.size := by
      rcases Nat.lt_or_ge g W.heap.size with q | q
      · exact q
      · rw [Array.getElem?_eq_none q] at d; cases d
    refine .inr ⟨g, cap, cur, a, c, ?_, r⟩
    rw [hg.block g (by simp; omega) ?_, Below.heap_alloc W o g hl]
    · exact d
    · intro q
      rcases ho.2 with ⟨e1, _⟩ | ⟨g2, cap2, cur2, e1, _, d2, _⟩
      · rw [e1] at q; cases q
      · rw [e1] at q
        have : g = g2 := Option.some.inj q
        subst this
        rw [d] at d2
        have := Option.some.inj d2
        injection this with _ e2
        exact hne e2
/-- The two lists of what is known. -/
structure Two (W : World) (B : Nat) (va vt : Value) (L : List (Int × ByteArray)) : Prop where
  a : OwnR i64W W B va (L.map (·.1))
  t : OwnR strE W B vt (L.map (·.2))
theorem Two.keep {W W' : World} {B : Nat} {va vt : Value} {L : List (Int × ByteArray)} (h : Two W B va vt L) (hb : Below W.heap.size W W') : Two W' B va vt L := ⟨h.a.keep hb, h.t.keep hb⟩
theorem Two.form {W : World} {B : Nat} {va vt : Value} {L : List (Int × ByteArray)} (h : Two W B va vt L) : ∃ a c a' c', va = .slice a L.length c ∧ vt = .slice a' L.length c' := by
  obtain ⟨a, c, e⟩ := h.a.form
  obtain ⟨a', c', e'⟩ := h.t.form
  rw [List.length_map] at e e'
  exact ⟨a, c, a', c', e, e'⟩
theorem scn_step (a : Int) (x : ByteArray) (L : List (Int × ByteArray)) (q : Nat) (h : q < L.length) (t : Bool) : scn a x (L.drop q) t = if (L[q]).1 = a then (if (L[q]).2 = x then scn a x (L.drop (q + 1)) true else none) else scn a x (L.drop (q + 1)) t := by
  rw [List.drop_eq_getElem_cons h, scn]
theorem cat_step (a : Int) (L : List (Int × ByteArray)) (q : Nat) (h : q < L.length) (s : ByteArray) : cat a (L.drop q) s = if (L[q]).1 = a then cat a (L.drop (q + 1)) (s ++ (L[q]).2) else cat a (L.drop (q + 1)) s := by
  rw [List.drop_eq_getElem_cons h, cat]
theorem ShortL.mem {L : List (Int × ByteArray)} (h : ShortL L) (hn : (L.map (·.1)).Nodup) {y : Int × ByteArray} (hy : y ∈ L) : y.2.size ≤ 20000 := by
  have : lk L y.1 = some y.2 := by
    clear h
    induction L with
    | nil => cases hy
    | cons z L ih =>
      rw [List.map_cons, List.nodup_cons] at hn
      rw [lk_cons]
      rcases List.mem_cons.1 hy with rfl | hy
      · rw [if_pos rfl]
      · rw [if_neg (fun e => hn.1 (by rw [e]; exact List.mem_map.2 ⟨y, hy, rfl⟩)), ih hn.2 hy]
  exact h _ _ this
theorem strW_add {a b : ByteArray} (W : World) (h : a.size + b.size ≤ 1000000000000) : (Op.stringOp .add a b).run Try.prog W = .ok (.string (a ++ b)) W := by
  have h1 : ¬ ((a.size + b.size : Nat) : Int) > IntKind.i64.max := by rw [show IntKind.i64.max = 9223372036854775807 from rfl]; omega
  unfold Op.stringOp
  simp only [if_neg h1]
  rfl
end Plain

set_option maxRecDepth 10000 in
set_option maxHeartbeats 8000000 in
theorem spec_Whole (ad : Option Addr) (n c0 : Nat) (ps : List ByteArray) (w : World) (hn : ps.length = n) (hn2 : n ≤ 1048576) (hz : ∀ s ∈ ps, s.size ≤ 1048576) (h : StrsAt w ad ps) :
    Calls Try.prog 13 #[.slice ad n c0] w (WhPost ps w) := by
  by_cases hbig : 2000 < n
  · have hr : wholeR ps = (⟨#[]⟩, false) := by unfold wholeR; rw [if_neg (by omega)]
    unfold WhPost
    rw [hr]
    clear hr h hz
    go_enter Try.func13, Try.ntmps13
    go_wp2_with fail
    go_ret2
    exact ⟨rfl, Below.refl _ _⟩
  · have HT0 := hide (show Two ((w.alloc (.cells #[] 2)).alloc (.cells #[] 9)) w.heap.size (.slice (some ⟨w.heap.size, 0, none⟩) 0 0) (.slice (some ⟨w.heap.size + 1, 0, none⟩) 0 0) [] from
      ⟨(ownR_empty i64W w w.heap.size (Nat.le_refl _)).keep (bel1 _ _), by have q := ownR_empty strE (w.alloc (.cells #[] 2)) w.heap.size (by simp); rw [show (w.alloc (.cells #[] 2)).heap.size = w.heap.size + 1 from by simp] at q; exact q⟩)
    have HB0 := hide (belOn (bel1 w (.cells #[] 2)) (bel1 _ (.cells #[] 9)))
    have HN := hide hn
    have HZ := hide hz
    have HA := hide h
    have HST0 := hide (WhSt.start ps)
    obtain ⟨R, hR⟩ : ∃ R, wholeR ps = R := ⟨_, rfl⟩
    have HR := hide hR
    have HFAIL := hide (fun (k : Nat) (c : Int) (L : List (Int × ByteArray)) (s : ByteArray) (hh : WhSt ps k c L) (hk : k < ps.length) (hs : ps[k] = s) (hf : whS k c L s = none) => hR.symm.trans (hh.fail hk hs hf (by omega)))
    unfold WhPost
    rw [hR]
    clear hR hn hz h
    go_enter Try.func13, Try.ntmps13
    go_wp2_with fail
    go_loopw [4, 5, 6, 7] (fun co va vt i wr => ∃ (k : Nat) (c : Int) (L : List (Int × ByteArray)), co = .int .i64 c ∧ i = .int .i64 k ∧ k ≤ n ∧ Hid (WhSt ps k c L) ∧ Hid (Two wr w.heap.size va vt L) ∧ Hid (Below w.heap.size w wr)) (fun _ _ _ i _ => n - (intOf i).toNat)
    case atStart => exact ⟨0, 0, [], rfl, rfl, by omega, HST0, HT0, HB0⟩
    case round =>
      clear HT0 HB0 HST0
      obtain ⟨k, c, L, rfl, rfl, hk, HST, HT, HB⟩ := hrel
      obtain ⟨a1, c1, a2, c2, e1, e2⟩ := (unhide HT).form
      subst e1 e2
      obtain ⟨l, hl⟩ : ∃ l, L.length = l := ⟨_, rfl⟩
      have HLL := hide hl
      have hlk : l ≤ k := by have := (unhide HST).len; omega
      rw [hl] at HT ⊢
      clear hl
      by_cases hkn : k < n
      · have hkl : k < ps.length := by rw [unhide HN]; exact hkn
        obtain ⟨g, o, eg, lg, pg⟩ := (unhide HA) k hkl
        have pg2 : wr.cell? ⟨g, o + k, none⟩ = some (.string ps[k]) := ((unhide HB).cell (p := ⟨g, o + k, none⟩) lg).trans pg
        have hsz := unhide HZ ps[k] (List.getElem_mem hkl)
        have HF := hide (fun s (hs : ps[k] = s) hf => unhide HFAIL k c L s (unhide HST) hkl hs hf)
        have HNEW := hide (fun s a m x (hs : ps[k] = s) hp h2 hl => (unhide HST).new (a := a) (n := m) (x := x) hkl hs hp h2 hl)
        have HOLD := hide (fun s a m x (hs : ps[k] = s) hp h2 hl => (unhide HST).old (a := a) (n := m) (x := x) hkl hs hp h2 hl)
        generalize ps[k] = s at pg2 hsz HF HNEW HOLD
        have HRP := hide (l11Piece_calls s wr (by omega) (fun kk b hb => by have := readF_small s kk b hb; omega))
        subst eg
        have i0 : (0 : Int) ≤ (k : Int) := by omega
        have i1 : (k : Int) < (n : Int) := by omega
        clear pg lg hkl
        go_wp2_with fail
        refine (unhide HRP).mono ?_
        rintro e w2 ⟨a, m, x, g, rfl, hpc, hx, hb2⟩
        have HT2 := hide ((unhide HT).keep hb2)
        have HB2 := hide (belOn (unhide HB) hb2)
        clear hb2
        rcases hpc with ⟨rfl, hpc⟩ | ⟨rfl, hpc⟩
        · have HX := hide (unhide HF s rfl (whS_none hpc))
          clear pg2 hpc
          go_wp2_with fail
          go_ret2
          exact ⟨by rw [unhide HX]; rfl, unhide HB2⟩
        · by_cases h2 : 0 < k ∧ m ≠ c
          · have HX := hide (unhide HF s rfl (whS_count hpc h2))
            obtain ⟨hk0, hmc⟩ := h2
            have hk0' : (0 : Int) < (k : Int) := by omega
            clear pg2 hpc
            go_wp2_with fail
            go_ret2
            exact ⟨by rw [unhide HX]; rfl, unhide HB2⟩
          · have hsl := scn_lk a x L (unhide HST).nod
            have HSL := hide hsl
            have HXN := hide (fun (q : scn a x L false = none) => unhide HF s rfl (show whS k c L s = none from by
              rw [hsl] at q
              cases hl : lk L a with
              | none => rw [hl] at q; cases q
              | some y =>
                rw [hl] at q
                rw [whS_old hpc h2 hl]
                by_cases e : y = x
                · simp [e] at q
                · rw [if_neg e]))
            have HN2 := hide (fun (q : scn a x L false = some false) => unhide HNEW s a m x rfl hpc h2 (by
              rw [hsl] at q
              cases hl : lk L a with
              | none => rfl
              | some y =>
                rw [hl] at q
                by_cases e : y = x <;> simp [e] at q))
            have HO2 := hide (fun (q : scn a x L false = some true) => unhide HOLD s a m x rfl hpc h2 (by
              rw [hsl] at q
              cases hl : lk L a with
              | none => rw [hl] at q; simp at q
              | some y =>
                rw [hl] at q
                by_cases e : y = x
                · rw [e]
                · simp [e] at q))
            have hgd : (k = 0) ∨ (0 < k ∧ m = c) := by omega
            have HPA := hide (unhide HT2).a.at
            have HPT := hide (unhide HT2).t.at
            clear hsl hpc h2 pg2 HRP HF HNEW HOLD
            rcases hgd with hk0 | ⟨hk0, rfl⟩
            all_goals
              go_wp2_with fail
              go_loop [12, 13] (fun th kk => ∃ (q : Nat) (t : Bool), th = .bool t ∧ kk = .int .i64 q ∧ q ≤ l ∧ Hid (scn a x (L.drop q) t = scn a x L false)) (fun _ kk => l - (intOf kk).toNat)
              case atStart => exact ⟨0, false, rfl, rfl, by omega, hide (by rw [List.drop_zero])⟩
              case round =>
                obtain ⟨q, t, rfl, rfl, hq, HQ⟩ := hrel
                by_cases hql : q < l
                · first
                    | (exfalso; omega)
                    | (have hqL : q < L.length := by rw [unhide HLL]; exact hql
                       have hst := (scn_step a x L q hqL t).symm.trans (unhide HQ)
                       obtain ⟨gg, eg1, lg1, r1⟩ := Plain.RowAt.intW (unhide HPA) q (by rw [List.length_map]; exact hqL)
                       obtain ⟨gt, eg2, lg2, r2, -⟩ := (unhide HPT).str q (by rw [List.length_map]; exact hqL)
                       rw [List.getElem_map] at r1 r2
                       generalize L[q] = y at r1 r2 hst
                       obtain ⟨y1, y2⟩ := y
                       simp only at r1 r2 hst
                       subst eg1 eg2
                       have j0 : (0 : Int) ≤ (q : Int) := by omega
                       have j1 : (q : Int) < (l : Int) := by omega
                       clear HQ hqL
                       by_cases hya : y1 = a
                       · rw [if_pos hya] at hst
                         subst hya
                         by_cases hyx : y2 = x
                         · rw [if_pos hyx] at hst
                           subst hyx
                           have HST2 := hide hst
                           clear hst
                           go_wp2_with fail
                           go_round
                           case rel => exact ⟨q + 1, true, rfl, by go_num, by omega, HST2⟩
                           case measure => simp [intOf]; omega
                         · rw [if_neg hyx] at hst
                           have HX := hide (unhide HXN hst.symm)
                           have hne : (y2.toList == x.toList) = false := by rw [beq_eq_false_iff_ne]; exact fun q => hyx (by rw [ByteArray.toList_eq, ByteArray.toList_eq] at q; exact ByteArray.ext (Array.toList_inj.1 q))
                           clear hst hyx
                           go_wp2_with fail
                           go_ret2
                           exact ⟨by rw [unhide HX]; rfl, unhide HB2⟩
                       · rw [if_neg hya] at hst
                         have HST2 := hide hst
                         clear hst
                         go_wp2_with fail
                         go_round
                         case rel => exact ⟨q + 1, t, rfl, by go_num, by omega, HST2⟩
                         case measure => simp [intOf]; omega)
                · obtain rfl : q = l := by omega
                  have hst := unhide HQ
                  rw [List.drop_of_length_le (by rw [unhide HLL]; exact Nat.le_refl _), scn] at hst
                  cases t with
                  | true =>
                    have HX := hide (unhide HO2 hst.symm)
                    clear hst HQ
                    go_wp2_with fail
                    exact ⟨⟨k + 1, m, L, rfl, by first | go_num | (rw [hk0]; rfl), by omega, HX, HT2, HB2⟩, by simp [intOf]; omega⟩
                  | false =>
                    have HX := hide (unhide HN2 hst.symm)
                    have hla : (L.map (·.1)).length < 100000000 := by rw [List.length_map, unhide HLL]; omega
                    have hlt : (L.map (·.2)).length < 100000000 := by rw [List.length_map, unhide HLL]; omega
                    have HLA := hide hla
                    have HLT := hide hlt
                    have hBs : w.heap.size ≤ w2.heap.size := (unhide HB2).size
                    clear hst HQ hla hlt
                    go_wp2_with (at_builtin; refine appR (e := i64W) (cs := #[.int .i64 a]) ?_ (.tmp 70) (.tmp 72) ?_ (unhide HT2).a ?_ a rfl w2.heap.size ?_ rfl (unhide HLA) hBs ?_)
                    all_goals first | rfl | skip
                    intro v6 w6 hown6 hb6 hg6
                    have HO6 := hide hown6
                    have HT6 := hide (Plain.OwnR.besides (unhide HT2).t (unhide HT2).a (by decide) hg6)
                    have HB6 := hide ((unhide HB2).trans hb6)
                    have hBs6 : w.heap.size ≤ w6.heap.size := (unhide HB6).size
                    clear hown6 hb6 hg6
                    go_wp2_with (at_builtin; refine appR (e := strE) (cs := #[.string x]) ?_ (.tmp 74) (.tmp 76) ?_ (unhide HT6) ?_ x rfl w6.heap.size ?_ rfl (unhide HLT) hBs6 ?_)
                    all_goals first | rfl | skip
                    intro v7 w7 hown7 hb7 hg7
                    go_wp2_with fail
                    exact ⟨⟨k + 1, m, L ++ [(a, x)], rfl, by first | go_num | (rw [hk0]; rfl), by omega, HX, hide ⟨by rw [List.map_append]; exact Plain.OwnR.besides (unhide HO6) (unhide HT6) (by decide) hg7, by rw [List.map_append]; exact hown7⟩, hide ((unhide HB6).trans hb7)⟩, by simp [intOf]; omega⟩
      · obtain rfl : k = n := by omega
        have hfin := (unhide HST).fin (by rw [unhide HN]; exact Nat.le_refl _) (by rw [unhide HN]; omega)
        rw [unhide HR, unhide HLL] at hfin
        have HSH := hide (unhide HST).sh
        have HND := hide (unhide HST).nod
        have HPA := hide (unhide HT).a.at
        have HPT := hide (unhide HT).t.at
        by_cases hc : (l : Int) = c
        · rw [if_pos hc] at hfin
          have HX := hide hfin
          subst hc
          clear hfin HST HFAIL
          go_wp2_with fail
          go_loop [14, 15] (fun s i => ∃ q : Nat, i = .int .i64 q ∧ q ≤ l ∧ s = .string (joinL L q)) (fun _ i => l - (intOf i).toNat)
          case atStart => exact ⟨0, rfl, by omega, rfl⟩
          case round =>
            obtain ⟨q, rfl, hq, rfl⟩ := hrel
            by_cases hql : q < l
            · have hjs := joinL_size (unhide HSH) q
              have HJN := hide (show cat (q : Int) L (joinL L q) = joinL L (q + 1) from by rw [cat_lk _ _ _ (unhide HND)]; rfl)
              have j1 : (q : Int) < (l : Int) := by omega
              generalize joinL L q = s0 at hjs HJN
              go_wp2_with fail
              go_loop [14, 16] (fun s kk => ∃ (r : Nat) (t : ByteArray), kk = .int .i64 r ∧ r ≤ l ∧ s = .string t ∧ t.size ≤ (q + r) * 20000 ∧ Hid (cat (q : Int) (L.drop r) t = joinL L (q + 1))) (fun _ kk => l - (intOf kk).toNat)
              case atStart => exact ⟨0, s0, rfl, by omega, rfl, by omega, hide (by rw [List.drop_zero]; exact unhide HJN)⟩
              case round =>
                obtain ⟨r, t, rfl, hr, rfl, hts, HQ⟩ := hrel
                by_cases hrl : r < l
                · have hrL : r < L.length := by rw [unhide HLL]; exact hrl
                  have hst := (cat_step (q : Int) L r hrL t).symm.trans (unhide HQ)
                  obtain ⟨gg, eg1, lg1, r1⟩ := Plain.RowAt.intW (unhide HPA) r (by rw [List.length_map]; exact hrL)
                  obtain ⟨gt, eg2, lg2, r2, -⟩ := (unhide HPT).str r (by rw [List.length_map]; exact hrL)
                  have hy2 := (unhide HSH).mem (unhide HND) (List.getElem_mem hrL)
                  rw [List.getElem_map] at r1 r2
                  generalize L[r] = y at r1 r2 hst hy2
                  obtain ⟨y1, y2⟩ := y
                  simp only at r1 r2 hst hy2
                  subst eg1 eg2
                  have m0 : (0 : Int) ≤ (r : Int) := by omega
                  have m1 : (r : Int) < (l : Int) := by omega
                  clear HQ hrL
                  by_cases hya : y1 = (q : Int)
                  · rw [if_pos hya] at hst
                    subst hya
                    have HST2 := hide hst
                    have hadd := fun W => strW_add (a := t) (b := y2) W (by omega)
                    have hsz2 : (t ++ y2).size ≤ (q + (r + 1)) * 20000 := by rw [ByteArray.size_append]; omega
                    have HSZ2 := hide hsz2
                    clear hst hsz2
                    go_wp2_with fail
                    go_round
                    case rel => exact ⟨r + 1, t ++ y2, by go_num, by omega, rfl, unhide HSZ2, HST2⟩
                    case measure => simp [intOf]; omega
                  · rw [if_neg hya] at hst
                    have HST2 := hide hst
                    have HSZ2 := hide (show t.size ≤ (q + (r + 1)) * 20000 from Nat.le_trans hts (Nat.mul_le_mul_right _ (by omega)))
                    clear hst
                    go_wp2_with fail
                    go_round
                    case rel => exact ⟨r + 1, t, by go_num, by omega, rfl, unhide HSZ2, HST2⟩
                    case measure => simp [intOf]; omega
                · obtain rfl : r = l := by omega
                  have hst := unhide HQ
                  rw [List.drop_of_length_le (by rw [unhide HLL]; exact Nat.le_refl _), cat] at hst
                  subst hst
                  go_wp2_with fail
                  exact ⟨⟨q + 1, by go_num, by omega, rfl⟩, by simp [intOf]; omega⟩
            · obtain rfl : q = l := by omega
              go_wp2_with fail
              go_ret2
              exact ⟨by rw [unhide HX]; rfl, unhide HB⟩
        · rw [if_neg hc] at hfin
          have HX := hide hfin
          clear hfin HST HFAIL
          go_wp2_with fail
          go_ret2
          exact ⟨by rw [unhide HX]; rfl, unhide HB⟩
end Go.Proofs.Ytnkjdojpegmlcaa

