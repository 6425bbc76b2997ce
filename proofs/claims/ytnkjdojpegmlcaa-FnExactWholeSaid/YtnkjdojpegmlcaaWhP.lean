/- One piece read, by both programs. -/
import Derived.Test.YtnkjdojpegmlcaaWhM
import Derived.Test.YtnkjdojpegmlcaaRdK
import Derived.Test.YtnkjdojpegmlcaaRdT
import Derived.Test.YtnkjdojpegmlcaaRdQ
import Derived.Test.YtnkjdojpegmlcaaMan
namespace Go.Proofs.Ytnkjdojpegmlcaa
open Go.RowKit Plain
set_option linter.unusedVariables false

namespace Plain
/-- What is left of a body, where nothing failed. -/
def LfW (s : ByteArray) (p : Nat) (u : ByteArray) (f : Bool) : Prop := u.size ≤ 1000000000 ∧ (f = false → u = s.extract p s.size ∧ p ≤ s.size)
theorem ext_moreW (s : ByteArray) (p l : Nat) (hp : p ≤ s.size) : (s.extract p s.size).extract l (s.extract p s.size).size = s.extract (p + l) s.size := by
  rw [ByteArray.extract_extract, ByteArray.size_extract]
  congr 1
  omega
theorem ext_partW (s : ByteArray) (p l v : Nat) (h : p + l + v ≤ s.size) : (s.extract p s.size).extract l (l + v) = s.extract (p + l) (p + l + v) := by
  rw [ByteArray.extract_extract]
  congr 1
  omega
theorem take_open (s u : ByteArray) (p : Nat) (f : Bool) (hl : LfW s p u f) : ∃ (v : Int) (u' : ByteArray) (g : Bool) (p' : Nat), takeV u = .tuple #[.int .i64 v, .string u', .bool g] ∧ LfW s p' u' (f || !g) ∧ MoR (stp s p) p' f (f || !g) v := by
  cases h : tkN u 0 with
  | none =>
    refine ⟨0, ByteArray.empty, false, p, takeV_none h, ⟨by decide, fun e => by simp at e⟩, .inl ⟨by simp, ?_⟩⟩
    cases f with
    | true => exact .inl rfl
    | false =>
      obtain ⟨rfl, hp⟩ := hl.2 rfl
      rw [tkN_shift s p hp] at h
      exact .inr (by unfold stp; rw [h]; rfl)
  | some y =>
    obtain ⟨v, l⟩ := y
    have hu := hl.1
    cases f with
    | true => exact ⟨v, u.extract l u.size, true, 0, takeV_some h, ⟨by rw [ByteArray.size_extract]; omega, fun e => by simp at e⟩, .inl ⟨rfl, .inl rfl⟩⟩
    | false =>
      obtain ⟨rfl, hp⟩ := hl.2 rfl
      have h2 := h
      rw [tkN_shift s p hp] at h2
      have hle := tkN_le h2
      exact ⟨v, _, true, p + l, takeV_some h, ⟨by rw [ByteArray.size_extract]; omega, fun _ => ⟨ext_moreW s p l hp, by omega⟩⟩, .inr ⟨rfl, rfl, by unfold stp; rw [h2]; rfl⟩⟩
theorem text_open (s u : ByteArray) (p : Nat) (f : Bool) (hl : LfW s p u f) : ∃ (v u' : ByteArray) (g : Bool) (p' : Nat), textV u = .tuple #[.string v, .string u', .bool g] ∧ LfW s p' u' (f || !g) ∧ MoR (txp s p) p' f (f || !g) v ∧ v.size ≤ 20000 := by
  cases h : tkT u 0 with
  | none =>
    refine ⟨ByteArray.empty, ByteArray.empty, false, p, textV_none h, ⟨by decide, fun e => by simp at e⟩, .inl ⟨by simp, ?_⟩, by decide⟩
    cases f with
    | true => exact .inl rfl
    | false =>
      obtain ⟨rfl, hp⟩ := hl.2 rfl
      rw [tkT_shift s p hp] at h
      exact .inr (by unfold txp; rw [h]; rfl)
  | some y =>
    obtain ⟨l, v⟩ := y
    have hu := hl.1
    have hv := tkT_le h
    cases f with
    | true => exact ⟨u.extract l (l + v), u.extract (l + v) u.size, true, 0, textV_some h, ⟨by rw [ByteArray.size_extract]; omega, fun e => by simp at e⟩, .inl ⟨rfl, .inl rfl⟩, by rw [ByteArray.size_extract]; omega⟩
    | false =>
      obtain ⟨rfl, hp⟩ := hl.2 rfl
      have h2 := h
      rw [tkT_shift s p hp] at h2
      have hle := tkT_le h2
      exact ⟨_, _, true, p + l + v, textV_some h, ⟨by rw [ByteArray.size_extract]; omega, fun _ => ⟨by rw [ext_moreW s p (l + v) hp, Nat.add_assoc], by omega⟩⟩, .inr ⟨rfl, rfl, by unfold txp; rw [h2, ext_partW s p l v (by omega)]; rfl⟩, by rw [ByteArray.size_extract]; omega⟩
/-- What one piece's reading leaves. -/
def PiPost (s : ByteArray) (val : Int → Int → ByteArray → Bool → Value) (w : World) (e : Ending) (w' : World) : Prop := ∃ (a c : Int) (x : ByteArray) (g : Bool), e = .returned (val a c x g) ∧ PcIs (pieceR s) g a c x ∧ x.size ≤ 20000 ∧ Below w.heap.size w w'
theorem pieceR_len {s : ByteArray} {fs : List (Int × ByteArray)} {p : Nat} {c : Int} (h : readF s = (fs, p, c)) (hl : ¬ fs.length = 1) : pieceR s = none := by
  unfold pieceR
  rw [h]
  match fs with
  | [] => rfl
  | [y] => exact absurd rfl hl
  | _ :: _ :: _ => rfl
theorem pieceR_one {s : ByteArray} {k : Int} {b : ByteArray} {p : Nat} {c : Int} (h : readF s = ([(k, b)], p, c)) : pieceR s = if c = 0 ∧ k = 3 then bodR b else none := by
  unfold pieceR
  rw [h]
end Plain

set_option maxRecDepth 10000 in
set_option maxHeartbeats 4000000 in
theorem l11Piece_calls (s : ByteArray) (w : World) (hs : s.size ≤ 100000000) (hz : ∀ k b, (k, b) ∈ (readF s).1 → b.size ≤ 100000000) :
    Calls Try.prog 32 #[.string s] w (PiPost s (fun a c x g => .tuple #[.int .i64 a, .int .i64 c, .string x, .bool g]) w) := by
  have HR := hide (specRead_calls s w (by omega))
  obtain ⟨⟨fs, pos, cd⟩, hrd⟩ : ∃ r, readF s = r := ⟨_, rfl⟩
  rw [hrd] at HR hz
  have HRD := hide hrd
  have zero : PcIs (pieceR s) false 0 0 ⟨#[]⟩ → ∀ w' : World, Below w.heap.size w w' → PiPost s (fun a c x g => .tuple #[.int .i64 a, .int .i64 c, .string x, .bool g]) w (.returned (.tuple #[.int .i64 0, .int .i64 0, .string ⟨#[]⟩, .bool false])) w' := fun h w' hb => ⟨0, 0, ⟨#[]⟩, false, rfl, h, by decide, hb⟩
  have HZ := hide zero
  clear zero
  by_cases hc : cd = 0
  · subst hc
    by_cases hl : fs.length = 1
    · obtain ⟨⟨k, b⟩, rfl⟩ := List.length_eq_one_iff.1 hl
      have hb := hz k b (by simp)
      clear hl hz
      have hp1 := pieceR_one hrd
      by_cases hk : k = 3
      · subst hk
        rw [if_pos ⟨rfl, rfl⟩] at hp1
        obtain ⟨a, u1, g1, p1, e1, l1, m1⟩ := take_open b b 0 false ⟨by omega, fun _ => ⟨by simp, by omega⟩⟩
        obtain ⟨c, u2, g2, p2, e2, l2, m2⟩ := take_open b u1 p1 _ l1
        obtain ⟨x, u3, g3, p3, e3, l3, m3, hx⟩ := text_open b u2 p2 _ l2
        have hH := bodR_is (((HasR.start.num m1).num m2).txt m3)
        rw [← hp1] at hH
        have hG : ((!(((false || !g1) || !g2) || !g3) && decide (p3 = b.size)) && decide (a < c)) = ((((g1 && g2) && g3) && u3.toList.isEmpty) && decide (a < c)) := by
          cases g1 <;> cases g2 <;> cases g3 <;> simp
          obtain ⟨hu, hp⟩ := l3.2 rfl
          have hn := rest_nil b p3 hp
          rw [← hu] at hn
          rw [show decide (p3 = b.size) = u3.toList.isEmpty from by rw [Bool.eq_iff_iff]; simp [hn]]
        rw [hG] at hH
        have HH := hide hH
        have T1 := hide (fun W => spec_TakeNumber b W (by omega))
        have T2 := hide (fun W => spec_TakeNumber u1 W (by have := l1.1; omega))
        have T3 := hide (fun W => spec_TakeText u2 W (by have := l2.1; omega))
        rw [e1] at T1
        rw [e2] at T2
        rw [e3] at T3
        clear e1 e2 e3 l1 l2 l3 m1 m2 m3 hH hG hp1 hrd
        have hq := unhide HH
        clear HH
        cases g1 with
        | false =>
          have HQ : PcIs (pieceR s) false a c x := hq
          clear hq
          go_enter Try.func32, Try.ntmps32
          go_wp2_with fail
          refine (unhide HR).mono ?_
          rintro e w1 ⟨v, rfl, ho, hb1⟩
          obtain ⟨fa, fc, rfl⟩ := ownF_form ho
          obtain ⟨g, eg, lg, q0, q1, -⟩ := (ho.at rfl) 0 (by simp)
          subst eg
          simp only [Nat.zero_mul, Nat.zero_add, List.getElem_cons_zero] at q0 q1
          have HB1 := hide hb1
          clear ho hb1
          go_wp2_with fail
          refine (unhide T1 _).mono ?_
          rintro e w2 ⟨rfl, k2, rfl⟩
          go_wp2_with fail
          refine (unhide T2 _).mono ?_
          rintro e w3 ⟨rfl, k3, rfl⟩
          go_wp2_with fail
          refine (unhide T3 _).mono ?_
          rintro e w4 ⟨rfl, hb4⟩
          have HB4 := hide (belOn (show Below w.heap.size w (w1.drewN (k2 + k3)) from ⟨(unhide HB1).os, (unhide HB1).tape, (unhide HB1).output, (unhide HB1).size, (unhide HB1).block⟩) hb4)
          clear hb4 q0 q1
          go_wp2_with fail
          exact bodyPost_ret (v := .tuple #[.int .i64 a, .int .i64 c, .string x, .bool false]) (by simp [results, Try.results32, go_sem]) rfl ⟨a, c, x, _, rfl, HQ, hx, unhide HB4⟩
        | true =>
          cases g2 with
          | false =>
            have HQ : PcIs (pieceR s) false a c x := hq
            clear hq
            go_enter Try.func32, Try.ntmps32
            go_wp2_with fail
            refine (unhide HR).mono ?_
            rintro e w1 ⟨v, rfl, ho, hb1⟩
            obtain ⟨fa, fc, rfl⟩ := ownF_form ho
            obtain ⟨g, eg, lg, q0, q1, -⟩ := (ho.at rfl) 0 (by simp)
            subst eg
            simp only [Nat.zero_mul, Nat.zero_add, List.getElem_cons_zero] at q0 q1
            have HB1 := hide hb1
            clear ho hb1
            go_wp2_with fail
            refine (unhide T1 _).mono ?_
            rintro e w2 ⟨rfl, k2, rfl⟩
            go_wp2_with fail
            refine (unhide T2 _).mono ?_
            rintro e w3 ⟨rfl, k3, rfl⟩
            go_wp2_with fail
            refine (unhide T3 _).mono ?_
            rintro e w4 ⟨rfl, hb4⟩
            have HB4 := hide (belOn (show Below w.heap.size w (w1.drewN (k2 + k3)) from ⟨(unhide HB1).os, (unhide HB1).tape, (unhide HB1).output, (unhide HB1).size, (unhide HB1).block⟩) hb4)
            clear hb4 q0 q1
            go_wp2_with fail
            exact bodyPost_ret (v := .tuple #[.int .i64 a, .int .i64 c, .string x, .bool false]) (by simp [results, Try.results32, go_sem]) rfl ⟨a, c, x, _, rfl, HQ, hx, unhide HB4⟩
          | true =>
            cases g3 with
            | false =>
              have HQ : PcIs (pieceR s) false a c x := hq
              clear hq
              go_enter Try.func32, Try.ntmps32
              go_wp2_with fail
              refine (unhide HR).mono ?_
              rintro e w1 ⟨v, rfl, ho, hb1⟩
              obtain ⟨fa, fc, rfl⟩ := ownF_form ho
              obtain ⟨g, eg, lg, q0, q1, -⟩ := (ho.at rfl) 0 (by simp)
              subst eg
              simp only [Nat.zero_mul, Nat.zero_add, List.getElem_cons_zero] at q0 q1
              have HB1 := hide hb1
              clear ho hb1
              go_wp2_with fail
              refine (unhide T1 _).mono ?_
              rintro e w2 ⟨rfl, k2, rfl⟩
              go_wp2_with fail
              refine (unhide T2 _).mono ?_
              rintro e w3 ⟨rfl, k3, rfl⟩
              go_wp2_with fail
              refine (unhide T3 _).mono ?_
              rintro e w4 ⟨rfl, hb4⟩
              have HB4 := hide (belOn (show Below w.heap.size w (w1.drewN (k2 + k3)) from ⟨(unhide HB1).os, (unhide HB1).tape, (unhide HB1).output, (unhide HB1).size, (unhide HB1).block⟩) hb4)
              clear hb4 q0 q1
              go_wp2_with fail
              exact bodyPost_ret (v := .tuple #[.int .i64 a, .int .i64 c, .string x, .bool false]) (by simp [results, Try.results32, go_sem]) rfl ⟨a, c, x, _, rfl, HQ, hx, unhide HB4⟩
            | true =>
              cases hu3 : u3.toList.isEmpty with
              | false =>
                rw [hu3] at hq
                have HQ : PcIs (pieceR s) false a c x := hq
                clear hq
                go_enter Try.func32, Try.ntmps32
                go_wp2_with fail
                refine (unhide HR).mono ?_
                rintro e w1 ⟨v, rfl, ho, hb1⟩
                obtain ⟨fa, fc, rfl⟩ := ownF_form ho
                obtain ⟨g, eg, lg, q0, q1, -⟩ := (ho.at rfl) 0 (by simp)
                subst eg
                simp only [Nat.zero_mul, Nat.zero_add, List.getElem_cons_zero] at q0 q1
                have HB1 := hide hb1
                clear ho hb1
                go_wp2_with fail
                refine (unhide T1 _).mono ?_
                rintro e w2 ⟨rfl, k2, rfl⟩
                go_wp2_with fail
                refine (unhide T2 _).mono ?_
                rintro e w3 ⟨rfl, k3, rfl⟩
                go_wp2_with fail
                refine (unhide T3 _).mono ?_
                rintro e w4 ⟨rfl, hb4⟩
                have HB4 := hide (belOn (show Below w.heap.size w (w1.drewN (k2 + k3)) from ⟨(unhide HB1).os, (unhide HB1).tape, (unhide HB1).output, (unhide HB1).size, (unhide HB1).block⟩) hb4)
                clear hb4 q0 q1
                go_wp2_with fail
                exact bodyPost_ret (v := .tuple #[.int .i64 a, .int .i64 c, .string x, .bool false]) (by simp [results, Try.results32, go_sem]) rfl ⟨a, c, x, _, rfl, HQ, hx, unhide HB4⟩
              | true =>
                rw [hu3] at hq
                have HQ : PcIs (pieceR s) (decide (a < c)) a c x := hq
                clear hq
                go_enter Try.func32, Try.ntmps32
                go_wp2_with fail
                refine (unhide HR).mono ?_
                rintro e w1 ⟨v, rfl, ho, hb1⟩
                obtain ⟨fa, fc, rfl⟩ := ownF_form ho
                obtain ⟨g, eg, lg, q0, q1, -⟩ := (ho.at rfl) 0 (by simp)
                subst eg
                simp only [Nat.zero_mul, Nat.zero_add, List.getElem_cons_zero] at q0 q1
                have HB1 := hide hb1
                clear ho hb1
                go_wp2_with fail
                refine (unhide T1 _).mono ?_
                rintro e w2 ⟨rfl, k2, rfl⟩
                go_wp2_with fail
                refine (unhide T2 _).mono ?_
                rintro e w3 ⟨rfl, k3, rfl⟩
                go_wp2_with fail
                refine (unhide T3 _).mono ?_
                rintro e w4 ⟨rfl, hb4⟩
                have HB4 := hide (belOn (show Below w.heap.size w (w1.drewN (k2 + k3)) from ⟨(unhide HB1).os, (unhide HB1).tape, (unhide HB1).output, (unhide HB1).size, (unhide HB1).block⟩) hb4)
                clear hb4 q0 q1
                go_wp2_with fail
                exact bodyPost_ret (v := .tuple #[.int .i64 a, .int .i64 c, .string x, .bool (decide (a < c))]) (by simp [results, Try.results32, go_sem]) rfl ⟨a, c, x, _, rfl, HQ, hx, unhide HB4⟩
      · rw [if_neg (fun q => hk q.2)] at hp1
        have hpc : PcIs (pieceR s) false 0 0 ⟨#[]⟩ := .inl ⟨rfl, hp1⟩
        clear hp1 hrd
        go_enter Try.func32, Try.ntmps32
        go_wp2_with fail
        refine (unhide HR).mono ?_
        rintro e w1 ⟨v, rfl, ho, hb1⟩
        obtain ⟨fa, fc, rfl⟩ := ownF_form ho
        obtain ⟨g, eg, lg, q0, q1, -⟩ := (ho.at rfl) 0 (by simp)
        subst eg
        simp only [Nat.zero_mul, Nat.zero_add, List.getElem_cons_zero] at q0 q1
        have HB1 := hide hb1
        clear ho hb1
        go_wp2_with fail
        exact bodyPost_ret (v := .tuple #[.int .i64 0, .int .i64 0, .string ⟨#[]⟩, .bool false]) (by simp [results, Try.results32, go_sem]) rfl (unhide HZ hpc _ (unhide HB1))
    · have hpc : PcIs (pieceR s) false 0 0 ⟨#[]⟩ := .inl ⟨rfl, pieceR_len hrd hl⟩
      obtain ⟨n, hn⟩ : ∃ n, fs.length = n := ⟨_, rfl⟩
      rw [hn] at hl
      have HN := hide hn
      have hl2 : ¬ (n : Int) = 1 := by omega
      clear hrd hn hz
      go_enter Try.func32, Try.ntmps32
      go_wp2_with fail
      refine (unhide HR).mono ?_
      rintro e w1 ⟨v, rfl, ho, hb1⟩
      obtain ⟨fa, fc, rfl⟩ := ownF_form ho
      rw [unhide HN]
      have HB1 := hide hb1
      clear ho hb1
      go_wp2_with fail
      exact bodyPost_ret (v := .tuple #[.int .i64 0, .int .i64 0, .string ⟨#[]⟩, .bool false]) (by simp [results, Try.results32, go_sem]) rfl (unhide HZ hpc _ (unhide HB1))
  · have hpc : PcIs (pieceR s) false 0 0 ⟨#[]⟩ := by
      refine .inl ⟨rfl, ?_⟩
      by_cases hl : fs.length = 1
      · obtain ⟨⟨k, b⟩, rfl⟩ := List.length_eq_one_iff.1 hl
        rw [pieceR_one hrd, if_neg (fun q => hc q.1)]
      · exact pieceR_len hrd hl
    clear hrd hz
    go_enter Try.func32, Try.ntmps32
    go_wp2_with fail
    refine (unhide HR).mono ?_
    rintro e w1 ⟨v, rfl, ho, hb1⟩
    obtain ⟨fa, fc, rfl⟩ := ownF_form ho
    have HB1 := hide hb1
    clear ho hb1
    go_wp2_with fail
    exact bodyPost_ret (v := .tuple #[.int .i64 0, .int .i64 0, .string ⟨#[]⟩, .bool false]) (by simp [results, Try.results32, go_sem]) rfl (unhide HZ hpc _ (unhide HB1))
end Go.Proofs.Ytnkjdojpegmlcaa
