/- Texts of one kind, put together. -/
import Derived.Test.YtjiclgcohpkkjaaGreatDoorGzAM
import Derived.Test.YtjiclgcohpkkjaaGreatDoorRdG
import Derived.Test.YtjiclgcohpkkjaaGreatDoorGzAA
import Derived.Deep.QuietTactic
import Derived.BigQuiet
import Derived.Test.YtjiclgcohpkkjaaGreatDoorGzAE
import Derived.Test.YtjiclgcohpkkjaaGreatDoorMem
import Derived.Deep.AppendLies

/- An entry of a frame, by both programs. -/
namespace Go.Proofs.YtjiclgcohpkkjaaGreatDoor
open Go.RowKit Plain
set_option linter.unusedVariables false

namespace Plain
theorem raw_num (s : ByteArray) (p : Nat) (hp : p ≤ s.size) : ∃ g, numV (tkN s p) = .tuple #[.int .i64 (rawN s p).1, .bool g] ∧ numAt p (tkN s p) = (rawN s p).2 ∧ (rawN s p).2 ≤ s.size ∧ (0 ≤ (rawN s p).1 ∧ (rawN s p).1 ≤ 1000000000000) := by
  unfold rawN stp
  cases h : tkN s p with
  | none => exact ⟨false, rfl, rfl, hp, by simp⟩
  | some y =>
    obtain ⟨v, l⟩ := y
    have := tkN_le h
    exact ⟨true, rfl, rfl, by simp; omega, by simp; omega⟩
theorem raw_fld (s : ByteArray) (p : Nat) (hp : p ≤ s.size) : ∃ g, fldV s p (tkT s p) = .tuple #[.string (rawT s p).1, .bool g] ∧ fldAt p (tkT s p) = (rawT s p).2 ∧ (rawT s p).2 ≤ s.size ∧ (rawT s p).1.size ≤ 20000 := by
  unfold rawT txp
  cases h : tkT s p with
  | none => exact ⟨false, rfl, rfl, hp, by show (⟨#[]⟩ : ByteArray).size ≤ 20000; decide⟩
  | some y =>
    obtain ⟨l, v⟩ := y
    have := tkT_le h
    exact ⟨true, rfl, rfl, by simp; omega, by simp; omega⟩
theorem belDN {B k : Nat} {w X : World} (h : Below B w X) : Below B w (X.drewN k) := ⟨h.os, h.tape, h.output, h.size, h.block⟩
def entV (e : Ent) : Value := .agg #[.int .i64 e.term, .int .i64 e.kind, .string e.body]
theorem rawE_small (b : ByteArray) (hb : b.size ≤ 1000000000000) : (rawE b).body.size ≤ 20000 := (raw_fld b _ (raw_num b _ (raw_num b 0 (Nat.zero_le _)).choose_spec.2.2.1).choose_spec.2.2.1).choose_spec.2.2.2
end Plain

set_option maxRecDepth 10000 in
set_option maxHeartbeats 4000000 in
theorem readEntry_calls (k : Int) (b : ByteArray) (w : World) (hb : b.size ≤ 1000000000000) :
    Calls Tryz.prog 65 #[.agg #[.int .i64 k, .string b]] w fun e w' => ∃ g, e = .returned (.tuple #[.agg #[.int .i64 (rawE b).term, .int .i64 (rawE b).kind, .string (rawE b).body], .bool g]) ∧ Below w.heap.size w w' := by
  obtain ⟨W0, hW0⟩ : ∃ W0, W0 = ((w.alloc (.cells #[.int .i64 k, .string b] 55)).alloc (.cells #[.int .i64 0, .int .i64 0, .string ⟨#[]⟩] 51)).alloc (.cells #[.string b, .int .i64 0] 110) := ⟨_, rfl⟩
  have hb0 : Below w.heap.size w W0 := by rw [hW0]; exact belOn (belOn (bel1 _ _) (bel1 _ _)) (bel1 _ _)
  have hz : W0.heap.size = w.heap.size + 3 := by rw [hW0]; simp
  have f0 : W0.cell? ⟨w.heap.size, 0, none⟩ = some (.int .i64 k) := by rw [hW0]; simp [go_sem]
  have r0 : W0.cell? ⟨w.heap.size + 1, 0, none⟩ = some (.int .i64 0) := by rw [hW0]; simp [go_sem]
  have r1 : W0.cell? ⟨w.heap.size + 1, 1, none⟩ = some (.int .i64 0) := by rw [hW0]; simp [go_sem]
  have r2 : W0.cell? ⟨w.heap.size + 1, 2, none⟩ = some (.string ⟨#[]⟩) := by rw [hW0]; simp [go_sem]
  have y0 : W0.frozen? ⟨w.heap.size + 1, 0, none⟩ = false := by rw [hW0]; simp [go_sem]
  have y1 : W0.frozen? ⟨w.heap.size + 1, 1, none⟩ = false := by rw [hW0]; simp [go_sem]
  have y2 : W0.frozen? ⟨w.heap.size + 1, 2, none⟩ = false := by rw [hW0]; simp [go_sem]
  have c0 : W0.cell? ⟨w.heap.size + 2, 0, none⟩ = some (.string b) := by rw [hW0]; simp [go_sem]
  have c1 : W0.cell? ⟨w.heap.size + 2, 0 + 1, none⟩ = some (.int .i64 ((0 : Nat) : Int)) := by rw [hW0]; simp [go_sem]
  have z1 : W0.frozen? ⟨w.heap.size + 2, 0 + 1, none⟩ = false := by rw [hW0]; simp [go_sem]
  have HN := hide (number_ok (w.heap.size + 2) 0 b 0 W0 c0 c1 z1 hb (Nat.zero_le _))
  obtain ⟨g1, e1, e2, hp1, hv1⟩ := raw_num b 0 (Nat.zero_le _)
  rw [e1, e2] at HN
  have HC := hide (show W0.cell? ⟨w.heap.size + 2, 0, none⟩ = some (.string b) ∧ W0.frozen? ⟨w.heap.size + 2, 0 + 1, none⟩ = false from ⟨c0, z1⟩)
  have HR := hide (show (W0.cell? ⟨w.heap.size, 0, none⟩ = some (.int .i64 k) ∧ W0.cell? ⟨w.heap.size + 1, 0, none⟩ = some (.int .i64 0) ∧ W0.cell? ⟨w.heap.size + 1, 1, none⟩ = some (.int .i64 0) ∧ W0.cell? ⟨w.heap.size + 1, 2, none⟩ = some (.string ⟨#[]⟩)) ∧ (W0.frozen? ⟨w.heap.size + 1, 0, none⟩ = false ∧ W0.frozen? ⟨w.heap.size + 1, 1, none⟩ = false ∧ W0.frozen? ⟨w.heap.size + 1, 2, none⟩ = false) from ⟨⟨f0, r0, r1, r2⟩, y0, y1, y2⟩)
  have HB0 := hide hb0
  have HW0 := hide hW0.symm
  have HE := hide (show rawE b = ⟨(rawN b 0).1, (rawN b (rawN b 0).2).1, (rawT b (rawN b (rawN b 0).2).2).1⟩ from rfl)
  generalize rawE b = RE at HE ⊢
  generalize rawN b 0 = n1 at HN HE hp1 hv1
  obtain ⟨t1, p1⟩ := n1
  obtain ⟨g2, e3, e4, hp2, hv2⟩ := raw_num b p1 hp1
  have HM := hide (fun (W : World) (h0 : W.cell? ⟨w.heap.size + 2, 0, none⟩ = some (.string b)) (h1 : W.cell? ⟨w.heap.size + 2, 0 + 1, none⟩ = some (.int .i64 p1)) (h2 : W.frozen? ⟨w.heap.size + 2, 0 + 1, none⟩ = false) => number_ok (w.heap.size + 2) 0 b p1 W h0 h1 h2 hb hp1)
  rw [e3, e4] at HM
  simp only [] at HE hv1
  generalize rawN b p1 = n2 at HM HE hp2 hv2
  obtain ⟨t2, p2⟩ := n2
  obtain ⟨g3, e5, e6, hp3, hv3⟩ := raw_fld b p2 hp2
  have HF := hide (fun (W : World) (h0 : W.cell? ⟨w.heap.size + 2, 0, none⟩ = some (.string b)) (h1 : W.cell? ⟨w.heap.size + 2, 0 + 1, none⟩ = some (.int .i64 p2)) (h2 : W.frozen? ⟨w.heap.size + 2, 0 + 1, none⟩ = false) => field_ok (w.heap.size + 2) 0 b p2 W h0 h1 h2 hb hp2)
  rw [e5, e6] at HF
  simp only [] at HE hv2
  generalize rawT b p2 = n3 at HF HE hp3 hv3
  obtain ⟨t3, p3⟩ := n3
  simp only [] at HE hp3 hv3
  have hE := unhide HE
  subst hE
  clear HE e1 e2 e3 e4 e5 e6 c0 c1 z1 f0 r0 r1 r2 y0 y1 y2 hW0 hb0
  go_enter Tryz.func65, Tryz.ntmps65
  go_wp2_with fail
  rw [unhide HW0]
  refine (unhide HN).mono ?_
  rintro e w1 ⟨rfl, ho1, hc1⟩
  obtain ⟨c0, z1⟩ := unhide HC
  have d0 := (ho1.cell ⟨w.heap.size + 2, 0, none⟩ (lt_of_cell c0) (by simp)).trans c0
  have l2 : w.heap.size + 2 < W0.heap.size := by omega
  have l3 : w.heap.size + 2 < w1.heap.size := Nat.lt_of_lt_of_le l2 ho1.size
  have d1 := (ho1.frozen ⟨w.heap.size + 2, 0 + 1, none⟩ l2).trans z1
  have HM1 := hide (unhide HM w1 d0 hc1 d1)
  have HC1 := hide (And.intro d0 d1)
  have HO1 := hide ho1
  clear ho1 hc1 c0 z1 d0 d1 HM HN
  go_wp2_with fail
  refine (unhide HM1).mono ?_
  rintro e w2 ⟨rfl, ho2, hc2⟩
  obtain ⟨c0, z1⟩ := unhide HC1
  have d0 := (ho2.cell ⟨w.heap.size + 2, 0, none⟩ (lt_of_cell c0) (by simp)).trans c0
  have d1 := (ho2.frozen ⟨w.heap.size + 2, 0 + 1, none⟩ l3).trans z1
  have HF1 := hide (unhide HF w2 d0 hc2 d1)
  have HC2 := hide (And.intro d0 d1)
  have HO2 := hide ((unhide HO1).trans ho2)
  clear ho2 hc2 c0 z1 d0 d1 HF HM1 HO1
  go_wp2_with fail
  refine (unhide HF1).mono ?_
  rintro e w3 ⟨rfl, ho3, hc3⟩
  obtain ⟨c0, z1⟩ := unhide HC2
  have d0 := (ho3.cell ⟨w.heap.size + 2, 0, none⟩ (lt_of_cell c0) (by simp)).trans c0
  have ho := (unhide HO2).trans ho3
  have HRE := hide (rest_ok (w.heap.size + 2) 0 b p3 w3 d0 hc3 hb hp3)
  have HB3 := hide ((unhide HB0).trans (ho.below (show w.heap.size ≤ w.heap.size + 2 by omega) (unhide HB0).size))
  obtain ⟨⟨f0, r0, r1, r2⟩, y0, y1, y2⟩ := unhide HR
  have lt0 : w.heap.size < W0.heap.size := by omega
  have lt1 : w.heap.size + 1 < W0.heap.size := by omega
  have f0 := (ho.cell ⟨w.heap.size, 0, none⟩ lt0 (by simp)).trans f0
  have r0 := (ho.cell ⟨w.heap.size + 1, 0, none⟩ lt1 (by simp)).trans r0
  have r1 := (ho.cell ⟨w.heap.size + 1, 1, none⟩ lt1 (by simp)).trans r1
  have r2 := (ho.cell ⟨w.heap.size + 1, 2, none⟩ lt1 (by simp)).trans r2
  have y0 := (ho.frozen ⟨w.heap.size + 1, 0, none⟩ lt1).trans y0
  have y1 := (ho.frozen ⟨w.heap.size + 1, 1, none⟩ lt1).trans y1
  have y2 := (ho.frozen ⟨w.heap.size + 1, 2, none⟩ lt1).trans y2
  clear ho3 hc3 c0 z1 d0 ho HF1 HO2 HC2 HC HR HC1
  have HFIN := hide (fun (X : World) (hX : Below w.heap.size w X) => show Below w.heap.size w (((X.setCell ⟨w.heap.size + 1, 0, none⟩ (.int .i64 t1)).setCell ⟨w.heap.size + 1, 1, none⟩ (.int .i64 t2)).setCell ⟨w.heap.size + 1, 2, none⟩ (.string t3)) from ((hX.setCell (p := ⟨w.heap.size + 1, 0, none⟩) (Nat.le_succ _) _).setCell (p := ⟨w.heap.size + 1, 1, none⟩) (Nat.le_succ _) _).setCell (p := ⟨w.heap.size + 1, 2, none⟩) (Nat.le_succ _) _)
  clear lt0 lt1 l2 l3 hz
  obtain ⟨em, hem⟩ : ∃ em : Bool, (b.extract p3 b.size).toList.isEmpty = em := ⟨_, rfl⟩
  cases g1 <;> cases g2 <;> cases g3 <;> cases em
  all_goals
    go_wp2_with (go_at_call 66; refine (unhide HRE).mono ?_; rintro e w4 ⟨rfl, nq, rfl⟩)
    go_region
    all_goals (try go_wp2_with fail)
    all_goals
      refine bodyPost_ret (v := .tuple #[.agg #[.int .i64 t1, .int .i64 t2, .string t3], .bool _]) (by simp [results, Tryz.results65, go_sem, r0, r1, r2]; rfl) rfl ⟨_, rfl, ?_⟩
      first
        | exact unhide HFIN _ (unhide HB3)
        | exact belDN (unhide HFIN _ (unhide HB3))
        | exact belDN (unhide HFIN _ (belDN (unhide HB3)))
end Go.Proofs.YtjiclgcohpkkjaaGreatDoor


/- The number in four bytes, and how bytes begin, of the program. -/
namespace Go.Proofs.YtjiclgcohpkkjaaGreatDoor
open Go.RowKit Plain
set_option linter.unusedVariables false

theorem highFirst_any (a b c d : Int) (w : World) (n : Nat) (ha : 0 ≤ a ∧ a < 256) (hb : 0 ≤ b ∧ b < 256) (hc : 0 ≤ c ∧ c < 256) (hd : 0 ≤ d ∧ d < 256) :
    Calls Tryz.prog 169 #[.int .u8 a, .int .u8 b, .int .u8 c, .int .u8 d] (w.drewN n) fun r w' => r = .returned (.int .u32 (hiI a b c d)) ∧ ∃ m, w' = w.drewN m := by
  obtain ⟨a0, a1⟩ := ha
  obtain ⟨b0, b1⟩ := hb
  obtain ⟨c0, c1⟩ := hc
  obtain ⟨d0, d1⟩ := hd
  go_enter Tryz.func169, Tryz.ntmps169
  go_wp2
  go_ret
  exact ⟨rfl, n, rfl⟩

theorem low_calls (r : ByteArray) (w : World) (h : r.size = 4) :
    Calls Tryz.prog 138 #[.string r] w fun e w' => e = .returned (.int .u32 (wdI r)) ∧ ∃ k, w' = w.drewN k := by
  have e0 := bAt_get r 0 (by omega)
  have e1 := bAt_get r 1 (by omega)
  have e2 := bAt_get r 2 (by omega)
  have e3 := bAt_get r 3 (by omega)
  have l0 := bAt_lt r 0
  have l1 := bAt_lt r 1
  have l2 := bAt_lt r 2
  have l3 := bAt_lt r 3
  have hw : wdI r = hiI (bAt r 3) (bAt r 2) (bAt r 1) (bAt r 0) := rfl
  have HW := hide hw
  clear hw
  generalize bAt r 0 = c0 at *
  generalize bAt r 1 = c1 at *
  generalize bAt r 2 = c2 at *
  generalize bAt r 3 = c3 at *
  have s0 : (0 : Int) < (r.size : Int) := by omega
  have s1 : (1 : Int) < (r.size : Int) := by omega
  have s2 : (2 : Int) < (r.size : Int) := by omega
  have s3 : (3 : Int) < (r.size : Int) := by omega
  go_enter Tryz.func138, Tryz.ntmps138
  go_wp2_with fail
  go_quiet ((go_at_call 169; exact highFirst_any _ _ _ _ _ _ (by omega) (by omega) (by omega) (by omega)))
  go_wp2_with fail
  go_ret
  exact ⟨by rw [unhide HW]; rfl, _, rfl⟩

def szV (r : ByteArray) : Value := .tuple #[.int .i64 ((szI r).2 : Nat), .int .i64 (szI r).1]

set_option maxHeartbeats 1000000 in
theorem frameSize_calls (r : ByteArray) (w : World) (h : 1 ≤ r.size) (hs : r.size ≤ 1000000000000) :
    Calls Tryz.prog 136 #[.string r] w fun e w' => e = .returned (szV r) ∧ ∃ k, w' = w.drewN k := by
  have e0 := bAt_get r 0 (by omega)
  have l0 := bAt_lt r 0
  have hV : szV r = .tuple #[.int .i64 ((szI r).2 : Nat), .int .i64 (szI r).1] := rfl
  unfold szI at hV
  have s0 : (0 : Int) < (r.size : Int) := by omega
  by_cases h1 : bAt r 0 < 1
  · rw [if_pos (.inl h1)] at hV
    rw [hV]
    clear hV
    generalize bAt r 0 = c0 at *
    go_enter Tryz.func136, Tryz.ntmps136
    go_wp2_with fail
    go_ret2
    exact ⟨rfl, 0, rfl⟩
  · by_cases h2 : 100 < bAt r 0
    · rw [if_pos (.inr h2)] at hV
      rw [hV]
      clear hV
      generalize bAt r 0 = c0 at *
      go_enter Tryz.func136, Tryz.ntmps136
      go_wp2_with fail
      go_ret2
      exact ⟨rfl, 0, rfl⟩
    · rw [if_neg (by omega)] at hV
      by_cases h3 : r.size < 5
      · rw [if_pos h3] at hV
        rw [hV]
        clear hV
        generalize bAt r 0 = c0 at *
        go_enter Tryz.func136, Tryz.ntmps136
        go_wp2_with fail
        go_ret2
        exact ⟨rfl, 0, rfl⟩
      · rw [if_neg h3] at hV
        have hx : (r.extract 1 5).size = 4 := by simp; omega
        have hwd := wdI_word (r.extract 1 5)
        obtain ⟨N, hN⟩ := Int.eq_ofNat_of_zero_le hwd.1
        rw [hN] at hV hwd
        have HV := hide hV
        have HN := hide hN
        clear hV hN
        generalize bAt r 0 = c0 at *
        go_enter Tryz.func136, Tryz.ntmps136
        go_wp2_with fail
        refine (low_calls _ _ hx).mono ?_
        rintro e w1 ⟨rfl, k, rfl⟩
        rw [unhide HN]
        have hV := unhide HV
        clear HV
        by_cases h4 : 20000 < N
        · rw [if_pos (by omega)] at hV
          have HV := hide hV
          clear hV HN hx
          go_wp2_with fail
          go_ret2
          exact ⟨by rw [unhide HV]; rfl, k, rfl⟩
        · rw [if_neg (by omega), Int.toNat_natCast] at hV
          by_cases h5 : r.size < 9 + N
          · rw [if_pos h5] at hV
            have HV := hide hV
            clear hV HN hx
            go_wp2_with fail
            go_ret2
            exact ⟨by rw [unhide HV]; rfl, k, rfl⟩
          · rw [if_neg h5] at hV
            have HV := hide hV
            clear hV HN hx
            go_wp2_with fail
            go_ret2
            refine ⟨?_, k, rfl⟩
            rw [unhide HV]
            go_num
end Go.Proofs.YtjiclgcohpkkjaaGreatDoor


/- One frame, of the program. -/
namespace Go.Proofs.YtjiclgcohpkkjaaGreatDoor
open Go.RowKit Plain
set_option linter.unusedVariables false

namespace Plain
theorem ext_ext (r : ByteArray) (n m : Nat) (h : m ≤ n) : (r.extract 0 n).extract 0 m = r.extract 0 m := by
  apply ByteArray.ext
  simp
  rw [Nat.min_eq_left h]
theorem ext_tail (r : ByteArray) (n m : Nat) : (r.extract 0 n).extract m n = r.extract m n := by
  apply ByteArray.ext
  simp
theorem bAt_ext (r : ByteArray) (m : Nat) (h : 0 < m) (hm : m ≤ r.size) : bAt (r.extract 0 m) 0 = bAt r 0 := by
  rw [← bAt_get _ 0 (by simp; omega), ← bAt_get _ 0 (by omega), ByteArray.getElem_extract]
theorem TabAt.below {w w' : World} {B b off : Nat} (h : TabAt w b off) (hb : Below B w w') (hB : b < B) : TabAt w' b off := fun j hj => (hb.cell (p := ⟨b, off + j, none⟩) hB).trans (h j hj)
theorem OnlyAt.setNew {a : Addr} {u v : World} (h : OnlyAt a u v) {q : Addr} (hq : u.heap.size ≤ q.block) (x : Value) : OnlyAt a u (v.setCell q x) :=
  ⟨h.os, h.tape, h.output, by simpa using h.size, fun k hk hne => (Below.heap_setCell _ _ _ _ (by omega)).trans (h.block k hk hne), fun c hc hne => (World.cell?_setCell_other v q c x (fun e => by subst e; omega)).trans (h.cell c hc hne), fun c hc => by simpa using h.frozen c hc⟩
/-- What frame answers, and where the reader stands then. -/
def frV (r : ByteArray) : Value := if frC r = 0 then .tuple #[.agg #[.int .i64 (bAt r 0 : Nat), .string (frB r)], .int .i64 0] else .tuple #[.agg #[.int .i64 0, .string ByteArray.empty], .int .i64 (frC r)]
def frP (r : ByteArray) (p : Nat) : Nat := if frC r = 0 then p + frN r else p
end Plain

theorem crc_quiet (b off : Nat) (s : ByteArray) (w : World) (n : Nat) (hs : s.size ≤ 1000000000000) (htab : TabAt w b off) :
    Calls Tryz.prog 137 #[.pointer (some ⟨b, off, none⟩), .string s] (w.drewN n) fun e w' => e = .returned (.int .u32 (crcI s)) ∧ ∃ m, w' = w.drewN m :=
  (crc_calls b off s (w.drewN n) hs (show TabAt (w.drewN n) b off from htab)).mono fun _ _ ⟨he, m, hm⟩ => ⟨he, n + m, by rw [hm, World.drewN_drewN]⟩
theorem low_quiet (r : ByteArray) (w : World) (n : Nat) (h : r.size = 4) :
    Calls Tryz.prog 138 #[.string r] (w.drewN n) fun e w' => e = .returned (.int .u32 (wdI r)) ∧ ∃ m, w' = w.drewN m :=
  (low_calls r _ h).mono fun _ _ ⟨he, m, hm⟩ => ⟨he, n + m, by rw [hm, World.drewN_drewN]⟩

theorem crc_quiet2 (b off : Nat) (s : ByteArray) (w : World) (q n : Nat) (hs : s.size ≤ 1000000000000) (htab : TabAt w b off) :
    Calls Tryz.prog 137 #[.pointer (some ⟨b, off, none⟩), .string s] (w.drewN (q + n)) fun e w' => e = .returned (.int .u32 (crcI s)) ∧ ∃ m, w' = w.drewN (q + m) :=
  (crc_calls b off s (w.drewN (q + n)) hs (show TabAt (w.drewN (q + n)) b off from htab)).mono fun _ _ ⟨he, m, hm⟩ => ⟨he, n + m, by rw [hm, World.drewN_drewN, Nat.add_assoc]⟩
theorem low_quiet2 (r : ByteArray) (w : World) (q n : Nat) (h : r.size = 4) :
    Calls Tryz.prog 138 #[.string r] (w.drewN (q + n)) fun e w' => e = .returned (.int .u32 (wdI r)) ∧ ∃ m, w' = w.drewN (q + m) :=
  (low_calls r _ h).mono fun _ _ ⟨he, m, hm⟩ => ⟨he, n + m, by rw [hm, World.drewN_drewN, Nat.add_assoc]⟩

set_option maxRecDepth 10000 in
set_option maxHeartbeats 2000000 in
theorem frame_calls (R : Nat) (s : ByteArray) (p : Nat) (w : World) (hc0 : w.cell? ⟨R, 0, none⟩ = some (.string s)) (hc1 : w.cell? ⟨R, 1, none⟩ = some (.int .i64 p)) (hf : w.frozen? ⟨R, 1, none⟩ = false)
    (htab : TabAt w R 2) (hs : s.size ≤ 1000000000000) (hp : p < s.size) :
    Calls Tryz.prog 101 #[.pointer (some ⟨R, 0, none⟩)] w fun e w' => e = .returned (frV (s.extract p s.size)) ∧ OnlyAt ⟨R, 1, none⟩ w w' ∧ w'.cell? ⟨R, 1, none⟩ = some (.int .i64 (frP (s.extract p s.size) p : Nat)) := by
  have hR := lt_of_cell hc0
  simp only at hR
  have hrs := rest_size s p
  obtain ⟨r, hr⟩ : ∃ r, s.extract p s.size = r := ⟨_, rfl⟩
  rw [hr] at hrs
  have hfv : frV (s.extract p s.size) = frV r := by rw [hr]
  have hfp : frP (s.extract p s.size) p = frP r p := by rw [hr]
  rw [hfv, hfp]
  clear hfv hfp
  have HR := hide hr
  obtain ⟨wa, hwa⟩ : ∃ wa, w.alloc (.cells #[.int .i64 0, .string ⟨#[]⟩] 55) = wa := ⟨_, rfl⟩
  have hba : Below w.heap.size w wa := by rw [← hwa]; exact (Below.refl _ _).alloc (Nat.le_refl _) _
  have d0 := (hba.cell (p := ⟨R, 0, none⟩) hR).trans hc0
  have d1 := (hba.cell (p := ⟨R, 1, none⟩) hR).trans hc1
  have HT := hide (htab.below hba hR)
  have hrow : wa.heap[w.heap.size]? = some (.cells #[.int .i64 0, .string ⟨#[]⟩] 55 (0, 0)) := by rw [← hwa]; exact h_new w _ rfl
  have g0 : wa.cell? ⟨w.heap.size, 0, none⟩ = some (.int .i64 0) := cell_of_row wa _ 0 _ _ _ hrow
  have g1 : wa.cell? ⟨w.heap.size, 1, none⟩ = some (.string ⟨#[]⟩) := cell_of_row wa _ 1 _ _ _ hrow
  have z0 : wa.frozen? ⟨w.heap.size, 0, none⟩ = false := frozen_of_row wa _ 0 _ _ hrow
  have z1 : wa.frozen? ⟨w.heap.size, 1, none⟩ = false := frozen_of_row wa _ 1 _ _ hrow
  have hfa := (hba.frozen (p := ⟨R, 1, none⟩) hR).trans hf
  have HWA := hide hwa
  have HC1 := hide hc1
  have HBA := hide hba
  have hne : ¬ w.heap.size = R := by omega
  have hne2 : ¬ R = w.heap.size := by omega
  clear htab hr hrow hc0 hc1 hf hba hwa
  go_enter Tryz.func101, Tryz.ntmps101
  go_wp2_with fail
  rw [unhide HWA]
  refine (rest_ok R 0 s p wa d0 d1 hs (by omega)).mono ?_
  rintro e w1 ⟨rfl, k1, rfl⟩
  rw [unhide HR]
  go_wp2_with fail
  refine (frameSize_calls r _ (by omega) (by omega)).mono ?_
  rintro e w2 ⟨rfl, k2, rfl⟩
  have hsz : szV r = .tuple #[.int .i64 ((szI r).2 : Nat), .int .i64 (szI r).1] := rfl
  by_cases hcode : (szI r).1 = 0
  · obtain ⟨q1, q2, q3, q4, q5⟩ := szI_ok hcode
    have hfn : frN r = (szI r).2 := rfl
    have hfb : frB r = r.extract 5 ((szI r).2 - 4) := by unfold frB; rw [hfn]
    have hfc : frC r = if crcI (r.extract 0 ((szI r).2 - 4)) = wdI (r.extract ((szI r).2 - 4) (szI r).2) then 0 else 4 := by unfold frC; rw [if_neg (by simp [hcode])]
    rw [hsz, hcode]
    clear hsz
    generalize (szI r).2 = sz at q1 q2 q3 hfn hfb hfc
    obtain ⟨m, rfl⟩ : ∃ m, sz = m + 4 := ⟨sz - 4, by omega⟩
    rw [Nat.add_sub_cancel] at hfb hfc
    have HFN := hide hfn
    have HFB := hide hfb
    have HFC := hide hfc
    clear hfn hfb hfc hcode
    go_wp2_with fail
    refine (rest_ok R 0 s p (wa.drewN (k1 + k2)) (show (wa.drewN (k1 + k2)).cell? _ = _ from d0) (show (wa.drewN (k1 + k2)).cell? _ = _ from d1) hs (by omega)).mono ?_
    rintro e w3 ⟨rfl, k3, rfl⟩
    rw [unhide HR]
    have i0 : (m : Int) + 4 ≤ (r.size : Int) := by omega
    go_wp2_with fail
    rw [ext_ext r (m + 4) m (by omega)]
    have f1 : (r.extract 0 (m + 4)).size = m + 4 := by simp; omega
    have f2 : (r.extract 0 m).size = m := by simp; omega
    have f3 : (r.extract 0 (m + 4)).extract m (m + 4) = r.extract m (m + 4) := ext_tail r (m + 4) m
    have f4 : (r.extract m (m + 4)).size = 4 := by simp; omega
    have f5 : bAt (r.extract 0 m) 0 = bAt r 0 := bAt_ext r m (by omega) (by omega)
    have f6 : (r.extract 0 m).extract 5 m = r.extract 5 m := ext_tail r m 5
    have hfc := unhide HFC
    have hfb := unhide HFB
    clear HFC HFB
    obtain ⟨c0, hc0⟩ : ∃ c0, bAt r 0 = c0 := ⟨_, rfl⟩
    have HC0 := hide hc0
    rw [hc0] at q4 q5 f5
    clear hc0
    generalize r.extract 0 (m + 4) = wh at f1 f3
    generalize r.extract m (m + 4) = tl at f3 f4 hfc
    generalize r.extract 5 m = bd at f6 hfb
    generalize r.extract 0 m = sl at f2 f5 f6 hfc
    have f7 := (bAt_get sl 0 (by omega)).trans f5
    clear f5
    have HFB := hide hfb
    have HFC := hide hfc
    clear hfb hfc
    generalize k1 + k2 + k3 = K
    have hsl : sl.size ≤ 1000000000000 := by omega
    go_quiet ((first | (go_at_call 137; exact crc_quiet2 _ _ _ _ _ _ hsl (unhide HT)) | (go_at_call 138; exact low_quiet2 _ _ _ _ f4)))
    generalize crcI sl = x at HFC
    generalize wdI tl = y at HFC
    by_cases hxy : x = y
    · have hfc0 := unhide HFC
      rw [if_pos hxy] at hfc0
      have hfv : frV r = .tuple #[.agg #[.int .i64 (c0 : Int), .string bd], .int .i64 0] := by unfold frV; rw [if_pos hfc0, unhide HC0, unhide HFB]
      have hfp : frP r p = p + (m + 4) := by unfold frP; rw [if_pos hfc0, unhide HFN]
      have HFV := hide hfv
      have HFP := hide hfp
      subst hxy
      clear hfc0 hfv hfp HFC HFB HFN
      go_wp2_with fail
      refine (take_ok R 0 s p ((m : Int) + 4) (wa.drewN (K + nq)) (show (wa.drewN (K + nq)).cell? _ = _ from d0) (show (wa.drewN (K + nq)).cell? _ = _ from d1) (show (wa.drewN (K + nq)).frozen? _ = _ from hfa) hs (by omega) (by omega) (by omega)).mono ?_
      rintro e w5 ⟨rfl, ho5, hc5⟩
      have hla : w.heap.size < wa.heap.size := lt_of_cell g0
      have g0' : w5.cell? ⟨w.heap.size, 0, none⟩ = some (.int .i64 0) := (ho5.cell ⟨w.heap.size, 0, none⟩ hla (by simp)).trans g0
      have g1' : w5.cell? ⟨w.heap.size, 1, none⟩ = some (.string ⟨#[]⟩) := (ho5.cell ⟨w.heap.size, 1, none⟩ hla (by simp)).trans g1
      have z0' : w5.frozen? ⟨w.heap.size, 0, none⟩ = false := (ho5.frozen ⟨w.heap.size, 0, none⟩ hla).trans z0
      have z1' : w5.frozen? ⟨w.heap.size, 1, none⟩ = false := (ho5.frozen ⟨w.heap.size, 1, none⟩ hla).trans z1
      have HO5 := hide ho5
      have HC5 := hide hc5
      have hm5 : 5 ≤ m := by omega
      have m0 : (0 : Int) < (sl.size : Int) := by omega
      have m5 : (5 : Int) ≤ (sl.size : Int) := by omega
      clear ho5 hc5 g0 g1 z0 z1 d0 d1 hfa
      go_wp2_with fail
      go_region
      all_goals (try go_wp2_with fail)
      have hoo : OnlyAt ⟨R, 1, none⟩ w w5 := (OnlyAt.of_below (below_drewN (unhide HBA) (K + nq))).trans (unhide HO5)
      have hoz : OnlyAt ⟨R, 1, none⟩ w ((w5.setCell ⟨w.heap.size, 0, none⟩ (.int .i64 c0)).setCell ⟨w.heap.size, 1, none⟩ (.string bd)).drew := ((hoo.setNew (Nat.le_refl _) _).setNew (Nat.le_refl _) _).drewN 1
      refine bodyPost_ret (v := .tuple #[.agg #[.int .i64 c0, .string bd], .int .i64 0]) ?_ rfl ⟨by rw [unhide HFV], hoz, ?_⟩
      · simp [results, Tryz.results101, go_sem, g0', g1']
      · rw [unhide HFP]
        have hc5 := unhide HC5
        show ((w5.setCell ⟨w.heap.size, 0, none⟩ (.int .i64 c0)).setCell ⟨w.heap.size, 1, none⟩ (.string bd)).cell? ⟨R, 1, none⟩ = _
        rw [World.cell?_setCell_other _ ⟨w.heap.size, 1, none⟩ ⟨R, 1, none⟩ _ (by simp), World.cell?_setCell_other _ ⟨w.heap.size, 0, none⟩ ⟨R, 1, none⟩ _ (by simp)]
        exact hc5.trans rfl
    · have hfc4 := unhide HFC
      rw [if_neg hxy] at hfc4
      have hfv : frV r = .tuple #[.agg #[.int .i64 0, .string ⟨#[]⟩], .int .i64 4] := by unfold frV; rw [hfc4, if_neg (by decide)]; rfl
      have hfp : frP r p = p := by unfold frP; rw [hfc4, if_neg (by decide)]
      have HFV := hide hfv
      have HFP := hide hfp
      clear hfc4 hfv hfp HFC
      go_wp2_with fail
      have hb : Below w.heap.size w (((wa.drewN (K + nq)).setCell ⟨w.heap.size, 0, none⟩ (.int .i64 0)).setCell ⟨w.heap.size, 1, none⟩ (.string ⟨#[]⟩)) := ((below_drewN (unhide HBA) _).setCell (Nat.le_refl _) _).setCell (Nat.le_refl _) _
      refine bodyPost_ret (v := .tuple #[.agg #[.int .i64 0, .string ⟨#[]⟩], .int .i64 4]) ?_ rfl ⟨by rw [unhide HFV], OnlyAt.of_below hb, ?_⟩
      · simp [results, Tryz.results101, go_sem, g0, g1]
      · rw [unhide HFP]; exact (hb.cell (p := ⟨R, 1, none⟩) hR).trans (unhide HC1)
  · have hfc : frC r = (szI r).1 := by unfold frC; rw [if_pos hcode]
    have hfv : frV r = .tuple #[.agg #[.int .i64 0, .string ⟨#[]⟩], .int .i64 (szI r).1] := by unfold frV; rw [hfc, if_neg hcode]; rfl
    have hfp : frP r p = p := by unfold frP; rw [hfc, if_neg hcode]
    have HFV := hide hfv
    have HFP := hide hfp
    rw [hsz]
    clear hsz hfv hfp hfc
    generalize (szI r).1 = cd at hcode HFV
    generalize (szI r).2 = sz
    go_wp2_with fail
    have hb : Below w.heap.size w (((wa.drewN (k1 + k2)).setCell ⟨w.heap.size, 0, none⟩ (.int .i64 0)).setCell ⟨w.heap.size, 1, none⟩ (.string ⟨#[]⟩)) := ((below_drewN (unhide HBA) _).setCell (Nat.le_refl _) _).setCell (Nat.le_refl _) _
    refine bodyPost_ret (v := .tuple #[.agg #[.int .i64 0, .string ⟨#[]⟩], .int .i64 cd]) ?_ rfl ⟨by rw [unhide HFV], OnlyAt.of_below hb, ?_⟩
    · simp [results, Tryz.results101, go_sem, g0, g1]
    · rw [unhide HFP]; exact (hb.cell (p := ⟨R, 1, none⟩) hR).trans (unhide HC1)
end Go.Proofs.YtjiclgcohpkkjaaGreatDoor


/- Rows of frames of the call's own; a frame appended to one. -/
namespace Go.Proofs.YtjiclgcohpkkjaaGreatDoor
open Go.RowKit Plain
set_option linter.unusedVariables false

namespace Plain
def fcells (fs : List (Int × ByteArray)) : List Value := fs.flatMap fun f => [.int .i64 f.1, .string f.2]
theorem fcells_length (fs : List (Int × ByteArray)) : (fcells fs).length = fs.length * 2 := by
  induction fs with
  | nil => rfl
  | cons x l ih => simp [fcells] at ih ⊢; omega
theorem fcells_app (fs : List (Int × ByteArray)) (f : Int × ByteArray) : fcells (fs ++ [f]) = fcells fs ++ [.int .i64 f.1, .string f.2] := by simp [fcells]
theorem fcells_get (fs : List (Int × ByteArray)) (i : Nat) (h : i < fs.length) : (fcells fs)[i * 2]? = some (.int .i64 (fs[i]).1) ∧ (fcells fs)[i * 2 + 1]? = some (.string (fs[i]).2) := by
  induction fs generalizing i with
  | nil => simp at h
  | cons x l ih =>
    cases i with
    | zero => exact ⟨rfl, rfl⟩
    | succ i =>
      have := ih i (by simpa using h)
      have e : fcells (x :: l) = .int .i64 x.1 :: .string x.2 :: fcells l := rfl
      rw [e, show (i + 1) * 2 = i * 2 + 1 + 1 from by omega]
      simpa using this
end Plain

/-- The value v is a slice of frames which the call owns (from block B on), holding fs. -/
def OwnF (W : World) (B : Nat) (v : Value) (fs : List (Int × ByteArray)) : Prop := W.ownsRow B 55 2 v fs.length (fcells fs)
theorem ownF_nil (W : World) (B : Nat) : OwnF W B (.slice none 0 0) [] := World.ownsRow_nil _ _ _ _
theorem ownF_empty (W : World) (B : Nat) (hB : B ≤ W.heap.size) : OwnF (W.alloc (.cells #[] 55)) B (.slice (some ⟨W.heap.size, 0, none⟩) 0 0) [] :=
  World.ownsRow_made W #[] 0 hB (by unfold maxLen; omega) rfl
theorem info35 : (Tryz.prog.info? 55).map (fun i => (i.zero, i.size, i.bytes)) = some (some (.agg #[.int .i64 0, .string ⟨#[]⟩]), 2, 24) := by kernel_rfl

theorem appF {ops : Array Oper} {rest : List Oper} {o : Oper} {a : Act} {Q : Exit → Act → World → Prop} (hgd : o.guard = none) (s x : Operand)
    (ho : o.op = .call { callee := .builtin .append, args := #[s, x], argTypes := #[47, 47] })
    {w : World} {B : Nat} {k : Int} {b : ByteArray} {v : Value} {fs : List (Int × ByteArray)} (hown : OwnF w B v fs) (hs : a.eval s = v)
    (gx : Nat) (hx : a.eval x = .slice (some ⟨gx, 0, none⟩) 1 1) (hgx : gx = w.heap.size) (hlen : fs.length < 1000000) (hB : B ≤ w.heap.size)
    (h : ∀ v' w', OwnF w' B v' (fs ++ [(k, b)]) → Below B w w' → wpList Tryz.prog ops Q rest (a.put o.dst v') w') :
    wpList Tryz.prog ops Q (o :: rest) a (w.alloc (.cells #[.int .i64 k, .string b] 55)) := by
  subst hgx
  obtain ⟨i0, hi, hz0, hz1, hz2⟩ := info_parts info35
  have ha := World.ownsRow.alloc hown (.cells #[.int .i64 k, .string b] 55)
  refine wpList_append_own _ hgd s x 47 ho B 55 i0 (.agg #[.int .i64 0, .string ⟨#[]⟩]) 2 24 Tryz.underlying47 hi hz0 hz1 hz2 rfl (by decide) v fs.length (fcells fs) hs ha
    ⟨w.heap.size, 0, none⟩ 1 1 [.int .i64 k, .string b] hx rfl (World.news_of_block (h_new w _ rfl)) ?_ (by unfold maxLen; omega) (by omega) (by simp; omega) ?_
  · intro u hu; simp at hu; rcases hu with rfl | rfl <;> rfl
  · intro v' w' h1 h2 _
    refine h v' w' ?_ (((Below.refl B w).alloc hB _).trans (own_below ha h2 (by simp; omega)))
    unfold OwnF
    rw [fcells_app]
    simpa using h1
end Go.Proofs.YtjiclgcohpkkjaaGreatDoor

