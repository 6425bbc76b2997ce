/- Texts of one kind, put together. -/
import Derived.Test.YtliklijcdcfomaaGreatCzA
import Derived.Test.YtliklijcdcfomaaGreatWfI
import Derived.Test.YtliklijcdcfomaaGreatWfS
import Derived.Test.YtliklijcdcfomaaGreatRzA
import Derived.Deep.RegionHeld3
import Derived.Test.YtliklijcdcfomaaGreatMem
import Derived.Deep.AppendLies
import Derived.Test.YtliklijcdcfomaaGreatGen
import Derived.Test.YtliklijcdcfomaaGreatTzE

/- The texts of entries, by both programs. -/
namespace Go.Proofs.YtliklijcdcfomaaGreat
open Go.RowKit Plain
set_option linter.unusedVariables false

def Plain.entT (t k : Int) (b : ByteArray) : ByteArray := if entB t k b then frameB 2 (putS t ++ putS k ++ putT b) else ByteArray.empty
theorem Plain.str_add {a b : ByteArray} (W : World) (h : a.size + b.size ≤ 1000000000000) : (Op.stringOp .add a b).run Tryz.prog W = .ok (.string (a ++ b)) W := by
  have h1 : ¬ ((a.size + b.size : Nat) : Int) > IntKind.i64.max := by rw [show IntKind.i64.max = 9223372036854775807 from rfl]; omega
  unfold Op.stringOp
  simp only [if_neg h1]
  rfl
namespace Plain
theorem entB_sizes {t k : Int} {b : ByteArray} (h : entB t k b = true) : (putS t ++ putS k ++ putT b).size ≤ 1000000 := by
  obtain ⟨_, _, _, _, hb⟩ := entB_yes h
  have h1 := putS_size t
  have h2 := putS_size k
  have h3 := putS_size (b.size : Int)
  unfold putT
  rw [if_pos (by omega), ByteArray.size_append, ByteArray.size_append, ByteArray.size_append]
  omega
end Plain

set_option maxRecDepth 10000 in
set_option maxHeartbeats 1000000 in
theorem impl_EntryText (t k : Int) (b : ByteArray) (w : World) (hb : b.size ≤ 1000000000000) :
    Calls Tryz.prog 92 #[.agg #[.int .i64 t, .int .i64 k, .string b]] w fun e w' => e = .returned (.string (entT t k b)) ∧ Below w.heap.size w w' := by
  obtain ⟨W0, hW0⟩ : ∃ W0, W0 = w.alloc (.cells #[.int .i64 t, .int .i64 k, .string b] 76) := ⟨_, rfl⟩
  have hb0 : Below w.heap.size w W0 := by rw [hW0]; exact bel1 _ _
  have hlt : w.heap.size < W0.heap.size := by rw [hW0]; simp
  have c0 : W0.cell? ⟨w.heap.size, 0, none⟩ = some (.int .i64 t) := by rw [hW0]; simp [go_sem]
  have c1 : W0.cell? ⟨w.heap.size, 1, none⟩ = some (.int .i64 k) := by rw [hW0]; simp [go_sem]
  have c2 : W0.cell? ⟨w.heap.size, 2, none⟩ = some (.string b) := by rw [hW0]; simp [go_sem]
  have HC := hide (fun (W : World) (hW : Below W0.heap.size W0 W) => And.intro (bcl hW hlt c0) (And.intro (bcl hW hlt c1) (bcl hW hlt c2)))
  have HFIN := hide (fun (W : World) (hW : Below W0.heap.size W0 W) => belOn hb0 hW)
  have HW0 := hide hW0.symm
  clear hb0 hlt c0 c1 c2 hW0
  unfold entT
  cases he : entB t k b with
  | false =>
    rw [if_neg (by simp)]
    have HE := hide he
    clear he
    go_enter Tryz.func92, Tryz.ntmps92
    go_wp2_with fail
    rw [unhide HW0]
    refine (entryOk_calls t k b W0 hb).mono ?_
    rintro e w1 ⟨rfl, hb1⟩
    rw [unhide HE]
    have HB1 := hide (unhide HFIN _ hb1)
    clear hb1
    go_wp2_with fail
    go_ret
    exact ⟨rfl, unhide HB1⟩
  | true =>
    rw [if_pos rfl]
    have HE := hide he
    have hsz := entB_sizes he
    have hsb := (entB_yes he).2.2.2.2
    obtain ⟨A, hA⟩ : ∃ A, putS t = A := ⟨_, rfl⟩
    obtain ⟨C, hC⟩ : ∃ C, putS k = C := ⟨_, rfl⟩
    obtain ⟨D, hD⟩ : ∃ D, putT b = D := ⟨_, rfl⟩
    have H1 := hide (fun W => impl_PutNumber t W)
    have H2 := hide (fun W => impl_PutNumber k W)
    have H3 := hide (fun W => impl_PutText b W hb)
    rw [hA, hC, hD] at hsz ⊢
    rw [hA] at H1
    rw [hC] at H2
    rw [hD] at H3
    rw [ByteArray.size_append, ByteArray.size_append] at hsz
    have HZ := hide hsz
    have hA1 : A.size ≤ 1000000 := by omega
    have hC1 : C.size ≤ 1000000 := by omega
    have hD1 : D.size ≤ 1000000 := by omega
    clear he hA hC hD hsz
    go_enter Tryz.func92, Tryz.ntmps92
    go_wp2_with fail
    rw [unhide HW0]
    refine (entryOk_calls t k b W0 hb).mono ?_
    rintro e w1 ⟨rfl, hb1⟩
    rw [unhide HE]
    have HB1 := hide hb1
    obtain ⟨q0, q1, q2⟩ := unhide HC _ hb1
    clear hb1
    have l1 : w.heap.size < w1.heap.size := lt_of_cell q0
    have hAC : (A ++ C).size ≤ 3000000 := by rw [ByteArray.size_append]; omega
    have e1 := fun W => str_add (a := A) (b := C) W (by omega)
    have e2 := fun W => str_add (a := A ++ C) (b := D) W (by omega)
    have HWF := hide (fun W => impl_WriteFrame 2 (A ++ C ++ D) W (by have := unhide HZ; rw [ByteArray.size_append, ByteArray.size_append]; omega))
    go_wp2_with fail
    go_region_held3 (fun w' => w'.cell? ⟨w.heap.size, 0, none⟩ = some (.int .i64 t) ∧ w'.cell? ⟨w.heap.size, 1, none⟩ = some (.int .i64 k) ∧ w'.cell? ⟨w.heap.size, 2, none⟩ = some (.string b)) (go_keep) (first
      | (go_at_call_of 84 t; refine (unhide H1 _).mono ?_; rintro e w2 ⟨rfl, hb2⟩; have r0 := bcl (bOfDrew hb2) l1 q0; have r1 := bcl (bOfDrew hb2) l1 q1; have r2 := bcl (bOfDrew hb2) l1 q2; have l2 := lt_of_cell r0)
      | (go_at_call_of 84 k; refine (unhide H2 _).mono ?_; rintro e w3 ⟨rfl, hb3⟩; have s0 := bcl hb3 l2 r0; have s1 := bcl hb3 l2 r1; have s2 := bcl hb3 l2 r2; have l3 := lt_of_cell s0)
      | (go_at_call 115; refine (unhide H3 _).mono ?_; rintro e w4 ⟨rfl, hb4⟩; have t0 := bcl hb4 l3 s0; have t1 := bcl hb4 l3 s1; have t2 := bcl hb4 l3 s2; have l4 := lt_of_cell t0)
      | (go_at_call 83; refine (unhide HWF _).mono ?_; rintro e w5 ⟨rfl, hb5⟩; have v0 := bcl hb5 l4 t0; have v1 := bcl hb5 l4 t1; have v2 := bcl hb5 l4 t2))
    all_goals (try go_wp2_with fail)
    all_goals (try go_ret)
    all_goals exact ⟨rfl, unhide HFIN _ (belOn (belOn (belOn (belOn (unhide HB1) (bOfDrew hb2)) hb3) hb4) hb5)⟩

set_option maxRecDepth 10000 in
set_option maxHeartbeats 1000000 in
theorem spec_EntryText (t k : Int) (b : ByteArray) (w : World) (hb : b.size ≤ 1000000000000) :
    Calls Tryz.prog 47 #[.agg #[.int .i64 t, .int .i64 k, .string b]] w fun e w' => e = .returned (.string (entT t k b)) ∧ Below w.heap.size w w' := by
  obtain ⟨W0, hW0⟩ : ∃ W0, W0 = w.alloc (.cells #[.int .i64 t, .int .i64 k, .string b] 76) := ⟨_, rfl⟩
  have hb0 : Below w.heap.size w W0 := by rw [hW0]; exact bel1 _ _
  have hlt : w.heap.size < W0.heap.size := by rw [hW0]; simp
  have c0 : W0.cell? ⟨w.heap.size, 0, none⟩ = some (.int .i64 t) := by rw [hW0]; simp [go_sem]
  have c1 : W0.cell? ⟨w.heap.size, 1, none⟩ = some (.int .i64 k) := by rw [hW0]; simp [go_sem]
  have c2 : W0.cell? ⟨w.heap.size, 2, none⟩ = some (.string b) := by rw [hW0]; simp [go_sem]
  have HC := hide (fun (W : World) (hW : Below W0.heap.size W0 W) => And.intro (bcl hW hlt c0) (And.intro (bcl hW hlt c1) (bcl hW hlt c2)))
  have HFIN := hide (fun (W : World) (hW : Below W0.heap.size W0 W) => belOn hb0 hW)
  have HW0 := hide hW0.symm
  clear hb0 hlt c0 c1 c2 hW0
  unfold entT
  cases he : entB t k b with
  | false =>
    rw [if_neg (by simp)]
    have HE := hide he
    clear he
    go_enter Tryz.func47, Tryz.ntmps47
    go_wp2_with fail
    rw [unhide HW0]
    refine (l5Entry_calls t k b W0 hb).mono ?_
    rintro e w1 ⟨rfl, hb1⟩
    rw [unhide HE]
    have HB1 := hide (unhide HFIN _ hb1)
    clear hb1
    go_wp2_with fail
    go_ret
    exact ⟨rfl, unhide HB1⟩
  | true =>
    rw [if_pos rfl]
    have HE := hide he
    have hsz := entB_sizes he
    have hsb := (entB_yes he).2.2.2.2
    obtain ⟨A, hA⟩ : ∃ A, putS t = A := ⟨_, rfl⟩
    obtain ⟨C, hC⟩ : ∃ C, putS k = C := ⟨_, rfl⟩
    obtain ⟨D, hD⟩ : ∃ D, putT b = D := ⟨_, rfl⟩
    have H1 := hide (fun W => spec_PutNumber t W)
    have H2 := hide (fun W => spec_PutNumber k W)
    have H3 := hide (fun W => spec_PutText b W hb)
    rw [hA, hC, hD] at hsz ⊢
    rw [hA] at H1
    rw [hC] at H2
    rw [hD] at H3
    rw [ByteArray.size_append, ByteArray.size_append] at hsz
    have HZ := hide hsz
    have hA1 : A.size ≤ 1000000 := by omega
    have hC1 : C.size ≤ 1000000 := by omega
    have hD1 : D.size ≤ 1000000 := by omega
    clear he hA hC hD hsz
    go_enter Tryz.func47, Tryz.ntmps47
    go_wp2_with fail
    rw [unhide HW0]
    refine (l5Entry_calls t k b W0 hb).mono ?_
    rintro e w1 ⟨rfl, hb1⟩
    rw [unhide HE]
    have HB1 := hide hb1
    obtain ⟨q0, q1, q2⟩ := unhide HC _ hb1
    clear hb1
    have l1 : w.heap.size < w1.heap.size := lt_of_cell q0
    have hAC : (A ++ C).size ≤ 3000000 := by rw [ByteArray.size_append]; omega
    have e1 := fun W => str_add (a := A) (b := C) W (by omega)
    have e2 := fun W => str_add (a := A ++ C) (b := D) W (by omega)
    have HWF := hide (fun W => spec_WriteFrame 2 (A ++ C ++ D) W (by have := unhide HZ; rw [ByteArray.size_append, ByteArray.size_append]; omega))
    go_wp2_with fail
    go_region_held3 (fun w' => w'.cell? ⟨w.heap.size, 0, none⟩ = some (.int .i64 t) ∧ w'.cell? ⟨w.heap.size, 1, none⟩ = some (.int .i64 k) ∧ w'.cell? ⟨w.heap.size, 2, none⟩ = some (.string b)) (go_keep) (first
      | (go_at_call_of 67 t; refine (unhide H1 _).mono ?_; rintro e w2 ⟨rfl, hb2⟩; have r0 := bcl (bOfDrew hb2) l1 q0; have r1 := bcl (bOfDrew hb2) l1 q1; have r2 := bcl (bOfDrew hb2) l1 q2; have l2 := lt_of_cell r0)
      | (go_at_call_of 67 k; refine (unhide H2 _).mono ?_; rintro e w3 ⟨rfl, hb3⟩; have s0 := bcl hb3 l2 r0; have s1 := bcl hb3 l2 r1; have s2 := bcl hb3 l2 r2; have l3 := lt_of_cell s0)
      | (go_at_call 88; refine (unhide H3 _).mono ?_; rintro e w4 ⟨rfl, hb4⟩; have t0 := bcl hb4 l3 s0; have t1 := bcl hb4 l3 s1; have t2 := bcl hb4 l3 s2; have l4 := lt_of_cell t0)
      | (go_at_call 66; refine (unhide HWF _).mono ?_; rintro e w5 ⟨rfl, hb5⟩; have v0 := bcl hb5 l4 t0; have v1 := bcl hb5 l4 t1; have v2 := bcl hb5 l4 t2))
    all_goals (try go_wp2_with fail)
    all_goals (try go_ret)
    all_goals exact ⟨rfl, unhide HFIN _ (belOn (belOn (belOn (belOn (unhide HB1) (bOfDrew hb2)) hb3) hb4) hb5)⟩
end Go.Proofs.YtliklijcdcfomaaGreat


/- Rows of frames of the call's own; a frame appended to one. -/
namespace Go.Proofs.YtliklijcdcfomaaGreat
open Go.RowKit Plain
set_option linter.unusedVariables false

namespace Plain
def fcells (fs : List (Int × ByteArray)) : List Value := fs.flatMap fun f => [.int .i64 f.1, .string f.2]
theorem fcells_length (fs : List (Int × ByteArray)) : (fcells fs).length = fs.length * 2 := by
  induction fs with
  | nil => rfl
  | cons x l ih => simp [fcells] at ih ⊢; omega
theorem fcells_app (fs : List (Int × ByteArray)) (f : Int × ByteArray) : fcells (fs ++ [f]) = fcells fs ++ [.int .i64 f.1, .string f.2] := by simp [fcells]
theorem fcells_get (fs : List (Int × ByteArray)) (i : Nat) (h : i < fs.length) : (fcells fs)[i * 2]? = some (.int .i64 (fs[i]).1) ∧ (fcells fs)[i * 2 + 1]? = some (.string (fs[i]).2) := by
  induction fs generalizing i with
  | nil => simp at h
  | cons x l ih =>
    cases i with
    | zero => exact ⟨rfl, rfl⟩
    | succ i =>
      have := ih i (by simpa using h)
      have e : fcells (x :: l) = .int .i64 x.1 :: .string x.2 :: fcells l := rfl
      rw [e, show (i + 1) * 2 = i * 2 + 1 + 1 from by omega]
      simpa using this
end Plain

/-- The value v is a slice of frames which the call owns (from block B on), holding fs. -/
def OwnF (W : World) (B : Nat) (v : Value) (fs : List (Int × ByteArray)) : Prop := W.ownsRow B 103 2 v fs.length (fcells fs)
theorem ownF_nil (W : World) (B : Nat) : OwnF W B (.slice none 0 0) [] := World.ownsRow_nil _ _ _ _
theorem ownF_empty (W : World) (B : Nat) (hB : B ≤ W.heap.size) : OwnF (W.alloc (.cells #[] 103)) B (.slice (some ⟨W.heap.size, 0, none⟩) 0 0) [] :=
  World.ownsRow_made W #[] 0 hB (by unfold maxLen; omega) rfl
theorem info35 : (Tryz.prog.info? 103).map (fun i => (i.zero, i.size, i.bytes)) = some (some (.agg #[.int .i64 0, .string ⟨#[]⟩]), 2, 24) := by kernel_rfl

theorem appF {ops : Array Oper} {rest : List Oper} {o : Oper} {a : Act} {Q : Exit → Act → World → Prop} (hgd : o.guard = none) (s x : Operand)
    (ho : o.op = .call { callee := .builtin .append, args := #[s, x], argTypes := #[97, 97] })
    {w : World} {B : Nat} {k : Int} {b : ByteArray} {v : Value} {fs : List (Int × ByteArray)} (hown : OwnF w B v fs) (hs : a.eval s = v)
    (gx : Nat) (hx : a.eval x = .slice (some ⟨gx, 0, none⟩) 1 1) (hgx : gx = w.heap.size) (hlen : fs.length < 1000000) (hB : B ≤ w.heap.size)
    (h : ∀ v' w', OwnF w' B v' (fs ++ [(k, b)]) → Below B w w' → wpList Tryz.prog ops Q rest (a.put o.dst v') w') :
    wpList Tryz.prog ops Q (o :: rest) a (w.alloc (.cells #[.int .i64 k, .string b] 103)) := by
  subst hgx
  obtain ⟨i0, hi, hz0, hz1, hz2⟩ := info_parts info35
  have ha := World.ownsRow.alloc hown (.cells #[.int .i64 k, .string b] 103)
  refine wpList_append_own _ hgd s x 97 ho B 103 i0 (.agg #[.int .i64 0, .string ⟨#[]⟩]) 2 24 Tryz.underlying97 hi hz0 hz1 hz2 rfl (by decide) v fs.length (fcells fs) hs ha
    ⟨w.heap.size, 0, none⟩ 1 1 [.int .i64 k, .string b] hx rfl (World.news_of_block (h_new w _ rfl)) ?_ (by unfold maxLen; omega) (by omega) (by simp; omega) ?_
  · intro u hu; simp at hu; rcases hu with rfl | rfl <;> rfl
  · intro v' w' h1 h2 _
    refine h v' w' ?_ (((Below.refl B w).alloc hB _).trans (own_below ha h2 (by simp; omega)))
    unfold OwnF
    rw [fcells_app]
    simpa using h1
end Go.Proofs.YtliklijcdcfomaaGreat


/- Journals as they are recovered, as mathematics; rows of frames as elements. -/
namespace Go.Proofs.YtliklijcdcfomaaGreat
open Go.RowKit Plain
set_option linter.unusedVariables false

/-- Frames as elements. -/
def frmE : Elem (Int × ByteArray) where
  E := 103
  S := 97
  n := 2
  bytes := 24
  zero := .agg #[.int .i64 0, .string ⟨#[]⟩]
  enc := fun f => [.int .i64 f.1, .string f.2]
  hund := Tryz.underlying97
  hinfo := by kernel_rfl
  hz := rfl
  hn := by decide
  hb := by decide
  hlen := fun _ => rfl
  hone := fun x u hu => by simp at hu; rcases hu with rfl | rfl <;> rfl
theorem own_frm {W : World} {B : Nat} {v : Value} {fs : List (Int × ByteArray)} (h : OwnF W B v fs) : OwnR frmE W B v fs := h
theorem RowAt.fm {W : World} {a : Option Addr} {xs : List (Int × ByteArray)} (h : RowAt frmE W a xs) (i : Nat) (hi : i < xs.length) : ∃ g, a = some ⟨g, 0, none⟩ ∧ g < W.heap.size ∧ W.cell? ⟨g, i * 2, none⟩ = some (.int .i64 xs[i].1) ∧ W.cell? ⟨g, i * 2 + 1, none⟩ = some (.string xs[i].2) := by
  obtain ⟨g, e, hl, hc⟩ := h i hi
  exact ⟨g, e, hl, (hc 0 (by decide)).1, (hc 1 (by decide)).1⟩

namespace Plain
theorem fr_go (s : ByteArray) : ∀ (f p done : Nat), ∀ x ∈ (run s f p done).1, x.2.size ≤ s.size
  | 0, p, done, x, hx => by rw [run] at hx; simp at hx
  | f + 1, p, done, x, hx => by
    by_cases h1 : s.size ≤ p
    · rw [run_end s f p done h1] at hx; simp at hx
    · by_cases h2 : done = 2000
      · subst h2; rw [run_many s f p h1] at hx; simp at hx
      · by_cases h3 : frC (s.extract p s.size) = 0
        · rw [run_next s f p done h1 h2 h3] at hx
          rcases List.mem_cons.1 hx with rfl | hx
          · unfold frm frB
            simp only [ByteArray.size_extract]
            omega
          · exact fr_go s f _ _ x hx
        · rw [run_code s f p done h1 h2 h3] at hx; simp at hx
theorem fr_le (s : ByteArray) : ∀ x ∈ (readF s).1, x.2.size ≤ s.size := fr_go s 2001 0 0
def votV : Option (Int × Int) → Value
  | some (t, v) => .tuple #[.int .i64 t, .int .i64 v, .bool true]
  | none => .tuple #[.int .i64 0, .int .i64 0, .bool false]
theorem vot_not {s : ByteArray} (h : (readF s).1.length ≠ 1) : votF s = none := by
  unfold votF
  split
  · rename_i f hf; rw [hf] at h; exact absurd rfl h
  · rfl
theorem vot_one {s : ByteArray} {k : Int} {b : ByteArray} (h : (readF s).1 = [(k, b)]) : votF s = if (readF s).2.2 = 0 ∧ k = 1 then (match stp b 0 with
    | none => none
    | some (t, p) => match stp b p with
      | none => none
      | some (v, q) => if q = b.size then some (t, v) else none) else none := by
  unfold votF
  rw [h]
  rfl
theorem vot_num {s : ByteArray} {t v : Int} (h : votF s = some (t, v)) : (0 ≤ t ∧ t ≤ 1000000000000) ∧ (0 ≤ v ∧ v ≤ 1000000000000) := by
  unfold votF at h
  split at h
  · split at h
    · split at h
      · cases h
      · rename_i t1 p h1
        split at h
        · cases h
        · rename_i v1 q h2
          split at h
          · cases h
            unfold stp at h1 h2
            constructor
            · cases h3 : tkN _ 0 with
              | none => rw [h3] at h1; cases h1
              | some y => rw [h3] at h1; have := tkN_le h3; simp at h1; omega
            · cases h3 : tkN _ p with
              | none => rw [h3] at h2; cases h2
              | some y => rw [h3] at h2; have := tkN_le h3; simp at h2; omega
          · cases h
    · cases h
  · cases h
/-- How many bytes the texts of entries are. -/
def logZ (es : List Ent) : Nat := (es.map fun e => (entT e.term e.kind e.body).size).sum
theorem logZ_snoc (es : List Ent) (e : Ent) : logZ (es ++ [e]) = logZ es + (entT e.term e.kind e.body).size := by simp [logZ]
def voteN : ByteArray := ⟨#[118, 111, 116, 101]⟩
def logN : ByteArray := ⟨#[108, 111, 103]⟩
/-- The vote on a right disk, then the journal. -/
noncomputable def votD (live : List Fl) : Option (Int × Int) := match tabF live voteN with
  | none => some (0, 0)
  | some d => votF d
noncomputable def logD (live : List Fl) (t : Int) : List Ent := logF ((tabF live logN).getD ⟨#[]⟩) t
theorem dk_live {live safe : List Fl} {ops : List Dop} (h : diskB live safe ops = true) : filesB live = true := by
  unfold diskB at h
  rw [Bool.and_eq_true] at h
  exact h.1
theorem log_empty (t : Int) : logF ⟨#[]⟩ t = [] := by
  unfold logF
  have : (readF ⟨#[]⟩).1 = [] := by unfold readF; rw [run_end ⟨#[]⟩ 2000 0 0 (show (⟨#[]⟩ : ByteArray).size ≤ 0 from Nat.le_refl 0)]
  rw [this]; rfl
end Plain
end Go.Proofs.YtliklijcdcfomaaGreat


/- What is recovered of a disk, as mathematics. -/
namespace Go.Proofs.YtliklijcdcfomaaGreat
open Go.RowKit Go.Maps Plain
set_option linter.unusedVariables false

namespace Plain
/-- Whether there is a journal, its term, its vote, its entries. -/
noncomputable def recT (live safe : List Fl) (ops : List Dop) : Bool × Int × Int × List Ent := if diskB live safe ops = true then (match votD live with
  | none => (false, 0, 0, [])
  | some (t, v) => (true, t, v, logD live t)) else (false, 0, 0, [])
theorem Tab.blk {W X : World} {b m : Nat} {f : ByteArray → Option ByteArray} (h : Tab W b m f) (hb : X.heap[b]? = W.heap[b]?) : Tab X b m f := by
  obtain ⟨D, hown, hD⟩ := h
  obtain ⟨es, clock, h1, Ft, hs, h2⟩ := hown
  exact ⟨D, ⟨es, clock, hb.trans h1, Ft, hs, h2⟩, hD⟩
theorem fileAt_some {f : ByteArray → Option ByteArray} {nm d : ByteArray} (h : f nm = some d) : fileAt f nm = .agg #[.string nm, .string d] := by unfold fileAt; rw [h]
theorem fileAt_none {f : ByteArray → Option ByteArray} {nm : ByteArray} (h : f nm = none) : fileAt f nm = .agg #[.string ⟨#[]⟩, .string ⟨#[]⟩] := by unfold fileAt; rw [h]
theorem fileAt_any (f : ByteArray → Option ByteArray) (nm : ByteArray) : ∃ n', fileAt f nm = .agg #[.string n', .string ((f nm).getD ⟨#[]⟩)] := by
  cases h : f nm with
  | none => exact ⟨_, fileAt_none h⟩
  | some d => exact ⟨_, fileAt_some h⟩
theorem tabF_mem : ∀ (fs : List Fl) (n d : ByteArray), tabF fs n = some d → (n, d) ∈ fs
  | [], n, d, h => by simp [tabF] at h
  | f :: t, n, d, h => by
    rw [tabF] at h
    simp only at h
    cases h2 : tabF t n with
    | some y =>
      rw [h2] at h
      cases h
      exact List.mem_cons_of_mem _ (tabF_mem t n d h2)
    | none =>
      rw [h2] at h
      by_cases hn : n = f.1
      · rw [if_pos hn] at h
        cases h
        rw [hn]
        exact List.mem_cons_self
      · rw [if_neg hn] at h
        cases h
theorem tab_size' {fs : List Fl} (h : filesB fs = true) (n : ByteArray) : ((tabF fs n).getD ⟨#[]⟩).size ≤ 200000 := by
  cases h2 : tabF fs n with
  | none => exact Nat.zero_le _
  | some d => exact ((files_small h).2 _ (tabF_mem fs n d h2)).2
end Plain
end Go.Proofs.YtliklijcdcfomaaGreat

