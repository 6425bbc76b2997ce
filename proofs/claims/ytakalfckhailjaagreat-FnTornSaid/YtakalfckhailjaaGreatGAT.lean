/- Texts of one kind, put together. -/
import Derived.Test.YtakalfckhailjaaGreatGAM
import Derived.Test.YtakalfckhailjaaGreatGAK
import Derived.Test.YtakalfckhailjaaGreatGAG
import Derived.Test.YtakalfckhailjaaGreatGAB
import Derived.Test.YtakalfckhailjaaGreatGAS
import Derived.Test.YtakalfckhailjaaGreatGAR
import Derived.Test.YtakalfckhailjaaGreatGBC
import Derived.Test.YtakalfckhailjaaGreatGAV
import Derived.Test.YtakalfckhailjaaGreatRdF5
import Derived.Deep.QuietTactic
import Derived.BigQuiet

/- Journals as they are recovered, as mathematics; rows of frames as elements. -/
namespace Go.Proofs.YtakalfckhailjaaGreat
open Go.RowKit Plain
set_option linter.unusedVariables false

/-- Frames as elements. -/
def frmE : Elem (Int × ByteArray) where
  E := 95
  S := 106
  n := 2
  bytes := 24
  zero := .agg #[.int .i64 0, .string ⟨#[]⟩]
  enc := fun f => [.int .i64 f.1, .string f.2]
  hund := Tryz.underlying106
  hinfo := by kernel_rfl
  hz := rfl
  hn := by decide
  hb := by decide
  hlen := fun _ => rfl
  hone := fun x u hu => by simp at hu; rcases hu with rfl | rfl <;> rfl
theorem own_frm {W : World} {B : Nat} {v : Value} {fs : List (Int × ByteArray)} (h : OwnF W B v fs) : OwnR frmE W B v fs := h
theorem RowAt.fm {W : World} {a : Option Addr} {xs : List (Int × ByteArray)} (h : RowAt frmE W a xs) (i : Nat) (hi : i < xs.length) : ∃ g, a = some ⟨g, 0, none⟩ ∧ g < W.heap.size ∧ W.cell? ⟨g, i * 2, none⟩ = some (.int .i64 xs[i].1) ∧ W.cell? ⟨g, i * 2 + 1, none⟩ = some (.string xs[i].2) := by
  obtain ⟨g, e, hl, hc⟩ := h i hi
  exact ⟨g, e, hl, (hc 0 (by decide)).1, (hc 1 (by decide)).1⟩

namespace Plain
theorem fr_go (s : ByteArray) : ∀ (f p done : Nat), ∀ x ∈ (run s f p done).1, x.2.size ≤ s.size
  | 0, p, done, x, hx => by rw [run] at hx; simp at hx
  | f + 1, p, done, x, hx => by
    by_cases h1 : s.size ≤ p
    · rw [run_end s f p done h1] at hx; simp at hx
    · by_cases h2 : done = 2000
      · subst h2; rw [run_many s f p h1] at hx; simp at hx
      · by_cases h3 : frC (s.extract p s.size) = 0
        · rw [run_next s f p done h1 h2 h3] at hx
          rcases List.mem_cons.1 hx with rfl | hx
          · unfold frm frB
            simp only [ByteArray.size_extract]
            omega
          · exact fr_go s f _ _ x hx
        · rw [run_code s f p done h1 h2 h3] at hx; simp at hx
theorem fr_le (s : ByteArray) : ∀ x ∈ (readF s).1, x.2.size ≤ s.size := fr_go s 2001 0 0
def votV : Option (Int × Int) → Value
  | some (t, v) => .tuple #[.int .i64 t, .int .i64 v, .bool true]
  | none => .tuple #[.int .i64 0, .int .i64 0, .bool false]
theorem vot_not {s : ByteArray} (h : (readF s).1.length ≠ 1) : votF s = none := by
  unfold votF
  split
  · rename_i f hf; rw [hf] at h; exact absurd rfl h
  · rfl
theorem vot_one {s : ByteArray} {k : Int} {b : ByteArray} (h : (readF s).1 = [(k, b)]) : votF s = if (readF s).2.2 = 0 ∧ k = 1 then (match stp b 0 with
    | none => none
    | some (t, p) => match stp b p with
      | none => none
      | some (v, q) => if q = b.size then some (t, v) else none) else none := by
  unfold votF
  rw [h]
  rfl
theorem vot_num {s : ByteArray} {t v : Int} (h : votF s = some (t, v)) : (0 ≤ t ∧ t ≤ 1000000000000) ∧ (0 ≤ v ∧ v ≤ 1000000000000) := by
  unfold votF at h
  split at h
  · split at h
    · split at h
      · cases h
      · rename_i t1 p h1
        split at h
        · cases h
        · rename_i v1 q h2
          split at h
          · cases h
            unfold stp at h1 h2
            constructor
            · cases h3 : tkN _ 0 with
              | none => rw [h3] at h1; cases h1
              | some y => rw [h3] at h1; have := tkN_le h3; simp at h1; omega
            · cases h3 : tkN _ p with
              | none => rw [h3] at h2; cases h2
              | some y => rw [h3] at h2; have := tkN_le h3; simp at h2; omega
          · cases h
    · cases h
  · cases h
/-- How many bytes the texts of entries are. -/
def logZ (es : List Ent) : Nat := (es.map fun e => (entT e.term e.kind e.body).size).sum
theorem logZ_snoc (es : List Ent) (e : Ent) : logZ (es ++ [e]) = logZ es + (entT e.term e.kind e.body).size := by simp [logZ]
def voteN : ByteArray := ⟨#[118, 111, 116, 101]⟩
def logN : ByteArray := ⟨#[108, 111, 103]⟩
/-- The vote on a right disk, then the journal. -/
noncomputable def votD (live : List Fl) : Option (Int × Int) := match tabF live voteN with
  | none => some (0, 0)
  | some d => votF d
noncomputable def logD (live : List Fl) (t : Int) : List Ent := logF ((tabF live logN).getD ⟨#[]⟩) t
theorem dk_live {live safe : List Fl} {ops : List Dop} (h : diskB live safe ops = true) : filesB live = true := by
  unfold diskB at h
  rw [Bool.and_eq_true] at h
  exact h.1
theorem log_empty (t : Int) : logF ⟨#[]⟩ t = [] := by
  unfold logF
  have : (readF ⟨#[]⟩).1 = [] := by unfold readF; rw [run_end ⟨#[]⟩ 2000 0 0 (show (⟨#[]⟩ : ByteArray).size ≤ 0 from Nat.le_refl 0)]
  rw [this]; rfl
end Plain
end Go.Proofs.YtakalfckhailjaaGreat


/- What is recovered of a disk, as mathematics. -/
namespace Go.Proofs.YtakalfckhailjaaGreat
open Go.RowKit Go.Maps Plain
set_option linter.unusedVariables false

namespace Plain
/-- Whether there is a journal, its term, its vote, its entries. -/
noncomputable def recT (live safe : List Fl) (ops : List Dop) : Bool × Int × Int × List Ent := if diskB live safe ops = true then (match votD live with
  | none => (false, 0, 0, [])
  | some (t, v) => (true, t, v, logD live t)) else (false, 0, 0, [])
theorem Tab.blk {W X : World} {b m : Nat} {f : ByteArray → Option ByteArray} (h : Tab W b m f) (hb : X.heap[b]? = W.heap[b]?) : Tab X b m f := by
  obtain ⟨D, hown, hD⟩ := h
  obtain ⟨es, clock, h1, Ft, hs, h2⟩ := hown
  exact ⟨D, ⟨es, clock, hb.trans h1, Ft, hs, h2⟩, hD⟩
theorem fileAt_some {f : ByteArray → Option ByteArray} {nm d : ByteArray} (h : f nm = some d) : fileAt f nm = .agg #[.string nm, .string d] := by unfold fileAt; rw [h]
theorem fileAt_none {f : ByteArray → Option ByteArray} {nm : ByteArray} (h : f nm = none) : fileAt f nm = .agg #[.string ⟨#[]⟩, .string ⟨#[]⟩] := by unfold fileAt; rw [h]
theorem fileAt_any (f : ByteArray → Option ByteArray) (nm : ByteArray) : ∃ n', fileAt f nm = .agg #[.string n', .string ((f nm).getD ⟨#[]⟩)] := by
  cases h : f nm with
  | none => exact ⟨_, fileAt_none h⟩
  | some d => exact ⟨_, fileAt_some h⟩
theorem tabF_mem : ∀ (fs : List Fl) (n d : ByteArray), tabF fs n = some d → (n, d) ∈ fs
  | [], n, d, h => by simp [tabF] at h
  | f :: t, n, d, h => by
    rw [tabF] at h
    simp only at h
    cases h2 : tabF t n with
    | some y =>
      rw [h2] at h
      cases h
      exact List.mem_cons_of_mem _ (tabF_mem t n d h2)
    | none =>
      rw [h2] at h
      by_cases hn : n = f.1
      · rw [if_pos hn] at h
        cases h
        rw [hn]
        exact List.mem_cons_self
      · rw [if_neg hn] at h
        cases h
theorem tab_size' {fs : List Fl} (h : filesB fs = true) (n : ByteArray) : ((tabF fs n).getD ⟨#[]⟩).size ≤ 200000 := by
  cases h2 : tabF fs n with
  | none => exact Nat.zero_le _
  | some d => exact ((files_small h).2 _ (tabF_mem fs n d h2)).2
end Plain
end Go.Proofs.YtakalfckhailjaaGreat


/- The vote of a file, as the program reads it. -/
namespace Go.Proofs.YtakalfckhailjaaGreat
open Go.RowKit Plain
set_option linter.unusedVariables false

theorem Plain.stp_raw {s : ByteArray} {p : Nat} {g : Bool} (h : (tkN s p).isSome = g) : stp s p = if g = true then some (rawN s p) else none := by
  subst h
  unfold rawN
  cases h2 : tkN s p with
  | none => simp [stp, h2]
  | some y => simp [stp, h2]

set_option maxRecDepth 10000 in
set_option maxHeartbeats 4000000 in
theorem readVote_calls (s : ByteArray) (w : World) (hs : s.size ≤ 1000000000) :
    Calls Tryz.prog 49 #[.string s] w fun e w' => e = .returned (votV (votF s)) ∧ Below w.heap.size w w' := by
  have HRD := hide (implRead_calls s w hs)
  have HNOT := hide (vot_not (s := s))
  have HONE := hide (fun k b => vot_one (s := s) (k := k) (b := b))
  have HSM := hide (fr_le s)
  generalize votF s = V at HNOT HONE ⊢
  generalize readF s = Q at HRD HNOT HONE HSM
  obtain ⟨F, ps, c⟩ := Q
  simp only [] at HRD HNOT HONE HSM
  by_cases hl : F.length = 1
  · obtain ⟨f, rfl⟩ : ∃ f, F = [f] := List.length_eq_one_iff.1 hl
    obtain ⟨k, b⟩ := f
    have hv := unhide HONE k b rfl
    have hbz : b.size ≤ 1000000000 := Nat.le_trans (unhide HSM _ List.mem_cons_self) hs
    clear HONE HNOT HSM hl
    by_cases hck : c = 0 ∧ k = 1
    · obtain ⟨rfl, rfl⟩ := hck
      rw [if_pos ⟨rfl, rfl⟩] at hv
      obtain ⟨g1, e1, e2, hp1, hv1, i1⟩ := raw_num b 0 (Nat.zero_le _)
      have s1 := stp_raw i1
      have HN := hide (fun (W : World) (B : Nat) (h0 : W.cell? ⟨B, 0, none⟩ = some (.string b)) (h1 : W.cell? ⟨B, 0 + 1, none⟩ = some (.int .i64 ((0 : Nat) : Int))) (h2 : W.frozen? ⟨B, 0 + 1, none⟩ = false) => number_ok B 0 b 0 W h0 h1 h2 (by omega) (Nat.zero_le _))
      rw [e1, e2] at HN
      generalize rawN b 0 = n1 at HN s1 hp1 hv1
      obtain ⟨t1, p1⟩ := n1
      simp only [] at HN hp1 hv1
      obtain ⟨g2, e3, e4, hp2, hv2, i2⟩ := raw_num b p1 hp1
      have s2 := stp_raw i2
      have HM := hide (fun (W : World) (B : Nat) (h0 : W.cell? ⟨B, 0, none⟩ = some (.string b)) (h1 : W.cell? ⟨B, 0 + 1, none⟩ = some (.int .i64 p1)) (h2 : W.frozen? ⟨B, 0 + 1, none⟩ = false) => number_ok B 0 b p1 W h0 h1 h2 (by omega) hp1)
      rw [e3, e4] at HM
      generalize rawN b p1 = n2 at HM s2 hp2 hv2
      obtain ⟨t2, p2⟩ := n2
      simp only [] at HM hp2 hv2
      obtain ⟨em, hem⟩ : ∃ em : Bool, (b.extract p2 b.size).toList.isEmpty = em := ⟨_, rfl⟩
      have hq : (p2 = b.size) ↔ em = true := by
        rw [← hem, ByteArray.toList_eq, List.isEmpty_iff_length_eq_zero, Array.length_toList]
        show _ ↔ (b.extract p2 b.size).size = 0
        rw [ByteArray.size_extract]
        omega
      have hv3 : V = if g1 = true ∧ g2 = true ∧ em = true then some (t1, t2) else none := by
        rw [hv, s1]
        cases g1 with
        | false => simp
        | true =>
          simp only [if_true]
          rw [s2]
          cases g2 with
          | false => simp
          | true => simp [hq]
      have HV := hide hv3
      clear hv s1 s2 hv3 e1 e2 e3 e4 i1 i2 hq
      go_enter Tryz.func49, Tryz.ntmps49
      go_wp2_with fail
      refine (unhide HRD).mono ?_
      rintro e w1 ⟨v, rfl, ho, hb1⟩
      obtain ⟨fa, fc, rfl⟩ := ownF_form ho
      obtain ⟨g, e1, l1, q0, q1⟩ := (OwnR.at (own_frm ho)).fm 0 (by simp)
      subst e1
      simp only [List.getElem_cons_zero, Nat.zero_mul, Nat.zero_add] at q0 q1
      obtain ⟨W2, hW2⟩ : ∃ W2, W2 = w1.alloc (.cells #[.string b, .int .i64 0] 146) := ⟨_, rfl⟩
      have hb2 : Below w1.heap.size w1 W2 := by rw [hW2]; exact bel1 _ _
      have c0 : W2.cell? ⟨w1.heap.size, 0, none⟩ = some (.string b) := by rw [hW2]; simp [go_sem]
      have c1 : W2.cell? ⟨w1.heap.size, 0 + 1, none⟩ = some (.int .i64 ((0 : Nat) : Int)) := by rw [hW2]; simp [go_sem]
      have z1 : W2.frozen? ⟨w1.heap.size, 0 + 1, none⟩ = false := by rw [hW2]; simp [go_sem]
      have HN2 := hide (unhide HN W2 _ c0 c1 z1)
      have HC2 := hide (And.intro c0 z1)
      have HB2 := hide (belOn hb1 hb2)
      have HW2 := hide hW2.symm
      have HL := hide (show w.heap.size ≤ w1.heap.size from hb1.size)
      clear hW2 ho hb1 hb2 c0 c1 z1 HN HRD
      go_wp2_with fail
      rw [unhide HW2]
      refine (unhide HN2).mono ?_
      rintro e w3 ⟨rfl, ho1, hc1⟩
      obtain ⟨c0, z1⟩ := unhide HC2
      have lW := lt_of_cell c0
      have d0 := (ho1.cell ⟨w1.heap.size, 0, none⟩ lW (by simp)).trans c0
      have d1 := (ho1.frozen ⟨w1.heap.size, 0 + 1, none⟩ lW).trans z1
      have HM3 := hide (unhide HM w3 _ d0 hc1 d1)
      have HC3 := hide d0
      have HB3 := hide ((unhide HB2).trans (ho1.below (unhide HL) (unhide HB2).size))
      clear ho1 hc1 c0 z1 d0 d1 HM HN2 HC2 lW
      go_wp2_with fail
      refine (unhide HM3).mono ?_
      rintro e w4 ⟨rfl, ho2, hc2⟩
      have d0 := unhide HC3
      have lW := lt_of_cell d0
      have HRE := hide (rest_ok w1.heap.size 0 b p2 w4 ((ho2.cell ⟨w1.heap.size, 0, none⟩ lW (by simp)).trans d0) hc2 (by omega) hp2)
      have HB4 := hide ((unhide HB3).trans (ho2.below (unhide HL) (unhide HB3).size))
      clear ho2 hc2 d0 lW HM3 HC3
      cases g1 <;> cases g2 <;> cases em
      all_goals
        go_wp2_with (go_at_call 92; refine (unhide HRE).mono ?_; rintro e w5 ⟨rfl, nq, rfl⟩)
        go_ret3
        refine ⟨by rw [unhide HV]; rfl, ?_⟩
        first
          | exact unhide HB4
          | exact belDN (unhide HB4)
    · have HV : Hid (V = none) := hide (by rw [hv, if_neg hck])
      clear hv
      have h3 : (c = 0 ∧ k ≠ 1) ∨ c ≠ 0 := by
        by_cases h : c = 0
        · exact .inl ⟨h, fun q => hck ⟨h, q⟩⟩
        · exact .inr h
      clear hck
      rcases h3 with ⟨rfl, hk⟩ | hc
      all_goals
        go_enter Tryz.func49, Tryz.ntmps49
        go_wp2_with fail
        refine (unhide HRD).mono ?_
        rintro e w1 ⟨v, rfl, ho, hb1⟩
        obtain ⟨fa, fc, rfl⟩ := ownF_form ho
        obtain ⟨g, e1, l1, q0, q1⟩ := (OwnR.at (own_frm ho)).fm 0 (by simp)
        subst e1
        simp only [List.getElem_cons_zero, Nat.zero_mul, Nat.zero_add] at q0 q1
        have HB1 := hide hb1
        clear ho hb1
        go_wp2_with fail
        go_ret3
        exact ⟨by rw [unhide HV]; rfl, unhide HB1⟩
  · have HV := hide (unhide HNOT hl)
    clear HONE HNOT HSM
    have hl2 : ¬ ((F.length : Int) = 1) := by omega
    go_enter Tryz.func49, Tryz.ntmps49
    go_wp2_with fail
    refine (unhide HRD).mono ?_
    rintro e w1 ⟨v, rfl, ho, hb1⟩
    obtain ⟨fa, fc, rfl⟩ := ownF_form ho
    have HB1 := hide hb1
    clear ho hb1
    go_wp2_with fail
    go_ret3
    exact ⟨by rw [unhide HV]; rfl, unhide HB1⟩
end Go.Proofs.YtakalfckhailjaaGreat


/- A log, as the specification reads it. -/
namespace Go.Proofs.YtakalfckhailjaaGreat
open Go.RowKit Plain
set_option linter.unusedVariables false

namespace Plain
theorem entT_small (t k : Int) (b : ByteArray) : (entT t k b).size ≤ 2000000 := by
  unfold entT
  cases h : entB t k b with
  | false => exact Nat.zero_le _
  | true =>
    rw [if_pos rfl]
    have := entB_sizes h
    unfold frameB
    split
    · rw [ByteArray.size_append, seal_size, four_size]; omega
    · exact Nat.zero_le _
theorem logZ_le : ∀ es : List Ent, logZ es ≤ es.length * 2000000
  | [] => Nat.zero_le _
  | e :: l => by
    have h1 := logZ_le l
    have h2 := entT_small e.term e.kind e.body
    have h3 : logZ (e :: l) = (entT e.term e.kind e.body).size + logZ l := by simp [logZ]
    rw [h3, List.length_cons]
    omega
/-- Rows of unlike elements lie apart. -/
theorem rows_apart {α β : Type} {e : Elem α} {e' : Elem β} {W : World} {B B' : Nat} {v v' : Value} {xs : List α} {ys : List β} (h : OwnR e W B v xs) (h' : OwnR e' W B' v' ys) (hne : e.E ≠ e'.E) : ∀ g, v.ownBlock = some g → v'.ownBlock = some g → False := by
  intro g h1 h2
  rcases h.2 with ⟨q, _⟩ | ⟨g1, cap, cur, q, c, d, r⟩
  · rw [q] at h1; cases h1
  · rcases h'.2 with ⟨q', _⟩ | ⟨g2, cap', cur', q', c', d', r'⟩
    · rw [q'] at h2; cases h2
    · rw [q] at h1; rw [q'] at h2
      obtain rfl : g1 = g := Option.some.inj h1
      obtain rfl : g2 = g1 := Option.some.inj h2
      rw [d] at d'
      simp at d'
      exact hne d'.2
theorem own_beside {α β : Type} {e : Elem α} {e' : Elem β} {W W' : World} {B B' : Nat} {v v' : Value} {xs : List α} {ys : List β} {o : Obj} (h : OwnR e W B v xs) (h' : OwnR e' W B' v' ys) (hne : e.E ≠ e'.E) (hg : (W.alloc o).grownBy W' v'.ownBlock) : OwnR e W' B v xs := by
  refine ⟨h.1, ?_⟩
  rcases h.2 with ⟨q, c⟩ | ⟨g, cap, cur, q, c, d, r⟩
  · exact .inl ⟨q, c⟩
  · have hl := (Array.getElem?_eq_some_iff.1 d).1
    refine .inr ⟨g, cap, cur, q, c, (hg.block g (by simp; omega) (fun e1 => rows_apart h h' hne g (by rw [q]; rfl) e1.symm)).trans (((Below.refl W.heap.size W).alloc (Nat.le_refl _) _).block g hl |>.trans d), r⟩
theorem own_below' {α : Type} {e : Elem α} {W W' : World} {B : Nat} {v : Value} {xs : List α} (h : OwnR e W B v xs) (hb : Below W.heap.size W W') : OwnR e W' B v xs := h.keep hb
theorem acc_five {term : Int} {acc : List Ent} {f : Int × ByteArray} (h5 : acc.length < 500) : accE term acc f = (fiveE f).filter fun e => decide (e.term ≤ term) && decide (prevT acc acc.length ≤ e.term) := by unfold accE; rw [if_pos h5]
theorem five_ok {f : Int × ByteArray} {e : Ent} (h : fiveE f = some e) : 1 ≤ e.term := by
  unfold fiveE at h
  split at h
  · cases h
  · split at h
    · cases h
    · split at h
      · cases h
      · split at h
        · rename_i hc
          cases h
          exact (entB_yes hc.2.2).1
        · cases h
theorem log_full {term : Int} {acc : List Ent} {l : List (Int × ByteArray)} (h : acc.length = 500) : logE term acc l = acc := by
  cases l with
  | nil => rfl
  | cons f l =>
    have : accE term acc f = none := by unfold accE; rw [if_neg (by omega)]
    rw [logE, this]
end Plain

set_option maxRecDepth 10000 in
set_option maxHeartbeats 4000000 in
theorem l5Log_calls (s : ByteArray) (term : Int) (w : World) (hs : s.size ≤ 1000000000) :
    Calls Tryz.prog 73 #[.string s, .int .i64 term] w fun e w' => ∃ v, e = .returned (.tuple #[v, .int .i64 (logZ (logF s term) : Nat)]) ∧ OwnR entE w' w.heap.size v (logF s term) ∧ Below w.heap.size w w' := by
  obtain ⟨LF, hLF⟩ : ∃ LF, logF s term = LF := ⟨_, rfl⟩
  have hst : logE term [] (readF s).1 = LF := hLF
  rw [hLF]
  clear hLF
  obtain ⟨W0, hW0⟩ : ∃ W0, W0 = w.alloc (.cells #[] 45) := ⟨_, rfl⟩
  have ho0 : OwnR entE W0 w.heap.size (.slice (some ⟨w.heap.size, 0, none⟩) 0 0) [] := by rw [hW0]; exact ownR_empty entE w _ (Nat.le_refl _)
  have hb0 : Below w.heap.size w W0 := by rw [hW0]; exact bel1 _ _
  have HRD := hide (specRead_calls s W0 hs)
  have HSM := hide (fr_le s)
  have HW0 := hide hW0.symm
  have HO0 := hide ho0
  have HB0 := hide hb0
  clear ho0 hb0 hW0
  generalize readF s = Q at HRD HSM hst
  obtain ⟨F, ps, cc⟩ := Q
  simp only [] at HRD HSM hst
  have HST := hide hst
  clear hst
  go_enter Tryz.func73, Tryz.ntmps73
  go_wp2_with fail
  rw [unhide HW0]
  refine (unhide HRD).mono ?_
  rintro e w1 ⟨vf, rfl, hof, hb1⟩
  obtain ⟨fa, fc, rfl⟩ := ownF_form hof
  have HO1 := hide (own_below' (unhide HO0) hb1)
  have HF1 := hide (own_frm hof)
  have HB1 := hide (belOn (unhide HB0) hb1)
  obtain ⟨nF, hnF⟩ : ∃ nF, F.length = nF := ⟨_, rfl⟩
  rw [hnF] at HF1
  have HNF := hide hnF
  clear hof hb1 HRD HO0 HB0 HW0
  rw [hnF]
  clear hnF
  go_wp2_with fail
  go_loopw [6, 7, 11, 12, 13] (fun v z i _ _ wr => ∃ acc : List Ent, i = .int .i64 acc.length ∧ z = .int .i64 (logZ acc : Nat) ∧ acc.length ≤ nF ∧ acc.length ≤ 500 ∧ Hid (logE term acc (F.drop acc.length) = LF) ∧ Hid (OwnR entE wr w.heap.size v acc) ∧ Hid (OwnR frmE wr W0.heap.size (.slice fa nF fc) F) ∧ Hid (Below w.heap.size w wr)) (fun _ _ i _ _ _ => nF - (intOf i).toNat)
  case atStart =>
    exact ⟨[], rfl, rfl, Nat.zero_le _, by decide, HST, HO1, HF1, HB1⟩
  case round =>
    obtain ⟨acc, rfl, rfl, ha1, ha5, HS, HO, HF, HB⟩ := hrel
    obtain ⟨va, vc, rfl⟩ := (unhide HO).form
    have hzl := logZ_le acc
    by_cases h1 : acc.length < nF
    · have g1 : (acc.length : Int) < (nF : Int) := by omega
      by_cases h5 : acc.length < 500
      · have g5 : (acc.length : Int) < 500 := by omega
        have hfl : acc.length < F.length := by rw [unhide HNF]; exact h1
        obtain ⟨g, e1, l1, p0, p1⟩ := (OwnR.at (unhide HF)).fm acc.length hfl
        have hsm := unhide HSM F[acc.length] (List.getElem_mem hfl)
        have hstp := unhide HS
        rw [List.drop_eq_getElem_cons hfl, logE, acc_five h5] at hstp
        have HRE := hide (fun (W : World) => l5Read_calls F[acc.length].1 F[acc.length].2 W (Nat.le_trans hsm hs))
        generalize F[acc.length] = f at p0 p1 hsm hstp HRE
        obtain ⟨k, b⟩ := f
        simp only at p0 p1 hsm hstp HRE
        subst e1
        have HST2 := hide hstp
        clear hstp hfl
        have i0 : (0 : Int) ≤ (acc.length : Int) := by omega
        go_wp2_with fail
        refine (unhide HRE _).mono ?_
        rintro e w3 ⟨t1, t2, t3, ok, rfl, h3, h5r, hb3⟩
        cases ok with
        | false =>
          rw [if_neg (by simp)] at h5r
          have HL := hide (show acc = LF from by have h := unhide HST2; rw [h5r] at h; exact h)
          have HB3 := hide (belOn (unhide HB) hb3)
          have HO3 := hide (own_below' (unhide HO) hb3)
          clear hb3
          go_wp2_with fail
          go_quiet (fail)
          all_goals (try go_wp2_with fail)
          go_ret2
          have hll := unhide HL
          subst hll
          exact ⟨_, rfl, own_below' (unhide HO3) (belQ (bel1 _ _) _), belQ (belOn (unhide HB3) (bel1 _ _)) _⟩
        | true =>
          rw [if_pos rfl] at h5r
          have ht1 : 1 ≤ t1 := five_ok h5r
          have hst3 := unhide HST2
          rw [h5r] at hst3
          simp only [Option.filter] at hst3
          have HST3 := hide hst3
          clear hst3 HST2
          obtain ⟨W4, hW4⟩ : ∃ W4, W4 = w3.alloc (.cells #[.int .i64 t1, .int .i64 t2, .string t3] 45) := ⟨_, rfl⟩
          have hb4 : Below w3.heap.size w3 W4 := by rw [hW4]; exact bel1 _ _
          have d0 : W4.cell? ⟨w3.heap.size, 0, none⟩ = some (.int .i64 t1) := by rw [hW4]; simp [go_sem]
          have d1 : W4.cell? ⟨w3.heap.size, 1, none⟩ = some (.int .i64 t2) := by rw [hW4]; simp [go_sem]
          have d2 : W4.cell? ⟨w3.heap.size, 2, none⟩ = some (.string t3) := by rw [hW4]; simp [go_sem]
          have hbr := belOn hb3 hb4
          have HO4 := hide (own_below' (unhide HO) hbr)
          have HF4 := hide (own_below' (unhide HF) hbr)
          have HB4 := hide (belOn (unhide HB) hbr)
          have HDD := hide (fun (W : World) (hW : W.heap[w3.heap.size]? = W4.heap[w3.heap.size]?) => And.intro ((World.cell?_of_block (a := ⟨w3.heap.size, 0, none⟩) hW).trans d0) (And.intro ((World.cell?_of_block (a := ⟨w3.heap.size, 1, none⟩) hW).trans d1) ((World.cell?_of_block (a := ⟨w3.heap.size, 2, none⟩) hW).trans d2)))
          have hz3 := hb3.size
          have hlt4 : w3.heap.size < W4.heap.size := by rw [hW4]; simp
          have HW4 := hide hW4.symm
          clear hb4 hbr hW4 hb3
          by_cases hg : term < t1
          · have hd1 : (decide (t1 ≤ term) && decide (prevT acc acc.length ≤ t1)) = false := by rw [decide_eq_false (by omega)]; rfl
            have HL := hide (show acc = LF from by have h := unhide HST3; simp only [hd1, Bool.false_eq_true, if_false] at h; exact h)
            have hdg : decide (term < t1) = true := decide_eq_true hg
            clear hd1
            go_wp2_with fail
            rw [unhide HW4]
            go_quiet (fail)
            all_goals (try go_wp2_with fail)
            go_ret2
            rw [← unhide HL]
            exact ⟨_, rfl, unhide HO4, belQ (unhide HB4) _⟩
          · have hdg : decide (term < t1) = false := decide_eq_false hg
            have hlen : acc.length < 100000000 := by omega
            have hz1 := (unhide HB).size
            have hzw : w.heap.size ≤ W4.heap.size := by omega
            have hes := entT_small t1 t2 t3
            have hzn : logZ (acc ++ [⟨t1, t2, t3⟩]) = logZ acc + (entT t1 t2 t3).size := logZ_snoc acc ⟨t1, t2, t3⟩
            rcases Nat.eq_zero_or_pos acc.length with h0 | h0
            · have hd1 : (decide (t1 ≤ term) && decide (prevT acc acc.length ≤ t1)) = true := by
                rw [h0, decide_eq_true (show t1 ≤ term by omega), Bool.true_and]
                exact decide_eq_true (by show (0 : Int) ≤ t1; omega)
              have HST4 := hide (show logE term (acc ++ [⟨t1, t2, t3⟩]) (F.drop (acc.length + 1)) = LF from by have h := unhide HST3; simp only [hd1, if_true] at h; exact h)
              have hz0 : decide (0 < acc.length) = false := by rw [h0]; rfl
              have hz0i : decide ((0 : Int) < (acc.length : Int)) = false := by rw [h0]; rfl
              have H0 := hide h0
              clear hd1 h0 hz0i
              generalize hZ : logZ acc = Z at *
              go_wp2_with fail
              rw [unhide HW4]
              go_quiet (fail)
              all_goals (try go_wp2_with (first | (at_builtin; refine appR (e := entE) rfl _ _ rfl (OwnR.drewN (unhide HO4) _) rfl ⟨t1, t2, t3⟩ rfl _ rfl rfl hlen hzw ?_; intro v6 w6 hown6 hb6 hg6; obtain ⟨a6, c6, hv6⟩ := hown6.form; subst hv6; have hgb := hg6.block; have hd6 := unhide HDD w6 ((hg6.block w3.heap.size (by simp; omega) (fun e => by have := (World.ownsRow.lt (unhide HO) _ e.symm).2; omega)).trans (((Below.refl W4.heap.size W4).alloc (Nat.le_refl _) _).block w3.heap.size hlt4)); obtain ⟨x0, x1, x2⟩ := hd6) | (go_at_call 20; refine (spec_EntryText t1 t2 t3 w6 (by omega)).mono ?_; rintro e w7 ⟨rfl, hb7⟩)))
              have hz4 : (acc ++ [(⟨t1, t2, t3⟩ : Ent)]).length = acc.length + 1 := by simp
              rw [hz4] at hown6
              have hbb6 : Below w.heap.size w w6 := (belQ (unhide HB4) nq).trans hb6
              have hF6 := own_beside (OwnR.drewN (unhide HF4) nq) (OwnR.drewN (unhide HO4) nq) (show frmE.E ≠ entE.E from by decide) hg6
              refine ⟨⟨acc ++ [⟨t1, t2, t3⟩], by rw [hz4]; rfl, ?_, by omega, by omega, ?_, hide (own_below' hown6 hb7), hide (own_below' hF6 hb7), hide (belOn hbb6 hb7)⟩, by simp [intOf]; omega⟩
              · rw [hzn]
                first
                  | rfl
                  | (congr 1; unfold wrap64; omega)
              · rw [hz4]
                exact HST4
            · obtain ⟨j, hj⟩ : ∃ j, acc.length = j + 1 := ⟨acc.length - 1, by omega⟩
              have hjl : j < acc.length := by omega
              have hpv : prevT acc acc.length = acc[j].term := by rw [hj, prevT, List.getElem?_eq_getElem hjl]; rfl
              obtain ⟨g2, e2, l2, u0, u1, u2⟩ := (OwnR.at (unhide HO4)).ex j hjl
              rw [hpv] at HST3
              generalize acc[j].term = pt at u0 HST3
              clear u1 u2 hpv
              subst e2
              have j0 : (0 : Int) ≤ (j : Int) := by omega
              have j1 : (j : Int) < (acc.length : Int) := by omega
              have jw : IntKind.i64.wrap ((acc.length : Int) - 1) = (j : Int) := by rw [IntKind.wrap_i64]; omega
              have hz0 : decide (0 < acc.length) = true := decide_eq_true (by omega)
              by_cases hp : t1 < pt
              · have hd1 : (decide (t1 ≤ term) && decide (pt ≤ t1)) = false := by rw [decide_eq_false (show ¬ pt ≤ t1 by omega), Bool.and_false]
                have HL := hide (show acc = LF from by have h := unhide HST3; simp only [hd1, Bool.false_eq_true, if_false] at h; exact h)
                have hdp : decide (t1 < pt) = true := decide_eq_true hp
                have HJ := hide hj
                clear hd1 hj
                go_wp2_with fail
                rw [unhide HW4]
                go_quiet (fail)
                all_goals (try go_wp2_with fail)
                go_ret2
                rw [← unhide HL]
                exact ⟨_, rfl, unhide HO4, belQ (unhide HB4) _⟩
              · have hd1 : (decide (t1 ≤ term) && decide (pt ≤ t1)) = true := by rw [decide_eq_true (show t1 ≤ term by omega), Bool.true_and]; exact decide_eq_true (by omega)
                have HST4 := hide (show logE term (acc ++ [⟨t1, t2, t3⟩]) (F.drop (acc.length + 1)) = LF from by have h := unhide HST3; simp only [hd1, if_true] at h; exact h)
                have hdp : decide (t1 < pt) = false := decide_eq_false hp
                have HJ := hide hj
                clear hd1 hj
                generalize hZ : logZ acc = Z at *
                go_wp2_with fail
                rw [unhide HW4]
                go_quiet (fail)
                all_goals (try go_wp2_with (first | (at_builtin; refine appR (e := entE) rfl _ _ rfl (OwnR.drewN (unhide HO4) _) rfl ⟨t1, t2, t3⟩ rfl _ rfl rfl hlen hzw ?_; intro v6 w6 hown6 hb6 hg6; obtain ⟨a6, c6, hv6⟩ := hown6.form; subst hv6; have hgb := hg6.block; have hd6 := unhide HDD w6 ((hg6.block w3.heap.size (by simp; omega) (fun e => by have := (World.ownsRow.lt (unhide HO) _ e.symm).2; omega)).trans (((Below.refl W4.heap.size W4).alloc (Nat.le_refl _) _).block w3.heap.size hlt4)); obtain ⟨x0, x1, x2⟩ := hd6) | (go_at_call 20; refine (spec_EntryText t1 t2 t3 w6 (by omega)).mono ?_; rintro e w7 ⟨rfl, hb7⟩)))
                have hz4 : (acc ++ [(⟨t1, t2, t3⟩ : Ent)]).length = acc.length + 1 := by simp
                rw [hz4] at hown6
                have hbb6 : Below w.heap.size w w6 := (belQ (unhide HB4) nq).trans hb6
                have hF6 := own_beside (OwnR.drewN (unhide HF4) nq) (OwnR.drewN (unhide HO4) nq) (show frmE.E ≠ entE.E from by decide) hg6
                refine ⟨⟨acc ++ [⟨t1, t2, t3⟩], by rw [hz4]; rfl, ?_, by omega, by omega, ?_, hide (own_below' hown6 hb7), hide (own_below' hF6 hb7), hide (belOn hbb6 hb7)⟩, by simp [intOf]; omega⟩
                · rw [hzn]
                  first
                    | rfl
                    | (congr 1; unfold wrap64; omega)
                · rw [hz4]
                  exact HST4
      · have hl5 : acc.length = 500 := by omega
        have HL := hide ((log_full (term := term) (l := F.drop acc.length) hl5).symm.trans (unhide HS))
        clear hl5
        have g5 : ¬ (acc.length : Int) < 500 := by omega
        go_wp2_with fail
        go_ret2
        have hll := unhide HL
        subst hll
        exact ⟨.slice va acc.length vc, rfl, unhide HO, unhide HB⟩
    · have HL := hide (show acc = LF from by rw [← unhide HS, List.drop_of_length_le (by rw [unhide HNF]; omega)]; rfl)
      have g1 : ¬ (acc.length : Int) < (nF : Int) := by omega
      go_wp2_with fail
      go_ret2
      have hll := unhide HL
      subst hll
      exact ⟨.slice va acc.length vc, rfl, unhide HO, unhide HB⟩
end Go.Proofs.YtakalfckhailjaaGreat

