/- Texts of one kind, put together. -/
import Derived.Test.YtakalfckhailjaaGreatGAK
import Derived.Test.YtakalfckhailjaaGreatGAM
import Derived.Test.YtakalfckhailjaaGreatGAT
import Derived.Test.YtakalfckhailjaaGreatGBA
import Derived.Test.YtakalfckhailjaaGreatGAW
import Derived.Test.YtakalfckhailjaaGreatGAJ
import Derived.Test.YtakalfckhailjaaGreatGAF

/- The text of a vote, by both programs; who may vote. -/
namespace Go.Proofs.YtakalfckhailjaaGreat
open Go.RowKit Plain
set_option linter.unusedVariables false

namespace Plain
def voteB (t v : Int) : ByteArray := frameB 1 (putS t ++ putS v)
theorem vote_body (t v : Int) : (putS t ++ putS v).size ≤ 1000000 := by
  have h1 := putS_size t
  have h2 := putS_size v
  rw [ByteArray.size_append]
  omega
theorem voteB_small (t v : Int) : (voteB t v).size ≤ 2000000 := by
  unfold voteB frameB
  have := vote_body t v
  split
  · rw [ByteArray.size_append, seal_size, four_size]; omega
  · exact Nat.zero_le _
/-- Whether a vote may be saved. -/
def mayB (T V t v : Int) : Bool := if t = T then decide (V = 0) || decide (v = V) else decide (T < t)
end Plain

set_option maxRecDepth 10000 in
set_option maxHeartbeats 1000000 in
theorem voteText_calls (t v : Int) (w : World) : Calls Tryz.prog 54 #[.int .i64 t, .int .i64 v] w fun e w' => e = .returned (.string (voteB t v)) ∧ Below w.heap.size w w' := by
  have hz := vote_body t v
  unfold voteB
  have H1 := hide (fun W => impl_PutNumber t W)
  have H2 := hide (fun W => impl_PutNumber v W)
  have h1 := putS_size t
  have h2 := putS_size v
  generalize putS t = A at *
  generalize putS v = B at *
  have e1 := fun W => str_add (a := A) (b := B) W (by omega)
  have HWF := hide (fun W => impl_WriteFrame 1 (A ++ B) W (by omega))
  go_enter Tryz.func54, Tryz.ntmps54
  go_wp2_with fail
  refine (unhide H1 _).mono ?_
  rintro e w1 ⟨rfl, hb1⟩
  go_wp2_with fail
  refine (unhide H2 _).mono ?_
  rintro e w2 ⟨rfl, hb2⟩
  go_wp2_with fail
  refine (unhide HWF _).mono ?_
  rintro e w3 ⟨rfl, hb3⟩
  have HB := hide (belOn (belOn hb1 hb2) hb3)
  clear hb1 hb2 hb3
  go_wp2_with fail
  go_ret
  exact ⟨rfl, unhide HB⟩

set_option maxRecDepth 10000 in
set_option maxHeartbeats 1000000 in
theorem l5Vote_calls (t v : Int) (w : World) : Calls Tryz.prog 51 #[.int .i64 t, .int .i64 v] w fun e w' => e = .returned (.string (voteB t v)) ∧ Below w.heap.size w w' := by
  have hz := vote_body t v
  unfold voteB
  have H1 := hide (fun W => spec_PutNumber t W)
  have H2 := hide (fun W => spec_PutNumber v W)
  have h1 := putS_size t
  have h2 := putS_size v
  generalize putS t = A at *
  generalize putS v = B at *
  have e1 := fun W => str_add (a := A) (b := B) W (by omega)
  have HWF := hide (fun W => spec_WriteFrame 1 (A ++ B) W (by omega))
  go_enter Tryz.func51, Tryz.ntmps51
  go_wp2_with fail
  refine (unhide H1 _).mono ?_
  rintro e w1 ⟨rfl, hb1⟩
  go_wp2_with fail
  refine (unhide H2 _).mono ?_
  rintro e w2 ⟨rfl, hb2⟩
  go_wp2_with fail
  refine (unhide HWF _).mono ?_
  rintro e w3 ⟨rfl, hb3⟩
  have HB := hide (belOn (belOn hb1 hb2) hb3)
  clear hb1 hb2 hb3
  go_wp2_with fail
  go_ret
  exact ⟨rfl, unhide HB⟩

set_option maxRecDepth 10000 in
set_option maxHeartbeats 1000000 in
theorem mayVote_calls (T V t v : Int) (s : Value) (a : Option Addr) (n c : Nat) (w : World) : Calls Tryz.prog 53 #[.agg #[.int .i64 T, .int .i64 V, .slice a n c], .int .i64 t, .int .i64 v] w fun e w' => e = .returned (.bool (mayB T V t v)) ∧ Below w.heap.size w w' := by
  unfold mayB
  by_cases h1 : t = T
  · subst h1
    rw [if_pos rfl]
    go_enter Tryz.func53, Tryz.ntmps53
    go_wp2_with fail
    all_goals (try go_ret)
    all_goals refine ⟨?_, bel1 _ _⟩
    all_goals (show Ending.returned (.bool _) = Ending.returned (.bool _); congr 2; try (rw [Bool.eq_iff_iff]; simp; try omega))
  · rw [if_neg h1]
    go_enter Tryz.func53, Tryz.ntmps53
    go_wp2_with fail
    all_goals (try go_ret)
    all_goals refine ⟨?_, bel1 _ _⟩
    all_goals (show Ending.returned (.bool _) = Ending.returned (.bool _); congr 2; try (rw [Bool.eq_iff_iff]; simp; try omega))
end Go.Proofs.YtakalfckhailjaaGreat


/- A vote saved, as mathematics. -/
namespace Go.Proofs.YtakalfckhailjaaGreat
open Go.RowKit Plain
set_option linter.unusedVariables false

namespace Plain
def voteNew : ByteArray := ⟨#[118, 111, 116, 101, 46, 110, 101, 119]⟩
theorem vote_new : voteN ++ ⟨#[46, 110, 101, 119]⟩ = voteNew := by decide
/-- Whether the vote v in the term t may be saved on a right disk. -/
noncomputable def svB (live safe : List Fl) (ops : List Dop) (t v : Int) : Bool := (recT live safe ops).1 && (numB t && (numB v && mayB (recT live safe ops).2.1 (recT live safe ops).2.2.1 t v))
noncomputable def svX (live safe : List Fl) (ops : List Dop) (t v : Int) : List Dop := repX live safe ops voteNew voteN (voteB t v)
noncomputable def svC (live safe : List Fl) (ops : List Dop) (t v : Int) : Int := if diskB live safe ops = true then (if svB live safe ops t v = true then actC live safe ops (svX live safe ops t v) else 10) else 1
noncomputable def svL (live safe : List Fl) (ops : List Dop) (t v : Int) : List Fl := if diskB live safe ops = true then (if svB live safe ops t v = true then (if actC live safe ops (svX live safe ops t v) = 0 then synL (actL live safe ops (svX live safe ops t v)) (actS live safe ops) (actO live safe ops (svX live safe ops t v)) else actL live safe ops (svX live safe ops t v)) else live) else []
noncomputable def svS (live safe : List Fl) (ops : List Dop) (t v : Int) : List Fl := if diskB live safe ops = true then (if svB live safe ops t v = true then (if actC live safe ops (svX live safe ops t v) = 0 then synL (actL live safe ops (svX live safe ops t v)) (actS live safe ops) (actO live safe ops (svX live safe ops t v)) else actS live safe ops) else safe) else []
noncomputable def svO (live safe : List Fl) (ops : List Dop) (t v : Int) : List Dop := if diskB live safe ops = true then (if svB live safe ops t v = true then (if actC live safe ops (svX live safe ops t v) = 0 then [] else actO live safe ops (svX live safe ops t v)) else ops) else []
/-- What a replacing leaves fits. -/
theorem goA_fit : ∀ (xs : List Dop) (fs : List Fl) (n : Nat), filesB fs = true → (goA fs n xs).1 = 0 → filesB (goA fs n xs).2 = true
  | [], fs, n, h, _ => h
  | o :: l, fs, n, h, hc => by
    rw [goA] at hc ⊢
    split at hc
    · split at hc
      · split at hc
        · rename_i h1 h2 h3
          rw [if_pos h1, if_pos h2, if_pos h3]
          rw [Bool.and_eq_true] at h3
          exact goA_fit l _ _ h3.2 hc
        · cases hc
      · cases hc
    · cases hc
theorem actL_files {live safe : List Fl} {ops xs : List Dop} (hd : diskB live safe ops = true) : filesB (actL live safe ops xs) = true := by
  unfold actL
  rw [if_pos hd]
  have hl : filesB live = true := dk_live hd
  split
  · rename_i h
    exact goA_fit xs live ops.length hl h
  · exact hl
theorem dk_safe {live safe : List Fl} {ops : List Dop} (h : diskB live safe ops = true) : filesB safe = true := by
  unfold diskB at h
  rw [Bool.and_eq_true, Bool.and_eq_true] at h
  exact h.2.1
theorem repX_small (live safe : List Fl) (ops : List Dop) {fr nm dt : ByteArray} (h1 : fr.size ≤ 1000) (h2 : nm.size ≤ 1000) (h3 : dt.size ≤ 100000000) : (∀ o ∈ repX live safe ops fr nm dt, SmO o) ∧ (repX live safe ops fr nm dt).length ≤ 3 := by
  have z : (⟨#[]⟩ : ByteArray).size = 0 := rfl
  unfold repX
  split
  · refine ⟨fun o ho => ?_, by simp⟩
    simp only [List.mem_cons, List.not_mem_nil, or_false] at ho
    rcases ho with rfl | rfl | rfl <;> exact ⟨by show _ ≤ 1000000000; simp only []; omega, by show _ ≤ 1000000000; simp only []; omega, by show _ ≤ 1000000000; simp only []; omega⟩
  · refine ⟨fun o ho => ?_, by simp⟩
    simp only [List.mem_cons, List.not_mem_nil, or_false] at ho
    rcases ho with rfl | rfl <;> exact ⟨by show _ ≤ 1000000000; simp only []; omega, by show _ ≤ 1000000000; simp only []; omega, by show _ ≤ 1000000000; simp only []; omega⟩
theorem sv_fit {live safe : List Fl} {ops xs : List Dop} (hd : diskB live safe ops = true) (ho : ∀ o ∈ ops, SmO o) (hx : ∀ o ∈ xs, SmO o) (hxl : xs.length ≤ 3) :
    FitF (actL live safe ops xs) ∧ FitF (actS live safe ops) ∧ (∀ o ∈ actO live safe ops xs, SmO o) ∧ (actL live safe ops xs).length ≤ 1048576 ∧ (actS live safe ops).length ≤ 1048576 ∧ (actO live safe ops xs).length ≤ 1048576 := by
  have hbo : ops.length ≤ 200 := by
    have h := hd
    unfold diskB at h
    simp only [Bool.and_eq_true] at h
    exact of_decide_eq_true h.2.2.1
  have h1 := actL_files (xs := xs) hd
  have h2 := dk_safe hd
  have e2 : actS live safe ops = safe := by unfold actS; rw [if_pos hd]
  have h3 : (∀ o ∈ actO live safe ops xs, SmO o) ∧ (actO live safe ops xs).length ≤ 1048576 := by
    unfold actO
    rw [if_pos hd]
    split
    · refine ⟨fun o hm => ?_, by rw [List.length_append]; omega⟩
      rcases List.mem_append.1 hm with h | h
      · exact ho o h
      · exact hx o h
    · exact ⟨ho, by omega⟩
  rw [e2]
  exact ⟨small_fit h1, small_fit h2, h3.1, Nat.le_trans (files_small h1).1 (by decide), Nat.le_trans (files_small h2).1 (by decide), h3.2⟩
end Plain
end Go.Proofs.YtakalfckhailjaaGreat


/- Entries saved, as mathematics: the texts of a log's entries are the beginning of its bytes; what SaveEntries answers. -/
namespace Go.Proofs.YtakalfckhailjaaGreat
open Go.RowKit Plain
set_option linter.unusedVariables false

namespace Plain
/-- The texts of entries, one behind another. -/
def catQ : List Ent → ByteArray
  | [] => ⟨#[]⟩
  | e :: l => entT e.term e.kind e.body ++ catQ l
theorem catQ_app (l m : List Ent) : catQ (l ++ m) = catQ l ++ catQ m := by
  induction l with
  | nil => rw [List.nil_append, catQ]; apply ByteArray.ext; simp
  | cons x l ih => rw [List.cons_append, catQ, catQ, ih, ByteArray.append_assoc]
theorem catQ_size (l : List Ent) : (catQ l).size = logZ l := by
  induction l with
  | nil => rfl
  | cons x l ih => rw [catQ, ByteArray.size_append, ih]; simp [logZ]
theorem entT_le (t k : Int) (b : ByteArray) : (entT t k b).size ≤ 20009 := by
  unfold entT
  split
  · unfold frameB
    split
    · rw [ByteArray.size_append, seal_size, four_size]; omega
    · exact Nat.zero_le _
  · exact Nat.zero_le _
theorem entT_pos {t k : Int} {b : ByteArray} (h : entB t k b = true) : 1 ≤ (entT t k b).size := by
  unfold entT
  rw [if_pos h]
  obtain ⟨_, _, _, _, hb⟩ := entB_yes h
  have h1 := putS_size t
  have h2 := putS_size k
  have h3 := putS_size (b.size : Int)
  have hz : (putS t ++ putS k ++ putT b).size ≤ 20000 := by
    unfold putT
    rw [if_pos (by omega), ByteArray.size_append, ByteArray.size_append, ByteArray.size_append]
    omega
  unfold frameB
  rw [if_pos ⟨by decide, by decide, hz⟩, ByteArray.size_append, four_size]
  omega
theorem logZ_app (l m : List Ent) : logZ (l ++ m) = logZ l + logZ m := by simp [logZ]
theorem logZ_max (l : List Ent) : logZ l ≤ 20009 * l.length := by
  induction l with
  | nil => exact Nat.zero_le _
  | cons x l ih =>
    have : logZ (x :: l) = (entT x.term x.kind x.body).size + logZ l := by simp [logZ]
    have h2 := entT_le x.term x.kind x.body
    rw [this, List.length_cons]
    omega
theorem ext_rest (b : ByteArray) (p l : Nat) : (b.extract p b.size).extract l (b.extract p b.size).size = b.extract (p + l) b.size := by
  have hl : b.data.toList.length = b.size := len_list b
  rw [rest_size]
  apply ByteArray.ext
  apply Array.ext'
  rw [extract_list, extract_list, extract_list, List.take_of_length_le (l := b.data.toList.drop p) (by rw [List.length_drop, hl]; omega), List.drop_drop]
  congr 1
  omega
theorem stp_back {b : ByteArray} {p q : Nat} {t : Int} (h : stp b p = some (t, q)) (hp : p ≤ b.size) : b.extract p b.size = putS t ++ b.extract q b.size ∧ q ≤ b.size := by
  unfold stp at h
  cases hn : tkN b p with
  | none => rw [hn] at h; cases h
  | some x =>
    obtain ⟨v, l⟩ := x
    rw [hn] at h
    simp only [Option.map_some, Option.some.injEq, Prod.mk.injEq] at h
    obtain ⟨rfl, rfl⟩ := h
    obtain ⟨_, h2, h3⟩ := take_back (b.extract p b.size) v l (by rw [tkN_shift b p hp]; exact hn)
    rw [rest_size] at h2
    rw [ext_rest] at h3
    exact ⟨h3.symm, by omega⟩
theorem txp_back {b x : ByteArray} {p q : Nat} (h : txp b p = some (x, q)) (hp : p ≤ b.size) : b.extract p b.size = putT x ++ b.extract q b.size ∧ q ≤ b.size := by
  unfold txp tkT at h
  cases hn : tkN b p with
  | none => rw [hn] at h; cases h
  | some y =>
    obtain ⟨v, l⟩ := y
    rw [hn] at h
    simp only at h
    by_cases hc : v ≤ 20000 ∧ p + l + v ≤ b.size
    · rw [if_pos hc] at h
      simp only [Option.map_some, Option.some.injEq, Prod.mk.injEq] at h
      obtain ⟨rfl, rfl⟩ := h
      obtain ⟨h1, h2⟩ := stp_back (b := b) (p := p) (q := p + l) (t := (v : Int)) (by unfold stp; rw [hn]; rfl) hp
      have hs : (b.extract (p + l) (p + l + v)).size = v := by rw [ByteArray.size_extract]; omega
      refine ⟨?_, hc.2⟩
      unfold putT
      rw [hs, if_pos hc.1, h1, ByteArray.append_assoc, glue b (p + l) (p + l + v) b.size (by omega) hc.2]
    · rw [if_neg hc] at h; cases h
theorem ext_none (b : ByteArray) : b.extract b.size b.size = ⟨#[]⟩ := by
  apply ByteArray.ext
  apply Array.ext'
  rw [extract_list]
  simp
theorem app_none (b : ByteArray) : b ++ (⟨#[]⟩ : ByteArray) = b := by apply ByteArray.ext; simp
theorem five_back {f : Int × ByteArray} {e : Ent} (h : fiveE f = some e) : f.1 = 2 ∧ f.2 = putS e.term ++ putS e.kind ++ putT e.body ∧ entB e.term e.kind e.body = true := by
  unfold fiveE at h
  cases h1 : stp f.2 0 with
  | none => rw [h1] at h; cases h
  | some x =>
    obtain ⟨t, p⟩ := x
    rw [h1] at h
    simp only at h
    cases h2 : stp f.2 p with
    | none => rw [h2] at h; cases h
    | some y =>
      obtain ⟨k, q⟩ := y
      rw [h2] at h
      simp only at h
      cases h3 : txp f.2 q with
      | none => rw [h3] at h; cases h
      | some z =>
        obtain ⟨b, r⟩ := z
        rw [h3] at h
        simp only at h
        split at h
        · rename_i hc
          cases h
          obtain ⟨a1, b1⟩ := stp_back h1 (Nat.zero_le _)
          obtain ⟨a2, b2⟩ := stp_back h2 b1
          obtain ⟨a3, b3⟩ := txp_back h3 b2
          refine ⟨hc.1, ?_, hc.2.2⟩
          have e0 : f.2.extract 0 f.2.size = f.2 := by apply ByteArray.ext; simp
          rw [hc.2.1, ext_none, app_none] at a3
          rw [← e0, a1, a2, a3, ByteArray.append_assoc]
        · cases h
theorem five_text {f : Int × ByteArray} {e : Ent} (h : fiveE f = some e) : entT e.term e.kind e.body = frameB f.1 f.2 := by
  obtain ⟨h1, h2, h3⟩ := five_back h
  unfold entT
  rw [if_pos h3, h1, h2]
theorem acc_is5 {term : Int} {acc : List Ent} {f : Int × ByteArray} {e : Ent} (h : accE term acc f = some e) : fiveE f = some e := by
  unfold accE at h
  split at h
  · cases h5 : fiveE f with
    | none => rw [h5] at h; cases h
    | some x =>
      rw [h5] at h
      simp only [Option.filter] at h
      split at h
      · exact h
      · cases h
  · cases h
theorem logE_cat (term : Int) : ∀ (l : List (Int × ByteArray)) (acc : List Ent), ∃ es k, logE term acc l = acc ++ es ∧ catQ es = catF (l.take k) ∧ ∀ e ∈ es, entB e.term e.kind e.body = true
  | [], acc => ⟨[], 0, by simp [logE], rfl, by simp⟩
  | f :: l, acc => by
    rw [logE]
    cases ha : accE term acc f with
    | none => exact ⟨[], 0, by simp, rfl, by simp⟩
    | some e =>
      obtain ⟨es, k, h1, h2, h3⟩ := logE_cat term l (acc ++ [e])
      have h5 := acc_is5 ha
      refine ⟨e :: es, k + 1, by simp only; rw [h1]; simp, ?_, ?_⟩
      · rw [List.take_succ_cons, catQ, catF, h2, five_text h5]
      · intro x hx
        rcases List.mem_cons.1 hx with rfl | hx
        · exact (five_back h5).2.2
        · exact h3 x hx
theorem log_cat (s : ByteArray) (term : Int) : ∃ rest, s = catQ (logF s term) ++ rest ∧ ∀ e ∈ logF s term, entB e.term e.kind e.body = true := by
  unfold logF
  obtain ⟨es, k, h1, h2, h3⟩ := logE_cat term (readF s).1 []
  rw [h1, List.nil_append]
  obtain ⟨hc1, hc2⟩ := read_cat s
  have e1 : catF (readF s).1 = catF ((readF s).1.take k) ++ catF ((readF s).1.drop k) := by rw [← catF_app, List.take_append_drop]
  refine ⟨catF ((readF s).1.drop k) ++ s.extract (readF s).2.1 s.size, ?_, h3⟩
  rw [← ByteArray.append_assoc, h2, ← e1, hc1, glue s 0 _ _ (Nat.zero_le _) hc2]
  apply ByteArray.ext
  simp
theorem logZ_none {l : List Ent} (h : ∀ e ∈ l, entB e.term e.kind e.body = true) (hz : logZ l = 0) : l = [] := by
  cases l with
  | nil => rfl
  | cons x l =>
    have h1 := entT_pos (h x List.mem_cons_self)
    have : logZ (x :: l) = (entT x.term x.kind x.body).size + logZ l := by simp [logZ]
    omega
/-- The first k entries' texts are the whole file just where k is all of them and their texts are all of it. -/
theorem log_same (s : ByteArray) (term : Int) (k : Nat) (hk : k ≤ (logF s term).length) : s = catQ ((logF s term).take k) ↔ (k = (logF s term).length ∧ logZ (logF s term) = s.size) := by
  obtain ⟨rest, h1, h2⟩ := log_cat s term
  generalize logF s term = es at *
  have hs : s.size = logZ es + rest.size := by rw [← catQ_size, ← ByteArray.size_append, ← h1]
  constructor
  · intro h
    have h3 : s.size = logZ (es.take k) := by rw [← catQ_size, ← h]
    have h4 : logZ es = logZ (es.take k) + logZ (es.drop k) := by rw [← logZ_app, List.take_append_drop]
    have h5 := logZ_none (l := es.drop k) (fun e he => h2 e (List.mem_of_mem_drop he)) (by omega)
    rw [List.drop_eq_nil_iff] at h5
    exact ⟨by omega, by omega⟩
  · rintro ⟨rfl, hz⟩
    have hr : rest = ⟨#[]⟩ := by
      have : rest.size = 0 := by omega
      apply ByteArray.ext
      apply Array.eq_empty_of_size_eq_zero
      exact this
    rw [List.take_length]
    rw [hr, app_none] at h1
    exact h1

def logNew : ByteArray := ⟨#[108, 111, 103, 46, 110, 101, 119]⟩
theorem log_new : logN ++ ⟨#[46, 110, 101, 119]⟩ = logNew := by decide
noncomputable def seD (live : List Fl) : ByteArray := (tabF live logN).getD ⟨#[]⟩
/-- An entry as an op. -/
def entO (e : Ent) : Dop := ⟨1, logN, ⟨#[]⟩, entT e.term e.kind e.body⟩
theorem entO_sm (es : List Ent) : ∀ o ∈ es.map entO, SmO o := by
  intro o ho
  obtain ⟨e, _, rfl⟩ := List.mem_map.1 ho
  have := entT_le e.term e.kind e.body
  exact ⟨by show logN.size ≤ 1000000000; decide, Nat.zero_le _, by show _ ≤ 1000000000; simp only [entO]; omega⟩
/-- The entries that a disk will have. -/
noncomputable def seE (live safe : List Fl) (ops : List Dop) (fm : Int) (xs : List Ent) : List Ent := (recT live safe ops).2.2.2.take fm.toNat ++ xs
noncomputable def seB (live safe : List Fl) (ops : List Dop) (fm : Int) (xs : List Ent) : Bool := (recT live safe ops).1 && ((decide (0 ≤ fm) && decide (fm ≤ ((recT live safe ops).2.2.2.length : Int))) && jouB (recT live safe ops).2.1 (recT live safe ops).2.2.1 (seE live safe ops fm xs))
noncomputable def seA (live safe : List Fl) (ops : List Dop) (fm : Int) : Bool := decide (fm = ((recT live safe ops).2.2.2.length : Int)) && decide (logZ (recT live safe ops).2.2.2 = (seD live).size)
noncomputable def seX (live safe : List Fl) (ops : List Dop) (fm : Int) (xs : List Ent) : List Dop := if seA live safe ops fm = true then xs.map entO else repX live safe ops logNew logN (catQ (seE live safe ops fm xs))
/-- What a right disk is behind ops and a sync of it. -/
noncomputable def fnL (live safe : List Fl) (ops X : List Dop) : List Fl := if actC live safe ops X = 0 then synL (actL live safe ops X) (actS live safe ops) (actO live safe ops X) else actL live safe ops X
noncomputable def fnS (live safe : List Fl) (ops X : List Dop) : List Fl := if actC live safe ops X = 0 then synL (actL live safe ops X) (actS live safe ops) (actO live safe ops X) else actS live safe ops
noncomputable def fnO (live safe : List Fl) (ops X : List Dop) : List Dop := if actC live safe ops X = 0 then [] else actO live safe ops X
theorem fn_zero {live safe : List Fl} {ops X : List Dop} (h : actC live safe ops X = 0) : fnL live safe ops X = synL (actL live safe ops X) (actS live safe ops) (actO live safe ops X) ∧ fnS live safe ops X = synL (actL live safe ops X) (actS live safe ops) (actO live safe ops X) ∧ fnO live safe ops X = [] := by
  unfold fnL fnS fnO
  rw [if_pos h, if_pos h, if_pos h]
  exact ⟨rfl, rfl, rfl⟩
theorem fn_not {live safe : List Fl} {ops X : List Dop} (h : actC live safe ops X ≠ 0) : fnL live safe ops X = actL live safe ops X ∧ fnS live safe ops X = actS live safe ops ∧ fnO live safe ops X = actO live safe ops X := by
  unfold fnL fnS fnO
  rw [if_neg h, if_neg h, if_neg h]
  exact ⟨rfl, rfl, rfl⟩
/-- What is answered where ops are done on a right disk and it is synced, if B, and the code c, if not. -/
noncomputable def dnC (live safe : List Fl) (ops : List Dop) (B : Bool) (c : Int) (X : List Dop) : Int := if diskB live safe ops = true then (if B = true then actC live safe ops X else c) else 1
noncomputable def dnL (live safe : List Fl) (ops : List Dop) (B : Bool) (X : List Dop) : List Fl := if diskB live safe ops = true then (if B = true then fnL live safe ops X else live) else []
noncomputable def dnS (live safe : List Fl) (ops : List Dop) (B : Bool) (X : List Dop) : List Fl := if diskB live safe ops = true then (if B = true then fnS live safe ops X else safe) else []
noncomputable def dnO (live safe : List Fl) (ops : List Dop) (B : Bool) (X : List Dop) : List Dop := if diskB live safe ops = true then (if B = true then fnO live safe ops X else ops) else []
theorem dn_fit {live safe : List Fl} {ops xs : List Dop} (hd : diskB live safe ops = true) (ho : ∀ o ∈ ops, SmO o) (hx : ∀ o ∈ xs, SmO o) (hxl : xs.length ≤ 1000) :
    FitF (actL live safe ops xs) ∧ FitF (actS live safe ops) ∧ (∀ o ∈ actO live safe ops xs, SmO o) ∧ (actL live safe ops xs).length ≤ 1048576 ∧ (actS live safe ops).length ≤ 1048576 ∧ (actO live safe ops xs).length ≤ 1048576 := by
  have hbo : ops.length ≤ 200 := by
    have h := hd
    unfold diskB at h
    simp only [Bool.and_eq_true] at h
    exact of_decide_eq_true h.2.2.1
  have h1 := actL_files (xs := xs) hd
  have h2 := dk_safe hd
  have e2 : actS live safe ops = safe := by unfold actS; rw [if_pos hd]
  have h3 : (∀ o ∈ actO live safe ops xs, SmO o) ∧ (actO live safe ops xs).length ≤ 1048576 := by
    unfold actO
    rw [if_pos hd]
    split
    · refine ⟨fun o hm => ?_, by rw [List.length_append]; omega⟩
      rcases List.mem_append.1 hm with h | h
      · exact ho o h
      · exact hx o h
    · exact ⟨ho, by omega⟩
  rw [e2]
  exact ⟨small_fit h1, small_fit h2, h3.1, Nat.le_trans (files_small h1).1 (by decide), Nat.le_trans (files_small h2).1 (by decide), h3.2⟩
theorem jou_len {t v : Int} {es : List Ent} (h : jouB t v es = true) : es.length ≤ 500 := by
  unfold jouB at h
  simp only [Bool.and_eq_true, decide_eq_true_eq] at h
  exact h.2.1
theorem seX_small {live safe : List Fl} {ops : List Dop} {fm : Int} {xs : List Ent} (hb : seB live safe ops fm xs = true) : (∀ o ∈ seX live safe ops fm xs, SmO o) ∧ (seX live safe ops fm xs).length ≤ 1000 ∧ xs.length ≤ 500 ∧ (catQ (seE live safe ops fm xs)).size ≤ 100000000 := by
  unfold seB at hb
  simp only [Bool.and_eq_true] at hb
  have hl := jou_len hb.2.2
  have h5 : xs.length ≤ 500 := by unfold seE at hl; rw [List.length_append] at hl; omega
  have hc : (catQ (seE live safe ops fm xs)).size ≤ 100000000 := by
    rw [catQ_size]
    have := logZ_max (seE live safe ops fm xs)
    omega
  have : (∀ o ∈ seX live safe ops fm xs, SmO o) ∧ (seX live safe ops fm xs).length ≤ 1000 := by
    unfold seX
    split
    · exact ⟨entO_sm xs, by rw [List.length_map]; omega⟩
    · obtain ⟨a, b⟩ := repX_small live safe ops (fr := logNew) (nm := logN) (dt := catQ (seE live safe ops fm xs)) (by decide) (by decide) hc
      exact ⟨a, by omega⟩
  exact ⟨this.1, this.2, h5, hc⟩
/-- Where entries are appended the file is what stays. -/
theorem se_same {live safe : List Fl} {ops : List Dop} {fm : Int} {xs : List Ent} (hb : seB live safe ops fm xs = true) : (seD live = catQ ((recT live safe ops).2.2.2.take fm.toNat)) ↔ seA live safe ops fm = true := by
  unfold seB at hb
  simp only [Bool.and_eq_true, decide_eq_true_eq] at hb
  obtain ⟨h1, ⟨h2, h3⟩, -⟩ := hb
  obtain ⟨t, v, he⟩ : ∃ t v, recT live safe ops = (true, t, v, logF (seD live) t) := by
    unfold recT at h1 ⊢
    split
    · rename_i hd
      rw [if_pos hd] at h1
      cases hv : votD live with
      | none => rw [hv] at h1; cases h1
      | some x => obtain ⟨t, v⟩ := x; exact ⟨t, v, rfl⟩
    · rename_i hd
      rw [if_neg hd] at h1
      cases h1
  rw [he] at h3 ⊢
  simp only at h3 ⊢
  unfold seA
  rw [he]
  simp only [Bool.and_eq_true, decide_eq_true_eq]
  rw [log_same (seD live) t fm.toNat (by omega)]
  constructor
  · rintro ⟨a, b⟩; exact ⟨by omega, b⟩
  · rintro ⟨a, b⟩; exact ⟨by omega, b⟩
theorem list_beq (a b : ByteArray) (R : Bool) (h : a = b ↔ R = true) : (a.toList == b.toList) = R := by
  rw [Bool.eq_iff_iff, ← h, beq_iff_eq, ByteArray.toList_eq, ByteArray.toList_eq]
  constructor
  · intro q; apply ByteArray.ext; exact Array.ext' q
  · rintro rfl; rfl
end Plain
end Go.Proofs.YtakalfckhailjaaGreat

