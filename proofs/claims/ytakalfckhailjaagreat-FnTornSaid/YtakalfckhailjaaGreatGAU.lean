/- Texts of one kind, put together. -/
import Derived.Test.YtakalfckhailjaaGreatGAG
import Derived.Test.YtakalfckhailjaaGreatGAO
import Derived.Test.YtakalfckhailjaaGreatGAF
import Derived.Test.YtakalfckhailjaaGreatDskW
import Derived.Test.YtakalfckhailjaaGreatGAD
import Derived.Test.YtakalfckhailjaaGreatGAI
import Derived.Test.YtakalfckhailjaaGreatGAE

/- Rows of files, as the exact laws copy, measure and compare them. -/
namespace Go.Proofs.YtakalfckhailjaaGreat
open Go.RowKit Plain
set_option linter.unusedVariables false

namespace Plain
theorem ArgAt.file {W : World} {a : Option Addr} {xs : List Fl} (h : ArgAt 2 fileL W a xs) (i : Nat) (hi : i < xs.length) : ∃ g o, a = some ⟨g, o, none⟩ ∧ g < W.heap.size ∧ W.cell? ⟨g, o + i * 2, none⟩ = some (.string xs[i].1) ∧ W.cell? ⟨g, o + i * 2 + 1, none⟩ = some (.string xs[i].2) := by
  obtain ⟨g, o, e, hl, hc⟩ := h i hi
  exact ⟨g, o, e, hl, hc 0 (by decide), hc 1 (by decide)⟩
end Plain











end Go.Proofs.YtakalfckhailjaaGreat


/- Rows of ops, as the exact laws copy, measure and compare them. -/
namespace Go.Proofs.YtakalfckhailjaaGreat
open Go.RowKit Plain
set_option linter.unusedVariables false


namespace Plain
theorem ArgAt.o {W : World} {a : Option Addr} {xs : List Dop} (h : ArgAt 4 dopL W a xs) (i : Nat) (hi : i < xs.length) : ∃ g o, a = some ⟨g, o, none⟩ ∧ g < W.heap.size ∧ W.cell? ⟨g, o + i * 4, none⟩ = some (.int .i64 xs[i].kind) ∧ W.cell? ⟨g, o + i * 4 + 1, none⟩ = some (.string xs[i].name) ∧ W.cell? ⟨g, o + i * 4 + 2, none⟩ = some (.string xs[i].to) ∧ W.cell? ⟨g, o + i * 4 + 3, none⟩ = some (.string xs[i].data) := by
  obtain ⟨g, o, e, hl, hc⟩ := h i hi
  exact ⟨g, o, e, hl, hc 0 (by decide), hc 1 (by decide), hc 2 (by decide), hc 3 (by decide)⟩
end Plain
end Go.Proofs.YtakalfckhailjaaGreat


/- Disks, as the exact laws copy, measure and compare them. -/
namespace Go.Proofs.YtakalfckhailjaaGreat
open Go.RowKit Plain
set_option linter.unusedVariables false

theorem OwnR.other {α : Type} {e : Elem α} {W W' : World} {B : Nat} {v : Value} {xs : List α} (h : OwnR e W B v xs) (hh : ∀ g, v.ownBlock = some g → W'.heap[g]? = W.heap[g]?) : OwnR e W' B v xs := by
  refine ⟨h.1, ?_⟩
  rcases h.2 with ⟨a, c⟩ | ⟨g, cap, cur, rfl, c, d, r⟩
  · exact .inl ⟨a, c⟩
  · exact .inr ⟨g, cap, cur, rfl, c, (hh g rfl).trans d, r⟩
theorem Plain.heap_set {W : World} {b i g : Nat} {u : Value} (h : b ≠ g) : (W.setCell ⟨b, i, none⟩ u).heap[g]? = W.heap[g]? := Below.heap_setCell _ _ _ _ (fun e => h (by simp at e; exact e.symm))
theorem Plain.cell_set {W : World} {b i : Nat} {u v : Value} (h : W.cell? ⟨b, i, none⟩ = some v) : (W.setCell ⟨b, i, none⟩ u).cell? ⟨b, i, none⟩ = some u := World.cell?_setCell_same' _ _ _ (by rw [h]; rfl)
theorem Plain.cell_off {W : World} {b i g j : Nat} {u : Value} (h : b ≠ g ∨ i ≠ j) : (W.setCell ⟨b, i, none⟩ u).cell? ⟨g, j, none⟩ = W.cell? ⟨g, j, none⟩ := World.cell?_setCell_other _ ⟨b, i, none⟩ ⟨g, j, none⟩ _ (fun q => by have h1 := congrArg Addr.block q; have h2 := congrArg Addr.off q; simp at h1 h2; omega)

/-- A disk among the arguments. -/
structure Plain.DskArg (W : World) (aL : Option Addr) (nL cL : Nat) (live : List Fl) (aS : Option Addr) (nS cS : Nat) (safe : List Fl) (aO : Option Addr) (nO cO : Nat) (ops : List Dop) : Prop where
  l : ArgRow 2 fileL goodF W aL nL cL live
  s : ArgRow 2 fileL goodF W aS nS cS safe
  o : ArgRow 4 dopL goodO W aO nO cO ops
theorem Plain.DskArg.below {W W' : World} {aL : Option Addr} {nL cL : Nat} {live : List Fl} {aS : Option Addr} {nS cS : Nat} {safe : List Fl} {aO : Option Addr} {nO cO : Nat} {ops : List Dop}
    (h : DskArg W aL nL cL live aS nS cS safe aO nO cO ops) (hb : Below W.heap.size W W') : DskArg W' aL nL cL live aS nS cS safe aO nO cO ops :=
  ⟨⟨h.l.len, h.l.le, h.l.good, h.l.row.below hb⟩, ⟨h.s.len, h.s.le, h.s.good, h.s.row.below hb⟩, ⟨h.o.len, h.o.le, h.o.good, h.o.row.below hb⟩⟩
/-- The three rows of a disk that is read. -/
structure Plain.DskRow (W : World) (aL aS aO : Option Addr) (live safe : List Fl) (ops : List Dop) : Prop where
  l : RowAt fileE W aL live
  s : RowAt fileE W aS safe
  o : RowAt dopE W aO ops
theorem Plain.DskRow.below {W W' : World} {aL aS aO : Option Addr} {live safe : List Fl} {ops : List Dop} (h : DskRow W aL aS aO live safe ops) (hb : Below W.heap.size W W') : DskRow W' aL aS aO live safe ops := ⟨h.l.below hb, h.s.below hb, h.o.below hb⟩

end Go.Proofs.YtakalfckhailjaaGreat


/- Rows of files and ops marked and looked at again, as the exact laws do it. -/
namespace Go.Proofs.YtakalfckhailjaaGreat
open Go.RowKit Plain
set_option linter.unusedVariables false

namespace Plain
/-- What the marking of files leaves. -/
def mkF (b n : Nat) : List Fl := (List.range n).map fun i : Nat => (mtx (b + i * 2), mtx (b + i * 2 + 1))
end Plain
end Go.Proofs.YtakalfckhailjaaGreat


/- Rows of ops marked and looked at again, as the exact laws do it. -/
namespace Go.Proofs.YtakalfckhailjaaGreat
open Go.RowKit Plain
set_option linter.unusedVariables false

namespace Plain
/-- What the marking leaves. -/
def mkO (b n : Nat) : List Dop := (List.range n).map fun i : Nat => (⟨(((b + i * 4) : Nat) : Int), mtx (b + i * 4 + 1), mtx (b + i * 4 + 2), mtx (b + i * 4 + 3)⟩ : Dop)
end Plain
end Go.Proofs.YtakalfckhailjaaGreat


/- Disks marked and looked at again, as the exact laws do it; a disk that is answered. -/
namespace Go.Proofs.YtakalfckhailjaaGreat
open Go.RowKit Plain
set_option linter.unusedVariables false

namespace Plain
/-- No two rows of a disk share a block. -/
structure Apart (aL aS aO : Option Addr) : Prop where
  ls : ∀ g, inB aL g → ¬ inB aS g
  lo : ∀ g, inB aL g → ¬ inB aO g
  so : ∀ g, inB aS g → ¬ inB aO g
end Plain
/-- Three rows, marked one behind the other. -/
structure Plain.DMark (W : World) (aL aS aO : Option Addr) (nL nS nO : Nat) : Prop where
  l : RowAt fileE W aL (mkF 1 nL)
  s : RowAt fileE W aS (mkF (1 + nL * 2) nS)
  o : RowAt dopE W aO (mkO (1 + nL * 2 + nS * 2) nO)
theorem Plain.DMark.below {W W' : World} {aL aS aO : Option Addr} {nL nS nO : Nat} (h : DMark W aL aS aO nL nS nO) (hb : Below W.heap.size W W') : DMark W' aL aS aO nL nS nO := ⟨h.l.below hb, h.s.below hb, h.o.below hb⟩





/-- A disk that is answered: three rows of its own, no two in one block. -/
def DskPost (f : Value → Value) (live safe : List Fl) (ops : List Dop) (w : World) (e : Ending) (w' : World) : Prop :=
  ∃ aL cL aS cS aO cO, e = .returned (f (.agg #[.slice aL live.length cL, .slice aS safe.length cS, .slice aO ops.length cO])) ∧ OwnR fileE w' w.heap.size (.slice aL live.length cL) live ∧ OwnR fileE w' w.heap.size (.slice aS safe.length cS) safe ∧ OwnR dopE w' w.heap.size (.slice aO ops.length cO) ops ∧ Apart aL aS aO ∧ Below w.heap.size w w'
end Go.Proofs.YtakalfckhailjaaGreat


/- Rows of files and of ops cloned, by the program. -/
namespace Go.Proofs.YtakalfckhailjaaGreat
open Go.RowKit Plain
set_option linter.unusedVariables false

set_option maxRecDepth 10000 in
theorem nil_file (g n c : Nat) (W : World) : Sem.run Tryz.prog (binOp BinOp.eql 24 (Value.slice (some ⟨g, 0, none⟩) n c) (Value.slice none 0 0)) W = .ok (.bool false) W := by
  first | rfl | (unfold binOp; simp [go_sem, Tryz.underlying24]) | (simp [binOp, go_sem])
set_option maxRecDepth 10000 in
theorem nil_dop (g n c : Nat) (W : World) : Sem.run Tryz.prog (binOp BinOp.eql 25 (Value.slice (some ⟨g, 0, none⟩) n c) (Value.slice none 0 0)) W = .ok (.bool false) W := by
  first | rfl | (unfold binOp; simp [go_sem, Tryz.underlying25]) | (simp [binOp, go_sem])

set_option maxRecDepth 10000 in
set_option maxHeartbeats 1000000 in
theorem cloneFile_calls (g n c : Nat) (fs : List Fl) (w : World) (hn : fs.length = n) (hn2 : n ≤ 1048576) (h : RowAt fileE w (some ⟨g, 0, none⟩) fs) :
    Calls Tryz.prog 78 #[.slice (some ⟨g, 0, none⟩) n c] w fun e w' => ∃ a' c', e = .returned (.slice a' n c') ∧ OwnR fileE w' w.heap.size (.slice a' n c') fs ∧ Below w.heap.size w w' := by
  have HO := hide (ownR_empty fileE w w.heap.size (Nat.le_refl _))
  have HR1 := hide (h.below (bel1 w (.cells #[] 67)))
  have HB1 := hide (bel1 w (.cells #[] 67))
  have HN := hide hn
  have hnil := nil_file g n c
  clear h hn
  go_enter Tryz.func78, Tryz.ntmps78
  go_wp2_with (at_builtin; go_must (refine appG (e := fileE) rfl _ _ rfl (unhide HO) rfl (some ⟨g, 0, none⟩) n c rfl (unhide HN) (unhide HR1) (.inr ⟨g, rfl⟩) (by simp; omega) (by simp) ?_); intro v' w6 hown6 hb6)
  obtain ⟨a', c', rfl⟩ := hown6.form
  go_ret
  refine ⟨a', c', ?_, ?_, (unhide HB1).trans hb6⟩
  · rw [List.nil_append, unhide HN]; rfl
  · rw [List.nil_append, unhide HN] at hown6; exact hown6

set_option maxRecDepth 10000 in
set_option maxHeartbeats 1000000 in
theorem cloneDOp_calls (g n c : Nat) (fs : List Dop) (w : World) (hn : fs.length = n) (hn2 : n ≤ 1048576) (h : RowAt dopE w (some ⟨g, 0, none⟩) fs) :
    Calls Tryz.prog 79 #[.slice (some ⟨g, 0, none⟩) n c] w fun e w' => ∃ a' c', e = .returned (.slice a' n c') ∧ OwnR dopE w' w.heap.size (.slice a' n c') fs ∧ Below w.heap.size w w' := by
  have HO := hide (ownR_empty dopE w w.heap.size (Nat.le_refl _))
  have HR1 := hide (h.below (bel1 w (.cells #[] 50)))
  have HB1 := hide (bel1 w (.cells #[] 50))
  have HN := hide hn
  have hnil := nil_dop g n c
  clear h hn
  go_enter Tryz.func79, Tryz.ntmps79
  go_wp2_with (at_builtin; go_must (refine appG (e := dopE) rfl _ _ rfl (unhide HO) rfl (some ⟨g, 0, none⟩) n c rfl (unhide HN) (unhide HR1) (.inr ⟨g, rfl⟩) (by simp; omega) (by simp) ?_); intro v' w6 hown6 hb6)
  obtain ⟨a', c', rfl⟩ := hown6.form
  go_ret
  refine ⟨a', c', ?_, ?_, (unhide HB1).trans hb6⟩
  · rw [List.nil_append, unhide HN]; rfl
  · rw [List.nil_append, unhide HN] at hown6; exact hown6

set_option maxRecDepth 10000 in
theorem nil_file0 (W : World) : Sem.run Tryz.prog (binOp BinOp.eql 24 (Value.slice none 0 0) (Value.slice none 0 0)) W = .ok (.bool true) W := by
  first | rfl | (unfold binOp; simp [go_sem, Tryz.underlying24]) | (simp [binOp, go_sem])

set_option maxRecDepth 10000 in
theorem cloneFile0_calls (w : World) : Calls Tryz.prog 78 #[.slice none 0 0] w fun e w' => e = .returned (.slice none 0 0) ∧ w = w' := by
  have hnil := nil_file0
  go_enter Tryz.func78, Tryz.ntmps78
  go_wp2_with fail
  go_ret
  exact ⟨rfl, rfl⟩

theorem cloneFileO_calls (a : Option Addr) (n c : Nat) (fs : List Fl) (w : World) (hn : fs.length = n) (hn2 : n ≤ 1048576) (h : RowAt fileE w a fs) (had : AdOk a c) :
    Calls Tryz.prog 78 #[.slice a n c] w fun e w' => ∃ a' c', e = .returned (.slice a' n c') ∧ OwnR fileE w' w.heap.size (.slice a' n c') fs ∧ Below w.heap.size w w' := by
  rcases had with ⟨rfl, rfl⟩ | ⟨g, rfl⟩
  · have h0 : fs = [] := by
      cases fs with
      | nil => rfl
      | cons f t => obtain ⟨g, e, _⟩ := h 0 (by simp); cases e
    subst h0
    subst hn
    refine (cloneFile0_calls w).mono ?_
    rintro e w' ⟨rfl, rfl⟩
    exact ⟨none, 0, rfl, ownR_nil _ _ _, Below.refl _ _⟩
  · exact cloneFile_calls g n c fs w hn hn2 h

end Go.Proofs.YtakalfckhailjaaGreat


/- One frame, of the specification. -/
namespace Go.Proofs.YtakalfckhailjaaGreat
open Go.RowKit Plain
set_option linter.unusedVariables false

theorem word_calls2 (r : ByteArray) (w : World) (h : r.size = 4) :
    Calls Tryz.prog 120 #[.string r] w fun e w' => e = .returned (.int .u32 (wdI r)) ∧ ∃ k, w' = w.drewN k := by
  have e0 := bAt_get r 0 (by omega)
  have e1 := bAt_get r 1 (by omega)
  have e2 := bAt_get r 2 (by omega)
  have e3 := bAt_get r 3 (by omega)
  have l0 := bAt_lt r 0
  have l1 := bAt_lt r 1
  have l2 := bAt_lt r 2
  have l3 := bAt_lt r 3
  have hw : wdI r = hiI (bAt r 3) (bAt r 2) (bAt r 1) (bAt r 0) := rfl
  rw [← low_hi] at hw
  have HW := hide hw
  clear hw
  generalize bAt r 0 = c0 at *
  generalize bAt r 1 = c1 at *
  generalize bAt r 2 = c2 at *
  generalize bAt r 3 = c3 at *
  have s0 : (0 : Int) < (r.size : Int) := by omega
  have s1 : (1 : Int) < (r.size : Int) := by omega
  have s2 : (2 : Int) < (r.size : Int) := by omega
  have s3 : (3 : Int) < (r.size : Int) := by omega
  go_enter Tryz.func120, Tryz.ntmps120
  go_wp2_with fail
  go_quiet (fail)
  go_wp2_with fail
  go_ret
  exact ⟨by rw [unhide HW]; rfl, _, rfl⟩

theorem word_quiet2 (r : ByteArray) (w : World) (q n : Nat) (h : r.size = 4) :
    Calls Tryz.prog 120 #[.string r] (w.drewN (q + n)) fun e w' => e = .returned (.int .u32 (wdI r)) ∧ ∃ m, w' = w.drewN (q + m) :=
  (word_calls2 r _ h).mono fun _ _ ⟨he, m, hm⟩ => ⟨he, n + m, by rw [hm, World.drewN_drewN, Nat.add_assoc]⟩

theorem specCrc_quiet2 (s : ByteArray) (w : World) (q n : Nat) (hs : s.size ≤ 1000000000000) :
    Calls Tryz.prog 98 #[.string s] (w.drewN (q + n)) fun e w' => e = .returned (.int .u32 (crcI s)) ∧ ∃ m, w' = w.drewN (q + m) :=
  (spec_Crc s _ hs).mono fun _ _ ⟨he, hm⟩ => ⟨he, n, hm.symm⟩

def spV (r : ByteArray) : Value := if frC r = 0 then .tuple #[.agg #[.int .i64 (bAt r 0 : Nat), .string (frB r)], .int .i64 (frN r : Nat), .int .i64 0] else .tuple #[.agg #[.int .i64 0, .string ⟨#[]⟩], .int .i64 0, .int .i64 (frC r)]
theorem spV_bad {r : ByteArray} {c : Int} (h : frC r = c) (hc : c ≠ 0) : spV r = .tuple #[.agg #[.int .i64 0, .string ⟨#[]⟩], .int .i64 0, .int .i64 c] := by unfold spV; rw [h, if_neg hc]
theorem frC_sz {r : ByteArray} {c : Int} {n : Nat} (h : szI r = (c, n)) (hc : c ≠ 0) : frC r = c := by unfold frC; rw [h, if_pos hc]

set_option maxRecDepth 10000 in
set_option maxHeartbeats 2000000 in
theorem l2Frame_calls (r : ByteArray) (w : World) (h : 1 ≤ r.size) (hs : r.size ≤ 1000000000) :
    Calls Tryz.prog 105 #[.string r] w fun e w' => e = .returned (spV r) ∧ Below w.heap.size w w' := by
  have e0 := bAt_get r 0 (by omega)
  have l0 := bAt_lt r 0
  have s0 : (0 : Int) < (r.size : Int) := by omega
  by_cases h1 : bAt r 0 < 1 ∨ 100 < bAt r 0
  · have hv := hide (spV_bad (frC_sz (show szI r = (2, 0) by unfold szI; rw [if_pos h1]) (by decide)) (by decide))
    have hin : (decide (1 ≤ (bAt r 0 : Int)) && decide ((bAt r 0 : Int) ≤ 100)) = false := by simp; omega
    generalize bAt r 0 = c0 at *
    go_enter Tryz.func105, Tryz.ntmps105
    go_wp2_with fail
    refine (l1In_calls _ _ _ _).mono ?_
    rintro e w1 ⟨rfl, rfl⟩
    rw [hin]
    go_wp2_with fail
    refine bodyPost_ret (v := .tuple #[.agg #[.int .i64 0, .string ⟨#[]⟩], .int .i64 0, .int .i64 2]) ?_ rfl ⟨by rw [unhide hv], ?_⟩
    · simp [results, Tryz.results105, go_sem]
    · exact ((Below.refl _ _).alloc (Nat.le_refl _) _).alloc (by simp) _
  · have k1 : 1 ≤ bAt r 0 := by omega
    have k2 : bAt r 0 ≤ 100 := by omega
    have hin : (decide (1 ≤ (bAt r 0 : Int)) && decide ((bAt r 0 : Int) ≤ 100)) = true := by simp; omega
    by_cases h3 : r.size < 5
    · have hv := hide (spV_bad (frC_sz (show szI r = (1, 0) by unfold szI; rw [if_neg h1, if_pos h3]) (by decide)) (by decide))
      generalize bAt r 0 = c0 at *
      go_enter Tryz.func105, Tryz.ntmps105
      go_wp2_with fail
      refine (l1In_calls _ _ _ _).mono ?_
      rintro e w1 ⟨rfl, rfl⟩
      rw [hin]
      go_wp2_with fail
      refine bodyPost_ret (v := .tuple #[.agg #[.int .i64 0, .string ⟨#[]⟩], .int .i64 0, .int .i64 1]) ?_ rfl ⟨by rw [unhide hv], ?_⟩
      · simp [results, Tryz.results105, go_sem]
      · exact ((Below.refl _ _).alloc (Nat.le_refl _) _).alloc (by simp) _
    · have hx : (r.extract 1 5).size = 4 := by simp; omega
      have hwd := wdI_word (r.extract 1 5)
      obtain ⟨N, hN⟩ := Int.eq_ofNat_of_zero_le hwd.1
      have hsz : szI r = if 20000 < wdI (r.extract 1 5) then (3, 0) else if r.size < 9 + (wdI (r.extract 1 5)).toNat then (1, 0) else (0, 9 + (wdI (r.extract 1 5)).toNat) := by unfold szI; rw [if_neg h1, if_neg h3]
      rw [hN, Int.toNat_natCast] at hsz
      rw [hN] at hwd
      have HN := hide hN
      have HSZ := hide hsz
      clear hN hsz
      have HC := hide (show (bAt r 0 : Int) = (bAt r 0 : Int) from rfl)
      obtain ⟨c0, hc0⟩ : ∃ c0, bAt r 0 = c0 := ⟨_, rfl⟩
      have HC0 := hide hc0
      rw [hc0] at e0 l0 k1 k2 hin
      clear hc0 h1 HC
      obtain ⟨wb, hwb⟩ : ∃ wb, (w.alloc (.cells #[.int .i64 0, .string ⟨#[]⟩] 95)).alloc (.cells #[.int .i64 0, .string ⟨#[]⟩] 95) = wb := ⟨_, rfl⟩
      have hbb : Below w.heap.size w wb := by rw [← hwb]; exact ((Below.refl _ _).alloc (Nat.le_refl _) _).alloc (by simp) _
      have hr2 : wb.heap[w.heap.size]? = some (.cells #[.int .i64 0, .string ⟨#[]⟩] 95 (0, 0)) := by rw [← hwb]; exact (h_old _ _ (by simp)).trans (h_new w _ rfl)
      have hr3 : wb.heap[w.heap.size + 1]? = some (.cells #[.int .i64 0, .string ⟨#[]⟩] 95 (0, 0)) := by rw [← hwb]; exact h_new _ _ (by simp)
      have g0 : wb.cell? ⟨w.heap.size, 0, none⟩ = some (.int .i64 0) := cell_of_row wb _ 0 _ _ _ hr2
      have g1 : wb.cell? ⟨w.heap.size, 1, none⟩ = some (.string ⟨#[]⟩) := cell_of_row wb _ 1 _ _ _ hr2
      have z0 : wb.frozen? ⟨w.heap.size, 0, none⟩ = false := frozen_of_row wb _ 0 _ _ hr2
      have z1 : wb.frozen? ⟨w.heap.size, 1, none⟩ = false := frozen_of_row wb _ 1 _ _ hr2
      have g2 : wb.cell? ⟨w.heap.size + 1, 0, none⟩ = some (.int .i64 0) := cell_of_row wb _ 0 _ _ _ hr3
      have g3 : wb.cell? ⟨w.heap.size + 1, 1, none⟩ = some (.string ⟨#[]⟩) := cell_of_row wb _ 1 _ _ _ hr3
      have HWB := hide hwb
      have HBB := hide hbb
      clear hwb hbb hr2 hr3
      go_enter Tryz.func105, Tryz.ntmps105
      go_wp2_with fail
      refine (l1In_calls _ _ _ _).mono ?_
      rintro e w1 ⟨rfl, rfl⟩
      rw [hin]
      go_wp2_with fail
      rw [unhide HWB]
      refine (word_calls2 _ _ hx).mono ?_
      rintro e w2 ⟨rfl, kk, rfl⟩
      rw [unhide HN]
      by_cases h4 : 20000 < N
      · have hsz := unhide HSZ
        rw [if_pos (by omega)] at hsz
        have hv := hide (spV_bad (frC_sz hsz (by decide)) (by decide))
        clear hsz HSZ HN
        go_wp2_with fail
        refine bodyPost_ret (v := .tuple #[.agg #[.int .i64 0, .string ⟨#[]⟩], .int .i64 0, .int .i64 3]) ?_ rfl ⟨by rw [unhide hv], ((below_drewN (unhide HBB) _).setCell (Nat.le_refl _) _).setCell (Nat.le_refl _) _⟩
        simp [results, Tryz.results105, go_sem, g0, g1]
      · have hsz := unhide HSZ
        rw [if_neg (by omega)] at hsz
        by_cases h5 : r.size < 9 + N
        · rw [if_pos h5] at hsz
          have hv := hide (spV_bad (frC_sz hsz (by decide)) (by decide))
          clear hsz HSZ HN
          go_wp2_with fail
          refine bodyPost_ret (v := .tuple #[.agg #[.int .i64 0, .string ⟨#[]⟩], .int .i64 0, .int .i64 1]) ?_ rfl ⟨by rw [unhide hv], ((below_drewN (unhide HBB) _).setCell (Nat.le_refl _) _).setCell (Nat.le_refl _) _⟩
          simp [results, Tryz.results105, go_sem, g0, g1]
        · rw [if_neg h5] at hsz
          obtain ⟨m, hm⟩ : ∃ m, N + 5 = m := ⟨_, rfl⟩
          have hm9 : 9 + N = m + 4 := by omega
          rw [hm9] at hsz h5
          have hmi : 9 + (N : Int) = (m : Int) + 4 := by omega
          have hfc : frC r = if crcI (r.extract 0 m) = wdI (r.extract m (m + 4)) then 0 else 4 := by unfold frC; rw [hsz, if_neg (by simp)]; simp
          have hfn : frN r = m + 4 := by unfold frN; rw [hsz]
          have hfb : frB r = r.extract 5 m := by unfold frB; rw [hfn, Nat.add_sub_cancel]
          have f2 : (r.extract 0 m).size = m := by simp; omega
          have f4 : (r.extract m (m + 4)).size = 4 := by simp; omega
          have i0 : (m : Int) + 4 ≤ (r.size : Int) := by omega
          have i1 : (5 : Int) ≤ (m : Int) := by omega
          have hm6 : m ≤ 20005 := by omega
          clear hsz HSZ HN hm9 hm
          obtain ⟨tl, htl⟩ : ∃ tl, r.extract m (m + 4) = tl := ⟨_, rfl⟩
          obtain ⟨bd, hbd⟩ : ∃ bd, r.extract 5 m = bd := ⟨_, rfl⟩
          obtain ⟨sl, hsl⟩ : ∃ sl, r.extract 0 m = sl := ⟨_, rfl⟩
          rw [hsl] at f2 hfc
          rw [htl] at f4 hfc
          rw [hbd] at hfb
          have HFB := hide hfb
          have HFC := hide hfc
          have HFN := hide hfn
          have hsl9 : sl.size ≤ 1000000000000 := by omega
          clear hfb hfc hfn
          go_wp2_with fail
          go_quiet ((first | (go_at_call 120; exact word_quiet2 _ _ _ _ f4) | (go_at_call 98; exact specCrc_quiet2 _ _ _ _ hsl9)))
          generalize crcI sl = x at HFC
          generalize wdI tl = y at HFC
          by_cases hxy : x = y
          · have hfc0 := unhide HFC
            rw [if_pos hxy] at hfc0
            have hfv : spV r = .tuple #[.agg #[.int .i64 (c0 : Int), .string bd], .int .i64 ((m + 4 : Nat) : Int), .int .i64 0] := by unfold spV; rw [if_pos hfc0, unhide HC0, unhide HFB, unhide HFN]
            have hv := hide hfv
            subst hxy
            clear hfc0 hfv HFC HFB HFN
            go_wp2_with fail
            go_region
            all_goals (try go_wp2_with fail)
            refine bodyPost_ret (v := .tuple #[.agg #[.int .i64 (c0 : Int), .string bd], .int .i64 ((m : Int) + 4), .int .i64 0]) ?_ rfl ⟨by rw [unhide hv]; rfl, ((below_drewN (unhide HBB) _).setCell (Nat.le_refl _) _).setCell (Nat.le_refl _) _⟩
            simp [results, Tryz.results105, go_sem, g0, g1]
          · have hfc4 := unhide HFC
            rw [if_neg hxy] at hfc4
            have hv := hide (spV_bad hfc4 (by decide))
            clear hfc4 HFC
            go_wp2_with fail
            refine bodyPost_ret (v := .tuple #[.agg #[.int .i64 0, .string ⟨#[]⟩], .int .i64 0, .int .i64 4]) ?_ rfl ⟨by rw [unhide hv], ((below_drewN (unhide HBB) _).setCell (Nat.le_refl _) _).setCell (Nat.le_refl _) _⟩
            simp [results, Tryz.results105, go_sem, g0, g1]
end Go.Proofs.YtakalfckhailjaaGreat

